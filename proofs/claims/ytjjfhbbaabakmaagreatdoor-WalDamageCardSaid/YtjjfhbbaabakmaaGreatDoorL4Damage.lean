/-
  WalDamage: for every list of records, every place and every burst of at most 32 bits the law answers true and the arguments read as they did: behind a burst in the bytes and the sum of one record of the last segment just the records ahead of it are there, each as it was.
  No condition but what the row lists: the tables that the program's text lays.
-/
import Derived.Test.YtjjfhbbaabakmaaGreatDoorWD02
import Derived.Test.YtjjfhbbaabakmaaGreatDoorWD19
import Derived.Test.YtjjfhbbaabakmaaGreatDoorTie
import Derived.Test.YtjjfhbbaabakmaaGreatDoorCards
import Derived.ProofKit
import Derived.LaidMore
import Derived.Lib.LaidTab
import Derived.Stop.LaidErr
import Derived.Stop.Joined
import Derived.SevenTiedAt
import Derived.Carry
namespace Go.Proofs.YtjjfhbbaabakmaaGreatDoor.L4Damage
set_option linter.unusedSimpArgs false
open Go Go.RowKit Go.ChangeShapes Go.WideShapes Go.ChangeAt Ck Kp
set_option linter.unusedVariables false

theorem own : ownKnob Tryz.prog.godebug = none := by kernel_rfl
theorem laidOut : laidOutB Tryz.prog = true := by kernel_rfl
theorem readable : (Tryz.f4.params.toList.all fun t => Tryz.prog.readableRec t && decide (t < Tryz.prog.types.size)) = true := by kernel_rfl
/-- What the row lists. -/
def laid : List (String × DataW Unit) := Rows.walDamageRow.laid
theorem tab_of {W : World} (h : laidMetH Tryz.prog laid W) : We.Tab W := by
  rw [MakeChecks.laidMetH_plain _ _ _ (by kernel_rfl)] at h
  exact Lib.tabIs_of_head (t := 182) (e := 126) (n := 20) We.tab_g (by kernel_rfl) (by kernel_rfl) (by kernel_rfl) (by kernel_rfl) (by kernel_rfl) (laidMet.tail (laidMet.tail h))
theorem door_met (os : Os) (args : Array Value) : laidMetH Tryz.prog laid ((World.doorLaid Tryz.prog 400 os).forCall (fun _ _ => 0) ⟨#[], args, []⟩).memory :=
  laidMetH_of_parts3 (fuel := 8) (laidMet_of_run' 8 (by kernel_rfl) (by kernel_rfl)) (by kernel_rfl) (by kernel_rfl)

theorem nat_of {k : IntKind} {m : Nat} {z : Int} (h1 : k.min = 0) (h2 : k.max = (m : Int) - 1) (h : (Lit.int k z).wf = true) : ∃ n : Nat, z = (n : Int) ∧ n < m := by
  simp only [Lit.wf, Bool.and_eq_true, decide_eq_true_eq] at h
  rw [h1, h2] at h
  exact ⟨z.toNat, by omega, by omega⟩
set_option maxRecDepth 100000 in
theorem contract (H : Type) (enc : TypeId × Value → H) (W : World) (base : Nat) (args : Array Value) (ds gs : List (DataW H)) (before : List MemPlace)
    (hval : ∀ (j : Nat) t v, Tryz.f4.params[j]? = some t → args[j]? = some v → Value.okWide Tryz.prog W .any base t v)
    (hW : DataW.Whole enc Tryz.prog Tryz.f4.params.toList Rows.walDamageSpec.vars false W args.toList ds gs before)
    (hz : (DataW.weightsEach Tryz.prog (Tryz.f4.params.toList ++ Rows.walDamageSpec.plain.varTypes Tryz.prog) (ds ++ gs)).all (· ≤ reachBytes) = true) (hL : laidMetH Tryz.prog laid W) :
    Calls Tryz.prog 4 args W fun e W' => ∃ v, e = .returned v ∧ Rows.walDamageSpec.post enc Tryz.prog Tryz.f4 false true false false W args v W' := by
  have hW' := hW
  obtain ⟨p, q, hA0, hV, rfl, hfz, hnd⟩ := hW
  have hA : DataW.TrodAll enc Tryz.prog W 0 (fun _ => true) true Tryz.f4.params.toList args.toList ds p := hA0
  rw [Tryz.params4] at hA hval hz
  obtain ⟨v0, v1, v2, v3, d0, d1, d2, d3, p0, p1, p2, p3, rfl, rfl, rfl, h0, h1, h2, h3⟩ := trodAll_four hA
  obtain ⟨rfl, rfl⟩ := trodVars_none hV
  obtain ⟨A0, n0, c0, rfl⟩ := okWide_slice Tryz.underlying47 (hval 0 47 v0 rfl rfl)
  obtain ⟨f0, hf0⟩ := h0
  obtain ⟨l, hl0, hr0⟩ := Um.open_listsW hf0
  have hn0 : n0 = l.length := by obtain ⟨vals, ⟨A', c', hv, hlen, _⟩, _⟩ := hl0; exact (Value.slice.inj hv).2.1
  subst hn0
  have hll := (hr0 _ (reach_of hz (j := 0) rfl rfl)).1
  obtain ⟨y1, rfl⟩ := okWide_int Tryz.underlying5 (hval 1 5 v1 rfl rfl)
  obtain ⟨f1, hf1⟩ := h1
  obtain ⟨z1, hz1, _, hw1⟩ := DataW.trod_int Tryz.underlying5 hf1
  obtain ⟨y2, rfl⟩ := okWide_int Tryz.underlying48 (hval 2 48 v2 rfl rfl)
  obtain ⟨f2, hf2⟩ := h2
  obtain ⟨z2, hz2, _, hw2⟩ := DataW.trod_int Tryz.underlying48 hf2
  obtain ⟨y3, rfl⟩ := okWide_int Tryz.underlying48 (hval 3 48 v3 rfl rfl)
  obtain ⟨f3, hf3⟩ := h3
  obtain ⟨z3, hz3, _, hw3⟩ := DataW.trod_int Tryz.underlying48 hf3
  obtain ⟨n1, rfl, hn1⟩ := nat_of (k := .u8) (m := 256) (by decide) (by decide) hw1
  obtain ⟨n2, rfl, hn2⟩ := nat_of (k := .u32) (m := 4294967296) (by decide) (by decide) hw2
  obtain ⟨n3, rfl, hn3⟩ := nat_of (k := .u32) (m := 4294967296) (by decide) (by decide) hw3
  obtain rfl : y1 = (n1 : Int) := by simpa [Value.cells] using hz1
  obtain rfl : y2 = (n2 : Int) := by simpa [Value.cells] using hz2
  obtain rfl : y3 = (n3 : Int) := by simpa [Value.cells] using hz3
  simp only [List.append_nil] at hW'
  refine (Ul.damage_any W (tab_of hL) A0 c0 l n1 n2 n3 hl0 (by omega) hn1 hn2 hn3).mono fun e W' ⟨he, hg⟩ => ⟨_, he, ?_⟩
  exact law_post laidOut readable rfl rfl Tryz.underlying4 hW' rfl rfl rfl hg

set_option maxRecDepth 100000 in
theorem lifted (os : Os) (started : os.Started) (H : Type) (enc : TypeId × Value → H) :
    ReturnsInHanded {} Tryz.checked os 4 .any (fun w args => (Rows.walDamageSpec.pre enc Tryz.prog Tryz.f4 [] false w args ∧ laidMetH Tryz.prog laid w) ∧ sizedMet enc Tryz.prog Tryz.f4 (OpenSpec.ofChange Rows.walDamageSpec) false w args)
      (Rows.walDamageSpec.post enc Tryz.prog Tryz.f4 false true false false) := by
  refine returnsInHanded_of_change_and (C := Tryz.checked) (X := fun w _ => laidMetH Tryz.prog laid w) (fun _ _ _ hh h => h.of_heap hh) own started (by kernel_rfl) Tryz.func4
    (ChangeSpec.witness_shaped (enc := enc) (C := Tryz.checked) (os := os) (X := fun w _ => laidMetH Tryz.prog laid w) false (World.doorLaid Tryz.prog 400 os) #[.slice none 0 0, .int .u8 0, .int .u32 0, .int .u32 0] 8 rfl (World.shaped_of_RefB (by kernel_rfl) (by kernel_rfl)) (by kernel_rfl) (by kernel_rfl) (by kernel_rfl) (door_met os _)) ?_
  intro W base args ds gs before hval hW _ hz hL _
  exact contract H enc W base args ds gs before hval hW hz hL

theorem row_holds : Rows.WalDamageSaid :=
  OpenClaim.holds_of_wide 4 Tryz.f4 rfl rfl rfl rfl rfl rfl rfl ⟨rfl, rfl, rfl, rfl, rfl⟩ rfl rfl rfl rfl rfl (by kernel_rfl) Tryz.func4 (by kernel_rfl)
    (of_decide_eq_true (by kernel_rfl)) (by unfold Func.isWrapper; first | (rw [if_pos (by decide +kernel)]; kernel_rfl) | (rw [if_neg (by decide +kernel)]; exact ⟨rfl, rfl⟩))
    (fun os started H enc _ => lifted os started H enc)

theorem proved : Rows.WalDamageCardSaid :=
  Claim7.holds_tied_plain_at .later [] [.data, .data, .data, .sentinel, .sentinel] true (true, "e6991c7a53f0a8e7e690480109ba725ba232046a42dbb2e38b6efba2209b1920") true
    row_holds (fun _ h => by cases h) (by kernel_rfl) (fun _ h => by cases h) walDamage_row_tie rfl ⟨rfl, rfl⟩ (by kernel_rfl) rfl
    (fun f fn hf hfn => by
      obtain rfl : f = 4 := Option.some.inj ((show Tryz.prog.funcNamed "bulla/bullalaw04.WalDamage" = some 4 by kernel_rfl).symm.trans hf) |>.symm
      obtain rfl : fn = Tryz.f4 := (Option.some.inj (Tryz.func4.symm.trans hfn)).symm
      exact ⟨by kernel_rfl, fun j t ht => by
        rw [Tryz.params4] at ht
        have hm : t ∈ [47, 5, 48, 48] := by simpa using Array.mem_of_getElem? ht
        have hall : ([47, 5, 48, 48].all fun u => !Tryz.prog.wantsStandIn u) = true := by kernel_rfl
        exact (show Tryz.prog.wantsStandIn t = false by simpa using List.all_eq_true.1 hall t hm)⟩)
    (by kernel_rfl)

end Go.Proofs.YtjjfhbbaabakmaaGreatDoor.L4Damage

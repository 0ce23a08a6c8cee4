/-
  MerkleSound: for every two lists of byte strings and every claim the law answers true and the arguments read as they did: under the digest of the leaves a leaf is taken at a place just if it is the one that stands there, whatever the proof.
  No condition: any arguments that can be read as data, of any size that the form's own reach allows.
-/
import Derived.Test.YtepdajhgfdjklaaOw
import Derived.Test.YtepdajhgfdjklaaOx
import Derived.Test.YtepdajhgfdjklaaNg
namespace Go.Proofs.Ytepdajhgfdjklaa.SoundL
open Go Go.RowKit Go.ChangeShapes Go.WideShapes Go.ChangeAt Ck Ct Ow Ox Me
set_option linter.unusedVariables false

theorem own : ownKnob Try.prog.godebug = none := by kernel_rfl
theorem laidOut : laidOutB Try.prog = true := by kernel_rfl
theorem readable : (Try.f7.params.toList.all fun t => Try.prog.readableRec t && decide (t < Try.prog.types.size)) = true := by kernel_rfl

theorem contract (H : Type) (enc : TypeId × Value → H) (W : World) (base : Nat) (args : Array Value) (ds gs : List (DataW H)) (before : List MemPlace)
    (hval : ∀ (j : Nat) t v, Try.f7.params[j]? = some t → args[j]? = some v → Value.okWide Try.prog W .any base t v)
    (hW : DataW.Whole enc Try.prog Try.f7.params.toList Rows.merkleSoundSpec.vars false W args.toList ds gs before)
    (hz : (DataW.weightsEach Try.prog (Try.f7.params.toList ++ Rows.merkleSoundSpec.plain.varTypes Try.prog) (ds ++ gs)).all (· ≤ reachBytes) = true) :
    Calls Try.prog 7 args W fun e W' => ∃ v, e = .returned v ∧ Rows.merkleSoundSpec.post enc Try.prog Try.f7 false true false false W args v W' := by
  have hW' := hW
  obtain ⟨p, q, hA0, hV, rfl, hfz, hnd⟩ := hW
  have hA : DataW.TrodAll enc Try.prog W 0 (fun _ => true) true Try.f7.params.toList args.toList ds p := hA0
  rw [Try.params7] at hA hval hz
  obtain ⟨v0, v1, v2, d0, d1, d2, p0, p1, p2, rfl, rfl, rfl, h0, h1, h2⟩ := trodAll_three hA
  obtain ⟨rfl, rfl⟩ := trodVars_none hV
  obtain ⟨A0, n0, c0, rfl⟩ := okWide_slice Try.underlying22 (hval 0 22 v0 rfl rfl)
  obtain ⟨f0, hf0⟩ := h0
  obtain ⟨ls, hb0, hl0⟩ := open_listsW hf0
  have hr0 := hl0 _ (reach_of hz (j := 0) rfl rfl)
  have hn0 : n0 = ls.length := by obtain ⟨vals, ⟨A, c, hv, _⟩, _⟩ := hb0; injection hv
  subst hn0
  obtain ⟨A1, n1, c1, rfl⟩ := okWide_slice Try.underlying22 (hval 1 22 v1 rfl rfl)
  obtain ⟨f1, hf1⟩ := h1
  obtain ⟨ks, hb1, hl1⟩ := open_listsW hf1
  have hr1 := hl1 _ (reach_of hz (j := 1) rfl rfl)
  have hn1 : n1 = ks.length := by obtain ⟨vals, ⟨A, c, hv, _⟩, _⟩ := hb1; injection hv
  subst hn1
  obtain ⟨cs2, rfl, _⟩ := okWide_struct Try.underlying52 (hval 2 52 v2 rfl rfl)
  obtain ⟨f2, hf2⟩ := h2
  obtain ⟨b, LA, lc, i, n, ds, PA, pc, r, t, hcc, hbb, hdd, hd63, hn63, hR0⟩ := open_claim hf2
  have hR := hR0 _ (reach_of hz (j := 2) rfl rfl)
  have hvv : Value.agg cs2 = .agg #[.slice LA b.length lc, .int .i64 i, .int .i64 n, .slice PA ds.length pc, .int .i64 r, .bool t] := by
    obtain ⟨cl⟩ := cs2
    have : cl = [.slice LA b.length lc, .int .i64 i, .int .i64 n, .slice PA ds.length pc, .int .i64 r, .bool t] := by simpa [Value.cells] using hcc
    rw [this]
  rw [hvv] at hW' ⊢
  simp only [List.append_nil] at hW'
  refine (Ng.sound_any W A0 c0 ls A1 c1 ks LA PA lc pc b ds i n r t hb0 hb1 (by omega) (by omega) hr0.2 hr1.2 hbb hR.1 hdd (by omega) hd63).mono fun e W' ⟨he, hg⟩ => ⟨_, he, ?_⟩
  exact law_post laidOut readable rfl rfl Try.underlying4 hW' rfl rfl rfl hg

set_option maxRecDepth 100000 in
theorem lifted (os : Os) (started : os.Started) (H : Type) (enc : TypeId × Value → H) :
    ReturnsInHanded {} Try.checked os 7 .any (Rows.merkleSoundSpec.pre6 enc Try.prog Try.f7 Rows.merkleSoundRow.domain false) (Rows.merkleSoundSpec.post enc Try.prog Try.f7 false true false false) := by
  refine returnsInHanded_of_change_sized (C := Try.checked) own started (by kernel_rfl) Try.func7
    (ChangeSpec.witness6 (enc := enc) (C := Try.checked) false ⟨#[], #[.slice none 0 0, .slice none 0 0, .agg #[.slice none 0 0, .int .i64 0, .int .i64 0, .slice none 0 0, .int .i64 0, .bool false]], []⟩ 8 (by kernel_rfl) (by kernel_rfl) (by kernel_rfl) (by kernel_rfl)) ?_
  intro W base args ds gs before hval hW _ hz _
  exact contract H enc W base args ds gs before hval hW hz

theorem proved : Rows.MerkleSoundSaid :=
  OpenClaim.holds_of_wide 7 Try.f7 rfl rfl rfl rfl rfl rfl rfl ⟨rfl, rfl, rfl, rfl, rfl⟩ rfl rfl rfl rfl rfl (by kernel_rfl) Try.func7 (by kernel_rfl)
    (of_decide_eq_true (by kernel_rfl)) (by unfold Func.isWrapper; first | (rw [if_pos (by decide +kernel)]; kernel_rfl) | (rw [if_neg (by decide +kernel)]; exact ⟨rfl, rfl⟩))
    (fun os started H enc _ => lifted os started H enc)

end Go.Proofs.Ytepdajhgfdjklaa.SoundL

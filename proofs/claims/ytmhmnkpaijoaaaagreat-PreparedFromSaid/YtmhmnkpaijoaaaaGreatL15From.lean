/-
  PreparedFrom: for every list of certificates and every two certificates the law answers true and the arguments read as they did: which lists are kept as they are; whether any two are the same.
-/
import Derived.ChangeMaps5
import Derived.Carry
import Derived.Test.YtmhmnkpaijoaaaaGreatEF02
namespace Go.Proofs.YtmhmnkpaijoaaaaGreat.P15FromL
set_option linter.unusedSimpArgs false
open Go Go.RowKit Go.ChangeShapes Go.WideShapes Go.ChangeAt Go.Deep Ck Kp Pm Pe Py Lk Jm Ja Jb Jo Pra Prb Pre Prr Psx Pta Ptd Pte Ptz
set_option linter.unusedVariables false

theorem own : ownKnob Tryz.prog.godebug = none := by kernel_rfl
theorem laidOut : laidOutB Tryz.prog = true := by kernel_rfl
theorem readable : (Tryz.f5.params.toList.all fun t => Tryz.prog.readableRec t && decide (t < Tryz.prog.types.size)) = true := by kernel_rfl

set_option maxRecDepth 100000 in
theorem contract (H : Type) (enc : TypeId × Value → H) (W : World) (base : Nat) (args : Array Value) (ds gs : List (DataW H)) (before : List MemPlace)
    (hval : ∀ (j : Nat) t v, Tryz.f5.params[j]? = some t → args[j]? = some v → Value.okWide Tryz.prog W .any base t v)
    (hW : DataW.Whole enc Tryz.prog Tryz.f5.params.toList Rows.preparedFromSpec.vars false W args.toList ds gs before)
    (hz : (DataW.weightsEach Tryz.prog (Tryz.f5.params.toList ++ Rows.preparedFromSpec.plain.varTypes Tryz.prog) (ds ++ gs)).all (· ≤ reachBytes) = true) :
    Calls Tryz.prog 5 args W fun e W' => ∃ v, e = .returned v ∧ Rows.preparedFromSpec.post enc Tryz.prog Tryz.f5 false true false false W args v W' := by
  have hW' := hW
  obtain ⟨p, q, hA0, hV, rfl, hfz, hnd⟩ := hW
  have hA : DataW.TrodAll enc Tryz.prog W 0 (fun _ => true) true Tryz.f5.params.toList args.toList ds p := hA0
  rw [Tryz.params5] at hA hval hz
  obtain ⟨v0, v1, v2, d0, d1, d2, p0, p1, p2, rfl, rfl, rfl, h0, h1, h2⟩ := trodAll_three hA
  obtain ⟨rfl, rfl⟩ := trodVars_none hV
  obtain ⟨A0, n0, c0, rfl⟩ := okWide_slice Tryz.underlying30 (hval 0 30 v0 rfl rfl)
  obtain ⟨f0, hf0⟩ := h0
  obtain ⟨l, hI0, hl0, hok0⟩ := Ptm.open_preps hf0 (reach_of hz (j := 0) rfl rfl)
  obtain ⟨cs1, rfl, _⟩ := okWide_struct Tryz.underlying41 (hval 1 41 v1 rfl rfl)
  obtain ⟨f1, hf1⟩ := h1
  obtain ⟨⟨a, r1⟩, hc1, hI1, hok1, hwf1⟩ := Ptm.open_prep hf1 (reach_of hz (j := 1) rfl rfl)
  have hv1 : Value.agg cs1 = .agg (PC a r1) := by
    obtain ⟨cl⟩ := cs1
    have : cl = (PC a r1).toList := by simpa [Value.cells] using hc1
    rw [this]
  rw [hv1] at hW' ⊢
  obtain ⟨cs2, rfl, _⟩ := okWide_struct Tryz.underlying41 (hval 2 41 v2 rfl rfl)
  obtain ⟨f2, hf2⟩ := h2
  obtain ⟨⟨b, r2⟩, hc2, hI2, hok2, hwf2⟩ := Ptm.open_prep hf2 (reach_of hz (j := 2) rfl rfl)
  have hv2 : Value.agg cs2 = .agg (PC b r2) := by
    obtain ⟨cl⟩ := cs2
    have : cl = (PC b r2).toList := by simpa [Value.cells] using hc2
    rw [this]
  rw [hv2] at hW' ⊢
  simp only [List.append_nil] at hW'
  refine (Ptd.from_law HL HH HD HSM W l _ a b r1 r2 (hI0.weaken (fun k _ h => h.elim)) (hI1.weaken (fun k _ h => h.elim)) (hI2.weaken (fun k _ h => h.elim)) (hokl l (by omega) (fun p hp => (hok0 p hp).1)) (fun p hp => (hok0 p hp).1.1) hok1.1 hok2.1 (by omega)).mono fun e W' ⟨he, hg⟩ => ⟨_, he, ?_⟩
  exact law_post laidOut readable rfl rfl Tryz.underlying4 hW' rfl rfl rfl hg

set_option maxRecDepth 100000 in
theorem lifted (os : Os) (started : os.Started) (H : Type) (enc : TypeId × Value → H) :
    ReturnsInHanded {} Tryz.checked os 5 .any (Rows.preparedFromSpec.pre6 enc Tryz.prog Tryz.f5 Rows.preparedFromRow.domain false) (Rows.preparedFromSpec.post enc Tryz.prog Tryz.f5 false true false false) := by
  refine returnsInHanded_of_change_sized (C := Tryz.checked) own started (by kernel_rfl) Tryz.func5
    (ChangeSpec.witness6 (enc := enc) (C := Tryz.checked) false ⟨#[], #[.slice none 0 0, .agg #[.int .i64 0, .int .i64 0, .int .i64 0, .int .i64 0, .int .i64 0, .slice none 0 0, .slice none 0 0], .agg #[.int .i64 0, .int .i64 0, .int .i64 0, .int .i64 0, .int .i64 0, .slice none 0 0, .slice none 0 0]], []⟩ 8 (by kernel_rfl) (by kernel_rfl) (by kernel_rfl) (by kernel_rfl)) ?_
  intro W base args ds gs before hval hW _ hz _
  exact contract H enc W base args ds gs before hval hW hz

theorem proved : Rows.PreparedFromSaid :=
  OpenClaim.holds_of_wide 5 Tryz.f5 rfl rfl rfl rfl rfl rfl rfl ⟨rfl, rfl, rfl, rfl, rfl⟩ rfl rfl rfl rfl rfl (by kernel_rfl) Tryz.func5 (by kernel_rfl)
    (of_decide_eq_true (by kernel_rfl)) (by unfold Func.isWrapper; first | (rw [if_pos (by decide +kernel)]; kernel_rfl) | (rw [if_neg (by decide +kernel)]; exact ⟨rfl, rfl⟩))
    (fun os started H enc _ => lifted os started H enc)

end Go.Proofs.YtmhmnkpaijoaaaaGreat.P15FromL


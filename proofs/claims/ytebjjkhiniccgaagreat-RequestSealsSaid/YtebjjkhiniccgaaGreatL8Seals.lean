/-
  RequestSeals: for every list of requests, signed request and batch the law answers true and the arguments read as they did: what Seal, Valid, ValidBatch and Digest answer is what the document says.
  No condition: any arguments that can be read as data, of any size that the form's own reach allows.
-/
import Derived.Test.YtebjjkhiniccgaaGreatZ08
import Derived.Test.YtebjjkhiniccgaaGreatZ17
import Derived.ChangeMaps5
import Derived.Carry
namespace Go.Proofs.YtebjjkhiniccgaaGreat.RSealsL
set_option linter.unusedSimpArgs false
open Go Go.RowKit Go.ChangeShapes Go.WideShapes Go.ChangeAt Go.Deep Ck Kp Pm Pe Py Lk Jm Ja Jb Jo Jl
set_option linter.unusedVariables false

theorem own : ownKnob Tryz.prog.godebug = none := by kernel_rfl
theorem laidOut : laidOutB Tryz.prog = true := by kernel_rfl
theorem readable : (Tryz.f4.params.toList.all fun t => Tryz.prog.readableRec t && decide (t < Tryz.prog.types.size)) = true := by kernel_rfl

set_option maxRecDepth 100000 in
theorem contract (H : Type) (enc : TypeId × Value → H) (W : World) (base : Nat) (args : Array Value) (ds gs : List (DataW H)) (before : List MemPlace)
    (hval : ∀ (j : Nat) t v, Tryz.f4.params[j]? = some t → args[j]? = some v → Value.okWide Tryz.prog W .any base t v)
    (hW : DataW.Whole enc Tryz.prog Tryz.f4.params.toList Rows.requestSealsSpec.vars false W args.toList ds gs before)
    (hz : (DataW.weightsEach Tryz.prog (Tryz.f4.params.toList ++ Rows.requestSealsSpec.plain.varTypes Tryz.prog) (ds ++ gs)).all (· ≤ reachBytes) = true) :
    Calls Tryz.prog 4 args W fun e W' => ∃ v, e = .returned v ∧ Rows.requestSealsSpec.post enc Tryz.prog Tryz.f4 false true false false W args v W' := by
  have hW' := hW
  obtain ⟨p, q, hA0, hV, rfl, hfz, hnd⟩ := hW
  have hA : DataW.TrodAll enc Tryz.prog W 0 (fun _ => true) true Tryz.f4.params.toList args.toList ds p := hA0
  rw [Tryz.params4] at hA hval hz
  obtain ⟨v0, v1, v2, d0, d1, d2, p0, p1, p2, rfl, rfl, rfl, h0, h1, h2⟩ := trodAll_three hA
  obtain ⟨rfl, rfl⟩ := trodVars_none hV
  obtain ⟨A0, n0, c0, rfl⟩ := okWide_slice Tryz.underlying51 (hval 0 51 v0 rfl rfl)
  obtain ⟨f0, hf0⟩ := h0
  obtain ⟨qs, hI0, hl0, hfar0⟩ := open_qs hf0 (reach_of hz (j := 0) rfl rfl)
  obtain ⟨cs1, rfl, _⟩ := okWide_struct Tryz.underlying53 (hval 1 53 v1 rfl rfl)
  obtain ⟨f1, hf1⟩ := h1
  obtain ⟨s, A1, c1, hc1, hI1, hw1, hwq1, hfar1⟩ := open_sd hf1
  have hr1 := hfar1 _ (reach_of hz (j := 1) rfl rfl)
  have hv1 : Value.agg cs1 = DV s A1 c1 := by
    obtain ⟨cl⟩ := cs1
    have : cl = (DC s A1 c1).toList := by simpa [Value.cells] using hc1
    rw [this]
    rfl
  rw [hv1] at hW' ⊢
  obtain ⟨A2, n2, c2, rfl⟩ := okWide_slice Tryz.underlying39 (hval 2 39 v2 rfl rfl)
  obtain ⟨f2, hf2⟩ := h2
  obtain ⟨b, hI2, hl2, hfar2⟩ := open_batch hf2 (reach_of hz (j := 2) rfl rfl)
  simp only [List.append_nil] at hW'
  refine (Kk.reqseals_any W qs s A1 c1 b _ _ hI0 (fun y hy => (hfar0 y hy)) hl0 hI1 hr1 hw1 hI2 (fun y hy => hfar2 y hy) (by omega)).mono fun e W' ⟨he, hg⟩ => ⟨_, he, ?_⟩
  exact law_post laidOut readable rfl rfl Tryz.underlying4 hW' rfl rfl rfl hg

set_option maxRecDepth 100000 in
theorem lifted (os : Os) (started : os.Started) (H : Type) (enc : TypeId × Value → H) :
    ReturnsInHanded {} Tryz.checked os 4 .any (Rows.requestSealsSpec.pre6 enc Tryz.prog Tryz.f4 Rows.requestSealsRow.domain false) (Rows.requestSealsSpec.post enc Tryz.prog Tryz.f4 false true false false) := by
  refine returnsInHanded_of_change_sized (C := Tryz.checked) own started (by kernel_rfl) Tryz.func4
    (ChangeSpec.witness6 (enc := enc) (C := Tryz.checked) false ⟨#[], #[.slice none 0 0, .agg #[.int .i64 0, .int .i64 0, .int .i64 0, .string ⟨#[]⟩, .string ⟨#[]⟩, .int .i64 0, .slice none 0 0, .int .i64 0, .int .i64 0], .slice none 0 0], []⟩ 8 (by kernel_rfl) (by kernel_rfl) (by kernel_rfl) (by kernel_rfl)) ?_
  intro W base args ds gs before hval hW _ hz _
  exact contract H enc W base args ds gs before hval hW hz

theorem proved : Rows.RequestSealsSaid :=
  OpenClaim.holds_of_wide 4 Tryz.f4 rfl rfl rfl rfl rfl rfl rfl ⟨rfl, rfl, rfl, rfl, rfl⟩ rfl rfl rfl rfl rfl (by kernel_rfl) Tryz.func4 (by kernel_rfl)
    (of_decide_eq_true (by kernel_rfl)) (by unfold Func.isWrapper; first | (rw [if_pos (by decide +kernel)]; kernel_rfl) | (rw [if_neg (by decide +kernel)]; exact ⟨rfl, rfl⟩))
    (fun os started H enc _ => lifted os started H enc)

end Go.Proofs.YtebjjkhiniccgaaGreat.RSealsL

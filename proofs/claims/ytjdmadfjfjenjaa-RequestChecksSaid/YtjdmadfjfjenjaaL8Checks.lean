/-
  RequestChecks: for every request, signature and two batches the law answers true and the arguments read as they did: which requests, signatures and batches may be, and which batches are the same, is as the document says; a clone is the same, and its own.
  No condition: any arguments that can be read as data, of any size that the form's own reach allows.
-/
import Derived.Test.YtjdmadfjfjenjaaJo
import Derived.Test.YtjdmadfjfjenjaaJv
import Derived.ChangeMaps5
import Derived.Carry
namespace Go.Proofs.Ytjdmadfjfjenjaa.RChecksL
set_option linter.unusedSimpArgs false
open Go Go.RowKit Go.ChangeShapes Go.WideShapes Go.ChangeAt Go.Deep Ck Kp Pm Pe Py Lk Jm Ja Jb Jo
set_option linter.unusedVariables false

theorem own : ownKnob Try.prog.godebug = none := by kernel_rfl
theorem laidOut : laidOutB Try.prog = true := by kernel_rfl
theorem readable : (Try.f3.params.toList.all fun t => Try.prog.readableRec t && decide (t < Try.prog.types.size)) = true := by kernel_rfl

set_option maxRecDepth 100000 in
theorem contract (H : Type) (enc : TypeId × Value → H) (W : World) (base : Nat) (args : Array Value) (ds gs : List (DataW H)) (before : List MemPlace)
    (hval : ∀ (j : Nat) t v, Try.f3.params[j]? = some t → args[j]? = some v → Value.okWide Try.prog W .any base t v)
    (hW : DataW.Whole enc Try.prog Try.f3.params.toList Rows.requestChecksSpec.vars false W args.toList ds gs before)
    (hz : (DataW.weightsEach Try.prog (Try.f3.params.toList ++ Rows.requestChecksSpec.plain.varTypes Try.prog) (ds ++ gs)).all (· ≤ reachBytes) = true) :
    Calls Try.prog 3 args W fun e W' => ∃ v, e = .returned v ∧ Rows.requestChecksSpec.post enc Try.prog Try.f3 false true false false W args v W' := by
  have hW' := hW
  obtain ⟨p, q, hA0, hV, rfl, hfz, hnd⟩ := hW
  have hA : DataW.TrodAll enc Try.prog W 0 (fun _ => true) true Try.f3.params.toList args.toList ds p := hA0
  rw [Try.params3] at hA hval hz
  obtain ⟨v0, v1, v2, v3, d0, d1, d2, d3, p0, p1, p2, p3, rfl, rfl, rfl, h0, h1, h2, h3⟩ := trodAll_four hA
  obtain ⟨rfl, rfl⟩ := trodVars_none hV
  obtain ⟨cs0, rfl, _⟩ := okWide_struct Try.underlying26 (hval 0 26 v0 rfl rfl)
  obtain ⟨f0, hf0⟩ := h0
  obtain ⟨x, A0, c0, hc0, hI0, hw0, hfar0⟩ := open_q hf0
  have hr0 := hfar0 _ (reach_of hz (j := 0) rfl rfl)
  have hv0 : Value.agg cs0 = QV x A0 c0 := by
    obtain ⟨cl⟩ := cs0
    have : cl = (QC x A0 c0).toList := by simpa [Value.cells] using hc0
    rw [this]
    rfl
  rw [hv0] at hW' ⊢
  obtain ⟨cs1, rfl, _⟩ := okWide_struct Try.underlying29 (hval 1 29 v1 rfl rfl)
  obtain ⟨f1, hf1⟩ := h1
  obtain ⟨s, hc1, hw1⟩ := open_sg hf1
  have hv1 : Value.agg cs1 = GV s := by
    obtain ⟨cl⟩ := cs1
    have : cl = [.int .i64 s.1, .int .i64 s.2] := by simpa [Value.cells] using hc1
    rw [this]
    rfl
  rw [hv1] at hW' ⊢
  obtain ⟨A2, n2, c2, rfl⟩ := okWide_slice Try.underlying31 (hval 2 31 v2 rfl rfl)
  obtain ⟨f2, hf2⟩ := h2
  obtain ⟨a, hI2, hl2, hfar2⟩ := open_batch hf2 (reach_of hz (j := 2) rfl rfl)
  obtain ⟨A3, n3, c3, rfl⟩ := okWide_slice Try.underlying31 (hval 3 31 v3 rfl rfl)
  obtain ⟨f3, hf3⟩ := h3
  obtain ⟨b, hI3, hl3, hfar3⟩ := open_batch hf3 (reach_of hz (j := 3) rfl rfl)
  simp only [List.append_nil] at hW'
  refine (Jv.reqchecks_any W x A0 c0 s a b _ _ hI0 hr0 hI2 hI3 (fun y hy => (hfar2 y hy).1) (fun y hy => (hfar3 y hy).1) (by omega) (by omega)).mono fun e W' ⟨he, hg⟩ => ⟨_, he, ?_⟩
  exact law_post laidOut readable rfl rfl Try.underlying4 hW' rfl rfl rfl hg

set_option maxRecDepth 100000 in
theorem lifted (os : Os) (started : os.Started) (H : Type) (enc : TypeId × Value → H) :
    ReturnsInHanded {} Try.checked os 3 .any (Rows.requestChecksSpec.pre6 enc Try.prog Try.f3 Rows.requestChecksRow.domain false) (Rows.requestChecksSpec.post enc Try.prog Try.f3 false true false false) := by
  refine returnsInHanded_of_change_sized (C := Try.checked) own started (by kernel_rfl) Try.func3
    (ChangeSpec.witness6 (enc := enc) (C := Try.checked) false ⟨#[], #[.agg #[.int .i64 0, .int .i64 0, .int .i64 0, .string ⟨#[]⟩, .string ⟨#[]⟩, .int .i64 0, .slice none 0 0], .agg #[.int .i64 0, .int .i64 0], .slice none 0 0, .slice none 0 0], []⟩ 8 (by kernel_rfl) (by kernel_rfl) (by kernel_rfl) (by kernel_rfl)) ?_
  intro W base args ds gs before hval hW _ hz _
  exact contract H enc W base args ds gs before hval hW hz

theorem proved : Rows.RequestChecksSaid :=
  OpenClaim.holds_of_wide 3 Try.f3 rfl rfl rfl rfl rfl rfl rfl ⟨rfl, rfl, rfl, rfl, rfl⟩ rfl rfl rfl rfl rfl (by kernel_rfl) Try.func3 (by kernel_rfl)
    (of_decide_eq_true (by kernel_rfl)) (by unfold Func.isWrapper; first | (rw [if_pos (by decide +kernel)]; kernel_rfl) | (rw [if_neg (by decide +kernel)]; exact ⟨rfl, rfl⟩))
    (fun os started H enc _ => lifted os started H enc)

end Go.Proofs.Ytjdmadfjfjenjaa.RChecksL

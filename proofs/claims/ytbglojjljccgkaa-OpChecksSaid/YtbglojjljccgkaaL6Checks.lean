/-
  OpChecks: for every two operations the law answers true and the arguments read as they did: which operations may be, and which are the same, is as the document says; a clone is the same, and its own.
  No condition: any arguments that can be read as data, of any size that the form's own reach allows.
-/
import Derived.Test.YtbglojjljccgkaaPy
import Derived.Test.YtbglojjljccgkaaQh
import Derived.ChangeMaps5
namespace Go.Proofs.Ytbglojjljccgkaa.ChecksL
open Go Go.RowKit Go.ChangeShapes Go.WideShapes Go.ChangeAt Ck Kp Pm Pe Py
set_option linter.unusedVariables false

theorem own : ownKnob Try.prog.godebug = none := by kernel_rfl
theorem laidOut : laidOutB Try.prog = true := by kernel_rfl
theorem readable : (Try.f4.params.toList.all fun t => Try.prog.readableRec t && decide (t < Try.prog.types.size)) = true := by kernel_rfl

theorem contract (H : Type) (enc : TypeId × Value → H) (W : World) (base : Nat) (args : Array Value) (ds gs : List (DataW H)) (before : List MemPlace)
    (hval : ∀ (j : Nat) t v, Try.f4.params[j]? = some t → args[j]? = some v → Value.okWide Try.prog W .any base t v)
    (hW : DataW.Whole enc Try.prog Try.f4.params.toList Rows.opChecksSpec.vars false W args.toList ds gs before)
    (hz : (DataW.weightsEach Try.prog (Try.f4.params.toList ++ Rows.opChecksSpec.plain.varTypes Try.prog) (ds ++ gs)).all (· ≤ reachBytes) = true) :
    Calls Try.prog 4 args W fun e W' => ∃ v, e = .returned v ∧ Rows.opChecksSpec.post enc Try.prog Try.f4 false true false false W args v W' := by
  have hW' := hW
  obtain ⟨p, q, hA0, hV, rfl, hfz, hnd⟩ := hW
  have hA : DataW.TrodAll enc Try.prog W 0 (fun _ => true) true Try.f4.params.toList args.toList ds p := hA0
  rw [Try.params4] at hA hval hz
  obtain ⟨v0, v1, d0, d1, p0, p1, rfl, rfl, rfl, h0, h1⟩ := trodAll_two hA
  obtain ⟨rfl, rfl⟩ := trodVars_none hV
  obtain ⟨cs0, rfl, _⟩ := okWide_struct Try.underlying27 (hval 0 27 v0 rfl rfl)
  obtain ⟨f0, hf0⟩ := h0
  obtain ⟨a, A0, c0, hc0, hls0, hw0, hfar0⟩ := open_op hf0
  have hr0 := hfar0 _ (reach_of hz (j := 0) rfl rfl)
  have hv0 : Value.agg cs0 = OV a A0 c0 := by
    obtain ⟨cl⟩ := cs0
    have : cl = [.int .i64 a.kind, .string ⟨a.topic.toArray⟩, .string ⟨a.group.toArray⟩, .int .i64 a.off, .slice A0 a.recs.length c0] := by simpa [Value.cells] using hc0
    rw [this]
    rfl
  rw [hv0] at hW' ⊢
  have hI0 : OI W (fun k => W.heap.size ≤ k) (OV a A0 c0) a := ⟨A0, c0, rfl, hls0⟩
  obtain ⟨cs1, rfl, _⟩ := okWide_struct Try.underlying27 (hval 1 27 v1 rfl rfl)
  obtain ⟨f1, hf1⟩ := h1
  obtain ⟨b, A1, c1, hc1, hls1, hw1, hfar1⟩ := open_op hf1
  have hr1 := hfar1 _ (reach_of hz (j := 1) rfl rfl)
  have hv1 : Value.agg cs1 = OV b A1 c1 := by
    obtain ⟨cl⟩ := cs1
    have : cl = [.int .i64 b.kind, .string ⟨b.topic.toArray⟩, .string ⟨b.group.toArray⟩, .int .i64 b.off, .slice A1 b.recs.length c1] := by simpa [Value.cells] using hc1
    rw [this]
    rfl
  rw [hv1] at hW' ⊢
  have hI1 : OI W (fun k => W.heap.size ≤ k) (OV b A1 c1) b := ⟨A1, c1, rfl, hls1⟩
  simp only [List.append_nil] at hW'
  refine (Qh.opchecks_any W a b _ _ hI0 hI1 hr0 hr1).mono fun e W' ⟨he, hg⟩ => ⟨_, he, ?_⟩
  exact law_post laidOut readable rfl rfl Try.underlying4 hW' rfl rfl rfl hg

set_option maxRecDepth 100000 in
theorem lifted (os : Os) (started : os.Started) (H : Type) (enc : TypeId × Value → H) :
    ReturnsInHanded {} Try.checked os 4 .any (Rows.opChecksSpec.pre6 enc Try.prog Try.f4 Rows.opChecksRow.domain false) (Rows.opChecksSpec.post enc Try.prog Try.f4 false true false false) := by
  refine returnsInHanded_of_change_sized (C := Try.checked) own started (by kernel_rfl) Try.func4
    (ChangeSpec.witness6 (enc := enc) (C := Try.checked) false ⟨#[], #[.agg #[.int .i64 0, .string ⟨#[]⟩, .string ⟨#[]⟩, .int .i64 0, .slice none 0 0], .agg #[.int .i64 0, .string ⟨#[]⟩, .string ⟨#[]⟩, .int .i64 0, .slice none 0 0]], []⟩ 8 (by kernel_rfl) (by kernel_rfl) (by kernel_rfl) (by kernel_rfl)) ?_
  intro W base args ds gs before hval hW _ hz _
  exact contract H enc W base args ds gs before hval hW hz

theorem proved : Rows.OpChecksSaid :=
  OpenClaim.holds_of_wide 4 Try.f4 rfl rfl rfl rfl rfl rfl rfl ⟨rfl, rfl, rfl, rfl, rfl⟩ rfl rfl rfl rfl rfl (by kernel_rfl) Try.func4 (by kernel_rfl)
    (of_decide_eq_true (by kernel_rfl)) (by unfold Func.isWrapper; first | (rw [if_pos (by decide +kernel)]; kernel_rfl) | (rw [if_neg (by decide +kernel)]; exact ⟨rfl, rfl⟩))
    (fun os started H enc _ => lifted os started H enc)

end Go.Proofs.Ytbglojjljccgkaa.ChecksL

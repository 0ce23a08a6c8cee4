/-
  OpBytes: for every byte string, operation and result the law answers true and the arguments read as they did: an operation's bytes, and a result's, behind any others, are those of the document.
  No condition: any arguments that can be read as data, of any size that the form's own reach allows.
-/
import Derived.Test.YtbglojjljccgkaaPy
import Derived.Test.YtbglojjljccgkaaQa
import Derived.ChangeMaps5
namespace Go.Proofs.Ytbglojjljccgkaa.BytesL
open Go Go.RowKit Go.ChangeShapes Go.WideShapes Go.ChangeAt Ck Kp Pm Pe Py
set_option linter.unusedVariables false

theorem own : ownKnob Try.prog.godebug = none := by kernel_rfl
theorem laidOut : laidOutB Try.prog = true := by kernel_rfl
theorem readable : (Try.f5.params.toList.all fun t => Try.prog.readableRec t && decide (t < Try.prog.types.size)) = true := by kernel_rfl

theorem contract (H : Type) (enc : TypeId × Value → H) (W : World) (base : Nat) (args : Array Value) (ds gs : List (DataW H)) (before : List MemPlace)
    (hval : ∀ (j : Nat) t v, Try.f5.params[j]? = some t → args[j]? = some v → Value.okWide Try.prog W .any base t v)
    (hW : DataW.Whole enc Try.prog Try.f5.params.toList Rows.opBytesSpec.vars false W args.toList ds gs before)
    (hz : (DataW.weightsEach Try.prog (Try.f5.params.toList ++ Rows.opBytesSpec.plain.varTypes Try.prog) (ds ++ gs)).all (· ≤ reachBytes) = true) :
    Calls Try.prog 5 args W fun e W' => ∃ v, e = .returned v ∧ Rows.opBytesSpec.post enc Try.prog Try.f5 false true false false W args v W' := by
  have hW' := hW
  obtain ⟨p, q, hA0, hV, rfl, hfz, hnd⟩ := hW
  have hA : DataW.TrodAll enc Try.prog W 0 (fun _ => true) true Try.f5.params.toList args.toList ds p := hA0
  rw [Try.params5] at hA hval hz
  obtain ⟨v0, v1, v2, d0, d1, d2, p0, p1, p2, rfl, rfl, rfl, h0, h1, h2⟩ := trodAll_three hA
  obtain ⟨rfl, rfl⟩ := trodVars_none hV
  obtain ⟨A0, n0, c0, rfl⟩ := okWide_slice Try.underlying32 (hval 0 32 v0 rfl rfl)
  obtain ⟨f0, hf0⟩ := h0
  obtain ⟨b, hb0, hl0⟩ := open_bytesW hf0
  have hr0 := hl0 _ (reach_of hz (j := 0) rfl rfl)
  have hn0 : n0 = b.length := by obtain ⟨A, c, hv, _⟩ := hb0; obtain ⟨_, h, _⟩ := Value.slice.inj hv; exact h
  subst hn0
  obtain ⟨cs1, rfl, _⟩ := okWide_struct Try.underlying27 (hval 1 27 v1 rfl rfl)
  obtain ⟨f1, hf1⟩ := h1
  obtain ⟨o, A1, c1, hc1, hls1, hw1, hfar1⟩ := open_op hf1
  have hr1 := hfar1 _ (reach_of hz (j := 1) rfl rfl)
  have hv1 : Value.agg cs1 = OV o A1 c1 := by
    obtain ⟨cl⟩ := cs1
    have : cl = [.int .i64 o.kind, .string ⟨o.topic.toArray⟩, .string ⟨o.group.toArray⟩, .int .i64 o.off, .slice A1 o.recs.length c1] := by simpa [Value.cells] using hc1
    rw [this]
    rfl
  rw [hv1] at hW' ⊢
  have hI1 : OI W (fun k => W.heap.size ≤ k) (OV o A1 c1) o := ⟨A1, c1, rfl, hls1⟩
  obtain ⟨cs2, rfl, _⟩ := okWide_struct Try.underlying35 (hval 2 35 v2 rfl rfl)
  obtain ⟨f2, hf2⟩ := h2
  obtain ⟨xe, xf, hc2, hxe, hxf⟩ := open_res hf2
  have hv2 : Value.agg cs2 = .agg #[.int .i64 xe, .int .i64 xf] := by
    obtain ⟨cl⟩ := cs2
    have : cl = [.int .i64 xe, .int .i64 xf] := by simpa [Value.cells] using hc2
    rw [this]
  rw [hv2] at hW' ⊢
  simp only [List.append_nil] at hW'
  refine (Qa.opbytes_any W A0 c0 b o _ xe xf hb0 hI1 hr0 hr1.2.2.1 hxe.2 hxf.2).mono fun e W' ⟨he, hg⟩ => ⟨_, he, ?_⟩
  exact law_post laidOut readable rfl rfl Try.underlying4 hW' rfl rfl rfl hg

set_option maxRecDepth 100000 in
theorem lifted (os : Os) (started : os.Started) (H : Type) (enc : TypeId × Value → H) :
    ReturnsInHanded {} Try.checked os 5 .any (Rows.opBytesSpec.pre6 enc Try.prog Try.f5 Rows.opBytesRow.domain false) (Rows.opBytesSpec.post enc Try.prog Try.f5 false true false false) := by
  refine returnsInHanded_of_change_sized (C := Try.checked) own started (by kernel_rfl) Try.func5
    (ChangeSpec.witness6 (enc := enc) (C := Try.checked) false ⟨#[], #[.slice none 0 0, .agg #[.int .i64 0, .string ⟨#[]⟩, .string ⟨#[]⟩, .int .i64 0, .slice none 0 0], .agg #[.int .i64 0, .int .i64 0]], []⟩ 8 (by kernel_rfl) (by kernel_rfl) (by kernel_rfl) (by kernel_rfl)) ?_
  intro W base args ds gs before hval hW _ hz _
  exact contract H enc W base args ds gs before hval hW hz

theorem proved : Rows.OpBytesSaid :=
  OpenClaim.holds_of_wide 5 Try.f5 rfl rfl rfl rfl rfl rfl rfl ⟨rfl, rfl, rfl, rfl, rfl⟩ rfl rfl rfl rfl rfl (by kernel_rfl) Try.func5 (by kernel_rfl)
    (of_decide_eq_true (by kernel_rfl)) (by unfold Func.isWrapper; first | (rw [if_pos (by decide +kernel)]; kernel_rfl) | (rw [if_neg (by decide +kernel)]; exact ⟨rfl, rfl⟩))
    (fun os started H enc _ => lifted os started H enc)

end Go.Proofs.Ytbglojjljccgkaa.BytesL

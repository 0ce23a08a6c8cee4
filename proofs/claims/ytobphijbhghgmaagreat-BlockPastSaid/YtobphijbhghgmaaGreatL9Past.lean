/-
  BlockPast: for every two lists of batches the law answers true and the arguments read as they did: runs of batches over one table are chains, and end in the same header just if their batches are the same.
  No condition: any arguments that can be read as data, of any size that the form's own reach allows.
-/
import Derived.Test.YtobphijbhghgmaaGreatP19
import Derived.Test.YtobphijbhghgmaaGreatP20
import Derived.ChangeMaps5
import Derived.Carry
namespace Go.Proofs.YtobphijbhghgmaaGreat.BPastL
set_option linter.unusedSimpArgs false
open Go Go.RowKit Go.ChangeShapes Go.WideShapes Go.ChangeAt Go.Deep Ck Kp Pm Pe Py Jm Ja Jb Jo Za Zb Ya Yo
set_option linter.unusedVariables false

theorem own : ownKnob Tryz.prog.godebug = none := by kernel_rfl
theorem laidOut : laidOutB Tryz.prog = true := by kernel_rfl
theorem readable : (Tryz.f5.params.toList.all fun t => Tryz.prog.readableRec t && decide (t < Tryz.prog.types.size)) = true := by kernel_rfl

set_option maxRecDepth 100000 in
theorem contract (H : Type) (enc : TypeId × Value → H) (W : World) (base : Nat) (args : Array Value) (ds gs : List (DataW H)) (before : List MemPlace)
    (hval : ∀ (j : Nat) t v, Tryz.f5.params[j]? = some t → args[j]? = some v → Value.okWide Tryz.prog W .any base t v)
    (hW : DataW.Whole enc Tryz.prog Tryz.f5.params.toList Rows.blockPastSpec.vars false W args.toList ds gs before)
    (hz : (DataW.weightsEach Tryz.prog (Tryz.f5.params.toList ++ Rows.blockPastSpec.plain.varTypes Tryz.prog) (ds ++ gs)).all (· ≤ reachBytes) = true) :
    Calls Tryz.prog 5 args W fun e W' => ∃ v, e = .returned v ∧ Rows.blockPastSpec.post enc Tryz.prog Tryz.f5 false true false false W args v W' := by
  have hW' := hW
  obtain ⟨p, q, hA0, hV, rfl, hfz, hnd⟩ := hW
  have hA : DataW.TrodAll enc Tryz.prog W 0 (fun _ => true) true Tryz.f5.params.toList args.toList ds p := hA0
  rw [Tryz.params5] at hA hval hz
  obtain ⟨v0, v1, d0, d1, p0, p1, rfl, rfl, rfl, h0, h1⟩ := trodAll_two hA
  obtain ⟨rfl, rfl⟩ := trodVars_none hV
  obtain ⟨A0, n0, c0, rfl⟩ := okWide_slice Tryz.underlying44 (hval 0 44 v0 rfl rfl)
  obtain ⟨f0, hf0⟩ := h0
  obtain ⟨la, hI0, hl0, hfar0⟩ := open_batches hf0 (reach_of hz (j := 0) rfl rfl)
  have hn0 : n0 = la.length := by obtain ⟨A, c, hv⟩ := hI0.shape; obtain ⟨_, h, _⟩ := Value.slice.inj hv; exact h
  subst hn0
  obtain ⟨A1, n1, c1, rfl⟩ := okWide_slice Tryz.underlying44 (hval 1 44 v1 rfl rfl)
  obtain ⟨f1, hf1⟩ := h1
  obtain ⟨lb, hI1, hl1, hfar1⟩ := open_batches hf1 (reach_of hz (j := 1) rfl rfl)
  have hn1 : n1 = lb.length := by obtain ⟨A, c, hv⟩ := hI1.shape; obtain ⟨_, h, _⟩ := Value.slice.inj hv; exact h
  subst hn1
  simp only [List.append_nil] at hW'
  refine (Yl.blockpast_any W A0 A1 c0 c1 la lb hI0 hI1 (fun b hb => (hfar0 b hb).plain) (fun b hb => (hfar1 b hb).plain) (by omega) (by omega)).mono fun e W' ⟨he, hg⟩ => ⟨_, he, ?_⟩
  exact law_post laidOut readable rfl rfl Tryz.underlying4 hW' rfl rfl rfl hg

set_option maxRecDepth 100000 in
theorem lifted (os : Os) (started : os.Started) (H : Type) (enc : TypeId × Value → H) :
    ReturnsInHanded {} Tryz.checked os 5 .any (Rows.blockPastSpec.pre6 enc Tryz.prog Tryz.f5 Rows.blockPastRow.domain false) (Rows.blockPastSpec.post enc Tryz.prog Tryz.f5 false true false false) := by
  refine returnsInHanded_of_change_sized (C := Tryz.checked) own started (by kernel_rfl) Tryz.func5
    (ChangeSpec.witness6 (enc := enc) (C := Tryz.checked) false ⟨#[], #[.slice none 0 0, .slice none 0 0], []⟩ 8 (by kernel_rfl) (by kernel_rfl) (by kernel_rfl) (by kernel_rfl)) ?_
  intro W base args ds gs before hval hW _ hz _
  exact contract H enc W base args ds gs before hval hW hz

theorem proved : Rows.BlockPastSaid :=
  OpenClaim.holds_of_wide 5 Tryz.f5 rfl rfl rfl rfl rfl rfl rfl ⟨rfl, rfl, rfl, rfl, rfl⟩ rfl rfl rfl rfl rfl (by kernel_rfl) Tryz.func5 (by kernel_rfl)
    (of_decide_eq_true (by kernel_rfl)) (by unfold Func.isWrapper; first | (rw [if_pos (by decide +kernel)]; kernel_rfl) | (rw [if_neg (by decide +kernel)]; exact ⟨rfl, rfl⟩))
    (fun os started H enc _ => lifted os started H enc)

end Go.Proofs.YtobphijbhghgmaaGreat.BPastL

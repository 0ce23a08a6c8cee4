/-
  NewviewKeeps: for every f, view, list of view-changes, two sets and a certificate the law answers true and the arguments read as they did: what so many have prepared that it may have been committed is gone on with, whichever quorum is taken.
-/
import Derived.Test.YtfdhaodgnenhcaaR10
import Derived.Test.YtfdhaodgnenhcaaR08
import Derived.Test.YtfdhaodgnenhcaaR05
import Derived.ChangeMaps5
import Derived.Carry
namespace Go.Proofs.Ytfdhaodgnenhcaa.P16KeepsL
set_option linter.unusedSimpArgs false
open Go Go.RowKit Go.ChangeShapes Go.WideShapes Go.ChangeAt Go.Deep Ck Kp Pm Pe Py Lk Jm Ja Jb Jo Pra Prb Pre Prr Pte Ptm Ky Nva Nvb Nxo
set_option linter.unusedVariables false

theorem own : ownKnob Try.prog.godebug = none := by kernel_rfl
theorem laidOut : laidOutB Try.prog = true := by kernel_rfl
theorem readable : (Try.f4.params.toList.all fun t => Try.prog.readableRec t && decide (t < Try.prog.types.size)) = true := by kernel_rfl

set_option maxRecDepth 100000 in
theorem contract (H : Type) (enc : TypeId × Value → H) (W : World) (base : Nat) (args : Array Value) (ds gs : List (DataW H)) (before : List MemPlace)
    (hval : ∀ (j : Nat) t v, Try.f4.params[j]? = some t → args[j]? = some v → Value.okWide Try.prog W .any base t v)
    (hW : DataW.Whole enc Try.prog Try.f4.params.toList Rows.newviewKeepsSpec.vars false W args.toList ds gs before)
    (hz : (DataW.weightsEach Try.prog (Try.f4.params.toList ++ Rows.newviewKeepsSpec.plain.varTypes Try.prog) (ds ++ gs)).all (· ≤ reachBytes) = true) :
    Calls Try.prog 4 args W fun e W' => ∃ v, e = .returned v ∧ Rows.newviewKeepsSpec.post enc Try.prog Try.f4 false true false false W args v W' := by
  have hW' := hW
  obtain ⟨p, q, hA0, hV, rfl, hfz, hnd⟩ := hW
  have hA : DataW.TrodAll enc Try.prog W 0 (fun _ => true) true Try.f4.params.toList args.toList ds p := hA0
  rw [Try.params4] at hA hval hz
  obtain ⟨v0, v1, v2, v3, v4, v5, d0, d1, d2, d3, d4, d5, p0, p1, p2, p3, p4, p5, rfl, rfl, rfl, h0, h1, h2, h3, h4, h5⟩ := Nxp.trodAll_six hA
  obtain ⟨rfl, rfl⟩ := trodVars_none hV
  obtain ⟨f, rfl⟩ := okWide_int Try.underlying3 (hval 0 3 v0 rfl rfl)
  obtain ⟨view, rfl⟩ := okWide_int Try.underlying2 (hval 1 2 v1 rfl rfl)
  obtain ⟨A2, n2, c2, rfl⟩ := okWide_slice Try.underlying22 (hval 2 22 v2 rfl rfl)
  obtain ⟨f2, hf2⟩ := h2
  obtain ⟨l, hI2, hl2, hok2⟩ := Nxo.open_changes hf2 (reach_of hz (j := 2) rfl rfl)
  obtain ⟨fa, rfl⟩ := okWide_int Try.underlying37 (hval 3 37 v3 rfl rfl)
  obtain ⟨f3, hf3⟩ := h3
  obtain ⟨z', hz3, _, hw3⟩ := DataW.trod_int Try.underlying37 hf3
  obtain rfl : fa = z' := by simpa [Value.cells] using hz3
  obtain ⟨pk, rfl⟩ := okWide_int Try.underlying37 (hval 4 37 v4 rfl rfl)
  obtain ⟨f4, hf4⟩ := h4
  obtain ⟨y', hz4, _, hw4⟩ := DataW.trod_int Try.underlying37 hf4
  obtain rfl : pk = y' := by simpa [Value.cells] using hz4
  obtain ⟨cs5, rfl, _⟩ := okWide_struct Try.underlying43 (hval 5 43 v5 rfl rfl)
  obtain ⟨f5, hf5⟩ := h5
  obtain ⟨⟨p, r5⟩, hc5, hI5, hok5, hwf5⟩ := Ptm.open_prep hf5 (reach_of hz (j := 5) rfl rfl)
  have hv5 : Value.agg cs5 = .agg (PC p r5) := by
    obtain ⟨cl⟩ := cs5
    have : cl = (PC p r5).toList := by simpa [Value.cells] using hc5
    rw [this]
  rw [hv5] at hW' ⊢
  simp only [List.append_nil] at hW'
  refine (Nxm.keeps_law W _ _ f view _ l fa pk p r5 hI2 hI5 hl2 hok2 hok5 hwf5 (by have h2 : 0 ≤ fa ∧ fa ≤ 65535 := (by simpa [Lit.wf, IntKind.min, IntKind.max, IntKind.signed, IntKind.bits] using hw3); omega) (by have h2 : 0 ≤ fa ∧ fa ≤ 65535 := (by simpa [Lit.wf, IntKind.min, IntKind.max, IntKind.signed, IntKind.bits] using hw3); omega) (by have h2 : 0 ≤ pk ∧ pk ≤ 65535 := (by simpa [Lit.wf, IntKind.min, IntKind.max, IntKind.signed, IntKind.bits] using hw4); omega) (by have h2 : 0 ≤ pk ∧ pk ≤ 65535 := (by simpa [Lit.wf, IntKind.min, IntKind.max, IntKind.signed, IntKind.bits] using hw4); omega)).mono fun e W' ⟨he, hg⟩ => ⟨_, he, ?_⟩
  exact law_post laidOut readable rfl rfl Try.underlying4 hW' rfl rfl rfl hg

set_option maxRecDepth 100000 in
theorem lifted (os : Os) (started : os.Started) (H : Type) (enc : TypeId × Value → H) :
    ReturnsInHanded {} Try.checked os 4 .any (Rows.newviewKeepsSpec.pre6 enc Try.prog Try.f4 Rows.newviewKeepsRow.domain false) (Rows.newviewKeepsSpec.post enc Try.prog Try.f4 false true false false) := by
  refine returnsInHanded_of_change_sized (C := Try.checked) own started (by kernel_rfl) Try.func4
    (ChangeSpec.witness6 (enc := enc) (C := Try.checked) false ⟨#[], #[.int .i64 0, .int .i64 0, .slice none 0 0, .int .u16 0, .int .u16 0, .agg #[.int .i64 0, .int .i64 0, .int .i64 0, .int .i64 0, .int .i64 0, .slice none 0 0, .slice none 0 0]], []⟩ 8 (by kernel_rfl) (by kernel_rfl) (by kernel_rfl) (by kernel_rfl)) ?_
  intro W base args ds gs before hval hW _ hz _
  exact contract H enc W base args ds gs before hval hW hz

theorem proved : Rows.NewviewKeepsSaid :=
  OpenClaim.holds_of_wide 4 Try.f4 rfl rfl rfl rfl rfl rfl rfl ⟨rfl, rfl, rfl, rfl, rfl⟩ rfl rfl rfl rfl rfl (by kernel_rfl) Try.func4 (by kernel_rfl)
    (of_decide_eq_true (by kernel_rfl)) (by unfold Func.isWrapper; first | (rw [if_pos (by decide +kernel)]; kernel_rfl) | (rw [if_neg (by decide +kernel)]; exact ⟨rfl, rfl⟩))
    (fun os started H enc _ => lifted os started H enc)

end Go.Proofs.Ytfdhaodgnenhcaa.P16KeepsL

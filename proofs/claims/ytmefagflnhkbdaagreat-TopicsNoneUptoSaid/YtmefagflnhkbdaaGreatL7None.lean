/-
  TopicsNone, second form: for every request and every placed record, together of bulk at most 1048576, the law answers true and the arguments read as they did: topics that no call made answer nothing; what comes in and what goes out is the caller's own; a placed record has its bytes.
  Condition: what the arguments hold together is of bulk at most 1048576 (the statement's own).
-/
import Derived.Test.YtmefagflnhkbdaaGreatVD16
import Derived.Test.YtmefagflnhkbdaaGreatVD21
import Derived.Test.YtmefagflnhkbdaaGreatVD22
import Derived.ChangeMaps5
namespace Go.Proofs.YtmefagflnhkbdaaGreat.NoneL
set_option linter.unusedSimpArgs false
open Go Go.RowKit Go.ChangeShapes Go.WideShapes Go.ChangeAt Ck Kp Pm Pe Py Ao Aq
set_option linter.unusedVariables false

theorem own : ownKnob Tryz.prog.godebug = none := by kernel_rfl
theorem laidOut : laidOutB Tryz.prog = true := by kernel_rfl
theorem readable : (Tryz.f6.params.toList.all fun t => Tryz.prog.readableRec t && decide (t < Tryz.prog.types.size)) = true := by kernel_rfl

set_option maxRecDepth 100000 in
theorem contract (H : Type) (enc : TypeId × Value → H) (W : World) (base : Nat) (args : Array Value) (ds gs : List (DataW H)) (before : List MemPlace)
    (hval : ∀ (j : Nat) t v, Tryz.f6.params[j]? = some t → args[j]? = some v → Value.okWide Tryz.prog W .any base t v)
    (hW : DataW.Whole enc Tryz.prog Tryz.f6.params.toList Rows.topicsNoneSpec.vars false W args.toList ds gs before)
    (hk : Rows.uptoSmall H (ds ++ gs) = true) (hz : (DataW.weightsEach Tryz.prog (Tryz.f6.params.toList ++ Rows.topicsNoneSpec.plain.varTypes Tryz.prog) (ds ++ gs)).all (· ≤ reachBytes) = true) :
    Calls Tryz.prog 6 args W fun e W' => ∃ v, e = .returned v ∧ Rows.topicsNoneSpec.post enc Tryz.prog Tryz.f6 false true false false W args v W' := by
  have hW' := hW
  obtain ⟨p, q, hA0, hV, rfl, hfz, hnd⟩ := hW
  have hA : DataW.TrodAll enc Tryz.prog W 0 (fun _ => true) true Tryz.f6.params.toList args.toList ds p := hA0
  rw [Tryz.params6] at hA hval hz
  obtain ⟨v0, v1, d0, d1, p0, p1, rfl, rfl, rfl, h0, h1⟩ := trodAll_two hA
  obtain ⟨rfl, rfl⟩ := trodVars_none hV
  obtain ⟨cs0, rfl, _⟩ := okWide_struct Tryz.underlying40 (hval 0 40 v0 rfl rfl)
  obtain ⟨f0, hf0⟩ := h0
  obtain ⟨r, A0, c0, hc0, -, -⟩ := open_req hf0
  have hv0 : Value.agg cs0 = Aj.RV r.client r.time r.o A0 c0 := by
    obtain ⟨cl⟩ := cs0
    have : cl = (Aj.RC r.client r.time r.o A0 c0).toList := by simpa [Value.cells, Aj.RC] using hc0
    subst this
    rfl
  rw [hv0] at hW' ⊢
  obtain ⟨cs1, rfl, _⟩ := okWide_struct Tryz.underlying69 (hval 1 69 v1 rfl rfl)
  obtain ⟨f1, hf1⟩ := h1
  obtain ⟨x, u, hc1, hu1, hx1, hx2, hx3⟩ := Xq.open_placed hf1
  have hv1 : Value.agg cs1 = .agg (Xo.P3 x u) := by
    obtain ⟨cl⟩ := cs1
    have : cl = (Xo.P3 x u).toList := by simpa [Value.cells, Xo.P3] using hc1
    subst this
    rfl
  rw [hv1] at hW' ⊢
  have hb := Bulk.small hk
  simp only [List.append_nil, Rows.uptoBulkAll] at hb
  simp only [List.append_nil] at hW'
  refine (Xp.none_any W r.client r.time r.o A0 c0 _ x u hu1 (by simp only at hx1; omega) (by simp only at hx2; omega) hx3).mono fun e W' ⟨he, hg⟩ => ⟨_, he, ?_⟩
  exact law_post laidOut readable rfl rfl Tryz.underlying4 hW' rfl rfl rfl hg

set_option maxRecDepth 100000 in
theorem lifted (os : Os) (started : os.Started) (H : Type) (enc : TypeId × Value → H) (F : Stop.Interp) :
    ReturnsInHanded {} Tryz.checked os 6 .any ((Rows.OpenSpec.upto Rows.topicsNoneSpec).pre6 enc Tryz.prog Tryz.f6 Rows.topicsNoneUptoRow.domain false) (((Rows.OpenSpec.upto Rows.topicsNoneSpec).at F).post enc Tryz.prog Tryz.f6 false true false false) := by
  refine Ku.lift_sized (C := Tryz.checked) (s := Rows.OpenSpec.upto Rows.topicsNoneSpec) (k := Rows.uptoSmall) rfl own started (by kernel_rfl) Tryz.func6
    (OpenSpec.witness (enc := enc) (C := Tryz.checked) (s := Rows.OpenSpec.upto Rows.topicsNoneSpec) (k := Rows.uptoSmall) rfl false ⟨#[], #[.agg #[.int .i64 0, .int .i64 0, .int .i64 0, .string ⟨#[]⟩, .string ⟨#[]⟩, .int .i64 0, .slice none 0 0], .agg #[.string ⟨#[]⟩, .int .i64 0, .slice none 0 0]], []⟩ 8 (by kernel_rfl) (by kernel_rfl) (by kernel_rfl)
      (x := ([.agg [.lit (.int .i64 0), .lit (.int .i64 0), .agg [.lit (.int .i64 0), .lit (.string []), .lit (.string []), .lit (.int .i64 0), .nil]], .agg [.lit (.string []), .lit (.int .i64 0), .nil]], [], [])) (by kernel_rfl) rfl (by kernel_rfl)) ?_
  intro W base args ds gs before hval hW hk hz
  exact contract H enc W base args ds gs before hval hW hk hz

theorem proved : Rows.TopicsNoneUptoSaid :=
  OpenClaim.holds_of_cond 6 Tryz.f6 rfl rfl rfl rfl rfl rfl rfl ⟨rfl, rfl, rfl, rfl, rfl⟩ rfl rfl rfl rfl rfl (by kernel_rfl) Tryz.func6 (by kernel_rfl)
    (of_decide_eq_true (by kernel_rfl)) (by unfold Func.isWrapper; first | (rw [if_pos (by decide +kernel)]; kernel_rfl) | (rw [if_neg (by decide +kernel)]; exact ⟨rfl, rfl⟩))
    (fun os started H enc _ F => lifted os started H enc F)

end Go.Proofs.YtmefagflnhkbdaaGreat.NoneL

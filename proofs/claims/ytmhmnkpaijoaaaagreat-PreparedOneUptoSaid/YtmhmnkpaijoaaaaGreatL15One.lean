/-
  PreparedOne: for every case and set, together of bulk at most 1048576, the law answers true and the arguments read as they did: with at most f faulty brokers two valid certificates for a view and number have one digest.
-/
import Derived.ChangeMaps5
import Derived.Carry
import Derived.Test.YtmhmnkpaijoaaaaGreatEOPtk
namespace Go.Proofs.YtmhmnkpaijoaaaaGreat.P15OneL
set_option linter.unusedSimpArgs false
open Go Go.RowKit Go.ChangeShapes Go.WideShapes Go.ChangeAt Go.Deep Ck Kp Pm Pe Py Lk Jm Ja Jb Jo Pra Prb Pre Prr Psx Pta Ptd Pte Ptz
set_option linter.unusedVariables false

theorem own : ownKnob Tryz.prog.godebug = none := by kernel_rfl
theorem laidOut : laidOutB Tryz.prog = true := by kernel_rfl
theorem readable : (Tryz.f7.params.toList.all fun t => Tryz.prog.readableRec t && decide (t < Tryz.prog.types.size)) = true := by kernel_rfl

set_option maxRecDepth 100000 in
theorem contract (H : Type) (enc : TypeId × Value → H) (W : World) (base : Nat) (args : Array Value) (ds gs : List (DataW H)) (before : List MemPlace)
    (hval : ∀ (j : Nat) t v, Tryz.f7.params[j]? = some t → args[j]? = some v → Value.okWide Tryz.prog W .any base t v)
    (hW : DataW.Whole enc Tryz.prog Tryz.f7.params.toList Rows.preparedOneSpec.vars false W args.toList ds gs before)
    (hk : Rows.uptoSmall H (ds ++ gs) = true) (hz : (DataW.weightsEach Tryz.prog (Tryz.f7.params.toList ++ Rows.preparedOneSpec.plain.varTypes Tryz.prog) (ds ++ gs)).all (· ≤ reachBytes) = true) :
    Calls Tryz.prog 7 args W fun e W' => ∃ v, e = .returned v ∧ Rows.preparedOneSpec.post enc Tryz.prog Tryz.f7 false true false false W args v W' := by
  have hW' := hW
  obtain ⟨p, q, hA0, hV, rfl, hfz, hnd⟩ := hW
  have hA : DataW.TrodAll enc Tryz.prog W 0 (fun _ => true) true Tryz.f7.params.toList args.toList ds p := hA0
  rw [Tryz.params7] at hA hval hz
  obtain ⟨v0, v1, d0, d1, p0, p1, rfl, rfl, rfl, h0, h1⟩ := trodAll_two hA
  obtain ⟨rfl, rfl⟩ := trodVars_none hV
  obtain ⟨cs0, rfl, _⟩ := okWide_struct Tryz.underlying26 (hval 0 26 v0 rfl rfl)
  obtain ⟨f0, hf0⟩ := h0
  have hb := Bulk.small hk
  simp only [List.append_nil, Rows.uptoBulkAll] at hb
  obtain ⟨f, vb, vv, vs, view, low, qss, vts, sps, hc0, hCI, hSP, hn, hd, hin⟩ := Ptn.open_case hf0 (by simp only; omega)
  have hv0 : Value.agg cs0 = .agg #[.int .i64 f, vb, vv, vs, .int .i64 view, .int .i64 low] := by
    obtain ⟨cl⟩ := cs0
    have : cl = [.int .i64 f, vb, vv, vs, .int .i64 view, .int .i64 low] := by simpa [Value.cells] using hc0
    rw [this]
  rw [hv0] at hW' ⊢
  obtain ⟨z, rfl⟩ := okWide_int Tryz.underlying88 (hval 1 88 v1 rfl rfl)
  obtain ⟨f1, hf1⟩ := h1
  obtain ⟨z', hz1, _, hw1⟩ := DataW.trod_int Tryz.underlying88 hf1
  obtain rfl : z = z' := by simpa [Value.cells] using hz1
  simp only [List.append_nil] at hW'
  refine (Ptk.one_law HL HBG HV W f view low vb vv vs qss vts sps z hCI hSP hn hd hin (by have h2 : 0 ≤ z ∧ z ≤ 65535 := (by simpa [Lit.wf, IntKind.min, IntKind.max, IntKind.signed, IntKind.bits] using hw1); omega)).mono fun e W' ⟨he, hg⟩ => ⟨_, he, ?_⟩
  exact law_post laidOut readable rfl rfl Tryz.underlying4 hW' rfl rfl rfl hg

set_option maxRecDepth 100000 in
theorem lifted (os : Os) (started : os.Started) (H : Type) (enc : TypeId × Value → H) (F : Stop.Interp) :
    ReturnsInHanded {} Tryz.checked os 7 .any ((Rows.OpenSpec.upto Rows.preparedOneSpec).pre6 enc Tryz.prog Tryz.f7 Rows.preparedOneUptoRow.domain false) (((Rows.OpenSpec.upto Rows.preparedOneSpec).at F).post enc Tryz.prog Tryz.f7 false true false false) := by
  refine Ku.lift_sized (C := Tryz.checked) (s := Rows.OpenSpec.upto Rows.preparedOneSpec) (k := Rows.uptoSmall) rfl own started (by kernel_rfl) Tryz.func7
    (OpenSpec.witness (enc := enc) (C := Tryz.checked) (s := Rows.OpenSpec.upto Rows.preparedOneSpec) (k := Rows.uptoSmall) rfl false ⟨#[], #[.agg #[.int .i64 0, .slice none 0 0, .slice none 0 0, .slice none 0 0, .int .i64 0, .int .i64 0], .int .u16 0], []⟩ 8 (by kernel_rfl) (by kernel_rfl) (by kernel_rfl)
      (x := ([.agg [.lit (.int .i64 0), .nil, .nil, .nil, .lit (.int .i64 0), .lit (.int .i64 0)], .lit (.int .u16 0)], [], [])) (by kernel_rfl) rfl (by kernel_rfl)) ?_
  intro W base args ds gs before hval hW hk hz
  exact contract H enc W base args ds gs before hval hW hk hz

theorem proved : Rows.PreparedOneUptoSaid :=
  OpenClaim.holds_of_cond 7 Tryz.f7 rfl rfl rfl rfl rfl rfl rfl ⟨rfl, rfl, rfl, rfl, rfl⟩ rfl rfl rfl rfl rfl (by kernel_rfl) Tryz.func7 (by kernel_rfl)
    (of_decide_eq_true (by kernel_rfl)) (by unfold Func.isWrapper; first | (rw [if_pos (by decide +kernel)]; kernel_rfl) | (rw [if_neg (by decide +kernel)]; exact ⟨rfl, rfl⟩))
    (fun os started H enc _ F => lifted os started H enc F)

end Go.Proofs.YtmhmnkpaijoaaaaGreat.P15OneL


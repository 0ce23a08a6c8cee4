/-
  Layer 8 (request): batches in memory; the contracts of momentOf, checkSigned, isTwice, CheckBatch.
-/
import Derived.Test.YtjdmadfjfjenjaaJa
import Derived.Test.YtjdmadfjfjenjaaKf
import Derived.Test.YtjdmadfjfjenjaaQb
import Derived.Laws.StructEq
import Derived.Deep.RegionHeld3
namespace Go.Proofs.Ytjdmadfjfjenjaa.Jb
set_option linter.unusedSimpArgs false
open Go Go.RowKit Ck Kw Ga Kf Pm Pe Pg Ph Qb Lk Jm Ja
attribute [local go_sem ↓] Go.wp_at_zero Go.wp_at_succ
set_option linter.unusedVariables false

theorem DC_len (p : Sd × (Option Addr × Nat)) : ((DC p.1 p.2.1 p.2.2).toList).length = 9 := rfl
/-- The cells of a batch: its requests' records lie where rs says. -/
def flat (l : List Sd) (rs : List (Option Addr × Nat)) : List Value := (l.zip rs).flatMap fun p => (DC p.1 p.2.1 p.2.2).toList
theorem zip_len {l : List Sd} {rs : List (Option Addr × Nat)} (h : rs.length = l.length) : (l.zip rs).length = l.length := by rw [List.length_zip]; omega
theorem flat_length {l : List Sd} {rs : List (Option Addr × Nat)} (h : rs.length = l.length) : (flat l rs).length = l.length * 9 := by rw [flat, flat_len DC_len, zip_len h]
/-- The value v is the batch l; all of it lies in no block of X. -/
def BI (w : World) (X : Nat → Prop) (v : Value) (l : List Sd) : Prop :=
  ∃ rs, rs.length = l.length ∧ Sl w X 9 v l.length (flat l rs) ∧ ∀ i (h : i < l.length), ∃ r, rs[i]? = some r ∧ Ls w X (.slice r.1 l[i].q.o.recs.length r.2) l[i].q.o.recs
section
variable {w w' : World} {X Y S : Nat → Prop} {v : Value} {l : List Sd}
theorem BI.after (h : BI w X v l) (hb : Below w.heap.size w w') : BI w' X v l := by
  obtain ⟨rs, h1, h2, h3⟩ := h
  exact ⟨rs, h1, h2.after hb, fun i hi => by obtain ⟨r, h4, h5⟩ := h3 i hi; exact ⟨r, h4, h5.after hb⟩⟩
theorem BI.weaken (h : BI w X v l) (hk : ∀ b, b < w.heap.size → Y b → X b) : BI w Y v l := by
  obtain ⟨rs, h1, h2, h3⟩ := h
  exact ⟨rs, h1, h2.weaken hk, fun i hi => by obtain ⟨r, h4, h5⟩ := h3 i hi; exact ⟨r, h4, h5.weaken hk⟩⟩
theorem BI.ch (h : BI w X v l) (c : Ch S w w') (hd : ∀ k, k < w.heap.size → S k → X k) : BI w' X v l := by
  obtain ⟨rs, h1, h2, h3⟩ := h
  exact ⟨rs, h1, h2.ch c hd, fun i hi => by obtain ⟨r, h4, h5⟩ := h3 i hi; exact ⟨r, h4, h5.ch c hd⟩⟩
theorem BI.shape (h : BI w X v l) : ∃ A c, v = .slice A l.length c ∧ l.length ≤ c := by
  obtain ⟨rs, h1, ⟨A, c, rfl, _, hc, _⟩, h3⟩ := h
  exact ⟨A, c, rfl, hc⟩
theorem bi_nil (w : World) (X : Nat → Prop) : BI w X (.slice none 0 0) [] := ⟨[], rfl, Sl.nil _ _ _, fun i hi => absurd hi (by simp)⟩
/-- What stands at a place of a batch. -/
def At9 (w : World) (ad : Addr) (d : Sd) (Ar : Option Addr) (cr : Nat) : Prop :=
  w.cell? ad = some (.int .i64 d.q.client) ∧ w.cell? ⟨ad.block, ad.off + 1, none⟩ = some (.int .i64 d.q.time) ∧ w.cell? ⟨ad.block, ad.off + 2, none⟩ = some (.int .i64 d.q.o.kind) ∧ w.cell? ⟨ad.block, ad.off + 3, none⟩ = some (.string ⟨d.q.o.topic.toArray⟩)
    ∧ w.cell? ⟨ad.block, ad.off + 4, none⟩ = some (.string ⟨d.q.o.group.toArray⟩) ∧ w.cell? ⟨ad.block, ad.off + 5, none⟩ = some (.int .i64 d.q.o.off) ∧ w.cell? ⟨ad.block, ad.off + 6, none⟩ = some (.slice Ar d.q.o.recs.length cr)
    ∧ w.cell? ⟨ad.block, ad.off + 7, none⟩ = some (.int .i64 d.s.1) ∧ w.cell? ⟨ad.block, ad.off + 8, none⟩ = some (.int .i64 d.s.2)
theorem BI.at_ {A : Option Addr} {n c i : Nat} (h : BI w X (.slice A n c) l) (hi : i < l.length) :
    ∃ ad Ar cr, A = some ad ∧ At9 w (ad.add (i * 9)) l[i] Ar cr ∧ Ls w X (.slice Ar l[i].q.o.recs.length cr) l[i].q.o.recs := by
  obtain ⟨rs, h1, ⟨A', c', hv, hl, hc, hm, hx⟩, h3⟩ := h
  injection hv with e1 e2 e3
  subst e1
  obtain ⟨⟨Ar, cr⟩, h4, h5⟩ := h3 i hi
  obtain ⟨ad, hA, hb, hX, hcell⟩ := hx (by omega)
  refine ⟨ad, Ar, cr, hA, ?_, h5⟩
  have hz : i < (l.zip rs).length := by rw [zip_len h1]; exact hi
  have hr : i < rs.length := by omega
  have he : (l.zip rs)[i] = (l[i], (Ar, cr)) := by
    rw [List.getElem_zip]
    have : rs[i] = (Ar, cr) := by have := List.getElem?_eq_getElem hr; rw [this] at h4; exact Option.some.inj h4
    rw [this]
  have hg : ∀ j, j < 9 → (flat l rs)[i * 9 + j]? = ((DC l[i] Ar cr).toList)[j]? := fun j hj => by
    rw [flat, flat_get DC_len _ _ hz j hj, he]
  have hof : ∀ j u, j < 9 → ((DC l[i] Ar cr).toList)[j]? = some u → w.cell? ((ad.add (i * 9)).add j) = some u := fun j u hj hu => by
    rw [add_add]
    exact hcell _ _ (by rw [hg j hj]; exact hu)
  generalize ad.add (i * 9) = a at hof ⊢
  have ha : ∀ j, 0 < j → a.add j = ⟨a.block, a.off + j, none⟩ := fun j hj => by unfold Addr.add; rw [if_neg (by omega)]
  have h0 : a.add 0 = a := by unfold Addr.add; rw [if_pos rfl]
  refine ⟨?_, ?_, ?_, ?_, ?_, ?_, ?_, ?_, ?_⟩
  · have := hof 0 _ (by omega) rfl; rwa [h0] at this
  · have := hof 1 _ (by omega) rfl; rwa [ha _ (by omega)] at this
  · have := hof 2 _ (by omega) rfl; rwa [ha _ (by omega)] at this
  · have := hof 3 _ (by omega) rfl; rwa [ha _ (by omega)] at this
  · have := hof 4 _ (by omega) rfl; rwa [ha _ (by omega)] at this
  · have := hof 5 _ (by omega) rfl; rwa [ha _ (by omega)] at this
  · have := hof 6 _ (by omega) rfl; rwa [ha _ (by omega)] at this
  · have := hof 7 _ (by omega) rfl; rwa [ha _ (by omega)] at this
  · have := hof 8 _ (by omega) rfl; rwa [ha _ (by omega)] at this
end

/-- A moment. -/
theorem size_moment : (Try.prog.info? 119).map (·.size) = some 2 := by kernel_rfl
theorem blk2 {w : World} {g : Nat} {t : TypeId} {a b x0 x1 : Value} (h : Blk w g t #[a, b]) : Blk ((w.setCell ⟨g, 0, none⟩ x0).setCell ⟨g, 1, none⟩ x1) g t #[x0, x1] := by
  have := (h.set_ 0 x0).set_ 1 x1
  simpa using this
def MV (d : Sd) : Value := .agg #[.int .i64 d.q.client, .int .i64 d.q.time]
set_option maxRecDepth 100000 in
set_option maxHeartbeats 1000000 in
theorem moment_any (d : Sd) (A : Option Addr) (c : Nat) (w : World) :
    Calls Try.prog 77 #[DV d A c] w fun e w' => e = .returned (MV d) ∧ Below w.heap.size w w' := by
  have b1 := op_below w (.cells (DC d A c) 41)
  have b2 : Below w.heap.size w ((w.alloc (.cells (DC d A c) 41)).alloc (.cells #[.int .i64 0, .int .i64 0] 119)) := b1.alloc b1.size _
  have k0 : DK ((w.alloc (.cells (DC d A c) 41)).alloc (.cells #[.int .i64 0, .int .i64 0] 119)) w.heap.size d A c := Blk.alloc (Blk.new w _ _) _
  obtain ⟨a0, a1, -⟩ := k0.cells
  clear b1 b2 k0
  unfold DV MV
  unfold DC at *
  go_enter Try.func77, Try.ntmps77
  go_wp2_with fail
  refine bodyPost_ret (results_row1 rfl _ _ (w.heap.size + 1) 119 #[.int .i64 d.q.client, .int .i64 d.q.time] (0, 0) _ rfl (Blk.new_at (by simp) rfl) Try.underlying119 rfl size_moment) rfl ?_
  exact ⟨rfl, (op_below w _).trans ((op_below _ _).mono (by simp))⟩
theorem guard_moment : Try.prog.eqGuardType Try.prog.depth 119 = false := by kernel_rfl
theorem stood_moment : Try.prog.stoodInHeld 119 = false := by kernel_rfl
theorem fields_moment : Try.prog.underlying 119 = some (.struct (Try.prog.fieldsOf 119)) := by kernel_rfl
theorem pair_beq (a b c e : Int) : ((a, b) == (c, e)) = (decide (a = c) && decide (b = e)) := by
  rw [Bool.eq_iff_iff]
  simp
theorem run_eql_moment (W : World) (x y : Sd) : (binOp .eql 119 (MV x) (MV y)).run Try.prog W = .ok (.bool (mom x == mom y)) W := by
  unfold MV mom
  obtain ⟨a, ha⟩ : ∃ a, a = x.q.client := ⟨_, rfl⟩
  obtain ⟨b, hb⟩ : ∃ b, b = x.q.time := ⟨_, rfl⟩
  obtain ⟨c, hc⟩ : ∃ c, c = y.q.client := ⟨_, rfl⟩
  obtain ⟨e, he⟩ : ∃ e, e = y.q.time := ⟨_, rfl⟩
  rw [← ha, ← hb, ← hc, ← he, pair_beq]
  rw [run_eql_struct, show (10000 : Nat) = 9998 + 1 + 1 from rfl, run_equalIn_struct W (9998 + 1) 119 _ _ fields_moment stood_moment]
  have hf : (Try.prog.fieldsOf 119).toList = [{ name := "client", type := 3, offset := 0, embedded := false, tag := "", pkgPath := "bulla/request", byteOffset := 0 }, { name := "time", type := 2, offset := 1, embedded := false, tag := "", pkgPath := "bulla/request", byteOffset := 8 }] := by kernel_rfl
  rw [hf]
  have h1 := fun (x y : Int) (W : World) => run_equalIn_int (P := Try.prog) W 9998 3 .i64 .i64 x y Try.underlying3
  have h2 := fun (x y : Int) (W : World) => run_equalIn_int (P := Try.prog) W 9998 2 .i64 .i64 x y Try.underlying2
  have p1 : ∀ (u v : Value) (W : World), (part 3 #[u, v] 0).run Try.prog W = .ok u W := fun u v W => by simp [part, isAgg, run_underlying Try.underlying3]
  have p2 : ∀ (u v : Value) (W : World), (part 2 #[u, v] 1).run Try.prog W = .ok v W := fun u v W => by simp [part, isAgg, run_underlying Try.underlying2]
  clear ha hb hc he
  by_cases hac : a = c
  · by_cases hbe : b = e
    · subst hac; subst hbe
      simp [Op.eqFields, p1, p2, h1, h2, Result.andThen]
    · subst hac
      simp [Op.eqFields, p1, p2, h1, h2, Result.andThen, hbe]
  · simp [Op.eqFields, p1, h1, Result.andThen, hac]

set_option maxHeartbeats 1000000 in
theorem signed_any (d : Sd) (A : Option Addr) (c : Nat) (X : Nat → Prop) (w : World) (hls : Ls w X (.slice A d.q.o.recs.length c) d.q.o.recs) (hl : d.q.o.recs.length ≤ 140737488355328) :
    Calls Try.prog 43 #[DV d A c] w fun e w' => e = .returned (.int .i64 (dcheck d)) ∧ Below w.heap.size w w' := by
  have b1 := op_below w (.cells (DC d A c) 41)
  have k0 : DK (w.alloc (.cells (DC d A c) 41)) w.heap.size d A c := Blk.new w _ _
  have HC := Lib.hid (check_any d.q (QV d.q A c) X _ ⟨A, c, rfl, hls.after b1⟩ hl)
  obtain ⟨a0, a1, a2, a3, a4, a5, a6, a7, a8⟩ := k0.cells
  have HB := Lib.hid b1
  have HK := Lib.hid k0
  have HQ : Hid (dcheck d = if qcheck d.q ≠ 0 then qcheck d.q else scheck d.s) := Lib.hid rfl
  clear b1 k0 hls
  unfold QV QC at HC
  unfold DV
  unfold DC at a0 a1 a2 a3 a4 a5 a6 a7 a8 HC HB ⊢
  go_enter Try.func43, Try.ntmps43
  go_wp2_with fail
  refine HC.out.mono ?_
  rintro e w1 ⟨he, hb1⟩
  have HB1 := Lib.hid (HB.out.trans (hb1.mono HB.out.size))
  obtain ⟨-, -, -, -, -, -, -, b7, b8⟩ := DK.cells (HK.out.below hb1 HK.out.lt)
  clear a0 a1 a2 a3 a4 a5 a6 a7 a8 hb1
  by_cases hq : qcheck d.q = 0
  · rw [hq] at he HQ
    subst he
    go_wp2_with fail
    refine (csign_any d.s _).mono ?_
    rintro e w2 ⟨rfl, hb2⟩
    have HB2 := Lib.hid (HB1.out.trans (hb2.mono HB1.out.size))
    clear hb2 hq
    go_wp2_with fail
    go_ret
    exact ⟨by rw [HQ.out]; rfl, HB2.out⟩
  · have hd : (qcheck d.q != 0) = true := by simpa using hq
    rw [if_pos hq] at HQ
    subst he
    have hd2 : (qcheck d.q == 0) = false := by simpa using hq
    clear hq
    go_wp2_with fail
    go_ret
    exact ⟨by rw [HQ.out]; rfl, HB1.out⟩
end Go.Proofs.Ytjdmadfjfjenjaa.Jb

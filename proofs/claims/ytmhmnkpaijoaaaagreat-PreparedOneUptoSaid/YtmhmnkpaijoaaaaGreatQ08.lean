/-
  Layer 8 (request): batches in memory; the contracts of momentOf, checkSigned, isTwice, CheckBatch.
-/
import Derived.Test.YtmhmnkpaijoaaaaGreatQ07
import Derived.Laws.StructEq
import Derived.Deep.RegionHeld3
import Derived.Test.YtmhmnkpaijoaaaaGreatQ05
import Derived.Lib.MinMax
import Derived.Deep.QuietTactic
import Derived.BigQuiet
import Derived.RegionTactic
import Derived.Lib.ConvBytes
import Derived.BigRegion
namespace Go.Proofs.YtmhmnkpaijoaaaaGreat.Jb
set_option linter.unusedSimpArgs false
open Go Go.RowKit Ck Kw Ga Kf Pm Pe Pg Ph Qb Lk Jm Ja
attribute [local go_sem ↓] Go.wp_at_zero Go.wp_at_succ
set_option linter.unusedVariables false

theorem DC_len (p : Sd × (Option Addr × Nat)) : ((DC p.1 p.2.1 p.2.2).toList).length = 9 := rfl
/-- The cells of a batch: its requests' records lie where rs says. -/
def flat (l : List Sd) (rs : List (Option Addr × Nat)) : List Value := (l.zip rs).flatMap fun p => (DC p.1 p.2.1 p.2.2).toList
theorem zip_len {l : List Sd} {rs : List (Option Addr × Nat)} (h : rs.length = l.length) : (l.zip rs).length = l.length := by rw [List.length_zip]; omega
theorem flat_length {l : List Sd} {rs : List (Option Addr × Nat)} (h : rs.length = l.length) : (flat l rs).length = l.length * 9 := by rw [flat, flat_len DC_len, zip_len h]
/-- The value v is the batch l; all of it lies in no block of X. -/
def BI (w : World) (X : Nat → Prop) (v : Value) (l : List Sd) : Prop :=
  ∃ rs, rs.length = l.length ∧ Sl w X 9 v l.length (flat l rs) ∧ ∀ i (h : i < l.length), ∃ r, rs[i]? = some r ∧ Ls w X (.slice r.1 l[i].q.o.recs.length r.2) l[i].q.o.recs
section
variable {w w' : World} {X Y S : Nat → Prop} {v : Value} {l : List Sd}
theorem BI.after (h : BI w X v l) (hb : Below w.heap.size w w') : BI w' X v l := by
  obtain ⟨rs, h1, h2, h3⟩ := h
  exact ⟨rs, h1, h2.after hb, fun i hi => by obtain ⟨r, h4, h5⟩ := h3 i hi; exact ⟨r, h4, h5.after hb⟩⟩
theorem BI.weaken (h : BI w X v l) (hk : ∀ b, b < w.heap.size → Y b → X b) : BI w Y v l := by
  obtain ⟨rs, h1, h2, h3⟩ := h
  exact ⟨rs, h1, h2.weaken hk, fun i hi => by obtain ⟨r, h4, h5⟩ := h3 i hi; exact ⟨r, h4, h5.weaken hk⟩⟩
theorem BI.ch (h : BI w X v l) (c : Ch S w w') (hd : ∀ k, k < w.heap.size → S k → X k) : BI w' X v l := by
  obtain ⟨rs, h1, h2, h3⟩ := h
  exact ⟨rs, h1, h2.ch c hd, fun i hi => by obtain ⟨r, h4, h5⟩ := h3 i hi; exact ⟨r, h4, h5.ch c hd⟩⟩
theorem BI.shape (h : BI w X v l) : ∃ A c, v = .slice A l.length c ∧ l.length ≤ c := by
  obtain ⟨rs, h1, ⟨A, c, rfl, _, hc, _⟩, h3⟩ := h
  exact ⟨A, c, rfl, hc⟩
theorem bi_nil (w : World) (X : Nat → Prop) : BI w X (.slice none 0 0) [] := ⟨[], rfl, Sl.nil _ _ _, fun i hi => absurd hi (by simp)⟩
/-- What stands at a place of a batch. -/
def At9 (w : World) (ad : Addr) (d : Sd) (Ar : Option Addr) (cr : Nat) : Prop :=
  w.cell? ad = some (.int .i64 d.q.client) ∧ w.cell? ⟨ad.block, ad.off + 1, none⟩ = some (.int .i64 d.q.time) ∧ w.cell? ⟨ad.block, ad.off + 2, none⟩ = some (.int .i64 d.q.o.kind) ∧ w.cell? ⟨ad.block, ad.off + 3, none⟩ = some (.string ⟨d.q.o.topic.toArray⟩)
    ∧ w.cell? ⟨ad.block, ad.off + 4, none⟩ = some (.string ⟨d.q.o.group.toArray⟩) ∧ w.cell? ⟨ad.block, ad.off + 5, none⟩ = some (.int .i64 d.q.o.off) ∧ w.cell? ⟨ad.block, ad.off + 6, none⟩ = some (.slice Ar d.q.o.recs.length cr)
    ∧ w.cell? ⟨ad.block, ad.off + 7, none⟩ = some (.int .i64 d.s.1) ∧ w.cell? ⟨ad.block, ad.off + 8, none⟩ = some (.int .i64 d.s.2)
theorem BI.at_ {A : Option Addr} {n c i : Nat} (h : BI w X (.slice A n c) l) (hi : i < l.length) :
    ∃ ad Ar cr, A = some ad ∧ At9 w (ad.add (i * 9)) l[i] Ar cr ∧ Ls w X (.slice Ar l[i].q.o.recs.length cr) l[i].q.o.recs := by
  obtain ⟨rs, h1, ⟨A', c', hv, hl, hc, hm, hx⟩, h3⟩ := h
  injection hv with e1 e2 e3
  subst e1
  obtain ⟨⟨Ar, cr⟩, h4, h5⟩ := h3 i hi
  obtain ⟨ad, hA, hb, hX, hcell⟩ := hx (by omega)
  refine ⟨ad, Ar, cr, hA, ?_, h5⟩
  have hz : i < (l.zip rs).length := by rw [zip_len h1]; exact hi
  have hr : i < rs.length := by omega
  have he : (l.zip rs)[i] = (l[i], (Ar, cr)) := by
    rw [List.getElem_zip]
    have : rs[i] = (Ar, cr) := by have := List.getElem?_eq_getElem hr; rw [this] at h4; exact Option.some.inj h4
    rw [this]
  have hg : ∀ j, j < 9 → (flat l rs)[i * 9 + j]? = ((DC l[i] Ar cr).toList)[j]? := fun j hj => by
    rw [flat, flat_get DC_len _ _ hz j hj, he]
  have hof : ∀ j u, j < 9 → ((DC l[i] Ar cr).toList)[j]? = some u → w.cell? ((ad.add (i * 9)).add j) = some u := fun j u hj hu => by
    rw [add_add]
    exact hcell _ _ (by rw [hg j hj]; exact hu)
  generalize ad.add (i * 9) = a at hof ⊢
  have ha : ∀ j, 0 < j → a.add j = ⟨a.block, a.off + j, none⟩ := fun j hj => by unfold Addr.add; rw [if_neg (by omega)]
  have h0 : a.add 0 = a := by unfold Addr.add; rw [if_pos rfl]
  refine ⟨?_, ?_, ?_, ?_, ?_, ?_, ?_, ?_, ?_⟩
  · have := hof 0 _ (by omega) rfl; rwa [h0] at this
  · have := hof 1 _ (by omega) rfl; rwa [ha _ (by omega)] at this
  · have := hof 2 _ (by omega) rfl; rwa [ha _ (by omega)] at this
  · have := hof 3 _ (by omega) rfl; rwa [ha _ (by omega)] at this
  · have := hof 4 _ (by omega) rfl; rwa [ha _ (by omega)] at this
  · have := hof 5 _ (by omega) rfl; rwa [ha _ (by omega)] at this
  · have := hof 6 _ (by omega) rfl; rwa [ha _ (by omega)] at this
  · have := hof 7 _ (by omega) rfl; rwa [ha _ (by omega)] at this
  · have := hof 8 _ (by omega) rfl; rwa [ha _ (by omega)] at this
end

/-- A moment. -/
theorem size_moment : (Tryz.prog.info? 190).map (·.size) = some 2 := by kernel_rfl
theorem blk2 {w : World} {g : Nat} {t : TypeId} {a b x0 x1 : Value} (h : Blk w g t #[a, b]) : Blk ((w.setCell ⟨g, 0, none⟩ x0).setCell ⟨g, 1, none⟩ x1) g t #[x0, x1] := by
  have := (h.set_ 0 x0).set_ 1 x1
  simpa using this
def MV (d : Sd) : Value := .agg #[.int .i64 d.q.client, .int .i64 d.q.time]
set_option maxRecDepth 100000 in
set_option maxHeartbeats 1000000 in
theorem moment_any (d : Sd) (A : Option Addr) (c : Nat) (w : World) :
    Calls Tryz.prog 118 #[DV d A c] w fun e w' => e = .returned (MV d) ∧ Below w.heap.size w w' := by
  have b1 := op_below w (.cells (DC d A c) 113)
  have b2 : Below w.heap.size w ((w.alloc (.cells (DC d A c) 113)).alloc (.cells #[.int .i64 0, .int .i64 0] 190)) := b1.alloc b1.size _
  have k0 : DK ((w.alloc (.cells (DC d A c) 113)).alloc (.cells #[.int .i64 0, .int .i64 0] 190)) w.heap.size d A c := Blk.alloc (Blk.new w _ _) _
  obtain ⟨a0, a1, -⟩ := k0.cells
  clear b1 b2 k0
  unfold DV MV
  unfold DC at *
  go_enter Tryz.func118, Tryz.ntmps118
  go_wp2_with fail
  refine bodyPost_ret (results_row1 rfl _ _ (w.heap.size + 1) 190 #[.int .i64 d.q.client, .int .i64 d.q.time] (0, 0) _ rfl (Blk.new_at (by simp) rfl) Tryz.underlying190 rfl size_moment) rfl ?_
  exact ⟨rfl, (op_below w _).trans ((op_below _ _).mono (by simp))⟩
theorem guard_moment : Tryz.prog.eqGuardType Tryz.prog.depth 190 = false := by kernel_rfl
theorem stood_moment : Tryz.prog.stoodInHeld 190 = false := by kernel_rfl
theorem fields_moment : Tryz.prog.underlying 190 = some (.struct (Tryz.prog.fieldsOf 190)) := by kernel_rfl
theorem pair_beq (a b c e : Int) : ((a, b) == (c, e)) = (decide (a = c) && decide (b = e)) := by
  rw [Bool.eq_iff_iff]
  simp
theorem run_eql_moment (W : World) (x y : Sd) : (binOp .eql 190 (MV x) (MV y)).run Tryz.prog W = .ok (.bool (mom x == mom y)) W := by
  unfold MV mom
  obtain ⟨a, ha⟩ : ∃ a, a = x.q.client := ⟨_, rfl⟩
  obtain ⟨b, hb⟩ : ∃ b, b = x.q.time := ⟨_, rfl⟩
  obtain ⟨c, hc⟩ : ∃ c, c = y.q.client := ⟨_, rfl⟩
  obtain ⟨e, he⟩ : ∃ e, e = y.q.time := ⟨_, rfl⟩
  rw [← ha, ← hb, ← hc, ← he, pair_beq]
  rw [run_eql_struct, show (10000 : Nat) = 9998 + 1 + 1 from rfl, run_equalIn_struct W (9998 + 1) 190 _ _ fields_moment stood_moment]
  have hf : (Tryz.prog.fieldsOf 190).toList = [{ name := "client", type := 3, offset := 0, embedded := false, tag := "", pkgPath := "bulla/request", byteOffset := 0 }, { name := "time", type := 2, offset := 1, embedded := false, tag := "", pkgPath := "bulla/request", byteOffset := 8 }] := by kernel_rfl
  rw [hf]
  have h1 := fun (x y : Int) (W : World) => run_equalIn_int (P := Tryz.prog) W 9998 3 .i64 .i64 x y Tryz.underlying3
  have h2 := fun (x y : Int) (W : World) => run_equalIn_int (P := Tryz.prog) W 9998 2 .i64 .i64 x y Tryz.underlying2
  have p1 : ∀ (u v : Value) (W : World), (part 3 #[u, v] 0).run Tryz.prog W = .ok u W := fun u v W => by simp [part, isAgg, run_underlying Tryz.underlying3]
  have p2 : ∀ (u v : Value) (W : World), (part 2 #[u, v] 1).run Tryz.prog W = .ok v W := fun u v W => by simp [part, isAgg, run_underlying Tryz.underlying2]
  clear ha hb hc he
  by_cases hac : a = c
  · by_cases hbe : b = e
    · subst hac; subst hbe
      simp [Op.eqFields, p1, p2, h1, h2, Result.andThen]
    · subst hac
      simp [Op.eqFields, p1, p2, h1, h2, Result.andThen, hbe]
  · simp [Op.eqFields, p1, h1, Result.andThen, hac]

set_option maxHeartbeats 1000000 in
theorem signed_any (d : Sd) (A : Option Addr) (c : Nat) (X : Nat → Prop) (w : World) (hls : Ls w X (.slice A d.q.o.recs.length c) d.q.o.recs) (hl : d.q.o.recs.length ≤ 140737488355328) :
    Calls Tryz.prog 122 #[DV d A c] w fun e w' => e = .returned (.int .i64 (dcheck d)) ∧ Below w.heap.size w w' := by
  have b1 := op_below w (.cells (DC d A c) 113)
  have k0 : DK (w.alloc (.cells (DC d A c) 113)) w.heap.size d A c := Blk.new w _ _
  have HC := Lib.hid (check_any d.q (QV d.q A c) X _ ⟨A, c, rfl, hls.after b1⟩ hl)
  obtain ⟨a0, a1, a2, a3, a4, a5, a6, a7, a8⟩ := k0.cells
  have HB := Lib.hid b1
  have HK := Lib.hid k0
  have HQ : Hid (dcheck d = if qcheck d.q ≠ 0 then qcheck d.q else scheck d.s) := Lib.hid rfl
  clear b1 k0 hls
  unfold QV QC at HC
  unfold DV
  unfold DC at a0 a1 a2 a3 a4 a5 a6 a7 a8 HC HB ⊢
  go_enter Tryz.func122, Tryz.ntmps122
  go_wp2_with fail
  refine HC.out.mono ?_
  rintro e w1 ⟨he, hb1⟩
  have HB1 := Lib.hid (HB.out.trans (hb1.mono HB.out.size))
  obtain ⟨-, -, -, -, -, -, -, b7, b8⟩ := DK.cells (HK.out.below hb1 HK.out.lt)
  clear a0 a1 a2 a3 a4 a5 a6 a7 a8 hb1
  by_cases hq : qcheck d.q = 0
  · rw [hq] at he HQ
    subst he
    go_wp2_with fail
    refine (csign_any d.s _).mono ?_
    rintro e w2 ⟨rfl, hb2⟩
    have HB2 := Lib.hid (HB1.out.trans (hb2.mono HB1.out.size))
    clear hb2 hq
    go_wp2_with fail
    go_ret
    exact ⟨by rw [HQ.out]; rfl, HB2.out⟩
  · have hd : (qcheck d.q != 0) = true := by simpa using hq
    rw [if_pos hq] at HQ
    subst he
    have hd2 : (qcheck d.q == 0) = false := by simpa using hq
    clear hq
    go_wp2_with fail
    go_ret
    exact ⟨by rw [HQ.out]; rfl, HB1.out⟩
end Go.Proofs.YtmhmnkpaijoaaaaGreat.Jb

/-
  Layer 15 (prepared): signatures, certificates in memory.
-/
namespace Go.Proofs.YtmhmnkpaijoaaaaGreat.Prb
set_option linter.unusedSimpArgs false
open Go Go.RowKit Ck Kw Ga Kf Pm Jm Ja Jb Pra
set_option linter.unusedVariables false

def SC (s : Int × Int) : List Value := [.int .i64 s.1, .int .i64 s.2]
theorem SC_len (s : Int × Int) : (SC s).length = 2 := rfl
/-- The value v is these signatures; all of it lies in no block of X. -/
def SS (w : World) (X : Nat → Prop) (v : Value) (l : List (Int × Int)) : Prop := Sl w X 2 v l.length (l.flatMap SC)
section
variable {w w' : World} {X Y S : Nat → Prop} {v : Value} {l : List (Int × Int)}
theorem SS.after (h : SS w X v l) (hb : Below w.heap.size w w') : SS w' X v l := Sl.after h hb
theorem SS.weaken (h : SS w X v l) (hk : ∀ b, b < w.heap.size → Y b → X b) : SS w Y v l := Sl.weaken h hk
theorem SS.ch (h : SS w X v l) (c : Ch S w w') (hd : ∀ k, k < w.heap.size → S k → X k) : SS w' X v l := Sl.ch h c hd
theorem SS.at_ {A : Option Addr} {n c i : Nat} (h : SS w X (.slice A n c) l) (hi : i < l.length) : ∃ ad, A = some ad ∧ w.cell? (ad.add (i * 2)) = some (.int .i64 l[i].1) ∧ w.cell? ⟨(ad.add (i * 2)).block, (ad.add (i * 2)).off + 1, none⟩ = some (.int .i64 l[i].2) := by
  obtain ⟨A', c', hv, hl, hc, hm, hx⟩ := h
  injection hv with e1 e2 e3
  subst e1
  obtain ⟨ad, hA, hb, hX, hcell⟩ := hx (by omega)
  have h0 := hcell (i * 2 + 0) (.int .i64 l[i].1) (by rw [flat_get SC_len l i hi 0 (by omega)]; rfl)
  have h1 := hcell (i * 2 + 1) (.int .i64 l[i].2) (by rw [flat_get SC_len l i hi 1 (by omega)]; rfl)
  rw [← add_add] at h0 h1
  refine ⟨ad, hA, ?_, ?_⟩
  · generalize ad.add (i * 2) = a at *
    have e : a.add 0 = a := by unfold Addr.add; rw [if_pos rfl]
    rwa [e] at h0
  · generalize ad.add (i * 2) = a at *
    have e : a.add 1 = ⟨a.block, a.off + 1, none⟩ := by unfold Addr.add; rw [if_neg (by omega)]
    rwa [e] at h1
end
abbrev Pl2 := (Option Addr × Nat) × (Option Addr × Nat)
/-- The cells of a certificate: its signatures and its batch lie where r says. -/
def PC (p : Pd) (r : Pl2) : Array Value := #[.int .i64 p.view, .int .i64 p.seq, .int .i64 p.dig, .int .i64 p.first.1, .int .i64 p.first.2, .slice r.1.1 p.signs.length r.1.2, .slice r.2.1 p.batch.length r.2.2]
theorem PC_len (x : Pd × Pl2) : ((PC x.1 x.2).toList).length = 7 := rfl
theorem PC_one (p : Pd) (r : Pl2) : ∀ u ∈ (PC p r).toList, u.oneCell' = true := by
  intro u hu
  simp only [PC, List.mem_cons, List.not_mem_nil, or_false] at hu
  rcases hu with rfl | rfl | rfl | rfl | rfl | rfl | rfl <;> rfl
/-- What a certificate's cells point at. -/
structure PI (w : World) (X : Nat → Prop) (p : Pd) (r : Pl2) : Prop where
  signs : SS w X (.slice r.1.1 p.signs.length r.1.2) p.signs
  batch : BI w X (.slice r.2.1 p.batch.length r.2.2) p.batch
section
variable {w w' : World} {X Y S : Nat → Prop} {p : Pd} {r : Pl2}
theorem PI.after (h : PI w X p r) (hb : Below w.heap.size w w') : PI w' X p r := ⟨h.signs.after hb, h.batch.after hb⟩
theorem PI.weaken (h : PI w X p r) (hk : ∀ b, b < w.heap.size → Y b → X b) : PI w Y p r := ⟨h.signs.weaken hk, h.batch.weaken hk⟩
theorem PI.ch (h : PI w X p r) (c : Ch S w w') (hd : ∀ k, k < w.heap.size → S k → X k) : PI w' X p r := ⟨h.signs.ch c hd, h.batch.ch c hd⟩
end
def flatP (l : List Pd) (rs : List Pl2) : List Value := (l.zip rs).flatMap fun x => (PC x.1 x.2).toList
theorem zipP_len {l : List Pd} {rs : List Pl2} (h : rs.length = l.length) : (l.zip rs).length = l.length := by rw [List.length_zip]; omega
theorem flatP_length {l : List Pd} {rs : List Pl2} (h : rs.length = l.length) : (flatP l rs).length = l.length * 7 := by rw [flatP, flat_len PC_len, zipP_len h]
theorem flatP_one {l : List Pd} {rs : List Pl2} : ∀ u ∈ flatP l rs, u.oneCell' = true := by
  intro u hu
  obtain ⟨x, -, hx⟩ := List.mem_flatMap.1 hu
  exact PC_one _ _ u hx
theorem flatP_take (l : List Pd) (rs : List Pl2) (k : Nat) : flatP (l.take k) (rs.take k) = (flatP l rs).take (k * 7) := by
  unfold flatP
  have e : (l.take k).zip (rs.take k) = (l.zip rs).take k := by rw [List.zip_eq_zipWith, List.zip_eq_zipWith, List.take_zipWith]
  rw [e, flat_take PC_len]
theorem flatP_drop (l : List Pd) (rs : List Pl2) (k : Nat) : flatP (l.drop k) (rs.drop k) = (flatP l rs).drop (k * 7) := by
  unfold flatP
  have e : (l.drop k).zip (rs.drop k) = (l.zip rs).drop k := by rw [List.zip_eq_zipWith, List.zip_eq_zipWith, List.drop_zipWith]
  rw [e, flat_drop PC_len]
theorem flatP_app {l m : List Pd} {rs qs : List Pl2} (h : rs.length = l.length) : flatP (l ++ m) (rs ++ qs) = flatP l rs ++ flatP m qs := by
  unfold flatP
  rw [List.zip_append h.symm, List.flatMap_append]
theorem flatP_single (p : Pd) (r : Pl2) : flatP [p] [r] = (PC p r).toList := by simp [flatP]
/-- What stands at the places that rs says. -/
def Pts (w : World) (X : Nat → Prop) (l : List Pd) (rs : List Pl2) : Prop := rs.length = l.length ∧ ∀ i (h : i < l.length), ∃ r, rs[i]? = some r ∧ PI w X l[i] r
/-- The value v is these certificates; all of it lies in no block of X. -/
def PL (w : World) (X : Nat → Prop) (v : Value) (l : List Pd) : Prop := ∃ rs, Pts w X l rs ∧ Sl w X 7 v l.length (flatP l rs)
section
variable {w w' : World} {X Y S : Nat → Prop} {v : Value} {l m : List Pd} {rs qs : List Pl2}
theorem Pts.after (h : Pts w X l rs) (hb : Below w.heap.size w w') : Pts w' X l rs := ⟨h.1, fun i hi => by obtain ⟨r, h1, h2⟩ := h.2 i hi; exact ⟨r, h1, h2.after hb⟩⟩
theorem Pts.weaken (h : Pts w X l rs) (hk : ∀ b, b < w.heap.size → Y b → X b) : Pts w Y l rs := ⟨h.1, fun i hi => by obtain ⟨r, h1, h2⟩ := h.2 i hi; exact ⟨r, h1, h2.weaken hk⟩⟩
theorem Pts.ch (h : Pts w X l rs) (c : Ch S w w') (hd : ∀ k, k < w.heap.size → S k → X k) : Pts w' X l rs := ⟨h.1, fun i hi => by obtain ⟨r, h1, h2⟩ := h.2 i hi; exact ⟨r, h1, h2.ch c hd⟩⟩
theorem Pts.nil : Pts w X [] [] := ⟨rfl, fun i h => absurd h (by simp)⟩
theorem Pts.one {p : Pd} {r : Pl2} (h : PI w X p r) : Pts w X [p] [r] := ⟨rfl, fun i hi => by
  have : i = 0 := by simpa using hi
  subst this
  exact ⟨r, rfl, h⟩⟩
theorem Pts.take (h : Pts w X l rs) (k : Nat) : Pts w X (l.take k) (rs.take k) := by
  refine ⟨by rw [List.length_take, List.length_take, h.1], fun i hi => ?_⟩
  rw [List.length_take] at hi
  obtain ⟨r, h1, h2⟩ := h.2 i (by omega)
  refine ⟨r, by rw [List.getElem?_take, if_pos (by omega)]; exact h1, ?_⟩
  rw [List.getElem_take]
  exact h2
theorem Pts.drop (h : Pts w X l rs) (k : Nat) : Pts w X (l.drop k) (rs.drop k) := by
  refine ⟨by rw [List.length_drop, List.length_drop, h.1], fun i hi => ?_⟩
  rw [List.length_drop] at hi
  obtain ⟨r, h1, h2⟩ := h.2 (k + i) (by omega)
  refine ⟨r, by rw [List.getElem?_drop]; exact h1, ?_⟩
  rw [List.getElem_drop]
  exact h2
theorem Pts.app (h : Pts w X l rs) (k : Pts w X m qs) : Pts w X (l ++ m) (rs ++ qs) := by
  refine ⟨by rw [List.length_append, List.length_append, h.1, k.1], fun i hi => ?_⟩
  by_cases hlt : i < l.length
  · obtain ⟨r, h1, h2⟩ := h.2 i hlt
    refine ⟨r, by rw [List.getElem?_append_left (by rw [h.1]; exact hlt)]; exact h1, ?_⟩
    rw [List.getElem_append_left hlt]
    exact h2
  · rw [List.length_append] at hi
    obtain ⟨r, h1, h2⟩ := k.2 (i - l.length) (by omega)
    refine ⟨r, by rw [List.getElem?_append_right (by rw [h.1]; omega), h.1]; exact h1, ?_⟩
    rw [List.getElem_append_right (by omega)]
    exact h2
theorem PL.after (h : PL w X v l) (hb : Below w.heap.size w w') : PL w' X v l := by
  obtain ⟨rs, h1, h2⟩ := h
  exact ⟨rs, h1.after hb, h2.after hb⟩
theorem PL.weaken (h : PL w X v l) (hk : ∀ b, b < w.heap.size → Y b → X b) : PL w Y v l := by
  obtain ⟨rs, h1, h2⟩ := h
  exact ⟨rs, h1.weaken hk, h2.weaken hk⟩
theorem PL.ch (h : PL w X v l) (c : Ch S w w') (hd : ∀ k, k < w.heap.size → S k → X k) : PL w' X v l := by
  obtain ⟨rs, h1, h2⟩ := h
  exact ⟨rs, h1.ch c hd, h2.ch c hd⟩
theorem PL.shape (h : PL w X v l) : ∃ A c, v = .slice A l.length c ∧ l.length ≤ c := by
  obtain ⟨rs, h1, ⟨A, c, rfl, _, hc, _⟩⟩ := h
  exact ⟨A, c, rfl, hc⟩
theorem PL.nil (w : World) (X : Nat → Prop) : PL w X (.slice none 0 0) [] := ⟨[], Pts.nil, Sl.nil _ _ _⟩
/-- The first of them. -/
theorem PL.upto {A : Option Addr} {n c k : Nat} (h : PL w X (.slice A n c) l) (hk : k ≤ l.length) : PL w X (.slice A k c) (l.take k) := by
  obtain ⟨rs, h1, h2⟩ := h
  have hn : n = l.length := by obtain ⟨A', c', hv, _⟩ := h2; exact (Value.slice.inj hv).2.1
  subst hn
  refine ⟨rs.take k, h1.take k, ?_⟩
  rw [flatP_take, List.length_take, Nat.min_eq_left hk]
  exact h2.upto hk
/-- The others. -/
theorem PL.cut {A : Option Addr} {n c k : Nat} (h : PL w X (.slice A n c) l) (hk : k ≤ l.length) (A' : Option Addr) (hA : ∀ ad, A = some ad → k < l.length → A' = some (ad.add (k * 7))) : PL w X (.slice A' (l.length - k) (c - k)) (l.drop k) := by
  obtain ⟨rs, h1, h2⟩ := h
  have hn : n = l.length := by obtain ⟨A', c', hv, _⟩ := h2; exact (Value.slice.inj hv).2.1
  subst hn
  refine ⟨rs.drop k, h1.drop k, ?_⟩
  rw [flatP_drop, List.length_drop]
  exact h2.cut hk A' hA
/-- What stands at a place. -/
def At7 (w : World) (a : Addr) (p : Pd) (r : Pl2) : Prop :=
  w.cell? a = some (.int .i64 p.view) ∧ w.cell? ⟨a.block, a.off + 1, none⟩ = some (.int .i64 p.seq) ∧ w.cell? ⟨a.block, a.off + 2, none⟩ = some (.int .i64 p.dig) ∧ w.cell? ⟨a.block, a.off + 3, none⟩ = some (.int .i64 p.first.1) ∧ w.cell? ⟨a.block, a.off + 4, none⟩ = some (.int .i64 p.first.2)
    ∧ w.cell? ⟨a.block, a.off + 5, none⟩ = some (.slice r.1.1 p.signs.length r.1.2) ∧ w.cell? ⟨a.block, a.off + 6, none⟩ = some (.slice r.2.1 p.batch.length r.2.2)
theorem At7.later {w w' : World} {a : Addr} {p : Pd} {r : Pl2} (h : At7 w a p r) (b : Below w.heap.size w w') : At7 w' a p r := by
  have k : ∀ {a : Addr} {v : Value}, w.cell? a = some v → w'.cell? a = some v := fun {a v} hc => by rw [b.cell (World.block_lt_of_cell? w _ hc)]; exact hc
  obtain ⟨a0, a1, a2, a3, a4, a5, a6⟩ := h
  exact ⟨k a0, k a1, k a2, k a3, k a4, k a5, k a6⟩
theorem PL.at_ {A : Option Addr} {n c i : Nat} (h : PL w X (.slice A n c) l) (hi : i < l.length) : ∃ ad r, A = some ad ∧ At7 w (ad.add (i * 7)) l[i] r ∧ PI w X l[i] r := by
  obtain ⟨rs, ⟨h1, h3⟩, ⟨A', c', hv, hl, hc, hm, hx⟩⟩ := h
  injection hv with e1 e2 e3
  subst e1
  obtain ⟨r, h4, h5⟩ := h3 i hi
  obtain ⟨ad, hA, hb, hX, hcell⟩ := hx (by omega)
  refine ⟨ad, r, hA, ?_, h5⟩
  have hz : i < (l.zip rs).length := by rw [zipP_len h1]; exact hi
  have hr : i < rs.length := by omega
  have he : (l.zip rs)[i] = (l[i], r) := by
    rw [List.getElem_zip]
    have : rs[i] = r := by have := List.getElem?_eq_getElem hr; rw [this] at h4; exact Option.some.inj h4
    rw [this]
  have hof : ∀ j u, j < 7 → ((PC l[i] r).toList)[j]? = some u → w.cell? ((ad.add (i * 7)).add j) = some u := fun j u hj hu => by
    rw [add_add]
    refine hcell _ _ ?_
    rw [flatP, flat_get PC_len _ _ hz j hj, he]
    exact hu
  generalize ad.add (i * 7) = a at hof ⊢
  have ha : ∀ j, 0 < j → a.add j = ⟨a.block, a.off + j, none⟩ := fun j hj => by unfold Addr.add; rw [if_neg (by omega)]
  have h0 : a.add 0 = a := by unfold Addr.add; rw [if_pos rfl]
  refine ⟨?_, ?_, ?_, ?_, ?_, ?_, ?_⟩
  · have := hof 0 _ (by omega) rfl; rwa [h0] at this
  · have := hof 1 _ (by omega) rfl; rwa [ha _ (by omega)] at this
  · have := hof 2 _ (by omega) rfl; rwa [ha _ (by omega)] at this
  · have := hof 3 _ (by omega) rfl; rwa [ha _ (by omega)] at this
  · have := hof 4 _ (by omega) rfl; rwa [ha _ (by omega)] at this
  · have := hof 5 _ (by omega) rfl; rwa [ha _ (by omega)] at this
  · have := hof 6 _ (by omega) rfl; rwa [ha _ (by omega)] at this
end
end Go.Proofs.YtmhmnkpaijoaaaaGreat.Prb

/-
  Layer 15 (prepared): the document's Check, Brokers, Primary (layer 12), num, may (layer 11).
-/
namespace Go.Proofs.YtmhmnkpaijoaaaaGreat.Prh
set_option linter.unusedSimpArgs false
open Go Go.RowKit Ck Kw Ga Pra
attribute [local go_sem ↓] Go.wp_at_zero Go.wp_at_succ
set_option linter.unusedVariables false

/-- May so many be faulty? -/
def okF (f : Int) : Bool := decide (1 ≤ f) && decide (f ≤ 4)
theorem okF_yes {f : Int} (h : okF f = true) : 1 ≤ f ∧ f ≤ 4 := by simpa [okF] using h
theorem okF_no {f : Int} (h : okF f = false) : f < 1 ∨ 4 < f := by
  simp only [okF, Bool.and_eq_false_iff, decide_eq_false_iff_not] at h
  omega
def brokersP (f : Int) : Int := if okF f then 3 * f + 1 else 0
def primaryP (f v : Int) : Int := if okF f && !decide (v < 0) && !decide (9007199254740992 < v) then v % (3 * f + 1) else -1
def checkP (f : Int) : Int := if okF f then 0 else 120
theorem checkP_no {f : Int} (h : f < 1 ∨ 4 < f) : checkP f = 120 := by
  have : okF f = false := by
    simp only [okF, Bool.and_eq_false_iff, decide_eq_false_iff_not]
    omega
  simp [checkP, this]
theorem checkP_yes {f : Int} (h : ¬ f < 1) (h' : ¬ 4 < f) : checkP f = 0 := by
  have : okF f = true := by
    simp only [okF, Bool.and_eq_true, decide_eq_true_eq]
    omega
  simp [checkP, this]
theorem rcheck_any (w : World) (f : Int) : Calls Tryz.prog 33 #[.int .i64 f] w fun e w' => e = .returned (.int .i64 (checkP f)) ∧ w = w' := by
  by_cases h1 : f < 1
  · have HO : Hid (checkP f = 120) := Lib.hid (checkP_no (by omega))
    go_enter Tryz.func33, Tryz.ntmps33
    go_wp2_with fail
    go_ret
    exact ⟨by rw [HO.out]; rfl, rfl⟩
  · by_cases h2 : 4 < f
    · have HO : Hid (checkP f = 120) := Lib.hid (checkP_no (by omega))
      go_enter Tryz.func33, Tryz.ntmps33
      go_wp2_with fail
      go_ret
      exact ⟨by rw [HO.out]; rfl, rfl⟩
    · have HO : Hid (checkP f = 0) := Lib.hid (checkP_yes h1 h2)
      go_enter Tryz.func33, Tryz.ntmps33
      go_wp2_with fail
      go_ret
      exact ⟨by rw [HO.out]; rfl, rfl⟩
theorem rbrokers_any (w : World) (f : Int) : Calls Tryz.prog 55 #[.int .i64 f] w fun e w' => e = .returned (.int .i64 (brokersP f)) ∧ w = w' := by
  have HC := rcheck_any w f
  cases h : okF f with
  | true =>
    obtain ⟨h1, h2⟩ := okF_yes h
    have hcp : checkP f = 0 := by simp [checkP, h]
    rw [hcp] at HC
    have HC := Lib.hid HC
    clear hcp
    have w1 : IntKind.i64.wrap (3 * f) = 3 * f := wrap64 (by omega) (by omega)
    have w2 : IntKind.i64.wrap (3 * f + 1) = 3 * f + 1 := wrap64 (by omega) (by omega)
    have HB : Hid (brokersP f = 3 * f + 1) := Lib.hid (by simp [brokersP, h])
    clear h h1 h2
    go_enter Tryz.func55, Tryz.ntmps55
    go_wp2_with fail
    refine HC.out.mono ?_
    rintro e w1 ⟨rfl, rfl⟩
    go_wp2_with fail
    go_ret
    exact ⟨by rw [HB.out]; rfl, rfl⟩
  | false =>
    have hcp : checkP f = 120 := by simp [checkP, h]
    rw [hcp] at HC
    have HC := Lib.hid HC
    clear hcp
    have HB : Hid (brokersP f = 0) := Lib.hid (by simp [brokersP, h])
    clear h
    go_enter Tryz.func55, Tryz.ntmps55
    go_wp2_with fail
    refine HC.out.mono ?_
    rintro e w1 ⟨rfl, rfl⟩
    go_wp2_with fail
    go_ret
    exact ⟨by rw [HB.out]; rfl, rfl⟩
theorem rprimary_any (w : World) (f v : Int) : Calls Tryz.prog 53 #[.int .i64 f, .int .i64 v] w fun e w' => e = .returned (.int .i64 (primaryP f v)) ∧ w = w' := by
  have HC := rcheck_any w f
  have HBR := rbrokers_any w f
  cases h : okF f with
  | false =>
    have hcp : checkP f = 120 := by simp [checkP, h]
    rw [hcp] at HC
    have HC := Lib.hid HC
    clear hcp
    have HB : Hid (primaryP f v = -1) := Lib.hid (by simp [primaryP, h])
    clear h HBR
    go_enter Tryz.func53, Tryz.ntmps53
    go_wp2_with fail
    refine HC.out.mono ?_
    rintro e w1 ⟨rfl, rfl⟩
    go_wp2_with fail
    go_ret
    exact ⟨by rw [HB.out]; rfl, rfl⟩
  | true =>
    obtain ⟨h1, h2⟩ := okF_yes h
    have hcp : checkP f = 0 := by simp [checkP, h]
    rw [hcp] at HC
    have HC := Lib.hid HC
    clear hcp
    by_cases hv : v < 0
    · have HB : Hid (primaryP f v = -1) := Lib.hid (by simp [primaryP, hv])
      clear h HBR h1 h2
      go_enter Tryz.func53, Tryz.ntmps53
      go_wp2_with fail
      refine HC.out.mono ?_
      rintro e w1 ⟨rfl, rfl⟩
      go_wp2_with fail
      go_ret
      exact ⟨by rw [HB.out]; rfl, rfl⟩
    · by_cases hv2 : 9007199254740992 < v
      · have HB : Hid (primaryP f v = -1) := Lib.hid (by simp [primaryP, hv2])
        clear h HBR h1 h2
        go_enter Tryz.func53, Tryz.ntmps53
        go_wp2_with fail
        refine HC.out.mono ?_
        rintro e w1 ⟨rfl, rfl⟩
        go_wp2_with fail
        go_ret
        exact ⟨by rw [HB.out]; rfl, rfl⟩
      · have HB : Hid (primaryP f v = v % (3 * f + 1)) := Lib.hid (by simp [primaryP, h, hv, hv2])
        have hb : brokersP f = 3 * f + 1 := by simp [brokersP, h]
        obtain ⟨nb, hnb⟩ : ∃ nb, nb = 3 * f + 1 := ⟨_, rfl⟩
        rw [hb, ← hnb] at HBR
        rw [← hnb] at HB
        have HBR := Lib.hid HBR
        have hz : nb ≠ 0 := by omega
        have hm1 : Int.tmod v nb = v % nb := Int.tmod_eq_emod_of_nonneg (by omega)
        clear h h1 h2 hb hnb
        go_enter Tryz.func53, Tryz.ntmps53
        go_wp2_with fail
        refine HC.out.mono ?_
        rintro e w1 ⟨rfl, rfl⟩
        go_wp2_with fail
        refine HBR.out.mono ?_
        rintro e w1 ⟨rfl, rfl⟩
        go_wp2_with fail
        go_ret
        exact ⟨by rw [HB.out]; rfl, rfl⟩
end Go.Proofs.YtmhmnkpaijoaaaaGreat.Prh

/-
  Layer 15 (prepared): the document's num and may (layer 11).
-/
namespace Go.Proofs.YtmhmnkpaijoaaaaGreat.Pri
set_option linter.unusedSimpArgs false
open Go Go.RowKit Ck Kw Ga Pra Prh
attribute [local go_sem ↓] Go.wp_at_zero Go.wp_at_succ
set_option linter.unusedVariables false

def numP (n : Int) : Bool := decide (0 ≤ n) && decide (n ≤ 9007199254740992)
def mayP (k v s d : Int) : Bool := numP k && numP v && numP s && numP d
theorem num_any (w : World) (n : Int) : Calls Tryz.prog 103 #[.int .i64 n] w fun e w' => e = .returned (.bool (numP n)) ∧ w = w' := by
  have HN : Hid (numP n = (decide (0 ≤ n) && decide (n ≤ 9007199254740992))) := Lib.hid rfl
  by_cases h1 : 0 ≤ n
  · by_cases h2 : n ≤ 9007199254740992
    · have HO : Hid (numP n = true) := Lib.hid (by simp [numP, h1, h2])
      go_enter Tryz.func103, Tryz.ntmps103
      go_wp2_with fail
      go_ret
      exact ⟨by rw [HO.out]; rfl, rfl⟩
    · have HO : Hid (numP n = false) := Lib.hid (by simp [numP, h2])
      go_enter Tryz.func103, Tryz.ntmps103
      go_wp2_with fail
      go_ret
      exact ⟨by rw [HO.out]; rfl, rfl⟩
  · have HO : Hid (numP n = false) := Lib.hid (by simp [numP, h1])
    go_enter Tryz.func103, Tryz.ntmps103
    go_wp2_with fail
    go_ret
    exact ⟨by rw [HO.out]; rfl, rfl⟩
theorem may_any (w : World) (k v s d : Int) : Calls Tryz.prog 73 #[.int .i64 k, .int .i64 v, .int .i64 s, .int .i64 d] w fun e w' => e = .returned (.bool (mayP k v s d)) ∧ w = w' := by
  have H1 := num_any w k
  have H2 := num_any w v
  have H3 := num_any w s
  have H4 := num_any w d
  have HM : Hid (mayP k v s d = (numP k && numP v && numP s && numP d)) := Lib.hid rfl
  cases h1 : numP k with
  | false =>
    rw [h1] at H1 HM
    have H1 := Lib.hid H1
    clear H2 H3 H4 h1
    go_enter Tryz.func73, Tryz.ntmps73
    go_wp2_with fail
    refine H1.out.mono ?_
    rintro e w1 ⟨rfl, rfl⟩
    go_wp2_with fail
    go_ret
    exact ⟨by rw [HM.out]; rfl, rfl⟩
  | true =>
    rw [h1] at H1 HM
    have H1 := Lib.hid H1
    cases h2 : numP v with
    | false =>
      rw [h2] at H2 HM
      have H2 := Lib.hid H2
      clear H3 H4 h1 h2
      go_enter Tryz.func73, Tryz.ntmps73
      go_wp2_with fail
      refine H1.out.mono ?_
      rintro e w1 ⟨rfl, rfl⟩
      go_wp2_with fail
      refine H2.out.mono ?_
      rintro e w1 ⟨rfl, rfl⟩
      go_wp2_with fail
      go_ret
      exact ⟨by rw [HM.out]; rfl, rfl⟩
    | true =>
      rw [h2] at H2 HM
      have H2 := Lib.hid H2
      cases h3 : numP s with
      | false =>
        rw [h3] at H3 HM
        have H3 := Lib.hid H3
        clear H4 h1 h2 h3
        go_enter Tryz.func73, Tryz.ntmps73
        go_wp2_with fail
        refine H1.out.mono ?_
        rintro e w1 ⟨rfl, rfl⟩
        go_wp2_with fail
        refine H2.out.mono ?_
        rintro e w1 ⟨rfl, rfl⟩
        go_wp2_with fail
        refine H3.out.mono ?_
        rintro e w1 ⟨rfl, rfl⟩
        go_wp2_with fail
        go_ret
        exact ⟨by rw [HM.out]; rfl, rfl⟩
      | true =>
        rw [h3] at H3 HM
        have H3 := Lib.hid H3
        have H4 := Lib.hid H4
        have HM2 : Hid (mayP k v s d = numP d) := Lib.hid (by rw [HM.out]; rfl)
        generalize numP d = b at *
        clear h1 h2 h3 HM
        go_enter Tryz.func73, Tryz.ntmps73
        go_wp2_with fail
        refine H1.out.mono ?_
        rintro e w1 ⟨rfl, rfl⟩
        go_wp2_with fail
        refine H2.out.mono ?_
        rintro e w1 ⟨rfl, rfl⟩
        go_wp2_with fail
        refine H3.out.mono ?_
        rintro e w1 ⟨rfl, rfl⟩
        go_wp2_with fail
        refine H4.out.mono ?_
        rintro e w1 ⟨rfl, rfl⟩
        go_wp2_with fail
        go_ret
        exact ⟨by rw [HM2.out]; rfl, rfl⟩
end Go.Proofs.YtmhmnkpaijoaaaaGreat.Pri

/-
  Layer 15 (prepared): the document's bytes of a vote (layer 11).
-/
namespace Go.Proofs.YtmhmnkpaijoaaaaGreat.Prj
set_option linter.unusedSimpArgs false
open Go Go.RowKit Cm Ck Cd Kw Pra Prh Pri
attribute [local go_sem ↓] Go.wp_at_zero Go.wp_at_succ
set_option linter.unusedVariables false

theorem wrap_u64 (n : Nat) (hn : n < 18446744073709551616) : IntKind.u64.wrap (n : Int) = (n : Int) := by
  simp [IntKind.wrap, IntKind.bits, IntKind.signed]
  omega
/-- What a vote's signature stands over. -/
def voteB (k v s d : Nat) : List UInt8 := [4] ++ Cm.enc k ++ Cm.enc v ++ Cm.enc s ++ Cm.enc d
theorem put_any (X : Nat → Prop) (v : Value) (n : Nat) (b : List UInt8) (m : Nat) (w : World) (hv : Sl w X 1 v n (BVs b)) (hn : n ≤ 1000) (hm : m ≤ 9007199254740992) :
    Calls Tryz.prog 104 #[v, .int .i64 (m : Int)] w fun e w' => Made w 5 (b ++ Cm.enc m) e w' := by
  have HP := Lib.hid (rputnum_any X v n b m w hv (by omega) (by omega))
  have hmx : max (m : Int) 0 = (m : Int) := by omega
  have hc : IntKind.u64.wrap (m : Int) = (m : Int) := wrap_u64 m (by omega)
  clear hn hm hv
  go_enter Tryz.func104, Tryz.ntmps104
  go_wp2_with fail
  refine HP.out.mono ?_
  rintro e w1 ⟨v1, rfl, ho1, hb1⟩
  go_wp2_with fail
  go_ret
  exact ⟨v1, rfl, ho1, hb1⟩
theorem voteB_len {k v s d : Nat} : ([4] ++ Cm.enc k).length ≤ 11 ∧ ([4] ++ Cm.enc k ++ Cm.enc v).length ≤ 21 ∧ ([4] ++ Cm.enc k ++ Cm.enc v ++ Cm.enc s).length ≤ 31 ∧ (voteB k v s d).length ≤ 41 := by
  have h1 := Cm.enc_len k
  have h2 := Cm.enc_len v
  have h3 := Cm.enc_len s
  have h4 := Cm.enc_len d
  simp only [voteB, List.length_append, List.length_cons, List.length_nil]
  omega
theorem votebytes_any (w : World) (k v s d : Nat) (hk : k ≤ 9007199254740992) (hv : v ≤ 9007199254740992) (hs : s ≤ 9007199254740992) (hd : d ≤ 9007199254740992) :
    Calls Tryz.prog 75 #[.int .i64 (k : Int), .int .i64 (v : Int), .int .i64 (s : Int), .int .i64 (d : Int)] w fun e w' => Made w 5 (voteB k v s d) e w' := by
  have HL := Lib.hid (voteB_len (k := k) (v := v) (s := s) (d := d))
  have HH := Lib.hid (And.intro hk (And.intro hv (And.intro hs hd)))
  have h0 := one_new w (fun _ => False) 5 (z := 4) (n := 4) rfl (by omega) (fun h => h)
  have HP := Lib.hid (put_any (fun _ => False) _ 1 [4] k _ h0 (by omega) hk)
  have hb0 : Below w.heap.size w (w.alloc (.cells #[.int .u8 4] 5)) := (Below.refl _ w).alloc (Nat.le_refl _) _
  have HB0 := Lib.hid hb0
  clear hk hv hs hd h0 hb0
  go_enter Tryz.func75, Tryz.ntmps75
  go_wp2_with fail
  refine HP.out.mono ?_
  rintro e w1 ⟨v1, rfl, ho1, hb1⟩
  have HB1 := Lib.hid (HB0.out.trans (hb1.mono HB0.out.size))
  have HP1 := Lib.hid (put_any (fun _ => False) v1 _ _ v w1 (Sl.of_own ho1 (fun _ _ _ h => h)) (by have := HL.out.1; omega) HH.out.2.1)
  clear HP ho1 hb1
  go_wp2_with fail
  refine HP1.out.mono ?_
  rintro e w2 ⟨v2, rfl, ho2, hb2⟩
  have HB2 := Lib.hid (HB1.out.trans (hb2.mono HB1.out.size))
  have HP2 := Lib.hid (put_any (fun _ => False) v2 _ _ s w2 (Sl.of_own ho2 (fun _ _ _ h => h)) (by have := HL.out.2.1; omega) HH.out.2.2.1)
  clear HP1 ho2 hb2
  go_wp2_with fail
  refine HP2.out.mono ?_
  rintro e w3 ⟨v3, rfl, ho3, hb3⟩
  have HB3 := Lib.hid (HB2.out.trans (hb3.mono HB2.out.size))
  have HP3 := Lib.hid (put_any (fun _ => False) v3 _ _ d w3 (Sl.of_own ho3 (fun _ _ _ h => h)) (by have := HL.out.2.2.1; omega) HH.out.2.2.2)
  clear HP2 ho3 hb3
  go_wp2_with fail
  refine HP3.out.mono ?_
  rintro e w4 ⟨v4, rfl, ho4, hb4⟩
  have HB4 := Lib.hid (And.intro ho4 (And.intro hb4 (HB3.out.trans (hb4.mono HB3.out.size))))
  clear ho4 hb4
  go_wp2_with fail
  go_ret
  obtain ⟨q1, q2, q3⟩ := HB4.out
  refine ⟨v4, rfl, ?_, q3⟩
  refine ⟨q1.1, ?_⟩
  rcases q1.2 with h | ⟨gg, cc, cur, e1, e2, e3⟩
  · exact .inl h
  · exact .inr ⟨gg, cc, cur, e1, Nat.le_trans HB3.out.size e2, e3⟩
end Go.Proofs.YtmhmnkpaijoaaaaGreat.Prj

/-
  Contracts of the program's table that only read: made, Look, Len, Open.
-/
namespace Go.Proofs.YtmhmnkpaijoaaaaGreat.Ia
set_option linter.unusedSimpArgs false
set_option linter.unusedVariables false
set_option maxRecDepth 100000
open Go Go.RowKit Ck Im Kw Ik

theorem made_yes (w : World) (S : Nat → Prop) (p : Nat) (L : List Tx) (h : Tb w S p L) :
    Calls Tryz.prog 56 #[.pointer (some ⟨p, 0, none⟩)] w fun e w' => e = .returned (.bool true) ∧ w = w' := by
  obtain ⟨m, tv, D, h1, -⟩ := h
  have c0 : w.cell? ⟨p, 0, none⟩ = some (.map (some m)) := h1.cell 0
  have hq := fun W => run_neq_map_nil (P := Tryz.prog) W 133 9 31 (some m) Tryz.underlying133
  clear h1
  go_enter Tryz.func56, Tryz.ntmps56
  go_wp2
  go_ret
  exact ⟨rfl, rfl⟩
theorem made_nil (w : World) : Calls Tryz.prog 56 #[.pointer none] w fun e w' => e = .returned (.bool false) ∧ w = w' := by
  go_enter Tryz.func56, Tryz.ntmps56
  go_wp2
  go_ret
  exact ⟨rfl, rfl⟩
theorem len_yes (w : World) (S : Nat → Prop) (p : Nat) (L : List Tx) (h : Tb w S p L) :
    Calls Tryz.prog 16 #[.pointer (some ⟨p, 0, none⟩)] w fun e w' => e = .returned (.int .i64 L.length) ∧ w = w' := by
  have hm := made_yes w S p L h
  obtain ⟨m, tv, D, h1, -, -, hown, -⟩ := h
  obtain ⟨A, c, rfl⟩ := own_shape hown
  have c1 : w.cell? ⟨p, 1, none⟩ = some (.slice A L.length c) := h1.cell 1
  have HM := Lib.hid hm
  clear h1 hm hown
  go_enter Tryz.func16, Tryz.ntmps16
  go_wp2_with (go_at_call 56; refine HM.out.mono ?_; rintro e w' ⟨rfl, rfl⟩)
  go_ret
  exact ⟨rfl, rfl⟩
theorem law_str : Maps.Keyed Tryz.prog 9 := Maps.string_keyed Tryz.underlying9
theorem zero_digest (w : World) : (zeroValue 31).run Tryz.prog w = .ok (.int .i64 0) w := by kernel_rfl

/-- The map's look-up, in the document's words. -/
theorem run_look {w : World} {m n : Nat} {D : DataW Unit} {L : List Tx} (h : w.ownsMap Tryz.prog 9 (plainElem Tryz.prog 31) m n D) (hN : Nums D L) (s : Tx) (hs : s.length ≤ maxLen) :
    (Instr.lookup 133 (.map (some m)) (.string ⟨s.toArray⟩) true).run Tryz.prog w = .ok (.tuple #[.int .i64 (num L s : Int), .bool (isIn L s)]) w := by
  obtain ⟨v, ps, hrun, hv⟩ := h.look_ok law_str Tryz.underlying133 (zero_digest w) (zd := .lit (.int .i64 0)) (zp := []) (plainElem_int Tryz.underlying31 (by decide)) (key := .string ⟨s.toArray⟩) (kl := .string s)
    (by have := _root_.Go.WideMaps.keyOf_string_mk (P := Tryz.prog) Tryz.underlying9 (s := ⟨s.toArray⟩) (show s.toArray.size ≤ maxLen by simpa using hs); simpa using this)
  rw [(hN s).2] at hv
  obtain ⟨c, rfl, hc, _⟩ := plainElem_int_inv Tryz.underlying31 hv
  have hc : (DataW.lit (.int .i64 (num L s : Int)) : DataW Unit) = .lit (.int .i64 c) := congrArg Prod.fst hc
  injection hc with hc
  injection hc with _ hc
  rw [hrun, (hN s).1, hc]

set_option maxHeartbeats 400000 in
theorem look_yes (w : World) (S X : Nat → Prop) (p : Nat) (L : List Tx) (A : Option Addr) (c : Nat) (b : Tx) (h : Tb w S p L) (hb : Sl w X 1 (.slice A b.length c) b.length (BVs b)) (hl : b.length ≤ 140737488355328) :
    Calls Tryz.prog 76 #[.pointer (some ⟨p, 0, none⟩), .slice A b.length c] w fun e w' => e = .returned (.tuple #[.int .i64 (num L b : Int), .bool (isIn L b)]) ∧ ∃ n, w' = w.drewN n := by
  have hm := made_yes w S p L h
  obtain ⟨m, tv, D, h1, hown, hN, -⟩ := h
  have c0 : w.cell? ⟨p, 0, none⟩ = some (.map (some m)) := h1.cell 0
  have e1 := fun nq : Nat => run_convert_sl (P := Tryz.prog) (w.drewN nq) X 32 9 5 A c b Tryz.underlying32 Tryz.underlying5 Tryz.underlying9 (hb.drewN nq)
  have e2 := fun nq : Nat => run_look (w := w.drewN nq) (hown : (w.drewN nq).ownsMap _ _ _ _ _ _) hN b (by simp only [maxLen]; omega)
  have HM := Lib.hid hm
  clear h1 hm hown hN
  go_enter Tryz.func76, Tryz.ntmps76
  go_wp2_with (go_at_call 56; refine HM.out.mono ?_; rintro e w' ⟨rfl, rfl⟩)
  go_quiet (fail)
  go_wp2
  go_ret2
  exact ⟨rfl, _, rfl⟩
theorem look_nil (w : World) (v : Value) : Calls Tryz.prog 76 #[.pointer none, v] w fun e w' => e = .returned (.tuple #[.int .i64 0, .bool false]) ∧ w = w' := by
  go_enter Tryz.func76, Tryz.ntmps76
  go_wp2_with (go_at_call 56; refine (made_nil _).mono ?_; rintro e w' ⟨rfl, rfl⟩)
  go_ret2
  exact ⟨rfl, rfl⟩
end Go.Proofs.YtmhmnkpaijoaaaaGreat.Ia

/-
  Contracts of the program's table that make memory: Open, roomyTable, NewTable, Sum.
-/
namespace Go.Proofs.YtmhmnkpaijoaaaaGreat.Ib
set_option linter.unusedSimpArgs false
set_option linter.unusedVariables false
set_option maxRecDepth 100000
open Go Go.RowKit Ck Im Kw Ik Ia

theorem info_u8 : (Tryz.prog.info? 5).map (fun i => (i.zero, i.size, i.bytes)) = some (some (.int .u8 0), 1, 1) := by kernel_rfl
theorem info_str : (Tryz.prog.info? 9).map (fun i => (i.zero, i.size, i.bytes)) = some (some (.string ⟨#[]⟩), 1, 16) := by kernel_rfl
theorem info_sl : (Tryz.prog.info? 32).map (fun i => (i.zero, i.size, i.bytes)) = some (some (.slice none 0 0), 1, 24) := by kernel_rfl

/-- v is new bytes, made out of a text. -/
def Out (w : World) (base : Nat) (v : Value) (l : Tx) : Prop :=
  ∃ (g cap : Nat) (cs : Array Value) (z : Nat), v = .slice (some ⟨g, 0, none⟩) l.length cap ∧ base ≤ g ∧ w.heap[g]? = some (.cells cs 5 (z, z + 1)) ∧ l.length ≤ z ∧ l.length ≤ cap ∧ cap ≤ maxLen ∧ ∀ (j : Nat) (u : Value), (BVs l)[j]? = some u → cs[j]? = some u
theorem Out.sl {w : World} {base : Nat} {v : Value} {l : Tx} {X : Nat → Prop} (h : Out w base v l) (hX : ∀ k, base ≤ k → k < w.heap.size → ¬ X k) : Sl w X 1 v l.length (BVs l) := by
  obtain ⟨g, cap, cs, z, rfl, hb, hg, hz, hc, hm, hx⟩ := h
  have hlt := (Array.getElem?_eq_some_iff.1 hg).1
  refine ⟨_, _, rfl, by simp [BVs_len], hc, hm, fun _ => ⟨_, rfl, hlt, hX g hb hlt, fun j u hu => ?_⟩⟩
  have ha : (⟨g, 0, none⟩ : Addr).add j = ⟨g, j, none⟩ := by unfold Addr.add; split <;> simp_all
  rw [ha]
  simp only [World.cell?, hg]
  exact hx j u hu
theorem Out.ch {w w' : World} {base : Nat} {v : Value} {l : Tx} {S : Nat → Prop} (h : Out w base v l) (c : Ch S w w') (hS : ∀ k, base ≤ k → k < w.heap.size → ¬ S k) : Out w' base v l := by
  obtain ⟨g, cap, cs, z, rfl, hb, hg, r⟩ := h
  exact ⟨g, cap, cs, z, rfl, hb, (c.block g (Array.getElem?_eq_some_iff.1 hg).1 (hS g hb (Array.getElem?_eq_some_iff.1 hg).1)).trans hg, r⟩
theorem Out.base {w : World} {base b' : Nat} {v : Value} {l : Tx} (h : Out w base v l) (hb : b' ≤ base) : Out w b' v l := by
  obtain ⟨g, cap, cs, z, hv, h1, r⟩ := h
  exact ⟨g, cap, cs, z, hv, Nat.le_trans hb h1, r⟩
theorem bytesWorld_below (w : World) (e : TypeId) (s : ByteArray) : Below w.heap.size w (Lib.bytesWorld w e s) := by
  refine ⟨?_, ?_, ?_, by rw [Lib.bytesWorld_size]; omega, fun k hk => Lib.bytesWorld_at_old w e s k hk⟩ <;>
    (unfold Lib.bytesWorld World.freeze; split <;> rfl)
theorem bytesWorld_out (w : World) (l : Tx) (hl : l.length ≤ 140737488355328) : Out (Lib.bytesWorld w 5 ⟨l.toArray⟩) w.heap.size (.slice (some ⟨w.heap.size, 0, none⟩) l.length (grownCap w l.length 0 5)) l := by
  have hge := grownCap_ge w l.length 0 5
  refine ⟨w.heap.size, _, _, _, rfl, Nat.le_refl _, Lib.bytesWorld_at_new w 5 ⟨l.toArray⟩, ?_, hge, grownCap_le_maxLen w _ _ _ (by simp only [maxLen]; omega), fun j u hu => ?_⟩
  · show l.length ≤ ((l.toArray.map fun b : UInt8 => Value.int .u8 b.toNat) ++ Array.replicate _ _).size
    simp
  · have hj : j < l.length := by have := (List.getElem?_eq_some_iff.1 hu).1; rwa [BVs_len] at this
    show ((l.toArray.map fun b : UInt8 => Value.int .u8 b.toNat) ++ Array.replicate _ _)[j]? = some u
    rw [Array.getElem?_append_left (by simpa using hj)]
    rw [BVs_get hj] at hu
    simpa [hj] using hu

theorem three (w : World) (a b c : Obj) : (((w.alloc a).alloc b).alloc c).heap[w.heap.size]? = some a ∧ (((w.alloc a).alloc b).alloc c).heap[w.heap.size + 1]? = some b ∧ (((w.alloc a).alloc b).alloc c).heap[w.heap.size + 1 + 1]? = some c := by
  refine ⟨?_, ?_, ?_⟩
  · rw [Below.heap_alloc _ _ _ (by simp; omega), Below.heap_alloc _ _ _ (by simp)]
    exact heap_alloc_new w a
  · rw [Below.heap_alloc _ _ _ (by simp)]
    have := heap_alloc_new (w.alloc a) b
    simpa using this
  · have := heap_alloc_new ((w.alloc a).alloc b) c
    simpa using this
theorem three_below (w : World) (a b c : Obj) : Below w.heap.size w (((w.alloc a).alloc b).alloc c) := (((Below.refl _ w).alloc (Nat.le_refl _) _).alloc (by simp) _).alloc (by simp; omega) _
theorem tb_new {w : World} {S : Nat → Prop} {p m g n : Nat} {cs : Array Value} (h1 : Blk w p 136 #[.map (some m), .slice (some ⟨g, 0, none⟩) 0 n]) (h2 : w.heap[m]? = some (.map #[] 0))
    (h3 : w.heap[g]? = some (.cells cs 9 (0, 0))) (hs : cs.size = n) (hn : n ≤ maxLen) (sp : S p) (sm : S m) (sg : S g) : Tb w S p [] := by
  refine ⟨m, _, .map [], h1, ⟨#[], 0, h2, ⟨by simp, MapKept.stamped_empty 0, by simp⟩, Nat.le_refl _, rfl⟩, Nums.empty, ⟨rfl, .inr ⟨g, n, cs, rfl, Nat.zero_le _, h3, Nat.zero_le _, hn, by omega, by simp⟩⟩, sp, sm, ?_, by simp, by simp⟩
  intro k hk
  have hk : g = k := by simpa [Value.ownBlock] using hk
  subst hk
  exact sg

set_option maxHeartbeats 400000 in
theorem roomy_any (w : World) (n : Nat) (hn : n ≤ 1048576) :
    Calls Tryz.prog 67 #[.int .i64 n] w fun e w' => ∃ p, e = .returned (.pointer (some ⟨p, 0, none⟩)) ∧ Tb w' (New w w') p [] ∧ Below w.heap.size w w' := by
  have hmm : ∀ W : World, (Instr.makeMap 133 (some (.int .i64 (n : Int)))).run Tryz.prog W = .ok (.map (some W.heap.size)) (W.alloc (.map #[] 0)) := fun W => by
    simp [Instr.makeMap, run_underlying Tryz.underlying133, asInt, asIntOf]
  obtain ⟨i0, hi0, hz0, hz1, hz2⟩ := info_parts info_str
  have hms : ∀ W : World, (Instr.makeSlice 134 (.int .i64 0) (.int .i64 (n : Int))).run Tryz.prog W = .ok (.slice (some ⟨W.heap.size, 0, none⟩) 0 n) (W.alloc (.cells (madeCells (Value.string ⟨#[]⟩).cells n) 9)) := fun W => by
    have := run_make (P := Tryz.prog) W 134 9 i0 _ Tryz.underlying134 hi0 hz0 .i64 .i64 0 n (by omega) (by omega) (by rw [hz2]; omega) (by omega)
    rw [hz1] at this
    simpa using this
  clear hi0 hz0 hz1 hz2
  go_enter Tryz.func67, Tryz.ntmps67
  go_wp2
  go_region
  all_goals
    go_wp2
    go_ret
    refine ⟨_, rfl, ?_, below_drewN (three_below w _ _ _) 1⟩
    first
    | exact tb_new (m := w.heap.size) (g := w.heap.size + 1) (three w _ _ _).2.2 (three w _ _ _).1 (three w _ _ _).2.1 (size_madeCells _ _) (by simp only [maxLen]; omega) ⟨by omega, by simp; try omega⟩ ⟨by omega, by simp; try omega⟩ ⟨by omega, by simp; try omega⟩
    | exact tb_new (m := w.heap.size + 1) (g := w.heap.size) (three w _ _ _).2.2 (three w _ _ _).2.1 (three w _ _ _).1 (size_madeCells _ _) (by simp only [maxLen]; omega) ⟨by omega, by simp; try omega⟩ ⟨by omega, by simp; try omega⟩ ⟨by omega, by simp; try omega⟩

theorem newtable_any (w : World) :
    Calls Tryz.prog 39 #[] w fun e w' => ∃ p, e = .returned (.pointer (some ⟨p, 0, none⟩)) ∧ Tb w' (New w w') p [] ∧ Below w.heap.size w w' := by
  go_enter Tryz.func39, Tryz.ntmps39
  go_wp2_with (go_at_call 67; refine (roomy_any _ 0 (by omega)).mono ?_; rintro e w' ⟨p, rfl, h1, h2⟩)
  go_ret
  exact ⟨_, rfl, h1, h2⟩

theorem one_sv (w : World) (X : Nat → Prop) (t : TypeId) (u : Value) (hX : ¬ X w.heap.size) : Sl (w.alloc (.cells #[u] t)) X 1 (.slice (some ⟨w.heap.size, 0, none⟩) 1 1) 1 [u] :=
  ⟨_, _, rfl, rfl, Nat.le_refl _, by simp only [maxLen]; omega, fun _ => ⟨_, rfl, by simp, hX, fun j x hx => by
    have ha : (⟨w.heap.size, 0, none⟩ : Addr).add j = ⟨w.heap.size, j, none⟩ := by unfold Addr.add; split <;> simp_all
    rw [ha, Blk.cell (Blk.new w t _) j]
    simpa using hx⟩⟩
theorem svs_one (l : List Tx) : ∀ u ∈ l.map SV, u.oneCell' = true := by
  intro u hu
  simp only [List.mem_map] at hu
  obtain ⟨c, _, rfl⟩ := hu
  rfl

/-- What Sum leaves of the program's table. -/
def Summed (S : Nat → Prop) (p : Nat) (L : List Tx) (b : Tx) (w : World) (e : Ending) (w' : World) : Prop :=
  e = .returned (.int .i64 (sum L b : Int)) ∧ Tb w' (Up S w w') p (add L b) ∧ Ch S w w'

/-- The table's parts, for the walk. -/
def Parts (w : World) (S : Nat → Prop) (p m : Nat) (tv : Value) (D : DataW Unit) (L : List Tx) : Prop :=
  Blk w p 136 #[.map (some m), tv] ∧ w.ownsMap Tryz.prog 9 (plainElem Tryz.prog 31) m L.length D ∧ Nums D L ∧ w.ownsRow 0 9 1 tv L.length (L.map SV) ∧
    S p ∧ S m ∧ (∀ g, tv.ownBlock = some g → S g) ∧ ∀ l ∈ L, l.length ≤ 140737488355328
theorem tb_snoc {w w1 w2 : World} {S : Nat → Prop} {n p m : Nat} {tv tv1 : Value} {D : DataW Unit} {L : List Tx} {b : Tx} {o : Obj} (h : Parts (w.drewN n) S p m tv D L) (hk : num L b = 0) (hl : (L.length : Int) < 1048576) (hb : b.length ≤ 140737488355328)
    (happ : Appended ((w.drewN n).alloc o) 0 9 1 tv (L.length + 1) (L.map SV ++ [SV b]) tv1 w1)
    (hmap2 : w2.ownsMap Tryz.prog 9 (plainElem Tryz.prog 31) m (L.length + 1) (D.put (.string b) (.lit (.int .i64 ((L.length : Int) + 1)))))
    (hg2 : (w1.setCell ⟨p, 1, none⟩ tv1).grownBy w2 (some m)) : Tb w2 (Up S w w2) p (L ++ [b]) := by
  obtain ⟨h1, hmap, hN, hown, hp, hm, hg, hall⟩ := h
  have k0 := (h1.alloc o).grown happ.2.1 (Ne.symm (own_far hown h1 (by decide)))
  have hpm : m ≠ p := map_far hmap h1
  have hm1 := (hmap.alloc o).kept happ.2.1 (Ne.symm (map_row hmap hown))
  have c2 : Ch (fun k => k = p ∨ k = m) w1 w2 := ((Ch.refl _ w1).setCell (p := ⟨p, 1, none⟩) (fun _ => .inl rfl) tv1).trans (Ch.of_grown hg2 (S := fun k => k = m) (fun g hg _ => by injection hg with hg; exact hg.symm)) (fun _ _ h => .inr h)
  refine ⟨m, tv1, _, ?_, ?_, hN.put hmap.isMap (strKey b) hk, ?_, .inl hp, .inl hm, ?_, ?_, ?_⟩
  · exact (k0.set_ 1 tv1).grown hg2 (by simp; exact fun e => hpm e.symm)
  · rw [List.length_append]; exact hmap2
  · rw [List.length_append, List.map_append]
    refine own_ch happ.1 c2 (fun g hg' => ?_)
    rintro (rfl | rfl)
    · exact own_far happ.1 k0 (by decide) hg'
    · exact map_row hm1 happ.1 hg'
  · intro g hg'
    rcases happ.2.2 with h2 | h2
    · exact .inl (hg g (by rw [← h2]; exact hg'))
    · refine .inr ⟨?_, Nat.lt_of_lt_of_le (happ.1.lt g hg').2 c2.size⟩
      rw [h2] at hg'
      injection hg' with hg'
      subst hg'
      simp
  · intro l hl2
    rcases List.mem_append.1 hl2 with h2 | h2
    · exact hall l h2
    · simp only [List.mem_cons, List.not_mem_nil, or_false] at h2
      subst h2; exact hb
  · simp only [List.length_append, List.length_cons, List.length_nil]; omega
theorem ch_snoc {w w1 w2 : World} {S : Nat → Prop} {n p m : Nat} {tv tv1 : Value} {D : DataW Unit} {L : List Tx} {xs : List Value} {o : Obj} {k : Nat} (h : Parts (w.drewN n) S p m tv D L)
    (happ : Appended ((w.drewN n).alloc o) 0 9 1 tv k xs tv1 w1) (hg2 : (w1.setCell ⟨p, 1, none⟩ tv1).grownBy w2 (some m)) : Ch S w w2 := by
  obtain ⟨h1, hmap, hN, hown, hp, hm, hg, hall⟩ := h
  refine ((((Ch.refl S w).drewN n).alloc o).trans (Ch.of_grown happ.2.1 (S := S) (fun g hg' _ => hg g hg')) (fun _ _ h => h)).setCell (p := ⟨p, 1, none⟩) (fun _ => hp) tv1 |>.trans (Ch.of_grown hg2 (S := S) (fun g hg' _ => ?_)) (fun _ _ h => h)
  injection hg' with hg'
  subst hg'
  exact hm
theorem key_str (b : Tx) (hb : b.length ≤ maxLen) : keyOf Tryz.prog 9 (.string ⟨b.toArray⟩) = some (.string b) := by
  have := _root_.Go.WideMaps.keyOf_string_mk (P := Tryz.prog) Tryz.underlying9 (s := ⟨b.toArray⟩) (show b.toArray.size ≤ maxLen by simpa using hb)
  simpa using this

set_option maxRecDepth 100000 in
set_option maxHeartbeats 1000000 in
theorem sum_yes (w : World) (S X : Nat → Prop) (p : Nat) (L : List Tx) (A : Option Addr) (c : Nat) (b : Tx) (h : Tb w S p L) (hb : Sl w X 1 (.slice A b.length c) b.length (BVs b)) (hl : b.length ≤ 140737488355328) :
    Calls Tryz.prog 43 #[.pointer (some ⟨p, 0, none⟩), .slice A b.length c] w (Summed S p L b w) := by
  have HL := Lib.hid (look_yes w S X p L A c b h hb hl)
  have HM := fun n => made_yes (w.drewN n) S p L (h.drewN n)
  have HM := Lib.hid HM
  by_cases hk : num L b = 0
  · have hin := isIn_false hk
    obtain ⟨m, tv, D, h1, hmap, hN, hown, hp, hm, hg, hall, hL⟩ := h
    obtain ⟨A', c', rfl⟩ := own_shape hown
    by_cases hf : 1048576 ≤ L.length
    · obtain ⟨ha, hs⟩ := add_full hk hf
      have c1 : ∀ n, (w.drewN n).cell? ⟨p, 1, none⟩ = some (.slice A' L.length c') := fun _ => h1.cell 1
      have hT : Tb w S p L := ⟨m, _, D, h1, hmap, hN, hown, hp, hm, hg, hall, hL⟩
      have HT := Lib.hid hT
      have HA := Lib.hid ha
      have HS := Lib.hid hs
      have hk0 : (num L b : Int) = 0 := by omega
      have hf' : decide ((1048576 : Int) ≤ (L.length : Int)) = true := by rw [decide_eq_true_eq]; omega
      clear h1 hmap hN hown hp hm hg hall ha hs hT hk hf hL hl hb
      go_enter Tryz.func43, Tryz.ntmps43
      go_wp2_with (first
        | (go_at_call 76; refine HL.out.mono ?_; rintro e w' ⟨rfl, n, rfl⟩)
        | (go_at_call 56; refine (HM.out _).mono ?_; rintro e w' ⟨rfl, rfl⟩))
      go_ret
      refine ⟨by rw [HS.out]; rfl, ?_, (Ch.refl S w).drewN _⟩
      rw [HA.out]
      exact (HT.out.drewN _).weaken (fun k hk => .inl hk)
    · obtain ⟨ha, hs⟩ := add_new hk hf
      have HA := Lib.hid ha
      have HS := Lib.hid hs
      have e1 := fun n : Nat => run_convert_sl (P := Tryz.prog) (w.drewN n) X 32 9 5 A c b Tryz.underlying32 Tryz.underlying5 Tryz.underlying9 (hb.drewN n)
      have HH : Hid (∀ n, Parts (w.drewN n) S p m (.slice A' L.length c') D L) := Lib.hid fun n => ⟨h1, hmap, hN, hown, hp, hm, hg, hall⟩
      have hf' : decide ((1048576 : Int) ≤ (L.length : Int)) = false := by rw [decide_eq_false_iff_not]; omega
      have hlt : L.length ≤ 2000000 := by omega
      have HK := Lib.hid hk
      have HB := Lib.hid hl
      have HK2 : Hid (keyOf Tryz.prog 9 (.string ⟨b.toArray⟩) = some (.string b)) := Lib.hid (key_str b (by simp only [maxLen]; omega))
      have c1 : ∀ n, (w.drewN n).cell? ⟨p, 1, none⟩ = some (.slice A' L.length c') := fun _ => h1.cell 1
      obtain ⟨i0, hi0, hz0, hz1, hz2⟩ := info_parts info_str
      have hk0 : (num L b : Int) = 0 := by omega
      clear ha hs hk hf h1 hmap hN hown hp hm hg hall hL hl hb
      go_enter Tryz.func43, Tryz.ntmps43
      go_wp2_with (first
        | (go_at_call 76; refine HL.out.mono ?_; rintro e w' ⟨rfl, n, rfl⟩)
        | (go_at_call 56; refine (HM.out _).mono ?_; rintro e w' ⟨rfl, rfl⟩)
        | (at_builtin; refine wpList_append_sh _ rfl (.tmp 41) (.tmp 43) _ rfl 0 9 i0 _ 1 16 Tryz.underlying134 hi0 hz0 hz1 hz2 rfl (by omega) (.slice A' L.length c') L.length (L.map SV) rfl ((HH.out n).2.2.2.1.alloc _) (fun _ => False) _ 1 [SV b] rfl (one_sv (w.drewN n) _ _ _ (fun h => h)) (svs_one [b]) (by simp only [maxLen]; omega) (by omega) (Nat.zero_le _) ?_; intro A1 d1 w1 happ; have k0 := ((HH.out n).1.alloc (.cells #[SV b] 9)).grown happ.2.1 (Ne.symm (own_far (HH.out n).2.2.2.1 (HH.out n).1 (by decide))); have k1 := k0.cell 1; have k2 := k0.frozen 1; have k3 := k0.cell 0; simp only [List.getElem?_toArray, List.getElem?_cons_zero, List.getElem?_cons_succ] at k1 k3)
        | (at_mapUpdate; refine wpList_mapUpdate_own (H := Unit) _ rfl _ _ _ 133 rfl 9 31 law_str Tryz.underlying133 (plainElem Tryz.prog 31) m L.length D rfl ((((HH.out n).2.1.alloc _).kept happ.2.1 (Ne.symm (map_row (HH.out n).2.1 (HH.out n).2.2.2.1))).setCell (map_far (HH.out n).2.1 (HH.out n).1) _) (by simp only [maxLen]; omega) _ _ (.string b) rfl rfl HK2.out (.lit (.int .i64 ((L.length : Int) + 1))) [] (plainElem_int Tryz.underlying31 (WalkArith.wf_i64 (by omega))) ?_; intro w2 hmap2 hgrow2))
      go_ret
      refine ⟨by rw [HS.out]; rfl, ?_, ?_⟩
      · rw [HA.out]
        exact tb_snoc (HH.out n) HK.out (by rw [decide_eq_false_iff_not] at hf'; omega) HB.out happ hmap2 hgrow2
      · exact ch_snoc (HH.out n) happ hgrow2
  · have hin := isIn_true hk
    obtain ⟨ha, hs⟩ := add_known hk
    have HT := Lib.hid h
    have HA := Lib.hid ha
    have HS := Lib.hid hs
    clear h ha hs
    go_enter Tryz.func43, Tryz.ntmps43
    go_wp2_with (go_at_call 76; refine HL.out.mono ?_; rintro e w' ⟨rfl, n, rfl⟩)
    go_ret
    refine ⟨by rw [HS.out]; rfl, ?_, (Ch.refl S w).drewN _⟩
    rw [HA.out]
    exact (HT.out.drewN _).weaken (fun k hk => .inl hk)

end Go.Proofs.YtmhmnkpaijoaaaaGreat.Ib

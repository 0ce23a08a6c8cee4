/-
  Layer 7: the contract of the document's publish.
-/
import Derived.Test.YtkoedonllfmaaaaGreatVD19
import Derived.Test.YtkoedonllfmaaaaGreatVD21
import Derived.Test.YtkoedonllfmaaaaGreatVD08
import Derived.Test.YtkoedonllfmaaaaGreatVD15
namespace Go.Proofs.YtkoedonllfmaaaaGreat.Xs
set_option linter.unusedSimpArgs false
open Go Go.RowKit Ck Kw Ga Kf Km Pm Pe Pz Py Tm Tn Tq Ah Ta Tb Xr
attribute [local go_sem ↓] Go.wp_at_zero Go.wp_at_succ
set_option linter.unusedVariables false
set_option maxRecDepth 100000

theorem info_rec : (Tryz.prog.info? 55).map (fun i => (i.zero, i.size, i.bytes)) = some (some (.slice none 0 0), 1, 24) := by kernel_rfl
theorem info_u8 : (Tryz.prog.info? 5).map (fun i => (i.zero, i.size, i.bytes)) = some (some (.int .u8 0), 1, 1) := by kernel_rfl
def pubT (L : List Tp) (i : Nat) (t : Tp) (rs : List Tx) : (Int × Int) × List (Tx × Int × Tx) × List Tp :=
  if 64 < t.recs.length + rs.length ∨ maxNum - (rs.length : Int) < t.next then ((71, 0), [], L) else ((0, t.next), placed t.n t.next rs, L.set i { t with recs := t.recs ++ rs })
/-- The three boxes of publish. -/
structure PB (w : World) (o : O) (A : Option Addr) (c : Nat) (t : Tp) (rv gv : Value) (W : World) : Prop where
  below : Below w.heap.size w W
  op : Blk W w.heap.size 38 #[.int .i64 o.kind, .string ⟨o.topic.toArray⟩, .string ⟨o.group.toArray⟩, .int .i64 o.off, .slice A o.recs.length c]
  res : Blk W (w.heap.size + 1) 30 #[.int .i64 0, .int .i64 0]
  top : Blk W (w.heap.size + 1 + 1) 74 #[.string ⟨t.n.toArray⟩, .int .i64 t.base, rv, gv]
theorem PB.later {w W W' : World} {o : O} {A : Option Addr} {c : Nat} {t : Tp} {rv gv : Value} (h : PB w o A c t rv gv W) (b : Below W.heap.size W W') : PB w o A c t rv gv W' :=
  ⟨h.below.trans (b.mono h.below.size), h.op.below b h.op.lt, h.res.below b h.res.lt, h.top.below b h.top.lt⟩
theorem pb_new (w : World) (o : O) (A : Option Addr) (c : Nat) (t : Tp) (rv gv : Value) : PB w o A c t rv gv (((w.alloc (.cells #[.int .i64 o.kind, .string ⟨o.topic.toArray⟩, .string ⟨o.group.toArray⟩, .int .i64 o.off, .slice A o.recs.length c] 38)).alloc (.cells #[.int .i64 0, .int .i64 0] 30)).alloc (.cells #[.string ⟨t.n.toArray⟩, .int .i64 t.base, rv, gv] 74)) :=
  ⟨((op_below w _).trans ((op_below _ _).mono (by simp))).trans ((op_below _ _).mono (by simp; omega)), ((Blk.new w _ _).alloc _).alloc _, Blk.alloc (Blk.new_at (by simp) rfl) _, Blk.new_at (by simp) rfl⟩
theorem row_put {w : World} {B g n c j : Nat} {e : TypeId} {xs : List Value} (h : w.ownsRow B e 4 (.slice (some ⟨g, 0, none⟩) n c) n xs) (hj : j < n * 4) (v : Value) : (w.setCell ⟨g, j, none⟩ v).ownsRow B e 4 (.slice (some ⟨g, 0, none⟩) n c) n (xs.set j v) := by
  obtain ⟨h1, h2⟩ := h
  rcases h2 with ⟨h2, -⟩ | ⟨g', c', cur, hv, hB, hb, hn, hm, hs, ht⟩
  · cases h2
  · obtain ⟨e1, e2, e3⟩ := Value.slice.inj hv
    simp only [Option.some.injEq, Addr.mk.injEq, and_true] at e1
    subst e1 e3
    refine ⟨by rw [List.length_set]; exact h1, .inr ⟨g, c, cur.setIfInBounds j v, rfl, hB, Blk.set_ hb j v, hn, hm, by simpa using hs, ?_⟩⟩
    rw [Array.toList_setIfInBounds, List.take_set, ht]
theorem TCs_put {x' : Tw} {j : Nat} {v : Value} (hj : j < 4) : ∀ (l : List Tw) (i : Nat) (hi : i < l.length), TC x' = (TC l[i]).set j v → TCs (l.set i x') = (TCs l).set (i * 4 + j) v
  | y :: l, 0, _, he => by
    simp only [List.getElem_cons_zero] at he
    rw [List.set_cons_zero, TCs_cons, TCs_cons, he, List.set_append, if_pos (by rw [TC_len]; omega)]
    simp
  | y :: l, i + 1, hi, he => by
    rw [List.set_cons_succ, TCs_cons, TCs_cons, TCs_put hj l i (by simpa using hi) (by simpa using he), List.set_append, if_neg (by rw [TC_len]; omega), TC_len, show (i + 1) * 4 + j - 4 = i * 4 + j by omega]
/-- One topic's cell is turned in place; its new records or groups lie in new blocks. -/
theorem tparts_put {w W : World} {S : Nat → Prop} {q i j c : Nat} {l : List Tw} {last : List An} {ad : Addr} {x' : Tw} {v : Value} (hP : TParts w S q l last (.slice (some ad) l.length c)) (had : ad = ⟨ad.block, 0, none⟩) (hi : i < l.length) (hj : j < 4) (hb : Below w.heap.size w W)
    (he : TC x' = (TC l[i]).set j v) (hx : TwOk W (fun k => ¬ (Up S w W k) ∨ k = q ∨ some ad.block = some k) x') :
    TParts (W.setCell ⟨ad.block, i * 4 + j, none⟩ v) (Up S w (W.setCell ⟨ad.block, i * 4 + j, none⟩ v)) q (l.set i x') last (.slice (some ad) l.length c) := by
  have hlt := hP.blk.lt
  have hsz : (W.setCell ⟨ad.block, i * 4 + j, none⟩ v).heap.size = W.heap.size := by simp
  have hrow := own_below hP.row hb
  have hne : q ≠ ad.block := fun e => own_far hP.row hP.blk (by decide) (by show some ad.block = some q; rw [e])
  have ca : Ch (fun k => k = ad.block) W (W.setCell ⟨ad.block, i * 4 + j, none⟩ v) := (Ch.refl (fun k => k = ad.block) W).setCell (p := ⟨ad.block, i * 4 + j, none⟩) (fun _ => rfl) _
  have c1 : Ch (fun k => k = ad.block) w (W.setCell ⟨ad.block, i * 4 + j, none⟩ v) := (Ch.of_below (S := fun k => k = ad.block) hb (Nat.le_refl _)).trans ca (fun k _ h => h)
  refine ⟨(hP.blk.below hb hlt).ch ca hne, ?_, .inl hP.sq, fun k hk => .inl (hP.slv k hk), fun y hy => ?_⟩
  · rw [had] at hrow ⊢
    rw [List.length_set, TCs_put hj l i hi he]
    exact row_put hrow (by omega) v
  · rcases List.mem_or_eq_of_mem_set hy with hy | rfl
    · exact (hP.each y hy).move c1 (fun k _ hk => .inr (.inr (by show some ad.block = some k; rw [hk]))) (fun k hk hY => by
        rcases hY with hY | hY
        · exact .inl (fun hs => hY (.inl hs))
        · exact .inr hY)
    · exact hx.move ca (fun k _ hk => .inr (.inr (by rw [hk]))) (fun k hk hY => by
        rcases hY with hY | hY
        · exact .inl (fun hu => hY (by unfold Up at hu ⊢; rw [hsz]; exact hu))
        · exact .inr hY)
open Xl in
theorem pub_round {B k r : Nat} {wr w1 w2 w2' w3 : World} {pl : List Pq} {vs : List Value} {x : Pq} {vo vo' vl vl' : Value} (hB : B ≤ wr.heap.size) (ho : wr.ownsRow B 59 3 vo k (PCs pl)) (hl : wr.ownsRow B 55 1 vl r (vs ++ pl.map (·.2))) (he : ∀ y ∈ pl, wr.ownsRow B 5 1 y.2 y.1.2.2.length (BVs y.1.2.2))
    (b1 : Below wr.heap.size wr w1) (hx : w1.ownsRow wr.heap.size 5 1 x.2 x.1.2.2.length (BVs x.1.2.2)) (h2 : Appended w1 B 59 3 vo (k + 1) (PCs pl ++ PCs [x]) vo' w2) (b2 : Below w2.heap.size w2 w2')
    (h3 : Appended w2' B 55 1 vl (r + 1) ((vs ++ pl.map (·.2)) ++ [x.2]) vl' w3) :
    w3.ownsRow B 59 3 vo' (k + 1) (PCs (pl ++ [x])) ∧ w3.ownsRow B 55 1 vl' (r + 1) (vs ++ (pl ++ [x]).map (·.2)) ∧ (∀ y ∈ pl ++ [x], w3.ownsRow B 5 1 y.2 y.1.2.2.length (BVs y.1.2.2)) ∧ Below B wr w3 := by
  have c2 : Ch (fun g => vo.ownBlock = some g) w1 w2 := Ch.of_grown h2.2.1 (fun g hg _ => hg)
  have c3 : Ch (fun g => vl.ownBlock = some g) w2' w3 := Ch.of_grown h3.2.1 (fun g hg _ => hg)
  have ho1 := own_below ho b1
  have hl1 := own_below hl b1
  have hl2 := own_below (own_ch hl1 c2 (fun g hg e => rows_far hl1 ho1 (by decide) g hg e)) b2
  have each : ∀ {u : Value} {n : Nat} {ys : List Value}, w1.ownsRow B 5 1 u n ys → w3.ownsRow B 5 1 u n ys := fun {u n ys} hu => by
    have hu2 := own_below (own_ch hu c2 (fun g hg e => rows_far hu ho1 (by decide) g hg e)) b2
    exact own_ch hu2 c3 (fun g hg e => rows_far hu2 hl2 (by decide) g hg e)
  have hv2 := own_below h2.1 b2
  have s1 := b1.size
  have s2 := c2.size
  have s3 := b2.size
  refine ⟨?_, ?_, fun y hy => ?_, ?_⟩
  · rw [show PCs (pl ++ [x]) = PCs pl ++ PCs [x] by simp [PCs]]
    exact own_ch hv2 c3 (fun g hg e => rows_far hv2 hl2 (by decide) g hg e)
  · rw [List.map_append, ← List.append_assoc]
    exact h3.1
  · rcases List.mem_append.1 hy with hy | hy
    · exact each (own_below (he y hy) b1)
    · rw [List.mem_singleton] at hy
      subst hy
      exact each (own_base hx hB)
  · have d1 := b1.mono hB
    have d2 := d1.trans (c2.below (B := B) (fun g hg e => by have := (ho1.lt g e).1; omega) (by omega))
    exact (d2.trans (b2.mono (by omega))).trans (c3.below (B := B) (fun g hg e => by have := (hl2.lt g e).1; omega) (by omega))
theorem placed_get (n : Tx) : ∀ (rs : List Tx) (k : Int) (i : Nat) (hi : i < rs.length), (placed n k rs)[i]? = some (n, k + (i : Int), rs[i])
  | r :: rs, k, 0, hi => by simp [placed]
  | r :: rs, k, i + 1, hi => by
    rw [placed, List.getElem?_cons_succ, placed_get n rs (k + 1) i (by simpa using hi), List.getElem_cons_succ, show k + 1 + (i : Int) = k + ((i + 1 : Nat) : Int) by omega]
set_option maxHeartbeats 4000000 in
theorem rpublish_any (w : World) (S : Nat → Prop) (q i : Nat) (m : St) (t : Tp) (o : O) (X : Nat → Prop) (A : Option Addr) (c : Nat) (h : Tk w S q m) (hg : GoodL m.L) (hi : m.L[i]? = some t) (hls : Ls w X (.slice A o.recs.length c) o.recs) (h4 : o.recs.length ≤ 64) (h64 : ∀ x ∈ o.recs, x.length ≤ 64) :
    Calls Tryz.prog 49 #[.pointer (some ⟨q, 0, none⟩), .int .i64 (i : Int), .agg #[.int .i64 o.kind, .string ⟨o.topic.toArray⟩, .string ⟨o.group.toArray⟩, .int .i64 o.off, .slice A o.recs.length c]] w fun e w' =>
      ∃ v, e = .returned (.tuple #[.agg #[.int .i64 (pubT m.L i t o.recs).1.1, .int .i64 (pubT m.L i t o.recs).1.2], v]) ∧ Ps w' w.heap.size v (pubT m.L i t o.recs).2.1 ∧ RDone S q ⟨(pubT m.L i t o.recs).2.2, m.last⟩ w w' := by
  have H := Lib.hid h
  obtain ⟨l, lv, hL, hP⟩ := h.bound
  obtain ⟨hlt, hli⟩ := row_of hL hi
  have hft : FitT t := hg.fit t (by obtain ⟨hh, e⟩ := List.getElem?_eq_some_iff.1 hi; rw [← e]; exact List.getElem_mem hh)
  have hl8 : l.length ≤ 8 := by rw [← rows_len hL]; exact hg.few
  obtain ⟨Al, cl, rfl, hlc⟩ := hP.shape
  obtain ⟨ad, rfl, had, hadq, hat⟩ := hP.at_ hlt
  have c0 : w.cell? ⟨q, 0, none⟩ = some (.slice (some ad) l.length cl) := by have := hP.blk.cell 0; simpa using this
  have htw := hP.each l[i] (List.getElem_mem hlt)
  obtain ⟨vs, hvl, hvr⟩ := htw.recs
  obtain ⟨Ar, cr, hrv, -⟩ := id hvl
  obtain ⟨Ag, cg, hgv, -⟩ := id htw.gs
  generalize hx : l[i] = x at *
  obtain ⟨t', rv, gv⟩ := x
  simp only at hli hrv hgv htw hvl hvr
  subst hli hrv hgv
  obtain ⟨a0, a1, a2, a3, f0, f1, f2, f3⟩ := hat
  simp only at a0 a1 a2 a3
  have HPB := Lib.hid (pb_new w o A c t' (.slice Ar t'.recs.length cr) (.slice Ag t'.gs.length cg))
  have HP := Lib.hid hP
  have HL := Lib.hid hL
  have HX := Lib.hid hx
  have HTW := Lib.hid htw
  have HLS := Lib.hid hls
  have HAD := Lib.hid (And.intro had (And.intro hadq (And.intro f2 hg)))
  have hil : (i : Int) < (l.length : Int) := by omega
  have hn0 := hft.base
  have hn1 := hft.next
  have hb2 : Below w.heap.size w ((w.alloc (.cells #[.int .i64 o.kind, .string ⟨o.topic.toArray⟩, .string ⟨o.group.toArray⟩, .int .i64 o.off, .slice A o.recs.length c] 38)).alloc (.cells #[.int .i64 0, .int .i64 0] 30)) := (op_below w _).trans ((op_below _ _).mono (by simp))
  have kp : ∀ {a : Addr} {v : Value}, w.cell? a = some v → ((w.alloc (.cells #[.int .i64 o.kind, .string ⟨o.topic.toArray⟩, .string ⟨o.group.toArray⟩, .int .i64 o.off, .slice A o.recs.length c] 38)).alloc (.cells #[.int .i64 0, .int .i64 0] 30)).cell? a = some v := fun {a v} hc => by rw [hb2.cell (World.block_lt_of_cell? w a hc)]; exact hc
  have c0 := kp c0
  have a0 := kp a0
  have a1 := kp a1
  have a2 := kp a2
  have a3 := kp a3
  have HVS := Lib.hid (show Sl w (fun k => ¬ (S k ∧ k < w.heap.size) ∨ k = q ∨ (Value.slice (some ad) l.length cl).ownBlock = some k) 1 (.slice Ar t'.recs.length cr) t'.recs.length vs from hvl)

  have h1v : ∀ u ∈ vs, u.oneCell' = true := fun u hu => by
    obtain ⟨j, hj, rfl⟩ := List.getElem_of_mem hu
    obtain ⟨_, _, _, hvlen, _⟩ := id hvl
    obtain ⟨u', hu', hs⟩ := hvr j (by omega)
    rw [List.getElem?_eq_getElem hj] at hu'
    injection hu' with e
    rw [e]
    obtain ⟨_, _, e2, _⟩ := hs
    rw [e2]
    rfl
  have H1V := Lib.hid h1v
  have HVR := Lib.hid hvr
  clear hP hL hx htw hls had hadq f0 f1 f2 f3 hg h hvl hvr h1v hb2 kp
  have hnx : t'.next = t'.base + (t'.recs.length : Int) := rfl
  have HNX := Lib.hid hnx
  simp only [maxNum] at hn1
  have hfew := hft.few
  have HRN := Lib.hid fun (W : World) => rnext_any W t'.n Ar cr (.slice Ag t'.gs.length cg) t' hn0 hft.next
  have HPLN := Lib.hid (placed_take t'.n o.recs t'.next)
  have hn3 : 0 ≤ t'.next := by omega
  clear hnx
  generalize hne : t'.next = nx at *
  have HNE := Lib.hid hne
  clear hne
  have z1 : IntKind.i64.wrap ((t'.recs.length : Int) + (o.recs.length : Int)) = (t'.recs.length : Int) + (o.recs.length : Int) := Ga.wrap64 (by omega) (by omega)
  have z2 : IntKind.i64.wrap (9007199254740992 - (o.recs.length : Int)) = 9007199254740992 - (o.recs.length : Int) := Ga.wrap64 (by omega) (by omega)
  by_cases y1 : 64 < t'.recs.length + o.recs.length
  · have HE : Hid (pubT m.L i t' o.recs = ((71, 0), [], m.L)) := Lib.hid (by rw [pubT, if_pos (.inl y1)])
    have y1' : (64 : Int) < (t'.recs.length : Int) + (o.recs.length : Int) := by omega
    clear y1
    go_enter Tryz.func49, Tryz.ntmps49
    go_wp2_with fail
    generalize ((w.alloc (.cells #[.int .i64 o.kind, .string ⟨o.topic.toArray⟩, .string ⟨o.group.toArray⟩, .int .i64 o.off, .slice A o.recs.length c] 38)).alloc (.cells #[.int .i64 0, .int .i64 0] 30)).alloc (.cells #[.string ⟨t'.n.toArray⟩, .int .i64 t'.base, .slice Ar t'.recs.length cr, .slice Ag t'.gs.length cg] 74) = W3 at *
    refine (rbad_any _ 71).mono ?_
    rintro e wb ⟨rfl, hbb⟩
    have HPC := Lib.hid (PB.later HPB.out hbb)
    have q0 := HPC.out.res.cell 0
    have q1 := HPC.out.res.cell 1
    have qf0 := HPC.out.res.frozen 0
    have qf1 := HPC.out.res.frozen 1
    simp only [List.getElem?_toArray, List.getElem?_cons_zero, List.getElem?_cons_succ] at q0 q1
    clear hbb
    go_wp2_with fail
    have c3 := two_ch wb (w.heap.size + 1) (.int .i64 71) (.int .i64 0)
    refine bodyPost_ret (Ck.results_row_tmp rfl _ _ (w.heap.size + 1) 30 #[.int .i64 71, .int .i64 0] (0, 0) _ rfl (Xr.blk2 HPC.out.res _ _) Tryz.underlying30 rfl Xr.size_res) rfl ?_
    rw [HE.out]
    exact ⟨_, rfl, Ps.nil _ _, rdone_below H.out (HPC.out.below.trans (c3.below (fun k hk h => by omega) HPC.out.below.size))⟩
  · by_cases y2 : maxNum - (o.recs.length : Int) < nx
    · have HE : Hid (pubT m.L i t' o.recs = ((71, 0), [], m.L)) := Lib.hid (by rw [pubT, HNE.out, if_pos (.inr y2)])
      simp only [maxNum] at y2
      have y1' : (t'.recs.length : Int) + (o.recs.length : Int) ≤ (64 : Int) := by omega
      have y2' : (9007199254740992 : Int) - (o.recs.length : Int) < nx := by omega
      clear y1 y2
      go_enter Tryz.func49, Tryz.ntmps49
      go_wp2_with fail
      generalize ((w.alloc (.cells #[.int .i64 o.kind, .string ⟨o.topic.toArray⟩, .string ⟨o.group.toArray⟩, .int .i64 o.off, .slice A o.recs.length c] 38)).alloc (.cells #[.int .i64 0, .int .i64 0] 30)).alloc (.cells #[.string ⟨t'.n.toArray⟩, .int .i64 t'.base, .slice Ar t'.recs.length cr, .slice Ag t'.gs.length cg] 74) = W3 at *
      refine (HRN.out W3).mono ?_
      rintro e w4 ⟨rfl, hb4⟩
      have HP0 := Lib.hid (PB.later HPB.out hb4)
      clear hb4
      go_wp2_with fail
      refine (rbad_any _ 71).mono ?_
      rintro e wb ⟨rfl, hbb⟩
      have HPC := Lib.hid (PB.later HP0.out hbb)
      have q0 := HPC.out.res.cell 0
      have q1 := HPC.out.res.cell 1
      have qf0 := HPC.out.res.frozen 0
      have qf1 := HPC.out.res.frozen 1
      simp only [List.getElem?_toArray, List.getElem?_cons_zero, List.getElem?_cons_succ] at q0 q1
      clear hbb
      go_wp2_with fail
      have c3 := two_ch wb (w.heap.size + 1) (.int .i64 71) (.int .i64 0)
      refine bodyPost_ret (Ck.results_row_tmp rfl _ _ (w.heap.size + 1) 30 #[.int .i64 71, .int .i64 0] (0, 0) _ rfl (Xr.blk2 HPC.out.res _ _) Tryz.underlying30 rfl Xr.size_res) rfl ?_
      rw [HE.out]
      exact ⟨_, rfl, Ps.nil _ _, rdone_below H.out (HPC.out.below.trans (c3.below (fun k hk h => by omega) HPC.out.below.size))⟩
    · have HE : Hid (pubT m.L i t' o.recs = ((0, nx), placed t'.n nx o.recs, m.L.set i { t' with recs := t'.recs ++ o.recs })) := Lib.hid (by rw [pubT, HNE.out, if_neg (by rintro (h | h); exact y1 h; exact y2 h)])
      simp only [maxNum] at y2
      have y1' : (t'.recs.length : Int) + (o.recs.length : Int) ≤ (64 : Int) := by omega
      have y2' : nx ≤ (9007199254740992 : Int) - (o.recs.length : Int) := by omega
      have hrl : t'.recs.length + o.recs.length ≤ 64 := by omega
      obtain ⟨i0, hi0, hy0, hy1, hy2⟩ := info_parts info_placed
      obtain ⟨j0, hj0, hz0, hz1, hz2⟩ := info_parts info_rec
      clear y1 y2
      go_enter Tryz.func49, Tryz.ntmps49
      go_wp2_with fail
      generalize ((w.alloc (.cells #[.int .i64 o.kind, .string ⟨o.topic.toArray⟩, .string ⟨o.group.toArray⟩, .int .i64 o.off, .slice A o.recs.length c] 38)).alloc (.cells #[.int .i64 0, .int .i64 0] 30)).alloc (.cells #[.string ⟨t'.n.toArray⟩, .int .i64 t'.base, .slice Ar t'.recs.length cr, .slice Ag t'.gs.length cg] 74) = W3 at *
      refine (HRN.out W3).mono ?_
      rintro e w4 ⟨rfl, hb4⟩
      have HP0 := Lib.hid (PB.later HPB.out hb4)
      have o4 := HP0.out.op.cell 4
      have b0 := HP0.out.top.cell 0
      have b1 := HP0.out.top.cell 1
      have b2 := HP0.out.top.cell 2
      have b3 := HP0.out.top.cell 3
      simp only [List.getElem?_toArray, List.getElem?_cons_zero, List.getElem?_cons_succ] at o4 b0 b1 b2 b3
      clear hb4
      go_wp2_with (at_builtin; refine wpList_append_new _ rfl (.tmp 38) (.tmp 40) _ rfl 55 j0 _ 1 24 Tryz.underlying36 hj0 hz0 hz1 hz2 rfl (by omega) rfl _ _ t'.recs.length vs rfl (HVS.out.after HP0.out.below) H1V.out (by simp only [maxLen]; omega) (by omega) ?_; intro A5 c5 w5 ho5 hb5; have HO5 := Lib.hid ho5; have HB5 := Lib.hid hb5; clear ho5 hb5)
      go_loopw [10, 11, 12] (fun vo vl i wr => ∃ (k : Nat) (pl : List Pq), k ≤ o.recs.length ∧ i = .int .i64 k ∧ pl.map (·.1) = (placed t'.n nx o.recs).take k ∧ wr.ownsRow w4.heap.size 59 3 vo k (PCs pl) ∧ wr.ownsRow w4.heap.size 55 1 vl (t'.recs.length + k) (vs ++ pl.map (·.2)) ∧ (∀ y ∈ pl, wr.ownsRow w4.heap.size 5 1 y.2 y.1.2.2.length (BVs y.1.2.2)) ∧ Below w4.heap.size w4 wr) (fun _ _ i _ => o.recs.length - (intOf i).toNat)
      case atStart => exact ⟨0, [], Nat.zero_le _, rfl, by simp, World.ownsRow_nil _ _ _ _, by simpa using HO5.out, (fun x hx => by cases hx), HB5.out⟩
      case round =>
        obtain ⟨k, pl, hk, rfl, hmap, hrow, hrow2, hel, hB⟩ := hrel
        have HM := Lib.hid hmap
        have HR := Lib.hid (And.intro hrow (And.intro hrow2 (And.intro hel hB)))
        obtain ⟨Av, cv, rfl⟩ := own_shape hrow
        obtain ⟨Aw, cw, rfl⟩ := own_shape hrow2
        have HPW := Lib.hid (PB.later HP0.out hB)
        clear hmap hrow hrow2 hel hB o4 b0 b1 b2 b3
        have o4 := HPW.out.op.cell 4
        have b0 := HPW.out.top.cell 0
        have b1 := HPW.out.top.cell 1
        have b2 := HPW.out.top.cell 2
        have b3 := HPW.out.top.cell 3
        simp only [List.getElem?_toArray, List.getElem?_cons_zero, List.getElem?_cons_succ] at o4 b0 b1 b2 b3
        by_cases hlt2 : k < o.recs.length
        · obtain ⟨ad2, Ab, cb, rfl, hcell, hsl⟩ := (HLS.out.after HPW.out.below).at_ hlt2
          have HSL := Lib.hid hsl
          have hr64 := h64 _ (List.getElem_mem hlt2)
          have hkn : (k : Int) < (o.recs.length : Int) := by omega
          have hone8 : ∀ u ∈ BVs o.recs[k], u.oneCell' = true := fun u hu => by
            obtain ⟨b, _, rfl⟩ := List.mem_map.1 hu
            rfl
          have H18 := Lib.hid hone8
          have z3 : IntKind.i64.wrap (nx + (k : Int)) = nx + (k : Int) := Ga.wrap64 (by omega) (by omega)
          obtain ⟨k0, hk0', hx0, hx1, hx2⟩ := info_parts info_u8
          have HTK := Lib.hid (HPLN.out k hlt2)
          clear hsl hone8
          go_wp2_with (at_builtin; refine wpList_append_new _ rfl (.tmp 49) (.tmp 54) _ rfl 5 k0 _ 1 1 Tryz.underlying55 hk0' hx0 hx1 hx2 rfl (by omega) rfl _ _ o.recs[k].length (BVs o.recs[k]) rfl HSL.out H18.out (by simp only [maxLen]; omega) (by omega) ?_; intro A6 c6 w6 ho6 hb6; have HO6 := Lib.hid ho6; have HB6 := Lib.hid hb6; have HPX := Lib.hid (PB.later HPW.out hb6); clear ho6 hb6; have b0 := HPX.out.top.cell 0; have b1 := HPX.out.top.cell 1; have b2 := HPX.out.top.cell 2; have b3 := HPX.out.top.cell 3; simp only [List.getElem?_toArray, List.getElem?_cons_zero, List.getElem?_cons_succ] at b0 b1 b2 b3)
          have d0 : w6.drew.cell? ⟨w.heap.size + 1 + 1, 0, none⟩ = some (.string ⟨t'.n.toArray⟩) := b0
          have d1 : w6.drew.cell? ⟨w.heap.size + 1 + 1, 1, none⟩ = some (.int .i64 t'.base) := b1
          have d2 : w6.drew.cell? ⟨w.heap.size + 1 + 1, 2, none⟩ = some (.slice Ar t'.recs.length cr) := b2
          have d3 : w6.drew.cell? ⟨w.heap.size + 1 + 1, 3, none⟩ = some (.slice Ag t'.gs.length cg) := b3
          go_region_law
            (first
              | (go_simp; go_at_call 51; refine Calls.mono (HRN.out _) ?_; rintro e w7 ⟨rfl, hb7⟩; have hb7' : Below w6.heap.size w6 w7 := below_of_drew hb7; have HP7 := Lib.hid (PB.later HPX.out hb7'); have e0 := HP7.out.top.cell 0; have e1 := HP7.out.top.cell 1; have e2 := HP7.out.top.cell 2; have e3 := HP7.out.top.cell 3; simp only [List.getElem?_toArray, List.getElem?_cons_zero, List.getElem?_cons_succ] at e0 e1 e2 e3; have HW7 := Lib.hid (HB6.out.trans (hb7'.mono HB6.out.size)); have HO7 := Lib.hid (own_below HO6.out hb7'))
              | (refine step_append_sh (by rfl) (.tmp 56) (.tmp 65) _ (by rfl) w4.heap.size 59 i0 _ 3 48 Tryz.underlying41 hi0 hy0 hy1 hy2 rfl (by omega) (.slice Av k cv) k (PCs pl) (by rfl) (show (w7.alloc (.cells #[.string ⟨t'.n.toArray⟩, .int .i64 (nx + (k : Int)), .slice A6 o.recs[k].length c6] 59)).ownsRow w4.heap.size 59 3 (.slice Av k cv) k (PCs pl) from (own_below HR.out.1 HW7.out).alloc _) (fun _ => False) _ 1 (PCs [((t'.n, nx + (k : Int), o.recs[k]), .slice A6 o.recs[k].length c6)]) (by rfl) (show Sl (w7.alloc (.cells #[.string ⟨t'.n.toArray⟩, .int .i64 (nx + (k : Int)), .slice A6 o.recs[k].length c6] 59)) (fun _ => False) _ _ _ _ from one_pq (fun _ => False) rfl (fun h => h)) (by intro u hu; simp only [PCs, PC, List.flatMap_cons, List.flatMap_nil, List.append_nil, List.mem_cons, List.not_mem_nil, or_false] at hu; rcases hu with rfl | rfl | rfl <;> rfl) (by simp only [maxLen]; omega) (by omega) (by have h1 := HR.out.2.2.2.size; have h2 := HW7.out.size; simp; omega) ?_; intro A8 c8 w8 happ; have HAP := Lib.hid happ; clear happ))
          all_goals
            have HL8 := Lib.hid (own_ch ((own_below HR.out.2.1 HW7.out).alloc (.cells #[.string ⟨t'.n.toArray⟩, .int .i64 (nx + (k : Int)), .slice A6 o.recs[k].length c6] 59)) (Ch.of_grown HAP.out.2.1 (fun g hg _ => hg) : Ch (fun g => (Value.slice Av k cv).ownBlock = some g) _ w8) (fun g hg e => Xl.rows_far (own_below HR.out.2.1 HW7.out) (own_below HR.out.1 HW7.out) (by decide) g hg e))
            have hs8 : w4.heap.size ≤ w8.heap.size := by have h1 := HR.out.2.2.2.size; have h2 := HW7.out.size; have h3 := HAP.out.2.1.size; simp at h3; omega
            go_wp2_with (at_builtin; refine wpList_append_sh _ rfl (.tmp 67) (.tmp 69) _ rfl w4.heap.size 55 j0 _ 1 24 Tryz.underlying36 hj0 hz0 hz1 hz2 rfl (by omega) _ (t'.recs.length + k) _ rfl (HL8.out.alloc _) _ _ 1 [.slice A6 o.recs[k].length c6] rfl (Ci.one_newv w8 (fun _ => False) 55 _ (fun h => h)) (by intro u hu; rw [List.mem_singleton] at hu; subst hu; rfl) (by simp only [maxLen]; omega) (by omega) (by simp; omega) ?_; intro A9 c9 w9 happ9; have HAP9 := Lib.hid happ9; clear happ9)
            have HS := Lib.hid (pub_round (x := ((t'.n, nx + (k : Int), o.recs[k]), .slice A6 o.recs[k].length c6)) HR.out.2.2.2.size HR.out.1 HR.out.2.1 HR.out.2.2.1 (HW7.out.trans ((op_below w7 _).mono HW7.out.size)) (HO7.out.alloc _) HAP.out (op_below w8 _) HAP9.out)
            have HM1 : Hid ((pl ++ [((t'.n, nx + (k : Int), o.recs[k]), Value.slice A6 o.recs[k].length c6)]).map (·.1) = (placed t'.n nx o.recs).take (k + 1)) := Lib.hid (by
              rw [HTK.out, List.map_append, HM.out]
              rfl)
            go_roundw
            case rel => exact ⟨k + 1, _, by omega, by go_num, HM1.out, HS.out.1, HS.out.2.1, HS.out.2.2.1, HR.out.2.2.2.trans HS.out.2.2.2⟩
            case measure => simp [intOf]; omega
        · have hke : k = o.recs.length := by omega
          subst hke
          have hbw := HPW.out.below
          have hpt := HP.out.later hbw
          have c0 : wr.cell? ⟨q, 0, none⟩ = some (.slice (some ad) l.length cl) := by have := hpt.blk.cell 0; simpa using this
          obtain ⟨ad', e, -, -, hat⟩ := hpt.at_ hlt
          injection e with e
          subst e
          have g2 := hat.a2
          have gf := hat.f2
          rw [HX.out] at g2
          have hadl : (ad.add (i * 4)).block < w.heap.size := by
            obtain ⟨ad2, e2, -, -, hat2⟩ := HP.out.at_ hlt
            injection e2 with e2
            subst e2
            exact World.block_lt_of_cell? w _ hat2.a0
          have hn2 : (ad.add (i * 4)).block ≠ w.heap.size + 1 + 1 := by omega
          have hn1 : (ad.add (i * 4)).block ≠ w.heap.size + 1 := by omega
          have had := HAD.out.1
          have haddr : (⟨(ad.add (i * 4)).block, (ad.add (i * 4)).off + 2, none⟩ : Addr) = ⟨ad.block, i * 4 + 2, none⟩ := by rw [add_zero' had (i * 4)]
          have hadb : (ad.add (i * 4)).block = ad.block := by rw [add_zero' had (i * 4)]
          have s4 := HP0.out.below.size
          have hres4 := HP0.out.res.lt
          have hqlt := HP.out.blk.lt
          have hrow := HR.out.2.1
          have hx : TwOk wr (fun k => ¬ (Up (fun k => S k ∧ k < w.heap.size) w4 wr k) ∨ k = q ∨ some ad.block = some k) ({ t' with recs := t'.recs ++ o.recs }, .slice Aw (t'.recs.length + o.recs.length) cw, .slice Ag t'.gs.length cg) := by
            have hY : ∀ b, b < w.heap.size → (¬ (Up (fun k => S k ∧ k < w.heap.size) w4 wr b) ∨ b = q ∨ some ad.block = some b) → (¬ (S b ∧ b < w.heap.size) ∨ b = q ∨ (Value.slice (some ad) l.length cl).ownBlock = some b) := fun b hb h => by
              rcases h with h | h
              · exact .inl (fun hs => h (.inl hs))
              · exact .inr h
            have hnew : ∀ k, w4.heap.size ≤ k → k < wr.heap.size → ¬ (¬ (Up (fun k => S k ∧ k < w.heap.size) w4 wr k) ∨ k = q ∨ some ad.block = some k) := fun k h1 h2 h => by
              rcases h with h | h | h
              · exact h (.inr ⟨h1, h2⟩)
              · omega
              · injection h with h; omega
            obtain ⟨_, _, _, hvlen, _⟩ := id HVS.out
            have hplen : pl.length = o.recs.length := by
              have := congrArg List.length HM.out
              simpa [placed_len] using this
            refine ⟨⟨vs ++ pl.map (·.2), ?_, fun j hj => ?_⟩, ((HTW.out.gs.weaken hY).after HPW.out.below)⟩
            · simp only [List.length_append]
              exact Sl.of_own hrow hnew
            · simp only [List.length_append] at hj
              by_cases hjr : j < t'.recs.length
              · obtain ⟨u, hu, hs⟩ := HVR.out j hjr
                refine ⟨u, by rw [List.getElem?_append_left (by omega)]; exact hu, ?_⟩
                simp only [List.getElem_append_left hjr]
                exact (hs.weaken hY).after HPW.out.below
              · have hjp : j - t'.recs.length < pl.length := by omega
                refine ⟨(pl[j - t'.recs.length]).2, ?_, ?_⟩
                · rw [List.getElem?_append_right (by omega), hvlen, Nat.mul_one, List.getElem?_map, List.getElem?_eq_getElem hjp]
                  rfl
                · have hj2 : j - t'.recs.length < o.recs.length := by omega
                  have e1 := congrArg (fun z => z[j - t'.recs.length]?) HM.out
                  simp only [List.getElem?_map, List.getElem?_eq_getElem hjp, Option.map_some] at e1
                  rw [List.getElem?_take, if_pos hj2, placed_get _ _ _ _ hj2] at e1
                  have e2 : (pl[j - t'.recs.length]).1.2.2 = o.recs[j - t'.recs.length] := by injection e1 with e1; rw [e1]
                  have h5 := HR.out.2.2.1 _ (List.getElem_mem hjp)
                  rw [e2] at h5
                  have e3 : (t'.recs ++ o.recs)[j]'(by simp only [List.length_append]; omega) = o.recs[j - t'.recs.length] := List.getElem_append_right (by omega)
                  simp only [e3]
                  exact Sl.of_own h5 hnew
          have hpp := tparts_put (w := w4) (W := wr) (j := 2) (HP.out.later HP0.out.below) had hlt (by omega) HR.out.2.2.2 (by rw [HX.out]; rfl) hx
          have HPP := Lib.hid hpp
          have HADR := Lib.hid (And.intro haddr hadb)
          clear hbw hpt hat hx hpp haddr hrow had hadb
          go_wp2_with fail
          refine (HRN.out _).mono ?_
          rintro e w7 ⟨rfl, hb7⟩
          have hk7 := (HPW.out.res.far (p := ⟨(ad.add (i * 4)).block, (ad.add (i * 4)).off + 2, none⟩) (by show w.heap.size + 1 ≠ (ad.add (i * 4)).block; omega) (.slice Aw (t'.recs.length + o.recs.length) cw)).below hb7 (by simp; exact HPW.out.res.lt)
          have HK7 := Lib.hid hk7
          have HB7 := Lib.hid hb7
          have q0 := hk7.cell 0
          have q1 := hk7.cell 1
          have qf0 := hk7.frozen 0
          have qf1 := hk7.frozen 1
          simp only [List.getElem?_toArray, List.getElem?_cons_zero, List.getElem?_cons_succ] at q0 q1
          clear hb7 hk7
          go_wp2_with fail
          refine bodyPost_ret (Ck.results_row_tmp rfl _ _ (w.heap.size + 1) 30 #[.int .i64 0, .int .i64 nx] (0, 0) _ rfl (Xr.blk2 HK7.out _ _) Tryz.underlying30 rfl Xr.size_res) rfl ?_
          rw [HE.out]
          have hplen : (placed t'.n nx o.recs).length = o.recs.length := placed_len _ _ _
          have hadb := HADR.out.2
          have s7 := HB7.out.size
          have s4w := HR.out.2.2.2.size
          have hsz : (wr.setCell ⟨(ad.add (i * 4)).block, (ad.add (i * 4)).off + 2, none⟩ (.slice Aw (t'.recs.length + o.recs.length) cw)).heap.size = wr.heap.size := by simp
          have ca : Ch (fun k => k = ad.block ∨ k = w.heap.size + 1) wr (wr.setCell ⟨(ad.add (i * 4)).block, (ad.add (i * 4)).off + 2, none⟩ (.slice Aw (t'.recs.length + o.recs.length) cw)) := (Ch.refl _ wr).setCell (p := ⟨(ad.add (i * 4)).block, (ad.add (i * 4)).off + 2, none⟩) (fun _ => .inl hadb) _
          have cb := ca.trans (Ch.of_below (S := fun k => k = ad.block ∨ k = w.heap.size + 1) HB7.out (Nat.le_refl _)) (fun k _ h => h)
          have cc := cb.trans ((two_ch w7 (w.heap.size + 1) (.int .i64 0) (.int .i64 nx)).mono (T := fun k => k = ad.block ∨ k = w.heap.size + 1) (fun k _ h => .inr h)) (fun k _ h => h)
          have hszf : ((w7.setCell ⟨w.heap.size + 1, 0, none⟩ (.int .i64 0)).setCell ⟨w.heap.size + 1, 1, none⟩ (.int .i64 nx)).heap.size = w7.heap.size := by simp
          have hb7 := HB7.out
          rw [HADR.out.1] at hb7 hsz
          have cd : Ch (fun k => k = w.heap.size + 1) (wr.setCell ⟨ad.block, i * 4 + 2, none⟩ (.slice Aw (t'.recs.length + o.recs.length) cw)) _ := (Ch.of_below (S := fun k => k = w.heap.size + 1) hb7 (Nat.le_refl _)).trans (two_ch w7 (w.heap.size + 1) (.int .i64 0) (.int .i64 nx)) (fun k _ h => h)
          have hadl2 : ad.block < w.heap.size := by rw [← hadb]; exact hadl
          have hsad : S ad.block := (HP.out.slv ad.block rfl).1
          have hmap : (l.set i ((({ t' with recs := t'.recs ++ o.recs } : Tp), Value.slice Aw (t'.recs.length + o.recs.length) cw, Value.slice Ag t'.gs.length cg) : Tw)).map (·.1) = m.L.set i { t' with recs := t'.recs ++ o.recs } := by
            rw [List.map_set, HL.out]
          refine ⟨_, rfl, ?_, ⟨⟨_, _, hmap, ((HPP.out.ch cd ?_).up ?_)⟩, ?_⟩⟩
          · have hps : Ps wr w4.heap.size (.slice Av o.recs.length cv) (placed t'.n nx o.recs) := ⟨pl, by rw [HM.out, ← hplen, List.take_length], by rw [hplen]; exact HR.out.1, HR.out.2.2.1⟩
            exact (hps.ch cc (fun k hk => by omega)).base s4
          · intro k hk e
            rcases hk with hk | hk
            · omega
            · omega
          · intro k hk
            rcases hk with hk | hk
            · exact .inl hk.1
            · refine .inr ⟨by omega, ?_⟩
              rw [hszf]
              have := hk.2
              rw [hsz] at this
              have := hb7.size
              rw [hsz] at this
              omega
          · have c0 : Ch (fun k => k = ad.block ∨ k = w.heap.size + 1) w wr := Ch.of_below (S := fun k => k = ad.block ∨ k = w.heap.size + 1) HPW.out.below (Nat.le_refl _)
            exact (c0.trans cc (fun k _ h => h)).mono (fun k hk h => by
              rcases h with h | h
              · rw [h]; exact hsad
              · omega)
end Go.Proofs.YtkoedonllfmaaaaGreat.Xs

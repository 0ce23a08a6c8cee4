import Derived.Test.YtmhmnkpaijoaaaaGreatSZ01
namespace Go.Proofs.YtmhmnkpaijoaaaaGreat.Jo
set_option linter.unusedSimpArgs false
open Go Go.RowKit Go.ChangeShapes Go.WideShapes Go.ChangeAt Go.Deep Ck Kf Kp Pm Pe Py Lk Jm Ja Jb
set_option linter.unusedVariables false
set_option maxRecDepth 100000
section
variable {H : Type} {enc : TypeId × Value -> H}
theorem cells_sgn : Tryz.prog.cellsOf 36 = 2 := by kernel_rfl
theorem cells_sd : Tryz.prog.cellsOf 113 = 9 := by kernel_rfl
theorem bytes_sd : Tryz.prog.bytesOf 113 = 104 := by kernel_rfl
theorem open_sg {w : World} {base : Nat} {sp : Nat -> Bool} {held : Bool} {n : Nat} {cs : List Value} {x : DataW H × List MemPlace} (h : DataW.trod enc Tryz.prog w base sp held n 36 cs = some x) :
    ∃ s : Sg, cs = [.int .i64 s.1, .int .i64 s.2] /\ wfS s := by
  obtain ⟨xs, n', _, _, hl, hxl, hf⟩ := DataW.trod_struct Tryz.underlying36 h
  rw [cells_sgn] at hl
  have hxl' : xs.length = 2 := hxl
  match cs, hl with
  | [v0, v1], _ =>
    have f0 : DataW.trod enc Tryz.prog w base sp held n' 3 (([v0, v1].drop 0).take (Tryz.prog.cellsOf 3)) = xs[0]? := hf 0 _ rfl
    have f1 : DataW.trod enc Tryz.prog w base sp held n' 31 (([v0, v1].drop 1).take (Tryz.prog.cellsOf 31)) = xs[1]? := hf 1 _ rfl
    rw [Py.cells_int] at f0
    rw [cells_dig] at f1
    simp only [List.drop_zero, List.drop_succ_cons, List.take_succ_cons, List.take_zero] at f0 f1
    obtain ⟨z0, e0, w0⟩ := one_int Tryz.underlying3 (by omega) f0
    obtain ⟨z1, e1, w1⟩ := one_int Tryz.underlying31 (by omega) f1
    have b0 : -9223372036854775808 <= z0 /\ z0 <= 9223372036854775807 := by simpa [Lit.wf, IntKind.min, IntKind.max, IntKind.signed, IntKind.bits] using w0
    have b1 : -9223372036854775808 <= z1 /\ z1 <= 9223372036854775807 := by simpa [Lit.wf, IntKind.min, IntKind.max, IntKind.signed, IntKind.bits] using w1
    simp only [List.cons.injEq, and_true] at e0 e1
    exact ⟨(z0, z1), by rw [e0, e1], b0.1, b0.2, b1.1, b1.2⟩
theorem open_sd {w : World} {base : Nat} {fuel : Nat} {cs : List Value} {x : DataW H × List MemPlace} (h : DataW.trod enc Tryz.prog w base (fun _ => true) true fuel 113 cs = some x) :
    ∃ (d : Sd) (A : Option Addr) (c : Nat), cs = (DC d A c).toList /\ Ls w (fun k => w.heap.size <= k) (.slice A d.q.o.recs.length c) d.q.o.recs
      /\ wfS d.s /\ wfQ d.q /\ ∀ R, (∀ n ∈ x.1.weights Tryz.prog 113, n <= R) -> far d.q.o R := by
  obtain ⟨xs, n', _, hx, hl, hxl, hf⟩ := DataW.trod_struct Tryz.underlying113 h
  rw [cells_sd] at hl
  have hxl' : xs.length = 2 := hxl
  match cs, hl with
  | [v0, v1, v2, v3, v4, v5, v6, v7, v8], _ =>
    have f0 : DataW.trod enc Tryz.prog w base (fun _ => true) true n' 111 (([v0, v1, v2, v3, v4, v5, v6, v7, v8].drop 0).take (Tryz.prog.cellsOf 111)) = xs[0]? := hf 0 _ rfl
    have f1 : DataW.trod enc Tryz.prog w base (fun _ => true) true n' 36 (([v0, v1, v2, v3, v4, v5, v6, v7, v8].drop 7).take (Tryz.prog.cellsOf 36)) = xs[1]? := hf 1 _ rfl
    rw [cells_req] at f0
    rw [cells_sgn] at f1
    simp only [List.drop_zero, List.drop_succ_cons, List.take_succ_cons, List.take_zero] at f0 f1
    rw [List.getElem?_eq_getElem (by omega)] at f0 f1
    obtain ⟨q, A, c, e0, hls, hwq, hfar⟩ := open_q f0
    obtain ⟨s, e1, hws⟩ := open_sg f1
    simp only [QC, List.cons.injEq, and_true] at e0 e1
    obtain ⟨rfl, rfl, rfl, rfl, rfl, rfl, rfl⟩ := e0
    obtain ⟨rfl, rfl⟩ := e1
    refine ⟨⟨q, s⟩, A, c, rfl, hls, hws, hwq, fun R hR => hfar R fun n hn => ?_⟩
    refine hR n ?_
    rw [hx]
    simp only [DataW.weights, Tryz.underlying113]
    exact DataW.weights_mem_each (ts := [111, 36]) (j := 0) (t := 111) rfl (by simp [List.getElem?_eq_getElem (show 0 < xs.length by omega)]) n hn
theorem open_batch {w : World} {fuel : Nat} {base : Nat} {v : Value} {x : DataW H × List MemPlace} (h : DataW.trod enc Tryz.prog w base (fun _ => true) true fuel 39 [v] = some x) (hR : ∀ n ∈ x.1.weights Tryz.prog 39, n <= 140737488351232) :
    ∃ (l : List Sd), BI w (fun k => w.heap.size <= k) v l /\ l.length * 104 <= 140737488351232 /\ ∀ y ∈ l, far y.q.o 140737488351232 /\ wfS y.s := by
  rcases open_slice Tryz.underlying39 h with ⟨hcs, rfl⟩ | ⟨a, len, cap, m, n, D, Pl, hcs, _, hl, hm, hmm, rfl, hx⟩
  . obtain rfl : v = .slice none 0 0 := by simpa using hcs
    exact ⟨[], bi_nil _ _, by simp, fun y hy => absurd hy (by simp)⟩
  . obtain rfl : v = .slice (some a) len cap := by simpa using hcs
    simp only [if_true] at hmm
    have each : ∀ i, ∃ r : Sd × (Option Addr × Nat), i < len -> (∀ j u, (DC r.1 r.2.1 r.2.2).toList[j]? = some u -> w.cell? (a.add (i * 9 + j)) = some u) /\ Ls w (fun k => w.heap.size <= k) (.slice r.2.1 r.1.q.o.recs.length r.2.2) r.1.q.o.recs /\ far r.1.q.o 140737488351232 /\ wfS r.1.s := by
      intro i
      by_cases hi : i < len
      . obtain ⟨cs', hc, ht⟩ := hx i (by omega)
        obtain ⟨d, Ar, cr, rfl, hb, hws, _, hr⟩ := open_sd ht
        rw [cells_sd] at hc
        obtain ⟨_, _, hcell⟩ := World.cells?_some hc
        have hw := hr 140737488351232 (fun n hn => hR n (by
          simp only [DataW.weights, Tryz.underlying39, List.mem_cons, List.mem_append]
          exact .inr (.inl (all_mem hn (List.mem_map.2 ⟨i, by simpa using hi, rfl⟩)))))
        refine ⟨(d, (Ar, cr)), fun _ => ⟨fun j u hu => ?_, hb, hw, hws⟩⟩
        have hj : j < 9 := (List.getElem?_eq_some_iff.1 hu).1
        have h1 := hcell j hj
        rw [Ck.add_add] at h1
        rw [h1, <- hu, List.getElem?_eq_getElem (show j < (DC d Ar cr).toList.length from hj)]
      . exact ⟨(Sd.zero, (none, 0)), fun h => absurd h hi⟩
    obtain ⟨f, hf⟩ := Classical.axiomOfChoice each
    have hlen : ((List.range len).map fun i => (f i).1).length = len := by simp
    have hrl : ((List.range len).map fun i => (f i).2).length = ((List.range len).map fun i => (f i).1).length := by simp
    refine ⟨(List.range len).map fun i => (f i).1, ⟨(List.range len).map fun i => (f i).2, hrl, ?_, fun i hi => ?_⟩, ?_, fun y hy => ?_⟩
    . refine ⟨some a, cap, by rw [hlen], by rw [flat_length hrl], by rw [hlen]; exact hl, hm, fun hn => ?_⟩
      rw [hlen] at hn
      have h0 := (hf 0 hn).1 0 _ rfl
      refine ⟨a, rfl, by have := World.block_lt_of_cell? w _ h0; rw [Ck.add_block] at this; exact this, by have := World.block_lt_of_cell? w _ h0; rw [Ck.add_block] at this; omega, fun j u hu => ?_⟩
      have hj : j < len * 9 := by
        have := (List.getElem?_eq_some_iff.1 hu).1
        rw [flat_length hrl, hlen] at this
        exact this
      have hi : j / 9 < len := by omega
      have hz : j / 9 < (((List.range len).map fun i => (f i).1).zip ((List.range len).map fun i => (f i).2)).length := by rw [zip_len hrl, hlen]; exact hi
      have hg := flat_get DC_len (((List.range len).map fun i => (f i).1).zip ((List.range len).map fun i => (f i).2)) (j / 9) hz (j % 9) (by omega)
      rw [show j / 9 * 9 + j % 9 = j by omega] at hg
      rw [flat, hg] at hu
      have := (hf (j / 9) hi).1 (j % 9) u (by
        rw [<- hu]
        congr 1
        simp)
      rwa [show j / 9 * 9 + j % 9 = j by omega] at this
    . have hi' : i < len := by simpa using hi
      refine ⟨(f i).2, by simp [hi'], ?_⟩
      have := (hf i hi').2.1
      simpa using this
    . have := hR _ (by simp only [DataW.weights, Tryz.underlying39]; exact List.mem_cons_self)
      rw [bytes_sd] at this
      simp only [List.length_map, List.length_range] at this ⊢
      omega
    . obtain ⟨i, hi, rfl⟩ := List.mem_map.1 hy
      have hi' : i < len := by simpa using hi
      exact (hf i hi').2.2
end
end Go.Proofs.YtmhmnkpaijoaaaaGreat.Jo
namespace Go.Proofs.YtmhmnkpaijoaaaaGreat.Ptm
set_option linter.unusedSimpArgs false
open Go Go.RowKit Go.ChangeShapes Go.WideShapes Go.ChangeAt Go.Deep Ck Kf Kp Pm Pe Py Lk Jm Ja Jb Jo Pra Prb Prr Pta Pte
set_option linter.unusedVariables false
set_option maxRecDepth 100000
section
variable {H : Type} {enc : TypeId × Value -> H}
theorem open_gen {w : World} {fuel base : Nat} {v : Value} {x : DataW H × List MemPlace} {TS TE : TypeId} (hu : Tryz.prog.underlying TS = some (.slice TE)) {size bytes R : Nat} (hc : Tryz.prog.cellsOf TE = size) (hb : Tryz.prog.bytesOf TE = bytes) (hs : 0 < size)
    {E : Type} (cells : E -> List Value) (hlen : ∀ e, (cells e).length = size) (P : E -> Prop) (d : E)
    (helem : ∀ fuel cs y, DataW.trod enc Tryz.prog w base (fun _ => true) true fuel TE cs = some y -> (∀ n ∈ y.1.weights Tryz.prog TE, n <= R) -> ∃ e, cs = cells e /\ P e)
    (h : DataW.trod enc Tryz.prog w base (fun _ => true) true fuel TS [v] = some x) (hR : ∀ n ∈ x.1.weights Tryz.prog TS, n <= R) :
    ∃ l : List E, Sl w (fun k => w.heap.size <= k) size v l.length (l.flatMap cells) /\ l.length * bytes <= R /\ ∀ e ∈ l, P e := by
  rcases open_slice hu h with ⟨hcs, rfl⟩ | ⟨a, len, cap, m, n, D, Pl, hcs, _, hl, hm, hmm, rfl, hx⟩
  . obtain rfl : v = .slice none 0 0 := by simpa using hcs
    exact ⟨[], Sl.nil _ _ _, by simp, fun e he => absurd he (by simp)⟩
  . obtain rfl : v = .slice (some a) len cap := by simpa using hcs
    simp only [if_true] at hmm
    have each : ∀ i, ∃ e : E, i < len -> (∀ j u, (cells e)[j]? = some u -> w.cell? (a.add (i * size + j)) = some u) /\ P e := by
      intro i
      by_cases hi : i < len
      . obtain ⟨cs', hcc, ht⟩ := hx i (by omega)
        obtain ⟨e, rfl, hp⟩ := helem _ _ _ ht (fun n hn => hR n (by
          simp only [DataW.weights, hu, List.mem_cons, List.mem_append]
          exact .inr (.inl (all_mem hn (List.mem_map.2 ⟨i, by simpa using hi, rfl⟩)))))
        rw [hc] at hcc
        obtain ⟨_, _, hcell⟩ := World.cells?_some hcc
        refine ⟨e, fun _ => ⟨fun j u hj => ?_, hp⟩⟩
        have hjl : j < size := by rw [<- hlen e]; exact (List.getElem?_eq_some_iff.1 hj).1
        have h1 := hcell j hjl
        rw [Ck.add_add] at h1
        rw [h1, <- hj, List.getElem?_eq_getElem (by rw [hlen]; exact hjl)]
      . exact ⟨d, fun h => absurd h hi⟩
    obtain ⟨f, hf⟩ := Classical.axiomOfChoice each
    have hll : ((List.range len).map f).length = len := by simp
    refine ⟨(List.range len).map f, ?_, ?_, fun e he => ?_⟩
    . refine ⟨some a, cap, by rw [hll], by rw [flat_len hlen, hll], by rw [hll]; exact hl, hm, fun hn => ?_⟩
      rw [hll] at hn
      have h00 : (cells (f 0))[0]? = some ((cells (f 0))[0]'(by rw [hlen]; exact hs)) := List.getElem?_eq_getElem _
      have h0 := (hf 0 hn).1 0 _ h00
      refine ⟨a, rfl, by have := World.block_lt_of_cell? w _ h0; rw [Ck.add_block] at this; exact this, by have := World.block_lt_of_cell? w _ h0; rw [Ck.add_block] at this; omega, fun j u hj => ?_⟩
      have hjl : j < len * size := by
        have := (List.getElem?_eq_some_iff.1 hj).1
        rw [flat_len hlen, hll] at this
        exact this
      have hi : j / size < len := (Nat.div_lt_iff_lt_mul hs).2 hjl
      have hmd : j % size < size := Nat.mod_lt _ hs
      have hg := flat_get hlen ((List.range len).map f) (j / size) (by rw [hll]; exact hi) (j % size) hmd
      rw [Nat.div_add_mod' j size] at hg
      rw [hg] at hj
      have := (hf (j / size) hi).1 (j % size) u (by rw [<- hj]; congr 1; simp)
      rwa [Nat.div_add_mod' j size] at this
    . have := hR _ (by simp only [DataW.weights, hu]; exact List.mem_cons_self)
      rw [hb] at this
      rw [hll]
      simp only [List.length_append, List.length_map, List.length_range, List.length_replicate] at this
      exact Nat.le_trans (Nat.mul_le_mul_right bytes (by omega)) this
    . obtain ⟨i, hi, rfl⟩ := List.mem_map.1 he
      exact (hf i (by simpa using hi)).2
theorem bytes_sgn : Tryz.prog.bytesOf 36 = 16 := by kernel_rfl
theorem open_ss {w : World} {fuel base : Nat} {v : Value} {x : DataW H × List MemPlace} {R : Nat} (h : DataW.trod enc Tryz.prog w base (fun _ => true) true fuel 37 [v] = some x) (hR : ∀ n ∈ x.1.weights Tryz.prog 37, n <= R) :
    ∃ l : List Sg, SS w (fun k => w.heap.size <= k) v l /\ l.length * 16 <= R /\ ∀ s ∈ l, wfS s :=
  open_gen Tryz.underlying37 cells_sgn bytes_sgn (by omega) SC SC_len wfS (0, 0) (fun fuel cs y hy _ => by
    obtain ⟨s, h1, h2⟩ := open_sg hy
    exact ⟨s, h1, h2⟩) h hR
theorem cells_prep : Tryz.prog.cellsOf 41 = 7 := by kernel_rfl
theorem cells_ss : Tryz.prog.cellsOf 37 = 1 := by kernel_rfl
theorem cells_bat : Tryz.prog.cellsOf 39 = 1 := by kernel_rfl
def wfP (p : Pd) : Prop := (-9223372036854775808 <= p.seq /\ p.seq <= 9223372036854775807) /\ (-9223372036854775808 <= p.view /\ p.view <= 9223372036854775807)
theorem open_prep {w : World} {base fuel : Nat} {cs : List Value} {x : DataW H × List MemPlace} (h : DataW.trod enc Tryz.prog w base (fun _ => true) true fuel 41 cs = some x) (hR : ∀ n ∈ x.1.weights Tryz.prog 41, n <= 140737488351232) :
    ∃ e : Pd × Pl2, cs = (PC e.1 e.2).toList /\ PI w (fun k => w.heap.size <= k) e.1 e.2 /\ okV e.1 /\ wfP e.1 := by
  obtain ⟨xs, n', _, hx, hl, hxl, hf⟩ := DataW.trod_struct Tryz.underlying41 h
  rw [cells_prep] at hl
  have hxl' : xs.length = 6 := hxl
  match cs, hl with
  | [v0, v1, v2, v3, v4, v5, v6], _ =>
    have f0 : DataW.trod enc Tryz.prog w base (fun _ => true) true n' 2 (([v0, v1, v2, v3, v4, v5, v6].drop 0).take (Tryz.prog.cellsOf 2)) = xs[0]? := hf 0 _ rfl
    have f1 : DataW.trod enc Tryz.prog w base (fun _ => true) true n' 2 (([v0, v1, v2, v3, v4, v5, v6].drop 1).take (Tryz.prog.cellsOf 2)) = xs[1]? := hf 1 _ rfl
    have f2 : DataW.trod enc Tryz.prog w base (fun _ => true) true n' 31 (([v0, v1, v2, v3, v4, v5, v6].drop 2).take (Tryz.prog.cellsOf 31)) = xs[2]? := hf 2 _ rfl
    have f3 : DataW.trod enc Tryz.prog w base (fun _ => true) true n' 36 (([v0, v1, v2, v3, v4, v5, v6].drop 3).take (Tryz.prog.cellsOf 36)) = xs[3]? := hf 3 _ rfl
    have f4 : DataW.trod enc Tryz.prog w base (fun _ => true) true n' 37 (([v0, v1, v2, v3, v4, v5, v6].drop 5).take (Tryz.prog.cellsOf 37)) = xs[4]? := hf 4 _ rfl
    have f5 : DataW.trod enc Tryz.prog w base (fun _ => true) true n' 39 (([v0, v1, v2, v3, v4, v5, v6].drop 6).take (Tryz.prog.cellsOf 39)) = xs[5]? := hf 5 _ rfl
    rw [Py.cells_i64] at f0 f1
    rw [Jo.cells_dig] at f2
    rw [cells_sgn] at f3
    rw [cells_ss] at f4
    rw [cells_bat] at f5
    simp only [List.drop_zero, List.drop_succ_cons, List.take_succ_cons, List.take_zero] at f0 f1 f2 f3 f4 f5
    obtain ⟨z0, e0, w0⟩ := one_int Tryz.underlying2 (by omega) f0
    obtain ⟨z1, e1, w1⟩ := one_int Tryz.underlying2 (by omega) f1
    obtain ⟨z2, e2, w2⟩ := one_int Tryz.underlying31 (by omega) f2
    rw [List.getElem?_eq_getElem (by omega)] at f3 f4 f5
    have m : ∀ (j : Nat) (t : TypeId) (ht : [2, 2, 31, 36, 37, 39][j]? = some t) (hj : j < xs.length), ∀ n ∈ (xs[j]).1.weights Tryz.prog t, n <= 140737488351232 := fun j t ht hj n hn => hR n (by
      rw [hx]
      simp only [DataW.weights, Tryz.underlying41]
      exact DataW.weights_mem_each (ts := [2, 2, 31, 36, 37, 39]) (j := j) (t := t) ht (by simp [List.getElem?_eq_getElem hj]) n hn)
    obtain ⟨s, e3, ws⟩ := open_sg f3
    obtain ⟨sl, hss, hsl, _⟩ := open_ss f4 (m 4 _ rfl (by omega))
    obtain ⟨bl, hbi, hbl, hby⟩ := open_batch f5 (m 5 _ rfl (by omega))
    have b0 : -9223372036854775808 <= z0 /\ z0 <= 9223372036854775807 := by simpa [Lit.wf, IntKind.min, IntKind.max, IntKind.signed, IntKind.bits] using w0
    have b1 : -9223372036854775808 <= z1 /\ z1 <= 9223372036854775807 := by simpa [Lit.wf, IntKind.min, IntKind.max, IntKind.signed, IntKind.bits] using w1
    simp only [List.cons.injEq, and_true] at e0 e1 e2 e3
    obtain ⟨A, c, rfl, -⟩ := id hss
    obtain ⟨A2, c2, rfl, -⟩ := hbi.shape
    refine ⟨(⟨z0, z1, z2, s, sl, bl⟩, ((A, c), (A2, c2))), ?_, ⟨hss, hbi⟩, ⟨⟨fun y hy => ?_, show bl.length <= 140737488355328 by omega, show sl.length <= 140737488355328 by omega⟩, hsl, hbl, fun y hy => (hby y hy).1⟩, b1, b0⟩
    . rw [e0, e1, e2, e3.1, e3.2]; rfl
    . have := (hby y hy).1.2.2.1; omega
end
end Go.Proofs.YtmhmnkpaijoaaaaGreat.Ptm
namespace Go.Proofs.YtmhmnkpaijoaaaaGreat.Ptp
set_option linter.unusedSimpArgs false
open Go Go.RowKit Ck Cf Kw Ga Kf Pm Pe Pg Ik Lk Jm Ja Jb Jf Jl Jn Kc Kj Pra Prb Pre Prn Prr Prv Prw Prx Pry Prz Psa Psb Psr Psu Psv Psx Pta Ptd Pte
attribute [local go_sem ↓] Go.wp_at_zero Go.wp_at_succ
set_option linter.unusedVariables false
set_option maxRecDepth 100000
def mineP : Pd := ⟨0, 1, 0, (0, 0), [(1, 2)], []⟩
theorem frozen_below {B : Nat} {w w' : World} (h : Below B w w') {p : Addr} (hp : p.block < B) : w'.frozen? p = w.frozen? p := by simp only [World.frozen?, h.block p.block hp]
theorem mine_pc (ad : Addr) (c2 : Nat) (B2 : Option Addr) (d2 : Nat) : PC mineP ((some ad, c2), (B2, d2)) = #[.int .i64 0, .int .i64 1, .int .i64 0, .int .i64 0, .int .i64 0, .slice (some ad) 1 c2, .slice B2 0 d2] := rfl
theorem mine_put : putP [] mineP = ([mineP], true) := by decide
theorem mine_get : getP [mineP] 1 = some mineP := by decide
theorem own_at {W : World} {n m c : Nat} {A : Option Addr} (h : SS W (fun k => k < n) (.slice A m c) [(1, 2)]) : ∃ ad, A = some ad /\ W.cell? ad = some (.int .i64 1) /\ n <= ad.block /\ ad.block < W.heap.size := by
  obtain ⟨A', c', hv, hl, hc, hm, hx⟩ := h
  injection hv with e1 e2 e3
  subst e1
  obtain ⟨ad, hA, hb, hX, hcell⟩ := hx (by simp)
  have h0 := hcell 0 (.int .i64 1) rfl
  have e : ad.add 0 = ad := by unfold Addr.add; rw [if_pos rfl]
  rw [e] at h0
  exact ⟨ad, hA, h0, by simpa using hX, hb⟩
set_option maxHeartbeats 32000000 in
theorem none_law {H : World -> (Nat -> Prop) -> Nat -> List Pd -> Prop} {ok : List Pd -> Pd -> Prop} (HL : LiveC) (HN : NoneC) (HH : HeldC H ok) (HO : OwnC H) (hok : ok [] mineP) (w : World) (x : Pd) (r : Pl2) (f : Int) (hp : PI w (fun k => w.heap.size <= k) x r) (hx : okP x) :
    Calls Tryz.prog 8 #[.agg (PC x r), .int .i64 f] w fun e w' => e = .returned (.bool true) /\ Below w.heap.size w w' := by
  have hb0 : Below w.heap.size w (w.alloc (.cells (PC x r) 41)) := (Below.refl _ w).alloc (Nat.le_refl _) _
  have hk0 : Blk (w.alloc (.cells (PC x r) 41)) w.heap.size 41 (PC x r) := Blk.new w _ _
  have HL := Lib.hid HL
  have HN := Lib.hid HN
  have HH := Lib.hid HH
  have HO := Lib.hid HO
  have HOK := Lib.hid hok
  have HX := Lib.hid hx
  have HP := Lib.hid hp
  have HB0 := Lib.hid hb0
  have HK0 := Lib.hid hk0
  clear hok hx hp hb0 hk0
  go_enter Tryz.func8, Tryz.ntmps8
  go_wp2_with fail
  generalize w.alloc (.cells (PC x r) 41) = w0 at *
  generalize hgp : w.heap.size = gp at HK0 ⊢
  refine (HL.out w0).mono ?_
  rintro e w1 ⟨rfl, hb1⟩
  go_wp2_with fail
  have hns : NS w gp w1.heap.size (w1.heap.size + 1) x r ((w1.alloc (.cells #[.map none] 101)).alloc (.cells #[.pointer none, .pointer (some ⟨w1.heap.size, 0, none⟩)] 63)) := by
    have b2 : Below w1.heap.size w1 ((w1.alloc (.cells #[.map none] 101)).alloc (.cells #[.pointer none, .pointer (some ⟨w1.heap.size, 0, none⟩)] 63)) := ((Below.refl _ w1).alloc (Nat.le_refl _) _).alloc (by simp) _
    have bb := hb1.trans (b2.mono hb1.size)
    refine ⟨HB0.out.trans (bb.mono HB0.out.size), HK0.out.below bb HK0.out.lt, (Blk.new w1 _ _).alloc _, ?_, HP.out.after (HB0.out.trans (bb.mono HB0.out.size))⟩
    have := Blk.new (w1.alloc (.cells #[.map none] 101)) 63 #[.pointer none, .pointer (some ⟨w1.heap.size, 0, none⟩)]
    have e : (w1.alloc (.cells #[.map none] 101)).heap.size = w1.heap.size + 1 := by simp
    rw [e] at this
    exact this
  have HNS := Lib.hid hns
  clear hns hb1 HK0 HB0 HP
  generalize (w1.alloc (.cells #[.map none] 101)).alloc (.cells #[.pointer none, .pointer (some ⟨w1.heap.size, 0, none⟩)] 63) = wl at *
  generalize w1.heap.size + 1 = gs at *
  generalize w1.heap.size = gz at *
  go_loopw [21] (fun i wr => ∃ k : Nat, k <= 2 /\ i = .int .i64 k /\ NS w gp gz gs x r wr) (fun i _ => 2 - (intOf i).toNat)
  case atStart => exact ⟨0, by omega, rfl, HNS.out⟩
  case round =>
    obtain ⟨k, hk, rfl, hns⟩ := hrel
    clear HNS
    by_cases hkt : k < 2
    . obtain ⟨v, hv, hvn⟩ : ∃ v, wr.cell? ⟨gs, k, none⟩ = some v /\ ∀ W, NS w gp gz gs x r W -> NH W v := by
        have h0 := hns.ks.cell k
        rcases (show k = 0 \/ k = 1 by omega) with rfl | rfl
        . exact ⟨_, h0, fun W h => .inl rfl⟩
        . exact ⟨_, h0, fun W h => .inr ⟨gz, rfl, h.kz⟩⟩
      have HV := Lib.hid hvn
      have HNS := Lib.hid hns
      clear hvn hns
      have hcells : ∀ W, NS w gp gz gs x r W -> W.cell? ⟨gp, 0, none⟩ = some (.int .i64 x.view) /\ W.cell? ⟨gp, 1, none⟩ = some (.int .i64 x.seq) /\ W.cell? ⟨gp, 2, none⟩ = some (.int .i64 x.dig) /\ W.cell? ⟨gp, 3, none⟩ = some (.int .i64 x.first.1) /\ W.cell? ⟨gp, 4, none⟩ = some (.int .i64 x.first.2) /\ W.cell? ⟨gp, 5, none⟩ = some (.slice r.1.1 x.signs.length r.1.2) /\ W.cell? ⟨gp, 6, none⟩ = some (.slice r.2.1 x.batch.length r.2.2) := fun W h => by
        have c0 := h.kp.cell 0
        have c1 := h.kp.cell 1
        have c2 := h.kp.cell 2
        have c3 := h.kp.cell 3
        have c4 := h.kp.cell 4
        have c5 := h.kp.cell 5
        have c6 := h.kp.cell 6
        simp only [PC, List.getElem?_toArray, List.getElem?_cons_zero, List.getElem?_cons_succ] at c0 c1 c2 c3 c4 c5 c6
        exact ⟨c0, c1, c2, c3, c4, c5, c6⟩
      have HC := Lib.hid hcells
      clear hcells
      obtain ⟨a0, a1, a2, a3, a4, a5, a6⟩ := HC.out _ HNS.out
      rcases (show k = 0 \/ k = 1 by omega) with rfl | rfl
      all_goals
        go_wp2_with fail
        refine (HN.out.get _ v x.seq (HV.out _ HNS.out)).mono ?_
        rintro e w2 ⟨rfl, hb2⟩
        have hb3 : Below w2.heap.size w2 (w2.alloc (.cells #[.int .i64 0, .int .i64 0, .int .i64 0, .int .i64 0, .int .i64 0, .slice none 0 0, .slice none 0 0] 41)) := (Below.refl _ w2).alloc (Nat.le_refl _) _
        have HNS3 := Lib.hid ((HNS.out.later hb2).later hb3)
        clear hb2 hb3
        go_wp2_with fail
        refine (HN.out.slide _ v 9 (HV.out _ HNS3.out)).mono ?_
        rintro e w4 ⟨rfl, hb4⟩
        have HNS4 := Lib.hid (HNS3.out.later hb4)
        obtain ⟨a0, a1, a2, a3, a4, a5, a6⟩ := HC.out _ HNS4.out
        clear hb4
        go_wp2_with fail
        refine (HN.out.put _ v _ x r (HV.out _ HNS4.out) HNS4.out.pi).mono ?_
        rintro e w5 ⟨rfl, hb5⟩
        have HNS5 := Lib.hid (HNS4.out.later hb5)
        clear hb5
        go_wp2_with fail
        refine (HN.out.all _ v (HV.out _ HNS5.out)).mono ?_
        rintro e w6 ⟨A6, c6, rfl, hb6⟩
        have HNS6 := Lib.hid (HNS5.out.later hb6)
        clear hb6
        go_wp2_with fail
        refine (HN.out.len _ v (HV.out _ HNS6.out)).mono ?_
        rintro e w7 ⟨rfl, hb7⟩
        have HNS7 := Lib.hid (HNS6.out.later hb7)
        clear hb7
        go_wp2_with fail
        refine (HN.out.clone _ v (HV.out _ HNS7.out)).mono ?_
        rintro e w8 ⟨rfl, hb8⟩
        have HNS8 := Lib.hid (HNS7.out.later hb8)
        clear hb8
        go_wp2_with fail
        go_roundw
        case rel => exact ⟨_, Nat.succ_le_of_lt hkt, by go_num, HNS8.out⟩
        case measure => simp [intOf]
    . obtain rfl : k = 2 := by omega
      have HNS := Lib.hid hns
      have HC : Hid (∀ W, NS w gp gz gs x r W -> W.cell? ⟨gp, 0, none⟩ = some (.int .i64 x.view) /\ W.cell? ⟨gp, 1, none⟩ = some (.int .i64 x.seq) /\ W.cell? ⟨gp, 2, none⟩ = some (.int .i64 x.dig) /\ W.cell? ⟨gp, 3, none⟩ = some (.int .i64 x.first.1) /\ W.cell? ⟨gp, 4, none⟩ = some (.int .i64 x.first.2) /\ W.cell? ⟨gp, 5, none⟩ = some (.slice r.1.1 x.signs.length r.1.2) /\ W.cell? ⟨gp, 6, none⟩ = some (.slice r.2.1 x.batch.length r.2.2)) := Lib.hid (fun W h => by
        have c0 := h.kp.cell 0
        have c1 := h.kp.cell 1
        have c2 := h.kp.cell 2
        have c3 := h.kp.cell 3
        have c4 := h.kp.cell 4
        have c5 := h.kp.cell 5
        have c6 := h.kp.cell 6
        simp only [PC, List.getElem?_toArray, List.getElem?_cons_zero, List.getElem?_cons_succ] at c0 c1 c2 c3 c4 c5 c6
        exact ⟨c0, c1, c2, c3, c4, c5, c6⟩)
      have HNL : Hid (∀ W, NS w gp gz gs x r W -> Calls Tryz.prog 38 #[] W fun e w' => ∃ g, e = .returned (.pointer (some ⟨g, 0, none⟩)) /\ Lk.Lg w' (New W w') g [] /\ NS w gp gz gs x r w') := Lib.hid (fun W h => by
        refine (La.newledger_any W).mono ?_
        rintro e w' ⟨g, rfl, hl, hb⟩
        exact ⟨g, rfl, hl, h.later hb⟩)
      have HNT : Hid (∀ W, NS w gp gz gs x r W -> Calls Tryz.prog 39 #[] W fun e w' => ∃ g, e = .returned (.pointer (some ⟨g, 0, none⟩)) /\ Ik.Tb w' (New W w') g [] /\ NS w gp gz gs x r w') := Lib.hid (fun W h => by
        refine (Ib.newtable_any W).mono ?_
        rintro e w' ⟨g, rfl, hl, hb⟩
        exact ⟨g, rfl, hl, h.later hb⟩)
      have HVT : Hid (∀ W S g, Lk.Lg W S g [] -> NS w gp gz gs x r W -> Calls Tryz.prog 12 #[.pointer none, .pointer (some ⟨g, 0, none⟩), .int .i64 f, .agg #[.int .i64 x.view, .int .i64 x.seq, .int .i64 x.dig, .int .i64 x.first.1, .int .i64 x.first.2, .slice r.1.1 x.signs.length r.1.2, .slice r.2.1 x.batch.length r.2.2]] W fun e w' => e = .returned (.bool false) /\ NS w gp gz gs x r w') := Lib.hid (fun W S g hl h => by
        refine (HN.out.noT W S _ g f x r hl h.pi HX.out).mono ?_
        rintro e w' ⟨rfl, hb⟩
        exact ⟨rfl, h.later hb⟩)
      have HVL : Hid (∀ W S g, Ik.Tb W S g [] -> NS w gp gz gs x r W -> Calls Tryz.prog 12 #[.pointer (some ⟨g, 0, none⟩), .pointer none, .int .i64 f, .agg #[.int .i64 x.view, .int .i64 x.seq, .int .i64 x.dig, .int .i64 x.first.1, .int .i64 x.first.2, .slice r.1.1 x.signs.length r.1.2, .slice r.2.1 x.batch.length r.2.2]] W fun e w' => e = .returned (.bool false) /\ NS w gp gz gs x r w') := Lib.hid (fun W S g hl h => by
        refine (HN.out.noL W S _ g f x r hl h.pi HX.out).mono ?_
        rintro e w' ⟨rfl, hb⟩
        exact ⟨rfl, h.later hb⟩)
      have HN9 : Hid (NS w gp gz gs x r wr.drew) := Lib.hid (hns.later (below_drewN (Below.refl _ _) 1))
      have C9 := HC.out _ HN9.out
      clear hns hk hkt HNS
      go_upto_region 11 with fail
      go_region_held3 (fun w' => w'.cell? ⟨gp, 0, none⟩ = some (.int .i64 x.view) /\ w'.cell? ⟨gp, 1, none⟩ = some (.int .i64 x.seq) /\ w'.cell? ⟨gp, 2, none⟩ = some (.int .i64 x.dig) /\ w'.cell? ⟨gp, 3, none⟩ = some (.int .i64 x.first.1) /\ w'.cell? ⟨gp, 4, none⟩ = some (.int .i64 x.first.2) /\ w'.cell? ⟨gp, 5, none⟩ = some (.slice r.1.1 x.signs.length r.1.2) /\ w'.cell? ⟨gp, 6, none⟩ = some (.slice r.2.1 x.batch.length r.2.2))
        (first | with_reducible exact C9 | with_reducible exact C10 | with_reducible exact C11 | with_reducible exact C12 | with_reducible exact C13 | (go_keep; done))
        (first
        | (go_at_call 12; refine (HVL.out _ _ _ HT12.out HN12.out).mono ?_; rintro e w13 ⟨rfl, hn⟩; have HN13 := Lib.hid hn; have C13 := HC.out _ hn; clear hn)
        | (go_at_call 39; refine (HNT.out _ HN11.out).mono ?_; rintro e w12 ⟨pt, rfl, ht, hn⟩; have HN12 := Lib.hid hn; have HT12 := Lib.hid ht; have C12 := HC.out _ hn; clear hn ht)
        | (go_at_call 12; refine (HVT.out _ _ _ HT10.out HN10.out).mono ?_; rintro e w11 ⟨rfl, hn⟩; have HN11 := Lib.hid hn; have C11 := HC.out _ hn; clear hn)
        | (go_at_call 38; refine (HNL.out _ HN9.out).mono ?_; rintro e w10 ⟨gl, rfl, ht, hn⟩; have HN10 := Lib.hid hn; have HT10 := Lib.hid ht; have C10 := HC.out _ hn; clear hn ht))
      all_goals
        go_wp2_with fail
        refine (HH.out.new w13).mono ?_
        rintro e w14 ⟨gh, rfl, hh, hb⟩
        have HB14 := Lib.hid (HN13.out.hb.trans (hb.mono HN13.out.hb.size))
        have HH14 := Lib.hid hh
        have HS13 : Hid (w.heap.size <= w13.heap.size) := Lib.hid HN13.out.hb.size
        clear hh hb
        go_wp2_with fail
        have HST : Hid (∃ W, W = (w14.alloc (.cells #[.int .i64 1, .int .i64 2] 36)).alloc (.cells #[.int .i64 0, .int .i64 1, .int .i64 0, .int .i64 0, .int .i64 0, .slice (some ⟨w14.heap.size, 0, none⟩) 1 1, .slice none 0 0] 41)) := Lib.hid ⟨_, rfl⟩
        have hb16 : Below w14.heap.size w14 ((w14.alloc (.cells #[.int .i64 1, .int .i64 2] 36)).alloc (.cells #[.int .i64 0, .int .i64 1, .int .i64 0, .int .i64 0, .int .i64 0, .slice (some ⟨w14.heap.size, 0, none⟩) 1 1, .slice none 0 0] 41)) := ((Below.refl _ w14).alloc (Nat.le_refl _) _).alloc (by simp) _
        have ksg : Blk ((w14.alloc (.cells #[.int .i64 1, .int .i64 2] 36)).alloc (.cells #[.int .i64 0, .int .i64 1, .int .i64 0, .int .i64 0, .int .i64 0, .slice (some ⟨w14.heap.size, 0, none⟩) 1 1, .slice none 0 0] 41)) w14.heap.size 36 #[.int .i64 1, .int .i64 2] := (Blk.new w14 _ _).alloc _
        have kmp : Blk ((w14.alloc (.cells #[.int .i64 1, .int .i64 2] 36)).alloc (.cells #[.int .i64 0, .int .i64 1, .int .i64 0, .int .i64 0, .int .i64 0, .slice (some ⟨w14.heap.size, 0, none⟩) 1 1, .slice none 0 0] 41)) (w14.heap.size + 1) 41 #[.int .i64 0, .int .i64 1, .int .i64 0, .int .i64 0, .int .i64 0, .slice (some ⟨w14.heap.size, 0, none⟩) 1 1, .slice none 0 0] := by
          have := Blk.new (w14.alloc (.cells #[.int .i64 1, .int .i64 2] 36)) 41 #[.int .i64 0, .int .i64 1, .int .i64 0, .int .i64 0, .int .i64 0, .slice (some ⟨w14.heap.size, 0, none⟩) 1 1, .slice none 0 0]
          have e : (w14.alloc (.cells #[.int .i64 1, .int .i64 2] 36)).heap.size = w14.heap.size + 1 := by simp
          rw [e] at this
          exact this
        clear HST
        generalize (w14.alloc (.cells #[.int .i64 1, .int .i64 2] 36)).alloc (.cells #[.int .i64 0, .int .i64 1, .int .i64 0, .int .i64 0, .int .i64 0, .slice (some ⟨w14.heap.size, 0, none⟩) 1 1, .slice none 0 0] 41) = w16 at *
        have hh16 := HH.out.ch HH14.out (Ch.of_below (S := fun _ => False) hb16 (Nat.le_refl _)) (fun _ _ h => h)
        have HB16 := Lib.hid (HB14.out.trans (hb16.mono HB14.out.size))
        have HSZ : Hid (w.heap.size <= w14.heap.size /\ w14.heap.size + 1 < w16.heap.size) := Lib.hid ⟨HB14.out.size, kmp.lt⟩
        have hpm : PI w16 (fun _ => False) mineP ((some ⟨w14.heap.size, 0, none⟩, 1), (none, 0)) := ⟨blk_sl (n := 1) ksg (fun h => h) rfl (by simp only [maxLen]; omega), Jb.bi_nil _ _⟩
        refine (HH.out.put w16 _ _ gh [] mineP _ hh16 hpm HOK.out).mono ?_
        rintro e w17 ⟨rfl, hh, cc⟩
        rw [mine_put] at hh ⊢
        have HH17 := Lib.hid hh
        have HS17 := Lib.hid cc.size
        have HB17 := Lib.hid (Psv.ch_under HB16.out cc (fun k hk hx => by have := HS13.out; have := hx.1; omega) (Nat.le_refl _))
        have kmp17 := kmp.ch cc (fun hx => by have := hx.2; omega)
        have ksg17 := ksg.ch cc (fun hx => by have := hx.2; omega)
        have c5 := kmp17.cell 5
        have s0 := ksg17.cell 0
        simp only [List.getElem?_toArray, List.getElem?_cons_zero, List.getElem?_cons_succ] at c5 s0
        clear hh cc hb16 ksg kmp hh16 hpm
        have fz := ksg17.frozen 0
        have cc9 := (Ch.refl (fun k => k = w14.heap.size) w17).setCell (p := ⟨w14.heap.size, 0, none⟩) (fun _ => rfl) (.int .i64 9)
        have hh18 := HH.out.ch HH17.out cc9 (fun k hk hx => by
          subst hx
          rcases hk with hk | hk
          . have := hk.2; omega
          . have := hk.1; have := HSZ.out.2; omega)
        have HB18 := Lib.hid (Psv.ch_under HB17.out cc9 (fun k hk hx => by have := HSZ.out.1; omega) (Nat.le_refl _))
        have HSE : Hid ((w17.setCell ⟨w14.heap.size, 0, none⟩ (.int .i64 9)).heap.size = w17.heap.size) := Lib.hid (by simp)
        have HH18 := Lib.hid hh18
        have hg := HO.out _ _ gh [mineP] 1 mineP hh18 mine_get
        clear cc9 hh18
        go_wp2_with fail
        clear fz c5 s0 kmp17 ksg17
        generalize w17.setCell ⟨w14.heap.size, 0, none⟩ (.int .i64 9) = w18 at *
        refine hg.mono ?_
        rintro e w19 ⟨⟨⟨A2, c2⟩, ⟨B2, d2⟩⟩, rfl, hss, hfz, hb⟩
        obtain ⟨ad, had, hc0, hlo, hlt⟩ := own_at hss
        simp only at had
        subst had
        rw [mine_pc]
        have hb20 : Below w19.heap.size w19 (w19.alloc (.cells #[.int .i64 0, .int .i64 1, .int .i64 0, .int .i64 0, .int .i64 0, .slice (some ad) 1 c2, .slice B2 0 d2] 41)) := (Below.refl _ w19).alloc (Nat.le_refl _) _
        have hbb := hb.trans (hb20.mono hb.size)
        have hh20 := HH.out.ch HH18.out (Ch.of_below (S := fun _ => False) hbb (Nat.le_refl _)) (fun _ _ h => h)
        have kx := Blk.new w19 41 #[.int .i64 0, .int .i64 1, .int .i64 0, .int .i64 0, .int .i64 0, .slice (some ad) 1 c2, .slice B2 0 d2]
        have c20 : (w19.alloc (.cells #[.int .i64 0, .int .i64 1, .int .i64 0, .int .i64 0, .int .i64 0, .slice (some ad) 1 c2, .slice B2 0 d2] 41)).cell? ad = some (.int .i64 1) := by rw [hb20.cell hlt]; exact hc0
        have f20 : (w19.alloc (.cells #[.int .i64 0, .int .i64 1, .int .i64 0, .int .i64 0, .int .i64 0, .slice (some ad) 1 c2, .slice B2 0 d2] 41)).frozen? ad = false := by rw [frozen_below hb20 hlt]; exact hfz ad rfl
        have x5 := kx.cell 5
        simp only [List.getElem?_toArray, List.getElem?_cons_zero, List.getElem?_cons_succ] at x5
        have HB20 := Lib.hid (HB18.out.trans (hbb.mono HB18.out.size))
        have HH20 := Lib.hid hh20
        have HLT : Hid (ad.block < w19.heap.size /\ w18.heap.size <= ad.block) := Lib.hid ⟨hlt, hlo⟩
        have HW20 : Hid (w19.heap.size + 1 = (w19.alloc (.cells #[.int .i64 0, .int .i64 1, .int .i64 0, .int .i64 0, .int .i64 0, .slice (some ad) 1 c2, .slice B2 0 d2] 41)).heap.size) := Lib.hid (by simp)
        have HSW := Lib.hid hb.size
        clear hb20 hbb hh20 kx hss hfz hb hc0 hlo hlt hg
        have HS20 : Hid (w17.heap.size = w18.heap.size) := Lib.hid HSE.out.symm
        have cc9 := (Ch.refl (fun k => k = ad.block) (w19.alloc (.cells #[.int .i64 0, .int .i64 1, .int .i64 0, .int .i64 0, .int .i64 0, .slice (some ad) 1 c2, .slice B2 0 d2] 41))).setCell (p := ad) (fun _ => rfl) (.int .i64 8)
        have hh21 := HH.out.ch HH20.out cc9 (fun k hk hx => by
          have h1 := HLT.out.2
          have h2 := HSE.out
          have h3 := HS17.out
          have h4 := HSZ.out.2
          rcases hk with hk | hk
          . have := hk.2; omega
          . have := hk.2; omega)
        have HB21 := Lib.hid (Psv.ch_under HB20.out cc9 (fun k hk hx => by
          have h1 := HLT.out.2
          have h2 := HB18.out.size
          omega) (Nat.le_refl _))
        have hg := HO.out _ _ gh [mineP] 1 mineP hh21 mine_get
        clear cc9 hh21
        go_wp2_with fail
        generalize (w19.alloc (.cells #[.int .i64 0, .int .i64 1, .int .i64 0, .int .i64 0, .int .i64 0, .slice (some ad) 1 c2, .slice B2 0 d2] 41)).setCell ad (.int .i64 8) = w21 at *
        refine hg.mono ?_
        rintro e w22 ⟨⟨⟨A3, c3⟩, ⟨B3, d3⟩⟩, rfl, hss, hfz, hb⟩
        obtain ⟨ad3, had, hc0, hlo, hlt⟩ := own_at hss
        simp only at had
        subst had
        rw [mine_pc]
        have hb23 : Below w22.heap.size w22 (w22.alloc (.cells #[.int .i64 0, .int .i64 1, .int .i64 0, .int .i64 0, .int .i64 0, .slice (some ad3) 1 c3, .slice B3 0 d3] 41)) := (Below.refl _ w22).alloc (Nat.le_refl _) _
        have hbb := hb.trans (hb23.mono hb.size)
        have kx := Blk.new w22 41 #[.int .i64 0, .int .i64 1, .int .i64 0, .int .i64 0, .int .i64 0, .slice (some ad3) 1 c3, .slice B3 0 d3]
        have c23 : (w22.alloc (.cells #[.int .i64 0, .int .i64 1, .int .i64 0, .int .i64 0, .int .i64 0, .slice (some ad3) 1 c3, .slice B3 0 d3] 41)).cell? ad3 = some (.int .i64 1) := by rw [hb23.cell hlt]; exact hc0
        have y5 := kx.cell 5
        simp only [List.getElem?_toArray, List.getElem?_cons_zero, List.getElem?_cons_succ] at y5
        have HB23 := Lib.hid (HB21.out.trans (hbb.mono HB21.out.size))
        clear hb23 hbb kx hss hfz hb hc0 hlo hlt hg
        go_wp2_with fail
        go_ret
        exact ⟨rfl, HB23.out⟩
end Go.Proofs.YtmhmnkpaijoaaaaGreat.Ptp
namespace Go.Proofs.YtmhmnkpaijoaaaaGreat.Ptz
set_option linter.unusedSimpArgs false
open Go Go.RowKit Ck Kw Ga Pra Prb Pre Prn Prr Psx Pta Ptd Pte Pua Pub
set_option linter.unusedVariables false
set_option maxRecDepth 100000
theorem hok1 : okT [] Ptp.mineP := by
  refine ⟨⟨⟨fun y hy => ?_, ?_, ?_⟩, ?_, ?_, fun y hy => ?_⟩, ?_⟩ <;> simp_all [Ptp.mineP]
end Go.Proofs.YtmhmnkpaijoaaaaGreat.Ptz

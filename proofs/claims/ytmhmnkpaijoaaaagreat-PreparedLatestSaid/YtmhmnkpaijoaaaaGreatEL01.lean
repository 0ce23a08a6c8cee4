import Derived.Maps.OwnSet
import Derived.Maps.Views
import Derived.BigQuiet
import Derived.Deep.DeepCutAuto
import Derived.Test.YtmhmnkpaijoaaaaGreatSZ01
namespace Go.Proofs.YtmhmnkpaijoaaaaGreat.Jo
set_option linter.unusedSimpArgs false
open Go Go.RowKit Go.ChangeShapes Go.WideShapes Go.ChangeAt Go.Deep Ck Kf Kp Pm Pe Py Lk Jm Ja Jb
set_option linter.unusedVariables false
set_option maxRecDepth 100000
section
variable {H : Type} {enc : TypeId × Value -> H}
theorem cells_sgn : Tryz.prog.cellsOf 36 = 2 := by kernel_rfl
theorem cells_sd : Tryz.prog.cellsOf 113 = 9 := by kernel_rfl
theorem bytes_sd : Tryz.prog.bytesOf 113 = 104 := by kernel_rfl
theorem open_sg {w : World} {base : Nat} {sp : Nat -> Bool} {held : Bool} {n : Nat} {cs : List Value} {x : DataW H × List MemPlace} (h : DataW.trod enc Tryz.prog w base sp held n 36 cs = some x) :
    ∃ s : Sg, cs = [.int .i64 s.1, .int .i64 s.2] /\ wfS s := by
  obtain ⟨xs, n', _, _, hl, hxl, hf⟩ := DataW.trod_struct Tryz.underlying36 h
  rw [cells_sgn] at hl
  have hxl' : xs.length = 2 := hxl
  match cs, hl with
  | [v0, v1], _ =>
    have f0 : DataW.trod enc Tryz.prog w base sp held n' 3 (([v0, v1].drop 0).take (Tryz.prog.cellsOf 3)) = xs[0]? := hf 0 _ rfl
    have f1 : DataW.trod enc Tryz.prog w base sp held n' 31 (([v0, v1].drop 1).take (Tryz.prog.cellsOf 31)) = xs[1]? := hf 1 _ rfl
    rw [Py.cells_int] at f0
    rw [cells_dig] at f1
    simp only [List.drop_zero, List.drop_succ_cons, List.take_succ_cons, List.take_zero] at f0 f1
    obtain ⟨z0, e0, w0⟩ := one_int Tryz.underlying3 (by omega) f0
    obtain ⟨z1, e1, w1⟩ := one_int Tryz.underlying31 (by omega) f1
    have b0 : -9223372036854775808 <= z0 /\ z0 <= 9223372036854775807 := by simpa [Lit.wf, IntKind.min, IntKind.max, IntKind.signed, IntKind.bits] using w0
    have b1 : -9223372036854775808 <= z1 /\ z1 <= 9223372036854775807 := by simpa [Lit.wf, IntKind.min, IntKind.max, IntKind.signed, IntKind.bits] using w1
    simp only [List.cons.injEq, and_true] at e0 e1
    exact ⟨(z0, z1), by rw [e0, e1], b0.1, b0.2, b1.1, b1.2⟩
theorem open_sd {w : World} {base : Nat} {fuel : Nat} {cs : List Value} {x : DataW H × List MemPlace} (h : DataW.trod enc Tryz.prog w base (fun _ => true) true fuel 113 cs = some x) :
    ∃ (d : Sd) (A : Option Addr) (c : Nat), cs = (DC d A c).toList /\ Ls w (fun k => w.heap.size <= k) (.slice A d.q.o.recs.length c) d.q.o.recs
      /\ wfS d.s /\ wfQ d.q /\ ∀ R, (∀ n ∈ x.1.weights Tryz.prog 113, n <= R) -> far d.q.o R := by
  obtain ⟨xs, n', _, hx, hl, hxl, hf⟩ := DataW.trod_struct Tryz.underlying113 h
  rw [cells_sd] at hl
  have hxl' : xs.length = 2 := hxl
  match cs, hl with
  | [v0, v1, v2, v3, v4, v5, v6, v7, v8], _ =>
    have f0 : DataW.trod enc Tryz.prog w base (fun _ => true) true n' 111 (([v0, v1, v2, v3, v4, v5, v6, v7, v8].drop 0).take (Tryz.prog.cellsOf 111)) = xs[0]? := hf 0 _ rfl
    have f1 : DataW.trod enc Tryz.prog w base (fun _ => true) true n' 36 (([v0, v1, v2, v3, v4, v5, v6, v7, v8].drop 7).take (Tryz.prog.cellsOf 36)) = xs[1]? := hf 1 _ rfl
    rw [cells_req] at f0
    rw [cells_sgn] at f1
    simp only [List.drop_zero, List.drop_succ_cons, List.take_succ_cons, List.take_zero] at f0 f1
    rw [List.getElem?_eq_getElem (by omega)] at f0 f1
    obtain ⟨q, A, c, e0, hls, hwq, hfar⟩ := open_q f0
    obtain ⟨s, e1, hws⟩ := open_sg f1
    simp only [QC, List.cons.injEq, and_true] at e0 e1
    obtain ⟨rfl, rfl, rfl, rfl, rfl, rfl, rfl⟩ := e0
    obtain ⟨rfl, rfl⟩ := e1
    refine ⟨⟨q, s⟩, A, c, rfl, hls, hws, hwq, fun R hR => hfar R fun n hn => ?_⟩
    refine hR n ?_
    rw [hx]
    simp only [DataW.weights, Tryz.underlying113]
    exact DataW.weights_mem_each (ts := [111, 36]) (j := 0) (t := 111) rfl (by simp [List.getElem?_eq_getElem (show 0 < xs.length by omega)]) n hn
theorem open_batch {w : World} {fuel : Nat} {base : Nat} {v : Value} {x : DataW H × List MemPlace} (h : DataW.trod enc Tryz.prog w base (fun _ => true) true fuel 39 [v] = some x) (hR : ∀ n ∈ x.1.weights Tryz.prog 39, n <= 140737488351232) :
    ∃ (l : List Sd), BI w (fun k => w.heap.size <= k) v l /\ l.length * 104 <= 140737488351232 /\ ∀ y ∈ l, far y.q.o 140737488351232 /\ wfS y.s := by
  rcases open_slice Tryz.underlying39 h with ⟨hcs, rfl⟩ | ⟨a, len, cap, m, n, D, Pl, hcs, _, hl, hm, hmm, rfl, hx⟩
  . obtain rfl : v = .slice none 0 0 := by simpa using hcs
    exact ⟨[], bi_nil _ _, by simp, fun y hy => absurd hy (by simp)⟩
  . obtain rfl : v = .slice (some a) len cap := by simpa using hcs
    simp only [if_true] at hmm
    have each : ∀ i, ∃ r : Sd × (Option Addr × Nat), i < len -> (∀ j u, (DC r.1 r.2.1 r.2.2).toList[j]? = some u -> w.cell? (a.add (i * 9 + j)) = some u) /\ Ls w (fun k => w.heap.size <= k) (.slice r.2.1 r.1.q.o.recs.length r.2.2) r.1.q.o.recs /\ far r.1.q.o 140737488351232 /\ wfS r.1.s := by
      intro i
      by_cases hi : i < len
      . obtain ⟨cs', hc, ht⟩ := hx i (by omega)
        obtain ⟨d, Ar, cr, rfl, hb, hws, _, hr⟩ := open_sd ht
        rw [cells_sd] at hc
        obtain ⟨_, _, hcell⟩ := World.cells?_some hc
        have hw := hr 140737488351232 (fun n hn => hR n (by
          simp only [DataW.weights, Tryz.underlying39, List.mem_cons, List.mem_append]
          exact .inr (.inl (all_mem hn (List.mem_map.2 ⟨i, by simpa using hi, rfl⟩)))))
        refine ⟨(d, (Ar, cr)), fun _ => ⟨fun j u hu => ?_, hb, hw, hws⟩⟩
        have hj : j < 9 := (List.getElem?_eq_some_iff.1 hu).1
        have h1 := hcell j hj
        rw [Ck.add_add] at h1
        rw [h1, <- hu, List.getElem?_eq_getElem (show j < (DC d Ar cr).toList.length from hj)]
      . exact ⟨(Sd.zero, (none, 0)), fun h => absurd h hi⟩
    obtain ⟨f, hf⟩ := Classical.axiomOfChoice each
    have hlen : ((List.range len).map fun i => (f i).1).length = len := by simp
    have hrl : ((List.range len).map fun i => (f i).2).length = ((List.range len).map fun i => (f i).1).length := by simp
    refine ⟨(List.range len).map fun i => (f i).1, ⟨(List.range len).map fun i => (f i).2, hrl, ?_, fun i hi => ?_⟩, ?_, fun y hy => ?_⟩
    . refine ⟨some a, cap, by rw [hlen], by rw [flat_length hrl], by rw [hlen]; exact hl, hm, fun hn => ?_⟩
      rw [hlen] at hn
      have h0 := (hf 0 hn).1 0 _ rfl
      refine ⟨a, rfl, by have := World.block_lt_of_cell? w _ h0; rw [Ck.add_block] at this; exact this, by have := World.block_lt_of_cell? w _ h0; rw [Ck.add_block] at this; omega, fun j u hu => ?_⟩
      have hj : j < len * 9 := by
        have := (List.getElem?_eq_some_iff.1 hu).1
        rw [flat_length hrl, hlen] at this
        exact this
      have hi : j / 9 < len := by omega
      have hz : j / 9 < (((List.range len).map fun i => (f i).1).zip ((List.range len).map fun i => (f i).2)).length := by rw [zip_len hrl, hlen]; exact hi
      have hg := flat_get DC_len (((List.range len).map fun i => (f i).1).zip ((List.range len).map fun i => (f i).2)) (j / 9) hz (j % 9) (by omega)
      rw [show j / 9 * 9 + j % 9 = j by omega] at hg
      rw [flat, hg] at hu
      have := (hf (j / 9) hi).1 (j % 9) u (by
        rw [<- hu]
        congr 1
        simp)
      rwa [show j / 9 * 9 + j % 9 = j by omega] at this
    . have hi' : i < len := by simpa using hi
      refine ⟨(f i).2, by simp [hi'], ?_⟩
      have := (hf i hi').2.1
      simpa using this
    . have := hR _ (by simp only [DataW.weights, Tryz.underlying39]; exact List.mem_cons_self)
      rw [bytes_sd] at this
      simp only [List.length_map, List.length_range] at this ⊢
      omega
    . obtain ⟨i, hi, rfl⟩ := List.mem_map.1 hy
      have hi' : i < len := by simpa using hi
      exact (hf i hi').2.2
end
end Go.Proofs.YtmhmnkpaijoaaaaGreat.Jo
namespace Go.Proofs.YtmhmnkpaijoaaaaGreat.Ptm
set_option linter.unusedSimpArgs false
open Go Go.RowKit Go.ChangeShapes Go.WideShapes Go.ChangeAt Go.Deep Ck Kf Kp Pm Pe Py Lk Jm Ja Jb Jo Pra Prb Prr Pta Pte
set_option linter.unusedVariables false
set_option maxRecDepth 100000
section
variable {H : Type} {enc : TypeId × Value -> H}
theorem open_gen {w : World} {fuel base : Nat} {v : Value} {x : DataW H × List MemPlace} {TS TE : TypeId} (hu : Tryz.prog.underlying TS = some (.slice TE)) {size bytes R : Nat} (hc : Tryz.prog.cellsOf TE = size) (hb : Tryz.prog.bytesOf TE = bytes) (hs : 0 < size)
    {E : Type} (cells : E -> List Value) (hlen : ∀ e, (cells e).length = size) (P : E -> Prop) (d : E)
    (helem : ∀ fuel cs y, DataW.trod enc Tryz.prog w base (fun _ => true) true fuel TE cs = some y -> (∀ n ∈ y.1.weights Tryz.prog TE, n <= R) -> ∃ e, cs = cells e /\ P e)
    (h : DataW.trod enc Tryz.prog w base (fun _ => true) true fuel TS [v] = some x) (hR : ∀ n ∈ x.1.weights Tryz.prog TS, n <= R) :
    ∃ l : List E, Sl w (fun k => w.heap.size <= k) size v l.length (l.flatMap cells) /\ l.length * bytes <= R /\ ∀ e ∈ l, P e := by
  rcases open_slice hu h with ⟨hcs, rfl⟩ | ⟨a, len, cap, m, n, D, Pl, hcs, _, hl, hm, hmm, rfl, hx⟩
  . obtain rfl : v = .slice none 0 0 := by simpa using hcs
    exact ⟨[], Sl.nil _ _ _, by simp, fun e he => absurd he (by simp)⟩
  . obtain rfl : v = .slice (some a) len cap := by simpa using hcs
    simp only [if_true] at hmm
    have each : ∀ i, ∃ e : E, i < len -> (∀ j u, (cells e)[j]? = some u -> w.cell? (a.add (i * size + j)) = some u) /\ P e := by
      intro i
      by_cases hi : i < len
      . obtain ⟨cs', hcc, ht⟩ := hx i (by omega)
        obtain ⟨e, rfl, hp⟩ := helem _ _ _ ht (fun n hn => hR n (by
          simp only [DataW.weights, hu, List.mem_cons, List.mem_append]
          exact .inr (.inl (all_mem hn (List.mem_map.2 ⟨i, by simpa using hi, rfl⟩)))))
        rw [hc] at hcc
        obtain ⟨_, _, hcell⟩ := World.cells?_some hcc
        refine ⟨e, fun _ => ⟨fun j u hj => ?_, hp⟩⟩
        have hjl : j < size := by rw [<- hlen e]; exact (List.getElem?_eq_some_iff.1 hj).1
        have h1 := hcell j hjl
        rw [Ck.add_add] at h1
        rw [h1, <- hj, List.getElem?_eq_getElem (by rw [hlen]; exact hjl)]
      . exact ⟨d, fun h => absurd h hi⟩
    obtain ⟨f, hf⟩ := Classical.axiomOfChoice each
    have hll : ((List.range len).map f).length = len := by simp
    refine ⟨(List.range len).map f, ?_, ?_, fun e he => ?_⟩
    . refine ⟨some a, cap, by rw [hll], by rw [flat_len hlen, hll], by rw [hll]; exact hl, hm, fun hn => ?_⟩
      rw [hll] at hn
      have h00 : (cells (f 0))[0]? = some ((cells (f 0))[0]'(by rw [hlen]; exact hs)) := List.getElem?_eq_getElem _
      have h0 := (hf 0 hn).1 0 _ h00
      refine ⟨a, rfl, by have := World.block_lt_of_cell? w _ h0; rw [Ck.add_block] at this; exact this, by have := World.block_lt_of_cell? w _ h0; rw [Ck.add_block] at this; omega, fun j u hj => ?_⟩
      have hjl : j < len * size := by
        have := (List.getElem?_eq_some_iff.1 hj).1
        rw [flat_len hlen, hll] at this
        exact this
      have hi : j / size < len := (Nat.div_lt_iff_lt_mul hs).2 hjl
      have hmd : j % size < size := Nat.mod_lt _ hs
      have hg := flat_get hlen ((List.range len).map f) (j / size) (by rw [hll]; exact hi) (j % size) hmd
      rw [Nat.div_add_mod' j size] at hg
      rw [hg] at hj
      have := (hf (j / size) hi).1 (j % size) u (by rw [<- hj]; congr 1; simp)
      rwa [Nat.div_add_mod' j size] at this
    . have := hR _ (by simp only [DataW.weights, hu]; exact List.mem_cons_self)
      rw [hb] at this
      rw [hll]
      simp only [List.length_append, List.length_map, List.length_range, List.length_replicate] at this
      exact Nat.le_trans (Nat.mul_le_mul_right bytes (by omega)) this
    . obtain ⟨i, hi, rfl⟩ := List.mem_map.1 he
      exact (hf i (by simpa using hi)).2
theorem bytes_sgn : Tryz.prog.bytesOf 36 = 16 := by kernel_rfl
theorem open_ss {w : World} {fuel base : Nat} {v : Value} {x : DataW H × List MemPlace} {R : Nat} (h : DataW.trod enc Tryz.prog w base (fun _ => true) true fuel 37 [v] = some x) (hR : ∀ n ∈ x.1.weights Tryz.prog 37, n <= R) :
    ∃ l : List Sg, SS w (fun k => w.heap.size <= k) v l /\ l.length * 16 <= R /\ ∀ s ∈ l, wfS s :=
  open_gen Tryz.underlying37 cells_sgn bytes_sgn (by omega) SC SC_len wfS (0, 0) (fun fuel cs y hy _ => by
    obtain ⟨s, h1, h2⟩ := open_sg hy
    exact ⟨s, h1, h2⟩) h hR
theorem cells_prep : Tryz.prog.cellsOf 41 = 7 := by kernel_rfl
theorem bytes_prep : Tryz.prog.bytesOf 41 = 88 := by kernel_rfl
theorem cells_ss : Tryz.prog.cellsOf 37 = 1 := by kernel_rfl
theorem cells_bat : Tryz.prog.cellsOf 39 = 1 := by kernel_rfl
def wfP (p : Pd) : Prop := (-9223372036854775808 <= p.seq /\ p.seq <= 9223372036854775807) /\ (-9223372036854775808 <= p.view /\ p.view <= 9223372036854775807)
theorem open_prep {w : World} {base fuel : Nat} {cs : List Value} {x : DataW H × List MemPlace} (h : DataW.trod enc Tryz.prog w base (fun _ => true) true fuel 41 cs = some x) (hR : ∀ n ∈ x.1.weights Tryz.prog 41, n <= 140737488351232) :
    ∃ e : Pd × Pl2, cs = (PC e.1 e.2).toList /\ PI w (fun k => w.heap.size <= k) e.1 e.2 /\ okV e.1 /\ wfP e.1 := by
  obtain ⟨xs, n', _, hx, hl, hxl, hf⟩ := DataW.trod_struct Tryz.underlying41 h
  rw [cells_prep] at hl
  have hxl' : xs.length = 6 := hxl
  match cs, hl with
  | [v0, v1, v2, v3, v4, v5, v6], _ =>
    have f0 : DataW.trod enc Tryz.prog w base (fun _ => true) true n' 2 (([v0, v1, v2, v3, v4, v5, v6].drop 0).take (Tryz.prog.cellsOf 2)) = xs[0]? := hf 0 _ rfl
    have f1 : DataW.trod enc Tryz.prog w base (fun _ => true) true n' 2 (([v0, v1, v2, v3, v4, v5, v6].drop 1).take (Tryz.prog.cellsOf 2)) = xs[1]? := hf 1 _ rfl
    have f2 : DataW.trod enc Tryz.prog w base (fun _ => true) true n' 31 (([v0, v1, v2, v3, v4, v5, v6].drop 2).take (Tryz.prog.cellsOf 31)) = xs[2]? := hf 2 _ rfl
    have f3 : DataW.trod enc Tryz.prog w base (fun _ => true) true n' 36 (([v0, v1, v2, v3, v4, v5, v6].drop 3).take (Tryz.prog.cellsOf 36)) = xs[3]? := hf 3 _ rfl
    have f4 : DataW.trod enc Tryz.prog w base (fun _ => true) true n' 37 (([v0, v1, v2, v3, v4, v5, v6].drop 5).take (Tryz.prog.cellsOf 37)) = xs[4]? := hf 4 _ rfl
    have f5 : DataW.trod enc Tryz.prog w base (fun _ => true) true n' 39 (([v0, v1, v2, v3, v4, v5, v6].drop 6).take (Tryz.prog.cellsOf 39)) = xs[5]? := hf 5 _ rfl
    rw [Py.cells_i64] at f0 f1
    rw [Jo.cells_dig] at f2
    rw [cells_sgn] at f3
    rw [cells_ss] at f4
    rw [cells_bat] at f5
    simp only [List.drop_zero, List.drop_succ_cons, List.take_succ_cons, List.take_zero] at f0 f1 f2 f3 f4 f5
    obtain ⟨z0, e0, w0⟩ := one_int Tryz.underlying2 (by omega) f0
    obtain ⟨z1, e1, w1⟩ := one_int Tryz.underlying2 (by omega) f1
    obtain ⟨z2, e2, w2⟩ := one_int Tryz.underlying31 (by omega) f2
    rw [List.getElem?_eq_getElem (by omega)] at f3 f4 f5
    have m : ∀ (j : Nat) (t : TypeId) (ht : [2, 2, 31, 36, 37, 39][j]? = some t) (hj : j < xs.length), ∀ n ∈ (xs[j]).1.weights Tryz.prog t, n <= 140737488351232 := fun j t ht hj n hn => hR n (by
      rw [hx]
      simp only [DataW.weights, Tryz.underlying41]
      exact DataW.weights_mem_each (ts := [2, 2, 31, 36, 37, 39]) (j := j) (t := t) ht (by simp [List.getElem?_eq_getElem hj]) n hn)
    obtain ⟨s, e3, ws⟩ := open_sg f3
    obtain ⟨sl, hss, hsl, _⟩ := open_ss f4 (m 4 _ rfl (by omega))
    obtain ⟨bl, hbi, hbl, hby⟩ := open_batch f5 (m 5 _ rfl (by omega))
    have b0 : -9223372036854775808 <= z0 /\ z0 <= 9223372036854775807 := by simpa [Lit.wf, IntKind.min, IntKind.max, IntKind.signed, IntKind.bits] using w0
    have b1 : -9223372036854775808 <= z1 /\ z1 <= 9223372036854775807 := by simpa [Lit.wf, IntKind.min, IntKind.max, IntKind.signed, IntKind.bits] using w1
    simp only [List.cons.injEq, and_true] at e0 e1 e2 e3
    obtain ⟨A, c, rfl, -⟩ := id hss
    obtain ⟨A2, c2, rfl, -⟩ := hbi.shape
    refine ⟨(⟨z0, z1, z2, s, sl, bl⟩, ((A, c), (A2, c2))), ?_, ⟨hss, hbi⟩, ⟨⟨fun y hy => ?_, show bl.length <= 140737488355328 by omega, show sl.length <= 140737488355328 by omega⟩, hsl, hbl, fun y hy => (hby y hy).1⟩, b1, b0⟩
    . rw [e0, e1, e2, e3.1, e3.2]; rfl
    . have := (hby y hy).1.2.2.1; omega
theorem zip_maps {α β : Type} : ∀ l : List (α × β), (l.map (·.1)).zip (l.map (·.2)) = l
  | [] => rfl
  | e :: l => by rw [List.map_cons, List.map_cons, List.zip_cons_cons, zip_maps l]
theorem open_preps {w : World} {base fuel : Nat} {v : Value} {x : DataW H × List MemPlace} (h : DataW.trod enc Tryz.prog w base (fun _ => true) true fuel 30 [v] = some x) (hR : ∀ n ∈ x.1.weights Tryz.prog 30, n <= 140737488351232) :
    ∃ l : List Pd, PL w (fun k => w.heap.size <= k) v l /\ l.length * 88 <= 140737488351232 /\ ∀ p ∈ l, okV p /\ wfP p := by
  obtain ⟨l, h1, h2, h3⟩ := open_gen Tryz.underlying30 cells_prep bytes_prep (by omega) (fun e : Pd × Pl2 => (PC e.1 e.2).toList) (fun e => PC_len e) (fun e => PI w (fun k => w.heap.size <= k) e.1 e.2 /\ okV e.1 /\ wfP e.1) (Pd.zero, ((none, 0), (none, 0))) (fun fuel cs y hy hr => open_prep hy hr) h hR
  refine ⟨l.map (·.1), ⟨l.map (·.2), ⟨by simp, fun i hi => ?_⟩, ?_⟩, by rw [List.length_map]; exact h2, fun p hp => ?_⟩
  . have hi' : i < l.length := by simpa using hi
    refine ⟨l[i].2, by rw [List.getElem?_map, List.getElem?_eq_getElem hi']; rfl, ?_⟩
    have := (h3 _ (List.getElem_mem hi')).1
    simpa using this
  . rw [List.length_map, flatP, zip_maps]
    exact h1
  . obtain ⟨e, he, rfl⟩ := List.mem_map.1 hp
    exact (h3 e he).2
end
end Go.Proofs.YtmhmnkpaijoaaaaGreat.Ptm
namespace Go.Proofs.YtmhmnkpaijoaaaaGreat.Pth
set_option linter.unusedSimpArgs false
open Go Go.RowKit Ck Cf Kw Ga Kf Pm Pe Pg Ik Lk Jm Ja Jb Jf Jg Jl Jn Kc Kj Pra Prb Prc Prd Pre Prf Prn Prr Prx Psg Psh Psx Pta Ptd Pte
set_option linter.unusedVariables false
set_option maxRecDepth 100000
theorem put_same {m : List Pd} {p : Pd} (h : Rise m) (hg : okN p.seq = true -> ∃ q, getP m p.seq = some q /\ p.view <= q.view) : (putP m p).1 = m := by
  unfold putP
  split
  . rename_i hp
    obtain ⟨q, h1, h2⟩ := hg hp
    rw [get_had h] at h1
    rw [h1]
    simp only
    rw [if_pos h2]
  . rfl
theorem get_after {m : List Pd} {p : Pd} (hr : Rise m) : (getP (putP m p).1 p.seq).isSome = okN p.seq := by
  rw [get_put hr]
  cases hp : okN p.seq with
  | true =>
    rw [if_pos ⟨rfl, rfl⟩]
    cases getP m p.seq with
    | none => rfl
    | some q => simp only; split <;> rfl
  | false =>
    rw [if_neg (fun hx => by cases hx.2)]
    cases hg : getP m p.seq with
    | none => rfl
    | some q =>
      have h1 := List.mem_of_find?_eq_some hg
      have h2 := List.find?_some hg
      have h3 := hr.2 q h1
      simp only [beq_iff_eq] at h2
      rw [h2, hp] at h3
      cases h3
section
variable {H : World -> (Nat -> Prop) -> Nat -> List Pd -> Prop} {ok : List Pd -> Pd -> Prop} {w W W' : World} {gh mm : Nat} {S : Nat -> Prop} {m m' : List Pd} {k : Nat} {D D' : DataW Unit}
theorem LS.look1 (h : LS H w gh mm S m k D W) (n : Int) (h1 : -9223372036854775808 <= n) (h2 : n <= 9223372036854775807) : (Instr.lookup 84 (.map (some mm)) (.int .i64 n) false).run Tryz.prog W = .ok (.int .i64 (viewOf (getP m n))) W := by
  obtain ⟨c, hrun, hat, -⟩ := h.mp.lookup_int law_i64 Tryz.underlying84 Tryz.underlying2 (zero_i64 W) (key_i64 h1 h2)
  rw [(h.nv.at_ n).2] at hat
  injection hat with hat
  injection hat with _ hat
  rw [hrun, hat]
end
end Go.Proofs.YtmhmnkpaijoaaaaGreat.Pth
namespace Go.Proofs.YtmhmnkpaijoaaaaGreat.Pti
set_option linter.unusedSimpArgs false
open Go Go.RowKit Ck Cf Kw Ga Kf Pm Pe Pg Ik Lk Jm Ja Jb Jf Jg Jl Jn Kc Kj Pra Prb Prc Prd Pre Prf Prn Prr Prx Psg Psh Psx Pta Ptd Pte Pth
attribute [local go_sem ↓] Go.wp_at_zero Go.wp_at_succ
set_option linter.unusedVariables false
set_option maxRecDepth 100000
def putsP (l : List Pd) : List Pd := l.foldl (fun m p => (putP m p).1) []
theorem putsP_step {l : List Pd} {k : Nat} (hk : k < l.length) : putsP (l.take (k + 1)) = (putP (putsP (l.take k)) l[k]).1 := by
  unfold putsP
  rw [List.take_succ_eq_append_getElem hk, List.foldl_append]
  rfl
theorem putsP_ok {l : List Pd} (h : ∀ d ∈ l, okV d) : ∀ k, k <= l.length -> OkL (putsP (l.take k)) k
  | 0, _ => by simpa [putsP] using OkL.nil 0
  | k + 1, hk => by
    rw [putsP_step (by omega)]
    exact (putsP_ok h k (by omega)).put (h _ (List.getElem_mem (by omega)))
theorem view_get (o : Option Pd) : (o.getD Pd.zero).view = viewOf o := by cases o <;> rfl
set_option maxHeartbeats 32000000 in
theorem latest_law {H : World -> (Nat -> Prop) -> Nat -> List Pd -> Prop} {ok : List Pd -> Pd -> Prop} {okl : List Pd -> Prop} (HL : LiveC) (HH : HeldC H ok) (HD : HeldD H okl) (hok : ∀ m x, OkL m 1599289640354 -> okV x -> ok m x) (w : World) (ps : List Pd) (vl : Value) (hl : PL w (fun k => w.heap.size <= k) vl ps) (ho : ∀ d ∈ ps, okV d) (hr : ∀ d ∈ ps, -9223372036854775808 <= d.seq /\ d.seq <= 9223372036854775807 /\ -9223372036854775808 <= d.view /\ d.view <= 9223372036854775807) (hn : ps.length <= 1599289640354) :
    Calls Tryz.prog 6 #[vl] w fun e w' => e = .returned (.bool true) /\ Below w.heap.size w w' := by
  obtain ⟨Al, cl, rfl, -⟩ := hl.shape
  have HL := Lib.hid HL
  have HU := Lib.hid hl
  have HO := Lib.hid ho
  have HR := Lib.hid hr
  have HOK := Lib.hid hok
  have hni : (ps.length : Int) <= 1599289640354 := by omega
  have hmk : ∀ W : World, (Instr.makeMap 84 none).run Tryz.prog W = .ok (.map (some W.heap.size)) (W.alloc (.map #[] 0)) := fun W => by kernel_rfl
  clear hl ho hok hr
  go_enter Tryz.func6, Tryz.ntmps6
  go_wp2_with fail
  refine (HL.out w).mono ?_
  rintro e w1 ⟨rfl, hb1⟩
  have HB1 := Lib.hid hb1
  clear hb1 HL
  go_wp2_with fail
  refine (HH.new w1).mono ?_
  rintro e w2 ⟨gh, rfl, hh, hb2⟩
  have hst : LS H w gh w2.heap.size (fun k => w1.heap.size <= k /\ k < w2.heap.size) [] 0 (.map []) (w2.alloc (.map #[] 0)) := by
    have hs1 := HB1.out.size
    have hs2 := hb2.size
    have hb3 : Below w2.heap.size w2 (w2.alloc (.map #[] 0)) := (Below.refl _ w2).alloc (Nat.le_refl _) _
    have h2 := HB1.out.trans (hb2.mono hs1)
    exact ⟨HH.ch hh (Ch.of_below (S := fun _ => False) hb3 (Nat.le_refl _)) (fun _ _ h => h), fun k hk => by simp; omega, fun k hk => by omega, h2.trans (hb3.mono h2.size), fun hx => by omega, h2.size, World.ownsMap_made w2 _ _ _, NumV.empty⟩
  have HST : Hid (∃ S D, LS H w gh w2.heap.size S (putsP (ps.take 0)) 0 D (w2.alloc (.map #[] 0))) := Lib.hid ⟨_, _, hst⟩
  clear hh hb2 hst HB1
  go_wp2_with fail
  generalize w2.alloc (.map #[] 0) = w3 at *
  generalize w2.heap.size = mm at *
  go_loopw [17] (fun i wr => ∃ k : Nat, k <= ps.length /\ i = .int .i64 k /\ ∃ S D, LS H w gh mm S (putsP (ps.take k)) k D wr) (fun i _ => ps.length - (intOf i).toNat)
  case atStart =>
    obtain ⟨S, D, h⟩ := HST.out
    exact ⟨0, Nat.zero_le _, rfl, S, D, h⟩
  case round =>
    obtain ⟨k, hk, rfl, S, D, hst⟩ := hrel
    clear HST
    by_cases hkt : k < ps.length
    . have hkp : (0 : Int) <= (k : Int) := by omega
      have hkn : (k : Int) < (ps.length : Int) := by omega
      have hkd : decide ((k : Int) < (ps.length : Int)) = true := decide_eq_true hkn
      obtain ⟨al, r, rfl, hat, hpi⟩ := HU.out.at_ hkt
      obtain ⟨a0, a1, a2, a3, a4, a5, a6⟩ := hat.later hst.hb
      have HOD := Lib.hid (HO.out _ (List.getElem_mem hkt))
      have hrd := HR.out _ (List.getElem_mem hkt)
      have HRK := Lib.hid (putsP_ok HO.out k hk)
      have HNX := Lib.hid (putsP_step hkt)
      have HKT := Lib.hid hkt
      have HKN : Hid (k + 1 <= 1599289640355 /\ k <= 1599289640354) := Lib.hid (by omega)
      generalize putsP (ps.take k) = m at *
      generalize ps[k] = d at *
      have HPI : Hid (∀ W, Below w.heap.size w W -> PI W (fun k => w.heap.size <= k) d r) := Lib.hid (fun W b => hpi.after b)
      have hb4 : Below wr.heap.size wr (wr.alloc (.cells #[.int .i64 d.view, .int .i64 d.seq, .int .i64 d.dig, .int .i64 d.first.1, .int .i64 d.first.2, .slice r.1.1 d.signs.length r.1.2, .slice r.2.1 d.batch.length r.2.2] 41)) := (Below.refl _ wr).alloc (Nat.le_refl _) _
      have HS4 := Lib.hid (hst.later HH hb4)
      have HK4 : Hid (Blk (wr.alloc (.cells #[.int .i64 d.view, .int .i64 d.seq, .int .i64 d.dig, .int .i64 d.first.1, .int .i64 d.first.2, .slice r.1.1 d.signs.length r.1.2, .slice r.2.1 d.batch.length r.2.2] 41)) wr.heap.size 41 (PC d r) /\ ¬ S wr.heap.size /\ wr.heap.size ≠ mm) := Lib.hid ⟨Blk.new wr _ _, fun hx => by have := hst.lt _ hx; omega, by have := hst.mp.lt; omega⟩
      have HRG := Lib.hid hrd
      clear hst hpi hk hkt hat hb4 hrd
      go_wp2_with fail
      generalize hwx : wr.alloc (.cells #[.int .i64 d.view, .int .i64 d.seq, .int .i64 d.dig, .int .i64 d.first.1, .int .i64 d.first.2, .slice r.1.1 d.signs.length r.1.2, .slice r.2.1 d.batch.length r.2.2] 41) = wx at *
      generalize hgx : wr.heap.size = gx at *
      clear hwx hgx
      refine (HH.put wx S _ gh m d r HS4.out.hh (HPI.out wx HS4.out.hb) (HOK.out _ _ (HRK.out.mono HKN.out.2) HOD.out)).mono ?_
      rintro e w5 ⟨rfl, hh5, cc5⟩
      have hs5 := cc5.size
      have HM : Hid (w5.ownsMap Tryz.prog 2 (plainElem Tryz.prog 2) mm k D) := Lib.hid (map_ch HS4.out.mp cc5 HS4.out.ms)
      have hk5 := HK4.out.1.ch cc5 HK4.out.2.1
      have hml := HS4.out.mp.lt
      have hgl := HK4.out.1.lt
      have HS5 : Hid (LS H w gh mm (Nw S wx.heap.size w5.heap.size) (putP m d).1 k D w5 \/ True) := Lib.hid (.inr trivial)
      have HH5 : Hid (H w5 (Nw S wx.heap.size w5.heap.size) gh (putP m d).1) := Lib.hid hh5
      have HB5 : Hid (Below w.heap.size w w5) := Lib.hid (Psv.ch_under HS4.out.hb cc5 (fun k hk hx => by have := HS4.out.lo k hx; omega) (Nat.le_refl _))
      have HNW : Hid ((∀ k, Nw S wx.heap.size w5.heap.size k -> k < w5.heap.size) /\ (∀ k, Nw S wx.heap.size w5.heap.size k -> w.heap.size <= k) /\ ¬ Nw S wx.heap.size w5.heap.size mm /\ ¬ Nw S wx.heap.size w5.heap.size gx) := Lib.hid ⟨fun k hk => by
          rcases hk with hk | hk
          . exact Nat.lt_of_lt_of_le (HS4.out.lt k hk) hs5
          . exact hk.2, fun k hk => by
          rcases hk with hk | hk
          . exact HS4.out.lo k hk
          . have := HS4.out.hb.size; omega, fun hk => by
          rcases hk with hk | hk
          . exact HS4.out.ms hk
          . omega, fun hk => by
          rcases hk with hk | hk
          . exact HK4.out.2.1 hk
          . omega⟩
      have HLK : Hid (∀ n, -9223372036854775808 <= n -> n <= 9223372036854775807 -> (Instr.lookup 84 (.map (some mm)) (.int .i64 n) true).run Tryz.prog w5 = .ok (.tuple #[.int .i64 (viewOf (getP m n)), .bool (getP m n).isSome]) w5) := Lib.hid (fun n h1 h2 => by
        obtain ⟨v, ps, hrun, hv⟩ := HM.out.look_ok law_i64 Tryz.underlying84 (zero_i64 w5) (zd := .lit (.int .i64 0)) (zp := []) (plainElem_int Tryz.underlying2 (by decide)) (key_i64 h1 h2)
        rw [(HS4.out.nv.at_ n).2] at hv
        obtain ⟨c, rfl, hc, _⟩ := plainElem_int_inv Tryz.underlying2 hv
        have hc : (DataW.lit (.int .i64 (viewOf (getP m n))) : DataW Unit) = .lit (.int .i64 c) := congrArg Prod.fst hc
        injection hc with hc
        injection hc with _ hc
        rw [hrun, (HS4.out.nv.at_ n).1, hc])
      have hlk := HLK.out d.seq HRG.out.1 HRG.out.2.1
      have b0 := hk5.cell 0
      have b1 := hk5.cell 1
      simp only [PC, List.getElem?_toArray, List.getElem?_cons_zero, List.getElem?_cons_succ] at b0 b1
      have HK5 := Lib.hid hk5
      have HNV := Lib.hid HS4.out.nv
      have HAF := Lib.hid (get_after (p := d) HRK.out.rise)
      have HMP := Lib.hid (And.intro HS4.out.ms HS4.out.mo)
      have HGX : Hid (gx ≠ mm) := Lib.hid HK4.out.2.2
      clear hh5 cc5 hs5 hk5 hml hgl HS5 HS4 HK4 HLK
      generalize Nw S wx.heap.size w5.heap.size = S5 at *
      have HFIN : Hid (∀ D' W k', k' <= k + 1 -> W.ownsMap Tryz.prog 2 (plainElem Tryz.prog 2) mm k' D' -> NumV D' (putP m d).1 -> (W = w5 \/ w5.grownBy W (some mm)) -> LS H w gh mm S5 (putP m d).1 (k + 1) D' W /\ Blk W gx 41 (PC d r)) := Lib.hid (fun D' W k' hk' hm hnv hw => by
        rcases hw with rfl | hw
        . exact ⟨⟨HH5.out, HNW.out.1, HNW.out.2.1, HB5.out, HNW.out.2.2.1, HMP.out.2, hm.mono hk', hnv⟩, HK5.out⟩
        . have cc : Ch (fun k => k = mm) w5 W := Ch.of_grown hw (fun k hk _ => by injection hk with hk; exact hk.symm)
          exact ⟨⟨HH.ch HH5.out cc (fun k hk hx => HNW.out.2.2.1 (by rw [<- hx]; exact hk)), fun k hk => Nat.lt_of_lt_of_le (HNW.out.1 k hk) cc.size, HNW.out.2.1, Psv.ch_under HB5.out cc (fun k hk hx => by have := HMP.out.2; omega) (Nat.le_refl _), HNW.out.2.2.1, HMP.out.2, hm.mono hk', hnv⟩, HK5.out.ch cc HGX.out⟩)
      have HKM : Hid (k < maxLen /\ (k : Int) <= 1599289640354) := Lib.hid (by have := HKN.out.2; simp only [maxLen]; omega)
      obtain ⟨A, hA⟩ : ∃ A, A = (getP (putP m d).1 d.seq).getD Pd.zero := ⟨_, rfl⟩
      have HGE : Hid (∀ W, H W S5 gh (putP m d).1 -> Calls Tryz.prog 23 #[.pointer (some ⟨gh, 0, none⟩), .int .i64 d.seq] W fun e w' => ∃ ra, e = .returned (.tuple #[.agg (PC A ra), .bool (okN d.seq)]) /\ Below W.heap.size W w') := Lib.hid (fun W h => by
        refine (HD.get W S5 gh _ d.seq h HRG.out.1 HRG.out.2.1).mono ?_
        rintro e w' ⟨ra, rfl, -, hb⟩
        exact ⟨ra, by rw [HAF.out, hA], hb⟩)
      have HLV : Hid (∀ W D' k', LS H w gh mm S5 (putP m d).1 k' D' W -> (Instr.lookup 84 (.map (some mm)) (.int .i64 d.seq) false).run Tryz.prog W = .ok (.int .i64 A.view) W) := Lib.hid (fun W D' k' h => by
        rw [h.look1 d.seq HRG.out.1 HRG.out.2.1, hA, view_get])
      clear hA
      have HTD := Lib.hid (And.intro (HM.out.tidy law_i64) HM.out.isMap)
      cases hp : okN d.seq
      . have HNN : Hid (NumV D (putP m d).1) := Lib.hid (by rw [put_same HRK.out.rise (fun h => by rw [hp] at h; cases h)]; exact HNV.out)
        by_cases h1 : 1 <= d.seq
        . have h2 : 9007199254740992 < d.seq := by
            apply Classical.byContradiction
            intro hx
            have := okN_iff.2 ⟨h1, by omega⟩
            rw [hp] at this
            cases this
          have hd1 : decide (1 <= d.seq) = true := decide_eq_true h1
          have hd2 : decide (d.seq <= 9007199254740992) = false := decide_eq_false (by omega)
          clear h1 h2
          have HLS := Lib.hid (HFIN.out _ w5 k (by omega) HM.out HNN.out (.inl rfl))
          go_wp2_with fail
          refine (HGE.out _ HLS.out.1.hh).mono ?_
          rintro e w7 ⟨ra, rfl, hb7⟩
          have hb8 : Below w7.heap.size w7 (w7.alloc (.cells (PC A ra) 41)) := (Below.refl _ w7).alloc (Nat.le_refl _) _
          have HL8 := Lib.hid ((HLS.out.1.later HH hb7).later HH hb8)
          have hk8 := (HLS.out.2.below hb7 HLS.out.2.lt).below hb8 (Nat.lt_of_lt_of_le HLS.out.2.lt hb7.size)
          have b1' := hk8.cell 1
          have hl8 := HLV.out _ _ _ HL8.out
          rw [hp]
          simp only [PC, List.getElem?_toArray, List.getElem?_cons_zero, List.getElem?_cons_succ] at b1'
          unfold PC at hl8 HL8 ⊢
          clear hb7 hb8 hk8 HLS
          go_wp2_with fail
          go_roundw
          case rel => exact ⟨k + 1, by have := HKT.out; omega, by go_num, S5, _, by rw [HNX.out]; exact HL8.out⟩
          case measure => have := HKT.out; simp [intOf]; omega
        . have hd1 : decide (1 <= d.seq) = false := decide_eq_false h1
          clear h1
          have HLS := Lib.hid (HFIN.out _ w5 k (by omega) HM.out HNN.out (.inl rfl))
          go_wp2_with fail
          refine (HGE.out _ HLS.out.1.hh).mono ?_
          rintro e w7 ⟨ra, rfl, hb7⟩
          have hb8 : Below w7.heap.size w7 (w7.alloc (.cells (PC A ra) 41)) := (Below.refl _ w7).alloc (Nat.le_refl _) _
          have HL8 := Lib.hid ((HLS.out.1.later HH hb7).later HH hb8)
          have hk8 := (HLS.out.2.below hb7 HLS.out.2.lt).below hb8 (Nat.lt_of_lt_of_le HLS.out.2.lt hb7.size)
          have b1' := hk8.cell 1
          have hl8 := HLV.out _ _ _ HL8.out
          rw [hp]
          simp only [PC, List.getElem?_toArray, List.getElem?_cons_zero, List.getElem?_cons_succ] at b1'
          unfold PC at hl8 HL8 ⊢
          clear hb7 hb8 hk8 HLS
          go_wp2_with fail
          go_roundw
          case rel => exact ⟨k + 1, by have := HKT.out; omega, by go_num, S5, _, by rw [HNX.out]; exact HL8.out⟩
          case measure => have := HKT.out; simp [intOf]; omega
      . have hq := okN_iff.1 hp
        have hd1 : decide (1 <= d.seq) = true := decide_eq_true hq.1
        have hd2 : decide (d.seq <= 9007199254740992) = true := decide_eq_true hq.2
        cases hg : getP m d.seq with
        | none =>
          have HNN : Hid (NumV (D.put (.int .i64 d.seq) (.lit (.int .i64 d.view))) (putP m d).1) := Lib.hid (HNV.out.put HRK.out.rise HTD.out.1 HTD.out.2 hp (fun q hq => by rw [hg] at hq; cases hq))
          rw [hg] at hlk
          simp only [Option.isSome] at hlk
          clear hg hq
          go_wp2_with (at_mapUpdate; refine wpList_mapUpdate_own (H := Unit) _ rfl _ _ _ 84 rfl 2 2 law_i64 Tryz.underlying84 (plainElem Tryz.prog 2) mm k D rfl HM.out HKM.out.1 _ _ (.int .i64 d.seq) rfl rfl (key_i64 HRG.out.1 HRG.out.2.1) (.lit (.int .i64 d.view)) [] (plainElem_int Tryz.underlying2 (WalkArith.wf_i64 HRG.out.2.2)) ?_; intro w6 hmap hgrow; have HLS := Lib.hid (HFIN.out _ w6 (k + 1) (Nat.le_refl _) hmap HNN.out (.inr hgrow)); have hkg := HLS.out.2.cell 1; simp only [PC, List.getElem?_toArray, List.getElem?_cons_zero, List.getElem?_cons_succ] at hkg; clear hmap hgrow)
          refine (HGE.out _ HLS.out.1.hh).mono ?_
          rintro e w7 ⟨ra, rfl, hb7⟩
          have hb8 : Below w7.heap.size w7 (w7.alloc (.cells (PC A ra) 41)) := (Below.refl _ w7).alloc (Nat.le_refl _) _
          have HL8 := Lib.hid ((HLS.out.1.later HH hb7).later HH hb8)
          have hk8 := (HLS.out.2.below hb7 HLS.out.2.lt).below hb8 (Nat.lt_of_lt_of_le HLS.out.2.lt hb7.size)
          have b1' := hk8.cell 1
          have hl8 := HLV.out _ _ _ HL8.out
          rw [hp]
          simp only [PC, List.getElem?_toArray, List.getElem?_cons_zero, List.getElem?_cons_succ] at b1'
          unfold PC at hl8 HL8 ⊢
          clear hb7 hb8 hk8 HLS
          go_wp2_with fail
          go_roundw
          case rel => exact ⟨k + 1, by have := HKT.out; omega, by go_num, S5, _, by rw [HNX.out]; exact HL8.out⟩
          case measure => have := HKT.out; simp [intOf]; omega
        | some q0 =>
          rw [hg] at hlk
          have hvw : viewOf (some q0) = q0.view := rfl
          rw [hvw] at hlk
          simp only [Option.isSome] at hlk
          by_cases hv : q0.view < d.view
          . have HNN : Hid (NumV (D.put (.int .i64 d.seq) (.lit (.int .i64 d.view))) (putP m d).1) := Lib.hid (HNV.out.put HRK.out.rise HTD.out.1 HTD.out.2 hp (fun q hq => by rw [hg] at hq; injection hq with hq; rw [<- hq]; exact hv))
            have hd3 : decide (q0.view < d.view) = true := decide_eq_true hv
            clear hg hq hv hvw
            go_wp2_with (at_mapUpdate; refine wpList_mapUpdate_own (H := Unit) _ rfl _ _ _ 84 rfl 2 2 law_i64 Tryz.underlying84 (plainElem Tryz.prog 2) mm k D rfl HM.out HKM.out.1 _ _ (.int .i64 d.seq) rfl rfl (key_i64 HRG.out.1 HRG.out.2.1) (.lit (.int .i64 d.view)) [] (plainElem_int Tryz.underlying2 (WalkArith.wf_i64 HRG.out.2.2)) ?_; intro w6 hmap hgrow; have HLS := Lib.hid (HFIN.out _ w6 (k + 1) (Nat.le_refl _) hmap HNN.out (.inr hgrow)); have hkg := HLS.out.2.cell 1; simp only [PC, List.getElem?_toArray, List.getElem?_cons_zero, List.getElem?_cons_succ] at hkg; clear hmap hgrow)
            refine (HGE.out _ HLS.out.1.hh).mono ?_
            rintro e w7 ⟨ra, rfl, hb7⟩
            have hb8 : Below w7.heap.size w7 (w7.alloc (.cells (PC A ra) 41)) := (Below.refl _ w7).alloc (Nat.le_refl _) _
            have HL8 := Lib.hid ((HLS.out.1.later HH hb7).later HH hb8)
            have hk8 := (HLS.out.2.below hb7 HLS.out.2.lt).below hb8 (Nat.lt_of_lt_of_le HLS.out.2.lt hb7.size)
            have b1' := hk8.cell 1
            have hl8 := HLV.out _ _ _ HL8.out
            rw [hp]
            simp only [PC, List.getElem?_toArray, List.getElem?_cons_zero, List.getElem?_cons_succ] at b1'
            unfold PC at hl8 HL8 ⊢
            clear hb7 hb8 hk8 HLS
            go_wp2_with fail
            go_roundw
            case rel => exact ⟨k + 1, by have := HKT.out; omega, by go_num, S5, _, by rw [HNX.out]; exact HL8.out⟩
            case measure => have := HKT.out; simp [intOf]; omega
          . have HNN : Hid (NumV D (putP m d).1) := Lib.hid (by rw [put_same HRK.out.rise (fun _ => ⟨q0, hg, by omega⟩)]; exact HNV.out)
            have hd3 : decide (q0.view < d.view) = false := decide_eq_false hv
            clear hg hq hv hvw
            have HLS := Lib.hid (HFIN.out _ w5 k (by omega) HM.out HNN.out (.inl rfl))
            go_wp2_with fail
            refine (HGE.out _ HLS.out.1.hh).mono ?_
            rintro e w7 ⟨ra, rfl, hb7⟩
            have hb8 : Below w7.heap.size w7 (w7.alloc (.cells (PC A ra) 41)) := (Below.refl _ w7).alloc (Nat.le_refl _) _
            have HL8 := Lib.hid ((HLS.out.1.later HH hb7).later HH hb8)
            have hk8 := (HLS.out.2.below hb7 HLS.out.2.lt).below hb8 (Nat.lt_of_lt_of_le HLS.out.2.lt hb7.size)
            have b1' := hk8.cell 1
            have hl8 := HLV.out _ _ _ HL8.out
            rw [hp]
            simp only [PC, List.getElem?_toArray, List.getElem?_cons_zero, List.getElem?_cons_succ] at b1'
            unfold PC at hl8 HL8 ⊢
            clear hb7 hb8 hk8 HLS
            go_wp2_with fail
            go_roundw
            case rel => exact ⟨k + 1, by have := HKT.out; omega, by go_num, S5, _, by rw [HNX.out]; exact HL8.out⟩
            case measure => have := HKT.out; simp [intOf]; omega
    . have hke : k = ps.length := by omega
      subst hke
      rw [List.take_length] at hst
      have hkf : decide ((ps.length : Int) < (ps.length : Int)) = false := decide_eq_false (by omega)
      have hrk := putsP_ok HO.out ps.length (Nat.le_refl _)
      rw [List.take_length] at hrk
      have hml : ((putsP ps).length : Int) <= 1599289640354 := by have := hrk.len; omega
      generalize putsP ps = m at *
      have HST := Lib.hid hst
      have hlm : ∀ W, Below wr.heap.size wr W -> ∀ ty, (Builtin.len_ #[84] ty #[.map (some mm)]).run Tryz.prog W = .ok (.int .i64 (m.length : Int)) W := fun W b ty => by
        rw [(HST.out.later HH b).mp.len Tryz.underlying84 ty, HST.out.nv.size]
      have HLM := Lib.hid hlm
      clear hst hk hkt hrk hlm
      go_wp2_with fail
      refine (HH.len wr S gh m HST.out.hh).mono ?_
      rintro e w4 ⟨rfl, hb4⟩
      have hlm := HLM.out w4 hb4
      have HB4 := Lib.hid hb4
      clear hb4
      go_wp2_with fail
      go_ret
      exact ⟨rfl, HST.out.hb.trans (HB4.out.mono HST.out.hb.size)⟩
end Go.Proofs.YtmhmnkpaijoaaaaGreat.Pti

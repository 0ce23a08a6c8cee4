import Derived.Test.YtmhmnkpaijoaaaaGreatEH01
namespace Go.Proofs.YtmhmnkpaijoaaaaGreat.Ptm
set_option linter.unusedSimpArgs false
open Go Go.RowKit Go.ChangeShapes Go.WideShapes Go.ChangeAt Go.Deep Ck Kf Kp Pm Pe Py Lk Jm Ja Jb Jo Pra Prb Prr Pta Pte
set_option linter.unusedVariables false
set_option maxRecDepth 100000
section
variable {H : Type} {enc : TypeId × Value -> H}
theorem open_gen {w : World} {fuel base : Nat} {v : Value} {x : DataW H × List MemPlace} {TS TE : TypeId} (hu : Tryz.prog.underlying TS = some (.slice TE)) {size bytes R : Nat} (hc : Tryz.prog.cellsOf TE = size) (hb : Tryz.prog.bytesOf TE = bytes) (hs : 0 < size)
    {E : Type} (cells : E -> List Value) (hlen : ∀ e, (cells e).length = size) (P : E -> Prop) (d : E)
    (helem : ∀ fuel cs y, DataW.trod enc Tryz.prog w base (fun _ => true) true fuel TE cs = some y -> (∀ n ∈ y.1.weights Tryz.prog TE, n <= R) -> ∃ e, cs = cells e /\ P e)
    (h : DataW.trod enc Tryz.prog w base (fun _ => true) true fuel TS [v] = some x) (hR : ∀ n ∈ x.1.weights Tryz.prog TS, n <= R) :
    ∃ l : List E, Sl w (fun k => w.heap.size <= k) size v l.length (l.flatMap cells) /\ l.length * bytes <= R /\ ∀ e ∈ l, P e := by
  rcases open_slice hu h with ⟨hcs, rfl⟩ | ⟨a, len, cap, m, n, D, Pl, hcs, _, hl, hm, hmm, rfl, hx⟩
  . obtain rfl : v = .slice none 0 0 := by simpa using hcs
    exact ⟨[], Sl.nil _ _ _, by simp, fun e he => absurd he (by simp)⟩
  . obtain rfl : v = .slice (some a) len cap := by simpa using hcs
    simp only [if_true] at hmm
    have each : ∀ i, ∃ e : E, i < len -> (∀ j u, (cells e)[j]? = some u -> w.cell? (a.add (i * size + j)) = some u) /\ P e := by
      intro i
      by_cases hi : i < len
      . obtain ⟨cs', hcc, ht⟩ := hx i (by omega)
        obtain ⟨e, rfl, hp⟩ := helem _ _ _ ht (fun n hn => hR n (by
          simp only [DataW.weights, hu, List.mem_cons, List.mem_append]
          exact .inr (.inl (all_mem hn (List.mem_map.2 ⟨i, by simpa using hi, rfl⟩)))))
        rw [hc] at hcc
        obtain ⟨_, _, hcell⟩ := World.cells?_some hcc
        refine ⟨e, fun _ => ⟨fun j u hj => ?_, hp⟩⟩
        have hjl : j < size := by rw [<- hlen e]; exact (List.getElem?_eq_some_iff.1 hj).1
        have h1 := hcell j hjl
        rw [Ck.add_add] at h1
        rw [h1, <- hj, List.getElem?_eq_getElem (by rw [hlen]; exact hjl)]
      . exact ⟨d, fun h => absurd h hi⟩
    obtain ⟨f, hf⟩ := Classical.axiomOfChoice each
    have hll : ((List.range len).map f).length = len := by simp
    refine ⟨(List.range len).map f, ?_, ?_, fun e he => ?_⟩
    . refine ⟨some a, cap, by rw [hll], by rw [flat_len hlen, hll], by rw [hll]; exact hl, hm, fun hn => ?_⟩
      rw [hll] at hn
      have h00 : (cells (f 0))[0]? = some ((cells (f 0))[0]'(by rw [hlen]; exact hs)) := List.getElem?_eq_getElem _
      have h0 := (hf 0 hn).1 0 _ h00
      refine ⟨a, rfl, by have := World.block_lt_of_cell? w _ h0; rw [Ck.add_block] at this; exact this, by have := World.block_lt_of_cell? w _ h0; rw [Ck.add_block] at this; omega, fun j u hj => ?_⟩
      have hjl : j < len * size := by
        have := (List.getElem?_eq_some_iff.1 hj).1
        rw [flat_len hlen, hll] at this
        exact this
      have hi : j / size < len := (Nat.div_lt_iff_lt_mul hs).2 hjl
      have hmd : j % size < size := Nat.mod_lt _ hs
      have hg := flat_get hlen ((List.range len).map f) (j / size) (by rw [hll]; exact hi) (j % size) hmd
      rw [Nat.div_add_mod' j size] at hg
      rw [hg] at hj
      have := (hf (j / size) hi).1 (j % size) u (by rw [<- hj]; congr 1; simp)
      rwa [Nat.div_add_mod' j size] at this
    . have := hR _ (by simp only [DataW.weights, hu]; exact List.mem_cons_self)
      rw [hb] at this
      rw [hll]
      simp only [List.length_append, List.length_map, List.length_range, List.length_replicate] at this
      exact Nat.le_trans (Nat.mul_le_mul_right bytes (by omega)) this
    . obtain ⟨i, hi, rfl⟩ := List.mem_map.1 he
      exact (hf i (by simpa using hi)).2
theorem bytes_sgn : Tryz.prog.bytesOf 36 = 16 := by kernel_rfl
theorem open_ss {w : World} {fuel base : Nat} {v : Value} {x : DataW H × List MemPlace} {R : Nat} (h : DataW.trod enc Tryz.prog w base (fun _ => true) true fuel 37 [v] = some x) (hR : ∀ n ∈ x.1.weights Tryz.prog 37, n <= R) :
    ∃ l : List Sg, SS w (fun k => w.heap.size <= k) v l /\ l.length * 16 <= R /\ ∀ s ∈ l, wfS s :=
  open_gen Tryz.underlying37 cells_sgn bytes_sgn (by omega) SC SC_len wfS (0, 0) (fun fuel cs y hy _ => by
    obtain ⟨s, h1, h2⟩ := open_sg hy
    exact ⟨s, h1, h2⟩) h hR
theorem cells_prep : Tryz.prog.cellsOf 41 = 7 := by kernel_rfl
theorem cells_ss : Tryz.prog.cellsOf 37 = 1 := by kernel_rfl
theorem cells_bat : Tryz.prog.cellsOf 39 = 1 := by kernel_rfl
def wfP (p : Pd) : Prop := (-9223372036854775808 <= p.seq /\ p.seq <= 9223372036854775807) /\ (-9223372036854775808 <= p.view /\ p.view <= 9223372036854775807)
theorem open_prep {w : World} {base fuel : Nat} {cs : List Value} {x : DataW H × List MemPlace} (h : DataW.trod enc Tryz.prog w base (fun _ => true) true fuel 41 cs = some x) (hR : ∀ n ∈ x.1.weights Tryz.prog 41, n <= 140737488351232) :
    ∃ e : Pd × Pl2, cs = (PC e.1 e.2).toList /\ PI w (fun k => w.heap.size <= k) e.1 e.2 /\ okV e.1 /\ wfP e.1 := by
  obtain ⟨xs, n', _, hx, hl, hxl, hf⟩ := DataW.trod_struct Tryz.underlying41 h
  rw [cells_prep] at hl
  have hxl' : xs.length = 6 := hxl
  match cs, hl with
  | [v0, v1, v2, v3, v4, v5, v6], _ =>
    have f0 : DataW.trod enc Tryz.prog w base (fun _ => true) true n' 2 (([v0, v1, v2, v3, v4, v5, v6].drop 0).take (Tryz.prog.cellsOf 2)) = xs[0]? := hf 0 _ rfl
    have f1 : DataW.trod enc Tryz.prog w base (fun _ => true) true n' 2 (([v0, v1, v2, v3, v4, v5, v6].drop 1).take (Tryz.prog.cellsOf 2)) = xs[1]? := hf 1 _ rfl
    have f2 : DataW.trod enc Tryz.prog w base (fun _ => true) true n' 31 (([v0, v1, v2, v3, v4, v5, v6].drop 2).take (Tryz.prog.cellsOf 31)) = xs[2]? := hf 2 _ rfl
    have f3 : DataW.trod enc Tryz.prog w base (fun _ => true) true n' 36 (([v0, v1, v2, v3, v4, v5, v6].drop 3).take (Tryz.prog.cellsOf 36)) = xs[3]? := hf 3 _ rfl
    have f4 : DataW.trod enc Tryz.prog w base (fun _ => true) true n' 37 (([v0, v1, v2, v3, v4, v5, v6].drop 5).take (Tryz.prog.cellsOf 37)) = xs[4]? := hf 4 _ rfl
    have f5 : DataW.trod enc Tryz.prog w base (fun _ => true) true n' 39 (([v0, v1, v2, v3, v4, v5, v6].drop 6).take (Tryz.prog.cellsOf 39)) = xs[5]? := hf 5 _ rfl
    rw [Py.cells_i64] at f0 f1
    rw [Jo.cells_dig] at f2
    rw [cells_sgn] at f3
    rw [cells_ss] at f4
    rw [cells_bat] at f5
    simp only [List.drop_zero, List.drop_succ_cons, List.take_succ_cons, List.take_zero] at f0 f1 f2 f3 f4 f5
    obtain ⟨z0, e0, w0⟩ := one_int Tryz.underlying2 (by omega) f0
    obtain ⟨z1, e1, w1⟩ := one_int Tryz.underlying2 (by omega) f1
    obtain ⟨z2, e2, w2⟩ := one_int Tryz.underlying31 (by omega) f2
    rw [List.getElem?_eq_getElem (by omega)] at f3 f4 f5
    have m : ∀ (j : Nat) (t : TypeId) (ht : [2, 2, 31, 36, 37, 39][j]? = some t) (hj : j < xs.length), ∀ n ∈ (xs[j]).1.weights Tryz.prog t, n <= 140737488351232 := fun j t ht hj n hn => hR n (by
      rw [hx]
      simp only [DataW.weights, Tryz.underlying41]
      exact DataW.weights_mem_each (ts := [2, 2, 31, 36, 37, 39]) (j := j) (t := t) ht (by simp [List.getElem?_eq_getElem hj]) n hn)
    obtain ⟨s, e3, ws⟩ := open_sg f3
    obtain ⟨sl, hss, hsl, _⟩ := open_ss f4 (m 4 _ rfl (by omega))
    obtain ⟨bl, hbi, hbl, hby⟩ := open_batch f5 (m 5 _ rfl (by omega))
    have b0 : -9223372036854775808 <= z0 /\ z0 <= 9223372036854775807 := by simpa [Lit.wf, IntKind.min, IntKind.max, IntKind.signed, IntKind.bits] using w0
    have b1 : -9223372036854775808 <= z1 /\ z1 <= 9223372036854775807 := by simpa [Lit.wf, IntKind.min, IntKind.max, IntKind.signed, IntKind.bits] using w1
    simp only [List.cons.injEq, and_true] at e0 e1 e2 e3
    obtain ⟨A, c, rfl, -⟩ := id hss
    obtain ⟨A2, c2, rfl, -⟩ := hbi.shape
    refine ⟨(⟨z0, z1, z2, s, sl, bl⟩, ((A, c), (A2, c2))), ?_, ⟨hss, hbi⟩, ⟨⟨fun y hy => ?_, show bl.length <= 140737488355328 by omega, show sl.length <= 140737488355328 by omega⟩, hsl, hbl, fun y hy => (hby y hy).1⟩, b1, b0⟩
    . rw [e0, e1, e2, e3.1, e3.2]; rfl
    . have := (hby y hy).1.2.2.1; omega
theorem zip_maps {α β : Type} : ∀ l : List (α × β), (l.map (·.1)).zip (l.map (·.2)) = l
  | [] => rfl
  | e :: l => by rw [List.map_cons, List.map_cons, List.zip_cons_cons, zip_maps l]
theorem cells_bool : Tryz.prog.cellsOf 4 = 1 := by kernel_rfl
theorem cells_put : Tryz.prog.cellsOf 69 = 10 := by kernel_rfl
theorem bytes_put : Tryz.prog.bytesOf 69 = 112 := by kernel_rfl
theorem one_bool {w : World} {base : Nat} {sp : Nat -> Bool} {held : Bool} {n : Nat} {v : Value} {y : Option (DataW H × List MemPlace)} {t : TypeId} (ht : Tryz.prog.underlying t = some .bool) (hy : y.isSome = true) (h : DataW.trod enc Tryz.prog w base sp held n t [v] = y) : ∃ b : Bool, v = .bool b := by
  cases n with
  | zero => rw [<- h] at hy; simp [DataW.trod] at hy
  | succ n =>
    rw [<- h] at hy
    unfold DataW.trod at hy
    simp only [ht] at hy
    cases v <;> simp_all
theorem open_put {w : World} {base fuel : Nat} {cs : List Value} {x : DataW H × List MemPlace} (h : DataW.trod enc Tryz.prog w base (fun _ => true) true fuel 69 cs = some x) (hR : ∀ n ∈ x.1.weights Tryz.prog 69, n <= 140737488351232) :
    ∃ e : PuD × Pl2, cs = PuV e.1 e.2 /\ PI w (fun k => w.heap.size <= k) e.1.p e.2 /\ okV e.1.p := by
  obtain ⟨xs, n', _, hx, hl, hxl, hf⟩ := DataW.trod_struct Tryz.underlying69 h
  rw [cells_put] at hl
  have hxl' : xs.length = 4 := hxl
  match cs, hl with
  | [v0, v1, v2, v3, v4, v5, v6, v7, v8, v9], _ =>
    have f0 : DataW.trod enc Tryz.prog w base (fun _ => true) true n' 41 (([v0, v1, v2, v3, v4, v5, v6, v7, v8, v9].drop 0).take (Tryz.prog.cellsOf 41)) = xs[0]? := hf 0 _ rfl
    have f1 : DataW.trod enc Tryz.prog w base (fun _ => true) true n' 4 (([v0, v1, v2, v3, v4, v5, v6, v7, v8, v9].drop 7).take (Tryz.prog.cellsOf 4)) = xs[1]? := hf 1 _ rfl
    have f2 : DataW.trod enc Tryz.prog w base (fun _ => true) true n' 2 (([v0, v1, v2, v3, v4, v5, v6, v7, v8, v9].drop 8).take (Tryz.prog.cellsOf 2)) = xs[2]? := hf 2 _ rfl
    have f3 : DataW.trod enc Tryz.prog w base (fun _ => true) true n' 4 (([v0, v1, v2, v3, v4, v5, v6, v7, v8, v9].drop 9).take (Tryz.prog.cellsOf 4)) = xs[3]? := hf 3 _ rfl
    rw [cells_prep] at f0
    rw [cells_bool] at f1 f3
    rw [Py.cells_i64] at f2
    simp only [List.drop_zero, List.drop_succ_cons, List.take_succ_cons, List.take_zero] at f0 f1 f2 f3
    obtain ⟨z2, e2, w2⟩ := one_int Tryz.underlying2 (by omega) f2
    rw [List.getElem?_eq_getElem (by omega)] at f0
    obtain ⟨b1, e1⟩ := one_bool Tryz.underlying4 (by simp [List.getElem?_eq_getElem (show 1 < xs.length by omega)]) f1
    obtain ⟨b3, e3⟩ := one_bool Tryz.underlying4 (by simp [List.getElem?_eq_getElem (show 3 < xs.length by omega)]) f3
    obtain ⟨⟨p, r⟩, e0, hpi, hok, _⟩ := open_prep f0 (fun n hn => hR n (by
      rw [hx]
      simp only [DataW.weights, Tryz.underlying69]
      exact DataW.weights_mem_each (ts := [41, 4, 2, 4]) (j := 0) (t := 41) rfl (by simp [List.getElem?_eq_getElem (show 0 < xs.length by omega)]) n hn))
    simp only [PC, List.cons.injEq, and_true] at e0 e2
    obtain ⟨rfl, rfl, rfl, rfl, rfl, rfl, rfl⟩ := e0
    refine ⟨(⟨p, b1, z2, b3⟩, r), by rw [e1, e2, e3]; rfl, hpi, hok⟩
theorem open_puts {w : World} {base fuel : Nat} {v : Value} {x : DataW H × List MemPlace} (h : DataW.trod enc Tryz.prog w base (fun _ => true) true fuel 62 [v] = some x) (hR : ∀ n ∈ x.1.weights Tryz.prog 62, n <= 140737488351232) :
    ∃ l : List PuD, PUs w (fun k => w.heap.size <= k) v l /\ l.length * 112 <= 140737488351232 /\ ∀ d ∈ l, okV d.p := by
  obtain ⟨l, h1, h2, h3⟩ := open_gen Tryz.underlying62 cells_put bytes_put (by omega) (fun e : PuD × Pl2 => PuV e.1 e.2) (fun e => PuV_len e) (fun e => PI w (fun k => w.heap.size <= k) e.1.p e.2 /\ okV e.1.p) (⟨Pd.zero, false, 0, false⟩, ((none, 0), (none, 0))) (fun fuel cs y hy hr => open_put hy hr) h hR
  refine ⟨l.map (·.1), ⟨l.map (·.2), ⟨by simp, fun i hi => ?_⟩, ?_⟩, by rw [List.length_map]; exact h2, fun p hp => ?_⟩
  . have hi' : i < l.length := by simpa using hi
    refine ⟨l[i].2, by rw [List.getElem?_map, List.getElem?_eq_getElem hi']; rfl, ?_⟩
    have := (h3 _ (List.getElem_mem hi')).1
    simpa using this
  . rw [List.length_map, flatU, zip_maps]
    exact h1
  . obtain ⟨e, he, rfl⟩ := List.mem_map.1 hp
    exact (h3 e he).2
end
end Go.Proofs.YtmhmnkpaijoaaaaGreat.Ptm

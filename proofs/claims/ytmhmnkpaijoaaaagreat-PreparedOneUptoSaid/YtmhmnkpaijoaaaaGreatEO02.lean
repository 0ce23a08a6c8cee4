import Derived.ChangeMaps5
import Derived.Test.YtmhmnkpaijoaaaaGreatEO01
namespace Go.Proofs.YtmhmnkpaijoaaaaGreat.Ptn
set_option linter.unusedSimpArgs false
open Go Go.RowKit Go.ChangeShapes Go.WideShapes Go.ChangeAt Go.Deep Ck Kf Kp Pm Pe Py Lk Jm Ja Jb Jo Jl Pra Prb Prr Prw Psa Pta Pte Ptj
set_option linter.unusedVariables false
set_option maxRecDepth 100000
section
variable {H : Type} {enc : TypeId × Value -> H}
theorem elem_le {e : DataW H} : ∀ {l : List (DataW H)}, e ∈ l -> Rows.uptoBulk e <= Rows.uptoBulkAll l
  | _ :: l, h => by
    rcases List.mem_cons.1 h with rfl | h
    . simp only [Rows.uptoBulkAll]; omega
    . have := elem_le h; simp only [Rows.uptoBulkAll]; omega
theorem part_le {e : DataW H} {l : List (DataW H)} (h : e ∈ l) : Rows.uptoBulk e <= Rows.uptoBulk (.agg l) := by
  have := elem_le h
  simp only [Rows.uptoBulk]
  omega
theorem open_genB {w : World} {fuel base : Nat} {v : Value} {x : DataW H × List MemPlace} {TS TE : TypeId} (hu : Tryz.prog.underlying TS = some (.slice TE)) {size M : Nat} (hc : Tryz.prog.cellsOf TE = size) (hs : 0 < size)
    {E : Type} (cells : E -> List Value) (hlen : ∀ e, (cells e).length = size) (P : E -> Prop) (d : E)
    (helem : ∀ fuel cs y, cs.length = size -> DataW.trod enc Tryz.prog w base (fun _ => true) true fuel TE cs = some y -> Rows.uptoBulk y.1 <= M -> ∃ e, cs = cells e /\ P e)
    (h : DataW.trod enc Tryz.prog w base (fun _ => true) true fuel TS [v] = some x) (hM : Rows.uptoBulk x.1 <= M) :
    ∃ l : List E, Sl w (fun k => w.heap.size <= k) size v l.length (l.flatMap cells) /\ l.length <= M /\ ∀ e ∈ l, P e := by
  rcases open_slice hu h with ⟨hcs, rfl⟩ | ⟨a, len, cap, m, n, D, Pl, hcs, _, hl, hm, hmm, rfl, hx⟩
  . obtain rfl : v = .slice none 0 0 := by simpa using hcs
    exact ⟨[], Sl.nil _ _ _, by simp, fun e he => absurd he (by simp)⟩
  . obtain rfl : v = .slice (some a) len cap := by simpa using hcs
    simp only [if_true] at hmm
    have hml := len_le hu h
    have hme := Bulk.slice_elems (H := H) ((List.range len).map D) ((List.range (m - len)).map fun j => D (len + j))
    simp only at hml hM
    have each : ∀ i, ∃ e : E, i < len -> (∀ j u, (cells e)[j]? = some u -> w.cell? (a.add (i * size + j)) = some u) /\ P e := by
      intro i
      by_cases hi : i < len
      . obtain ⟨cs', hcc, ht⟩ := hx i (by omega)
        have hcl := hcc
        rw [hc] at hcl hcc
        obtain ⟨_, hlc, hcell⟩ := World.cells?_some hcc
        have hDi : Rows.uptoBulk (D i) <= Rows.uptoBulkAll ((List.range len).map D) := elem_le (List.mem_map.2 ⟨i, by simpa using hi, rfl⟩)
        obtain ⟨e, rfl, hp⟩ := helem _ _ _ hlc ht (by simp only; omega)
        refine ⟨e, fun _ => ⟨fun j u hj => ?_, hp⟩⟩
        have hjl : j < size := by rw [<- hlen e]; exact (List.getElem?_eq_some_iff.1 hj).1
        have h1 := hcell j hjl
        rw [Ck.add_add] at h1
        rw [h1, <- hj, List.getElem?_eq_getElem (by rw [hlen]; exact hjl)]
      . exact ⟨d, fun h => absurd h hi⟩
    obtain ⟨f, hf⟩ := Classical.axiomOfChoice each
    have hll : ((List.range len).map f).length = len := by simp
    refine ⟨(List.range len).map f, ?_, ?_, fun e he => ?_⟩
    . refine ⟨some a, cap, by rw [hll], by rw [flat_len hlen, hll], by rw [hll]; exact hl, hm, fun hn => ?_⟩
      rw [hll] at hn
      have h00 : (cells (f 0))[0]? = some ((cells (f 0))[0]'(by rw [hlen]; exact hs)) := List.getElem?_eq_getElem _
      have h0 := (hf 0 hn).1 0 _ h00
      refine ⟨a, rfl, by have := World.block_lt_of_cell? w _ h0; rw [Ck.add_block] at this; exact this, by have := World.block_lt_of_cell? w _ h0; rw [Ck.add_block] at this; omega, fun j u hj => ?_⟩
      have hjl : j < len * size := by
        have := (List.getElem?_eq_some_iff.1 hj).1
        rw [flat_len hlen, hll] at this
        exact this
      have hi : j / size < len := (Nat.div_lt_iff_lt_mul hs).2 hjl
      have hmd : j % size < size := Nat.mod_lt _ hs
      have hg := flat_get hlen ((List.range len).map f) (j / size) (by rw [hll]; exact hi) (j % size) hmd
      rw [Nat.div_add_mod' j size] at hg
      rw [hg] at hj
      have := (hf (j / size) hi).1 (j % size) u (by rw [<- hj]; congr 1; simp)
      rwa [Nat.div_add_mod' j size] at this
    . rw [hll]; omega
    . obtain ⟨i, hi, rfl⟩ := List.mem_map.1 he
      exact (hf i (by simpa using hi)).2
theorem q_le {w : World} {base fuel : Nat} {q : Q} {A : Option Addr} {c : Nat} {x : DataW H × List MemPlace} (h : DataW.trod enc Tryz.prog w base (fun _ => true) true fuel 111 (QC q A c).toList = some x) : q.o.recs.length <= Rows.uptoBulk x.1 := by
  obtain ⟨xs, n', _, hx, hl, hxl, hf⟩ := DataW.trod_struct Tryz.underlying111 h
  have hxl' : xs.length = 3 := hxl
  have f2 : DataW.trod enc Tryz.prog w base (fun _ => true) true n' 109 (((QC q A c).toList.drop 2).take (Tryz.prog.cellsOf 109)) = xs[2]? := hf 2 _ rfl
  rw [Py.cells_op] at f2
  rw [List.getElem?_eq_getElem (by omega)] at f2
  obtain ⟨ys, n2, _, hy, hl2, hyl, hf2⟩ := DataW.trod_struct Tryz.underlying109 f2
  have hyl' : ys.length = 5 := hyl
  have f4 : DataW.trod enc Tryz.prog w base (fun _ => true) true n2 107 (((((QC q A c).toList.drop 2).take 5).drop 4).take (Tryz.prog.cellsOf 107)) = ys[4]? := hf2 4 _ rfl
  rw [Py.cells_recs] at f4
  rw [List.getElem?_eq_getElem (by omega)] at f4
  have f4' : DataW.trod enc Tryz.prog w base (fun _ => true) true n2 107 [.slice A q.o.recs.length c] = some ys[4] := f4
  have h1 := len_le Tryz.underlying107 f4'
  have h2 : Rows.uptoBulk (ys[4]).1 <= Rows.uptoBulk (xs[2]).1 := by
    rw [hy]
    exact part_le (List.mem_map.2 ⟨_, List.getElem_mem _, rfl⟩)
  have h3 : Rows.uptoBulk (xs[2]).1 <= Rows.uptoBulk x.1 := by
    rw [hx]
    exact part_le (List.mem_map.2 ⟨_, List.getElem_mem _, rfl⟩)
  omega
theorem open_qsB {w : World} {fuel base M : Nat} {v : Value} {x : DataW H × List MemPlace} (h : DataW.trod enc Tryz.prog w base (fun _ => true) true fuel 106 [v] = some x) (hM : Rows.uptoBulk x.1 <= M) :
    ∃ l : List Q, RI w (fun k => w.heap.size <= k) v l /\ l.length <= M /\ ∀ q ∈ l, q.o.recs.length <= M := by
  obtain ⟨l, h1, h2, h3⟩ := open_genB Tryz.underlying106 cells_req (by omega) (fun e : Q × (Option Addr × Nat) => (QC e.1 e.2.1 e.2.2).toList) QC_len (fun e => Ls w (fun k => w.heap.size <= k) (.slice e.2.1 e.1.o.recs.length e.2.2) e.1.o.recs /\ e.1.o.recs.length <= M) (Q.zero, (none, 0))
    (fun fuel cs y hcl hy hb => by
      obtain ⟨q, A, c, rfl, hls, _, _⟩ := open_q hy
      exact ⟨(q, (A, c)), rfl, hls, Nat.le_trans (q_le hy) hb⟩) h hM
  refine ⟨l.map (·.1), ⟨l.map (·.2), by simp, ?_, fun i hi => ?_⟩, by rw [List.length_map]; exact h2, fun q hq => ?_⟩
  . rw [List.length_map, flatQ, Ptm.zip_maps]
    exact h1
  . have hi' : i < l.length := by simpa using hi
    refine ⟨l[i].2, by rw [List.getElem?_map, List.getElem?_eq_getElem hi']; rfl, ?_⟩
    simpa using (h3 _ (List.getElem_mem hi')).1
  . obtain ⟨e, he, rfl⟩ := List.mem_map.1 hq
    exact (h3 e he).2
theorem cells_qs : Tryz.prog.cellsOf 106 = 1 := by kernel_rfl
theorem open_qqB {w : World} {fuel base M : Nat} {v : Value} {x : DataW H × List MemPlace} (h : DataW.trod enc Tryz.prog w base (fun _ => true) true fuel 22 [v] = some x) (hM : Rows.uptoBulk x.1 <= M) :
    ∃ l : List (List Q), QQ w (fun k => w.heap.size <= k) v l /\ l.length <= M /\ ∀ qs ∈ l, qs.length <= M /\ ∀ q ∈ qs, q.o.recs.length <= M := by
  obtain ⟨l, h1, h2, h3⟩ := open_genB Tryz.underlying22 cells_qs (by omega) (fun e : List Q × Value => [e.2]) (fun e => rfl) (fun e => RI w (fun k => w.heap.size <= k) e.2 e.1 /\ e.1.length <= M /\ ∀ q ∈ e.1, q.o.recs.length <= M) ([], .slice none 0 0)
    (fun fuel cs y hcl hy hb => by
      match cs, hcl with
      | [u], _ =>
        obtain ⟨l, k1, k2, k3⟩ := open_qsB hy hb
        exact ⟨(l, u), rfl, k1, k2, k3⟩) h hM
  refine ⟨l.map (·.1), ⟨l.map (·.2), by simp, ?_, fun i hi => ?_⟩, by rw [List.length_map]; exact h2, fun q hq => ?_⟩
  . rw [List.length_map]
    have : l.flatMap (fun e : List Q × Value => [e.2]) = l.map (·.2) := by
      clear h1 h2 h3
      induction l with
      | nil => rfl
      | cons e l ih => rw [List.flatMap_cons, ih]; rfl
    rw [<- this]
    exact h1
  . have hi' : i < l.length := by simpa using hi
    refine ⟨l[i].2, by rw [List.getElem?_map, List.getElem?_eq_getElem hi']; rfl, ?_⟩
    simpa using (h3 _ (List.getElem_mem hi')).1
  . obtain ⟨e, he, rfl⟩ := List.mem_map.1 hq
    exact (h3 e he).2
theorem cells_vt : Tryz.prog.cellsOf 95 = 5 := by kernel_rfl
theorem cells_sp : Tryz.prog.cellsOf 34 = 6 := by kernel_rfl
theorem cells_case : Tryz.prog.cellsOf 26 = 6 := by kernel_rfl
theorem cells_u8s : Tryz.prog.cellsOf 32 = 1 := by kernel_rfl
theorem cells_vts : Tryz.prog.cellsOf 23 = 1 := by kernel_rfl
theorem cells_sps : Tryz.prog.cellsOf 24 = 1 := by kernel_rfl
theorem cells_qqs : Tryz.prog.cellsOf 22 = 1 := by kernel_rfl
theorem u8_nat {z : Int} (h : (Lit.int .u8 z).wf = true) : ∃ n : Nat, z = (n : Int) /\ n < 256 := by
  have h2 : 0 <= z /\ z <= 255 := by simpa [Lit.wf, IntKind.min, IntKind.max, IntKind.signed, IntKind.bits] using h
  exact ⟨z.toNat, by omega, by omega⟩
theorem i64_in {z : Int} (h : (Lit.int .i64 z).wf = true) : InR z := by
  have h2 : -9223372036854775808 <= z /\ z <= 9223372036854775807 := by simpa [Lit.wf, IntKind.min, IntKind.max, IntKind.signed, IntKind.bits] using h
  exact h2
theorem open_vt {w : World} {base fuel : Nat} {cs : List Value} {x : DataW H × List MemPlace} (h : DataW.trod enc Tryz.prog w base (fun _ => true) true fuel 95 cs = some x) :
    ∃ e : Vt × Nat, cs = VC e /\ e.2 < 256 /\ InV (ofP e) := by
  obtain ⟨xs, n', _, hx, hl, hxl, hf⟩ := DataW.trod_struct Tryz.underlying95 h
  rw [cells_vt] at hl
  have hxl' : xs.length = 5 := hxl
  match cs, hl with
  | [v0, v1, v2, v3, v4], _ =>
    have f0 : DataW.trod enc Tryz.prog w base (fun _ => true) true n' 3 (([v0, v1, v2, v3, v4].drop 0).take (Tryz.prog.cellsOf 3)) = xs[0]? := hf 0 _ rfl
    have f1 : DataW.trod enc Tryz.prog w base (fun _ => true) true n' 3 (([v0, v1, v2, v3, v4].drop 1).take (Tryz.prog.cellsOf 3)) = xs[1]? := hf 1 _ rfl
    have f2 : DataW.trod enc Tryz.prog w base (fun _ => true) true n' 2 (([v0, v1, v2, v3, v4].drop 2).take (Tryz.prog.cellsOf 2)) = xs[2]? := hf 2 _ rfl
    have f3 : DataW.trod enc Tryz.prog w base (fun _ => true) true n' 2 (([v0, v1, v2, v3, v4].drop 3).take (Tryz.prog.cellsOf 2)) = xs[3]? := hf 3 _ rfl
    have f4 : DataW.trod enc Tryz.prog w base (fun _ => true) true n' 5 (([v0, v1, v2, v3, v4].drop 4).take (Tryz.prog.cellsOf 5)) = xs[4]? := hf 4 _ rfl
    rw [Py.cells_int] at f0 f1
    rw [Py.cells_i64] at f2 f3
    rw [cells_u8] at f4
    simp only [List.drop_zero, List.drop_succ_cons, List.take_succ_cons, List.take_zero] at f0 f1 f2 f3 f4
    obtain ⟨z0, e0, w0⟩ := one_int Tryz.underlying3 (by omega) f0
    obtain ⟨z1, e1, w1⟩ := one_int Tryz.underlying3 (by omega) f1
    obtain ⟨z2, e2, w2⟩ := one_int Tryz.underlying2 (by omega) f2
    obtain ⟨z3, e3, w3⟩ := one_int Tryz.underlying2 (by omega) f3
    obtain ⟨z4, e4, w4⟩ := one_int Tryz.underlying5 (by omega) f4
    obtain ⟨n4, rfl, h4⟩ := u8_nat w4
    simp only [List.cons.injEq, and_true] at e0 e1 e2 e3 e4
    exact ⟨(⟨z0, z1, z2, z3⟩, n4), by rw [e0, e1, e2, e3, e4]; rfl, h4, ⟨i64_in w0, i64_in w2, i64_in w3⟩⟩
theorem open_vts {w : World} {fuel base M : Nat} {v : Value} {x : DataW H × List MemPlace} (h : DataW.trod enc Tryz.prog w base (fun _ => true) true fuel 23 [v] = some x) (hM : Rows.uptoBulk x.1 <= M) :
    ∃ l : List (Vt × Nat), VL w (fun k => w.heap.size <= k) v l /\ l.length <= M /\ ∀ e ∈ l, e.2 < 256 /\ InV (ofP e) :=
  open_genB Tryz.underlying23 cells_vt (by omega) VC VC_len (fun e => e.2 < 256 /\ InV (ofP e)) (⟨0, 0, 0, 0⟩, 0) (fun fuel cs y hcl hy hb => open_vt hy) h hM
theorem open_sp {w : World} {base fuel M : Nat} {cs : List Value} {x : DataW H × List MemPlace} (h : DataW.trod enc Tryz.prog w base (fun _ => true) true fuel 34 cs = some x) (hM : Rows.uptoBulk x.1 <= M) :
    ∃ e : SpD × (Option Addr × Nat), cs = SpV e.1 e.2 /\ Sl w (fun k => w.heap.size <= k) 1 (.slice e.2.1 e.1.ks.length e.2.2) e.1.ks.length (BVs e.1.ks) /\ e.1.ks.length <= M /\ e.1.batch < 256 /\ e.1.first < 256 := by
  obtain ⟨xs, n', _, hx, hl, hxl, hf⟩ := DataW.trod_struct Tryz.underlying34 h
  rw [cells_sp] at hl
  have hxl' : xs.length = 6 := hxl
  match cs, hl with
  | [v0, v1, v2, v3, v4, v5], _ =>
    have f0 : DataW.trod enc Tryz.prog w base (fun _ => true) true n' 2 (([v0, v1, v2, v3, v4, v5].drop 0).take (Tryz.prog.cellsOf 2)) = xs[0]? := hf 0 _ rfl
    have f1 : DataW.trod enc Tryz.prog w base (fun _ => true) true n' 2 (([v0, v1, v2, v3, v4, v5].drop 1).take (Tryz.prog.cellsOf 2)) = xs[1]? := hf 1 _ rfl
    have f2 : DataW.trod enc Tryz.prog w base (fun _ => true) true n' 5 (([v0, v1, v2, v3, v4, v5].drop 2).take (Tryz.prog.cellsOf 5)) = xs[2]? := hf 2 _ rfl
    have f3 : DataW.trod enc Tryz.prog w base (fun _ => true) true n' 31 (([v0, v1, v2, v3, v4, v5].drop 3).take (Tryz.prog.cellsOf 31)) = xs[3]? := hf 3 _ rfl
    have f4 : DataW.trod enc Tryz.prog w base (fun _ => true) true n' 5 (([v0, v1, v2, v3, v4, v5].drop 4).take (Tryz.prog.cellsOf 5)) = xs[4]? := hf 4 _ rfl
    have f5 : DataW.trod enc Tryz.prog w base (fun _ => true) true n' 32 (([v0, v1, v2, v3, v4, v5].drop 5).take (Tryz.prog.cellsOf 32)) = xs[5]? := hf 5 _ rfl
    rw [Py.cells_i64] at f0 f1
    rw [cells_u8] at f2 f4
    rw [Jo.cells_dig] at f3
    rw [cells_u8s] at f5
    simp only [List.drop_zero, List.drop_succ_cons, List.take_succ_cons, List.take_zero] at f0 f1 f2 f3 f4 f5
    obtain ⟨z0, e0, w0⟩ := one_int Tryz.underlying2 (by omega) f0
    obtain ⟨z1, e1, w1⟩ := one_int Tryz.underlying2 (by omega) f1
    obtain ⟨z2, e2, w2⟩ := one_int Tryz.underlying5 (by omega) f2
    obtain ⟨z3, e3, w3⟩ := one_int Tryz.underlying31 (by omega) f3
    obtain ⟨z4, e4, w4⟩ := one_int Tryz.underlying5 (by omega) f4
    obtain ⟨n2, rfl, h2⟩ := u8_nat w2
    obtain ⟨n4, rfl, h4⟩ := u8_nat w4
    rw [List.getElem?_eq_getElem (by omega)] at f5
    obtain ⟨b, hb1, _⟩ := open_bytesW f5
    obtain ⟨B, c, rfl, -⟩ := id hb1
    have h5 := len_le Tryz.underlying32 f5
    have h6 : Rows.uptoBulk (xs[5]).1 <= Rows.uptoBulk x.1 := by
      rw [hx]
      exact part_le (List.mem_map.2 ⟨_, List.getElem_mem _, rfl⟩)
    simp only [List.cons.injEq, and_true] at e0 e1 e2 e3 e4
    exact ⟨(⟨z0, z1, n2, z3, n4, b⟩, (B, c)), by rw [e0, e1, e2, e3, e4]; rfl, hb1, by simp only; omega, h2, h4⟩
theorem open_sps {w : World} {fuel base M : Nat} {v : Value} {x : DataW H × List MemPlace} (h : DataW.trod enc Tryz.prog w base (fun _ => true) true fuel 24 [v] = some x) (hM : Rows.uptoBulk x.1 <= M) :
    ∃ l : List SpD, SPs w (fun k => w.heap.size <= k) v l /\ l.length <= M /\ ∀ d ∈ l, d.ks.length <= M /\ d.batch < 256 /\ d.first < 256 := by
  obtain ⟨l, h1, h2, h3⟩ := open_genB Tryz.underlying24 cells_sp (by omega) (fun e : SpD × (Option Addr × Nat) => SpV e.1 e.2) SpV_len (fun e => Sl w (fun k => w.heap.size <= k) 1 (.slice e.2.1 e.1.ks.length e.2.2) e.1.ks.length (BVs e.1.ks) /\ e.1.ks.length <= M /\ e.1.batch < 256 /\ e.1.first < 256) (⟨0, 0, 0, 0, 0, []⟩, (none, 0))
    (fun fuel cs y hcl hy hb => open_sp hy hb) h hM
  refine ⟨l.map (·.1), ⟨l.map (·.2), ⟨by simp, fun i hi => ?_⟩, ?_⟩, by rw [List.length_map]; exact h2, fun q hq => ?_⟩
  . have hi' : i < l.length := by simpa using hi
    refine ⟨l[i].2, by rw [List.getElem?_map, List.getElem?_eq_getElem hi']; rfl, ?_⟩
    simpa using (h3 _ (List.getElem_mem hi')).1
  . rw [List.length_map, flatS, Ptm.zip_maps]
    exact h1
  . obtain ⟨e, he, rfl⟩ := List.mem_map.1 hq
    exact (h3 e he).2
theorem open_case {w : World} {base fuel : Nat} {cs : List Value} {x : DataW H × List MemPlace} (h : DataW.trod enc Tryz.prog w base (fun _ => true) true fuel 26 cs = some x) (hM : Rows.uptoBulk x.1 <= 1048576) :
    ∃ (f : Int) (vb vv vs : Value) (view low : Int) (qss : List (List Q)) (vts : List (Vt × Nat)) (sps : List SpD), cs = [.int .i64 f, vb, vv, vs, .int .i64 view, .int .i64 low] /\ CI w f vb vv vs view low qss vts
      /\ SPs w (fun k => w.heap.size <= k) vs sps /\ sps.length <= 1048576 /\ (∀ d ∈ sps, d.ks.length <= 1048576 /\ d.batch < 256 /\ d.first < 256) /\ ∀ e ∈ vts, InV (ofP e) := by
  obtain ⟨xs, n', _, hx, hl, hxl, hf⟩ := DataW.trod_struct Tryz.underlying26 h
  rw [cells_case] at hl
  have hxl' : xs.length = 6 := hxl
  match cs, hl with
  | [v0, v1, v2, v3, v4, v5], _ =>
    have f0 : DataW.trod enc Tryz.prog w base (fun _ => true) true n' 3 (([v0, v1, v2, v3, v4, v5].drop 0).take (Tryz.prog.cellsOf 3)) = xs[0]? := hf 0 _ rfl
    have f1 : DataW.trod enc Tryz.prog w base (fun _ => true) true n' 22 (([v0, v1, v2, v3, v4, v5].drop 1).take (Tryz.prog.cellsOf 22)) = xs[1]? := hf 1 _ rfl
    have f2 : DataW.trod enc Tryz.prog w base (fun _ => true) true n' 23 (([v0, v1, v2, v3, v4, v5].drop 2).take (Tryz.prog.cellsOf 23)) = xs[2]? := hf 2 _ rfl
    have f3 : DataW.trod enc Tryz.prog w base (fun _ => true) true n' 24 (([v0, v1, v2, v3, v4, v5].drop 3).take (Tryz.prog.cellsOf 24)) = xs[3]? := hf 3 _ rfl
    have f4 : DataW.trod enc Tryz.prog w base (fun _ => true) true n' 2 (([v0, v1, v2, v3, v4, v5].drop 4).take (Tryz.prog.cellsOf 2)) = xs[4]? := hf 4 _ rfl
    have f5 : DataW.trod enc Tryz.prog w base (fun _ => true) true n' 2 (([v0, v1, v2, v3, v4, v5].drop 5).take (Tryz.prog.cellsOf 2)) = xs[5]? := hf 5 _ rfl
    rw [Py.cells_int] at f0
    rw [cells_qqs] at f1
    rw [cells_vts] at f2
    rw [cells_sps] at f3
    rw [Py.cells_i64] at f4 f5
    simp only [List.drop_zero, List.drop_succ_cons, List.take_succ_cons, List.take_zero] at f0 f1 f2 f3 f4 f5
    obtain ⟨z0, e0, w0⟩ := one_int Tryz.underlying3 (by omega) f0
    obtain ⟨z4, e4, w4⟩ := one_int Tryz.underlying2 (by omega) f4
    obtain ⟨z5, e5, w5⟩ := one_int Tryz.underlying2 (by omega) f5
    have hp : ∀ j (hj : j < xs.length), Rows.uptoBulk (xs[j]).1 <= 1048576 := fun j hj => by
      have : Rows.uptoBulk (xs[j]).1 <= Rows.uptoBulk x.1 := by
        rw [hx]
        exact part_le (List.mem_map.2 ⟨_, List.getElem_mem _, rfl⟩)
      omega
    rw [List.getElem?_eq_getElem (by omega)] at f1 f2 f3
    obtain ⟨qss, q1, q2, q3⟩ := open_qqB f1 (hp 1 (by omega))
    obtain ⟨vts, t1, t2, t3⟩ := open_vts f2 (hp 2 (by omega))
    obtain ⟨sps, s1, s2, s3⟩ := open_sps f3 (hp 3 (by omega))
    simp only [List.cons.injEq, and_true] at e0 e4 e5
    exact ⟨z0, v1, v2, v3, z4, z5, qss, vts, sps, by rw [e0, e4, e5], ⟨q1, t1, q3, q2, t2, fun v hv => (t3 v hv).1⟩, s1, s2, s3, fun e he => (t3 e he).2⟩
end
end Go.Proofs.YtmhmnkpaijoaaaaGreat.Ptn
namespace Go.Proofs.YtmhmnkpaijoaaaaGreat.Ku
set_option linter.unusedSimpArgs false
set_option linter.unusedVariables false
open Go Go.RowKit Go.ChangeShapes Go.WideShapes Go.ChangeAt
theorem lift_sized {H : Type} {enc : TypeId × Value -> H} {a : Assume} {C : Checked} {os : Os} {f : FuncId} {fn : Func} {s : OpenSpec} {k : (H : Type) -> List (DataW H) -> Bool} (hk : s.cond = some k) {F : Stop.Interp} {conds : List PathCond} {apart fresh handsOn again : Bool}
    (own : ownKnob C.prog.godebug = none) (started : os.Started) (noInit : C.prog.inits.idxOf? f = none) (hfn : C.prog.funcs[f]? = some fn)
    (witness : ∃ (w : World) (tape : Tape) (i : Input), w.os = os /\ (w.forCall tape i).Shaped C.prog /\ i.vars = [] /\ Input.okWide C.prog (w.forCall tape i) .any w.heap.size f i /\
      s.pre6 enc C.prog fn conds apart (w.forCall tape i).memory i.args /\ a.holds C.prog (lone (Frame.enter C.prog f i.args .normal) [] (w.forCall tape i)))
    (contract : ∀ (W : World) (base : Nat) (args : Array Value) (ds gs : List (DataW H)) (before : List MemPlace),
      (∀ (j : Nat) t v, fn.params[j]? = some t -> args[j]? = some v -> Value.okWide C.prog W .any base t v) ->
      DataW.Whole enc C.prog fn.params.toList s.vars apart W args.toList ds gs before -> k H (ds ++ gs) = true ->
      (DataW.weightsEach C.prog (fn.params.toList ++ s.bare.plain.varTypes C.prog) (ds ++ gs)).all (· <= reachBytes) = true ->
      Calls C.prog f args W fun e W' => ∃ v, e = .returned v /\ (s.at F).post enc C.prog fn apart fresh handsOn again W args v W') :
    ReturnsInHanded a C os f .any (s.pre6 enc C.prog fn conds apart) ((s.at F).post enc C.prog fn apart fresh handsOn again) := by
  refine returnsInHanded_of_calls own started noInit witness ?_
  intro w tape i _ _ _ hok hpre hholds
  obtain ⟨_, _, _, fn', hfn', _, _, _, _, hval⟩ := hok
  have e : fn' = fn := Option.some.inj (hfn'.symm.trans hfn)
  subst e
  have hz := hpre.2
  obtain ⟨ds, gs, before, hw, hc, hkk⟩ := (OpenSpec.pre_some hk conds apart _ _).1 hpre.1
  have hw' := DataW.Whole.of_heap (w' := w.forCall tape i) (by rfl) hw
  refine (contract (w.forCall tape i) w.heap.size i.args ds gs before hval hw' hkk (hz.weights hw)).mono fun e W' ⟨v, he, hp⟩ => ?_
  subst he
  exact ChangeSpec.post_blind hp
end Go.Proofs.YtmhmnkpaijoaaaaGreat.Ku

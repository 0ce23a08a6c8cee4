/-
  Opening a list of requests under the form's own reach.
-/
import Derived.Test.YtmefagflnhkbdaaGreatVC04
import Derived.Test.YtmefagflnhkbdaaGreatVC17
import Derived.Test.YtmefagflnhkbdaaGreatVC05
namespace Go.Proofs.YtmefagflnhkbdaaGreat.Aq
set_option linter.unusedSimpArgs false
open Go Go.RowKit Go.ChangeShapes Go.WideShapes Go.ChangeAt Go.Deep Ck Kp Pm Pe Py Ao
set_option linter.unusedVariables false

section
variable {H : Type} {enc : TypeId × Value → H}
theorem cells_req : Tryz.prog.cellsOf 40 = 7 := by kernel_rfl
theorem bytes_req : Tryz.prog.bytesOf 40 = 88 := by kernel_rfl
set_option maxRecDepth 100000 in
theorem open_req {w : World} {base : Nat} {fuel : Nat} {cs : List Value} {x : DataW H × List MemPlace} (h : DataW.trod enc Tryz.prog w base (fun _ => true) true fuel 40 cs = some x) :
    ∃ (r : Rq) (A : Option Addr) (c : Nat), cs = [.int .i64 r.client, .int .i64 r.time, .int .i64 r.o.kind, .string ⟨r.o.topic.toArray⟩, .string ⟨r.o.group.toArray⟩, .int .i64 r.o.off, .slice A r.o.recs.length c] ∧ Ls w (fun k => w.heap.size ≤ k) (.slice A r.o.recs.length c) r.o.recs
      ∧ ∀ R, (∀ n ∈ x.1.weights Tryz.prog 40, n ≤ R) → far r.o R := by
  obtain ⟨xs, n', _, hx, hl, hxl, hf⟩ := DataW.trod_struct Tryz.underlying40 h
  rw [cells_req] at hl
  have hxl' : xs.length = 3 := hxl
  match cs, hl with
  | [v0, v1, v2, v3, v4, v5, v6], _ =>
    have f0 : DataW.trod enc Tryz.prog w base (fun _ => true) true n' 3 (([v0, v1, v2, v3, v4, v5, v6].drop 0).take (Tryz.prog.cellsOf 3)) = xs[0]? := hf 0 _ rfl
    have f1 : DataW.trod enc Tryz.prog w base (fun _ => true) true n' 2 (([v0, v1, v2, v3, v4, v5, v6].drop 1).take (Tryz.prog.cellsOf 2)) = xs[1]? := hf 1 _ rfl
    have f2 : DataW.trod enc Tryz.prog w base (fun _ => true) true n' 38 (([v0, v1, v2, v3, v4, v5, v6].drop 2).take (Tryz.prog.cellsOf 38)) = xs[2]? := hf 2 _ rfl
    rw [cells_int] at f0
    rw [cells_i64] at f1
    rw [cells_op] at f2
    simp only [List.drop_zero, List.drop_succ_cons, List.take_succ_cons, List.take_zero] at f0 f1 f2
    obtain ⟨z0, e0, w0⟩ := one_int Tryz.underlying3 (by omega) f0
    obtain ⟨z1, e1, w1⟩ := one_int Tryz.underlying2 (by omega) f1
    rw [List.getElem?_eq_getElem (by omega)] at f2
    obtain ⟨o, A, c, e2, hls, _, hfar⟩ := open_op f2
    simp only [List.cons.injEq, and_true] at e0 e1 e2
    obtain ⟨rfl, rfl, rfl, rfl, rfl⟩ := e2
    refine ⟨⟨z0, z1, o⟩, A, c, by rw [e0, e1], hls, fun R hR => hfar R fun n hn => ?_⟩
    refine hR n ?_
    rw [hx]
    simp only [DataW.weights, Tryz.underlying40]
    exact DataW.weights_mem_each (ts := [3, 2, 38]) (j := 2) (t := 38) rfl (by simp [List.getElem?_eq_getElem (show 2 < xs.length by omega)]) n hn
set_option maxRecDepth 100000 in
theorem open_reqs {w : World} {fuel : Nat} {base : Nat} {v : Value} {x : DataW H × List MemPlace} (h : DataW.trod enc Tryz.prog w base (fun _ => true) true fuel 22 [v] = some x) (hR : ∀ n ∈ x.1.weights Tryz.prog 22, n ≤ 140737488351232) :
    ∃ (A : Option Addr) (c : Nat) (rs : List Rq), v = .slice A rs.length c ∧ Rqs w A rs ∧ rs.length * 88 ≤ 140737488351232 ∧ rs.length ≤ Rows.uptoBulk x.1 := by
  rcases open_slice Tryz.underlying22 h with ⟨hcs, rfl⟩ | ⟨a, len, cap, m, n, D, Pl, hcs, _, hl, hm, hmm, rfl, hx⟩
  · obtain rfl : v = .slice none 0 0 := by simpa using hcs
    exact ⟨none, 0, [], rfl, fun i hi => absurd hi (by simp), by simp, by simp⟩
  · obtain rfl : v = .slice (some a) len cap := by simpa using hcs
    simp only [if_true] at hmm
    have each : ∀ i, ∃ r : Rq, i < len → ∃ (Ar : Option Addr) (cr : Nat), (a.add (i * 7)).block < w.heap.size ∧ w.cell? (a.add (i * 7)) = some (.int .i64 r.client) ∧ w.cell? ⟨(a.add (i * 7)).block, (a.add (i * 7)).off + 1, none⟩ = some (.int .i64 r.time)
        ∧ w.cell? ⟨(a.add (i * 7)).block, (a.add (i * 7)).off + 2, none⟩ = some (.int .i64 r.o.kind) ∧ w.cell? ⟨(a.add (i * 7)).block, (a.add (i * 7)).off + 3, none⟩ = some (.string ⟨r.o.topic.toArray⟩)
        ∧ w.cell? ⟨(a.add (i * 7)).block, (a.add (i * 7)).off + 4, none⟩ = some (.string ⟨r.o.group.toArray⟩) ∧ w.cell? ⟨(a.add (i * 7)).block, (a.add (i * 7)).off + 5, none⟩ = some (.int .i64 r.o.off)
        ∧ w.cell? ⟨(a.add (i * 7)).block, (a.add (i * 7)).off + 6, none⟩ = some (.slice Ar r.o.recs.length cr) ∧ Ls w (fun k => w.heap.size ≤ k) (.slice Ar r.o.recs.length cr) r.o.recs ∧ r.o.topic.length ≤ 140737488355328 ∧ r.o.recs.length ≤ 140737488355328 := by
      intro i
      by_cases hi : i < len
      · obtain ⟨cs', hc, ht⟩ := hx i (by omega)
        obtain ⟨r, Ar, cr, rfl, hb, hr⟩ := open_req ht
        rw [cells_req] at hc
        obtain ⟨_, _, hcell⟩ := World.cells?_some hc
        have hw := hr 140737488351232 (fun n hn => hR n (by
          simp only [DataW.weights, Tryz.underlying22, List.mem_cons, List.mem_append]
          exact .inr (.inl (all_mem hn (List.mem_map.2 ⟨i, by simpa using hi, rfl⟩)))))
        have hg : ∀ j, 0 < j → (a.add (i * 7)).add j = ⟨(a.add (i * 7)).block, (a.add (i * 7)).off + j, none⟩ := fun j hj => by
          generalize a.add (i * 7) = ak
          unfold Addr.add
          rw [if_neg (by omega)]
        have h0 : w.cell? (a.add (i * 7)) = some (.int .i64 r.client) := by
          have := hcell 0 (by omega)
          rw [Ck.add_add] at this
          simpa using this
        have h1 := hcell 1 (by omega)
        have h2 := hcell 2 (by omega)
        have h3 := hcell 3 (by omega)
        have h4 := hcell 4 (by omega)
        have h5 := hcell 5 (by omega)
        have h6 := hcell 6 (by omega)
        rw [hg _ (by omega)] at h1 h2 h3 h4 h5 h6
        exact ⟨r, fun _ => ⟨Ar, cr, World.block_lt_of_cell? w _ h0, h0, h1, h2, h3, h4, h5, h6, hb, by have := hw.1; omega, by have := hw.2.2.1; omega⟩⟩
      · exact ⟨⟨0, 0, ⟨0, [], [], 0, []⟩⟩, fun h => absurd h hi⟩
    obtain ⟨f, hf⟩ := Classical.axiomOfChoice each
    refine ⟨some a, cap, (List.range len).map f, by simp, fun i hi => ?_, ?_, ?_⟩
    · have hi' : i < len := by simpa using hi
      obtain ⟨Ar, cr, h⟩ := hf i hi'
      have e : ((List.range len).map f)[i] = f i := by simp
      rw [e]
      exact ⟨a, Ar, cr, rfl, h⟩
    · have := hR _ (by simp only [DataW.weights, Tryz.underlying22]; exact List.mem_cons_self)
      rw [bytes_req] at this
      simp only [List.length_map, List.length_range] at this ⊢
      omega
    · have := Bulk.slice_len (H := H) ((List.range len).map D) ((List.range (m - len)).map fun j => D (len + j))
      simp only [List.length_map, List.length_range] at this ⊢
      omega
end
end Go.Proofs.YtmefagflnhkbdaaGreat.Aq

/-
  The plain mathematics of layer 7 (topics): how the program reads topics, failing as it goes, and that it comes to what the document reads.
-/
namespace Go.Proofs.YtmefagflnhkbdaaGreat.Te
set_option linter.unusedSimpArgs false
open Cm Pm Pz Tm Tn Tq
set_option linter.unusedVariables false

theorem num_err {s : RS} {m : Nat} (h : s.2 ≠ 0) : numS s m = (0, s) := by rw [numS, if_pos h]
theorem take_err {s : RS} {n : Int} (h : s.2 ≠ 0) : takeS s n = ([], s) := by rw [takeS, if_pos h]
theorem bytes_err {s : RS} {m : Int} (h : s.2 ≠ 0) : bytesS s m = ([], s) := by unfold bytesS; rw [num_err h, take_err h]
theorem fail_err {s : RS} {e : Int} (he : e ≠ 0) : (failS s e).2 ≠ 0 := by
  by_cases h : s.2 = 0
  · simp [failS, h, he]
  · unfold failS; rw [if_pos h]; exact h
theorem fail_keep {s : RS} {e : Int} (h : s.2 ≠ 0) : (failS s e).2 ≠ 0 := by unfold failS; rw [if_pos h]; exact h
/-- A number within a less bound; and one that is not. -/
theorem num_mono {s : RS} {m M : Nat} (hm : m ≤ M) (h : (numS s m).2.2 = 0) : numS s M = numS s m := by
  obtain ⟨h0, h1, h2, h3⟩ := numS_ok h
  rw [h3, numS, if_neg (by simpa using h0), if_neg (by simpa using h1), if_neg (by omega)]
theorem num_over {s : RS} {m M : Nat} (h : (numS s m).2.2 ≠ 0) : (numS s M).2.2 ≠ 0 ∨ m < (numS s M).1 := by
  by_cases hM : (numS s M).2.2 = 0
  · obtain ⟨h0, h1, h2, h3⟩ := numS_ok hM
    refine .inr ?_
    rw [h3]
    apply Nat.lt_of_not_le
    intro h4
    apply h
    rw [numS, if_neg (by simpa using h0), if_neg (by simpa using h1), if_neg (by omega)]
  · exact .inl hM
theorem bytes_mono {s : RS} {m M : Int} (h0 : 0 ≤ m) (hm : m ≤ M) (h : (bytesS s m).2.2 = 0) : bytesS s M = bytesS s m := by
  unfold bytesS at h ⊢
  have h1 : (numS s m.toNat).2.2 = 0 := (takeS_ok h).1
  rw [num_mono (by omega) h1]
theorem bytes_over {s : RS} {m M : Int} (h0 : 0 ≤ m) (hm : m ≤ M) (h : (bytesS s m).2.2 ≠ 0) : (bytesS s M).2.2 ≠ 0 ∨ m < ((bytesS s M).1.length : Int) := by
  by_cases hM : (bytesS s M).2.2 = 0
  · refine .inr ?_
    apply Int.lt_of_not_ge
    intro hle
    apply h
    unfold bytesS at hM hle ⊢
    obtain ⟨a0, a1, a2, a3⟩ := takeS_ok hM
    rw [a3] at hle
    simp only [List.length_take] at hle
    by_cases hn : (numS s m.toNat).2.2 = 0
    · rw [← num_mono (M := M.toNat) (by omega) hn]; exact hM
    · rcases num_over (M := M.toNat) hn with q | q
      · exact absurd a0 q
      · omega
  · exact .inl hM

section
variable {α : Type} {f : RS → α × RS}
theorem manyS_app (f : RS → α × RS) : ∀ (n : Nat) (s : RS) (acc : List α), ∃ l, (manyS f n s acc).1 = acc ++ l
  | 0, s, acc => ⟨[], by simp [manyS]⟩
  | n + 1, s, acc => by
    unfold manyS
    split
    · exact ⟨[], by simp⟩
    · obtain ⟨l, h⟩ := manyS_app f n (f s).2 (acc ++ [(f s).1])
      exact ⟨(f s).1 :: l, by rw [h]; simp⟩
theorem manyS_stop {n : Nat} {s : RS} {acc : List α} (h : s.2 ≠ 0) : (manyS f n s acc).2.2 ≠ 0 := by
  cases n with
  | zero => exact h
  | succ n => unfold manyS; rw [if_pos h]; exact h
theorem allS_err (hf : ∀ s, s.2 ≠ 0 → (f s).2.2 ≠ 0) : ∀ (n : Nat) (s : RS) (acc : List α), s.2 ≠ 0 → (allS f n s acc).2.2 ≠ 0
  | 0, s, acc, h => h
  | n + 1, s, acc, h => by unfold allS; exact allS_err hf n _ _ (hf s h)
/-- Reading on behind an error comes to the same, where there is none. -/
theorem all_many (hf : ∀ s, s.2 ≠ 0 → (f s).2.2 ≠ 0) : ∀ (n : Nat) (s : RS) (acc : List α), s.2 = 0 → ((allS f n s acc).2.2 = 0 ∧ manyS f n s acc = allS f n s acc) ∨ ((allS f n s acc).2.2 ≠ 0 ∧ (manyS f n s acc).2.2 ≠ 0)
  | 0, s, acc, h => .inl ⟨h, rfl⟩
  | n + 1, s, acc, h => by
    unfold allS manyS
    rw [if_neg (by simpa using h)]
    by_cases h1 : (f s).2.2 = 0
    · exact all_many hf n _ _ h1
    · exact .inr ⟨allS_err hf n _ _ h1, manyS_stop h1⟩
end

/-- A name that is above the one ahead. -/
def nmQ (a : Tx) (s : RS) : Tx × RS := ((bytesS s 64).1, if (name (bytesS s 64).1 && decide (a < (bytesS s 64).1)) = true then (bytesS s 64).2 else failS (bytesS s 64).2 70)
def gsQ (next : Nat) : Nat → Tx → RS → List Gp → List Gp × RS
  | 0, _, s, acc => (acc, s)
  | n + 1, a, s, acc => gsQ next n (nmQ a s).1 (numS (nmQ a s).2 next).2 (acc ++ [⟨(nmQ a s).1, (numS (nmQ a s).2 next).1⟩])
def rcQ (s : RS) : List Tx × RS := allS (fun r => bytesS r 64) (numS s 64).1 (numS s 64).2 []
def nxQ (b : Nat) (l : List Tx) (s : RS) : RS := if b + l.length ≤ 9007199254740992 then s else failS s 70
def tpQ (n : Tx) (s : RS) : Tp × RS :=
  let b := numS s 9007199254740992
  let l := rcQ b.2
  let c := numS (nxQ b.1 l.1 l.2) 8
  let g := gsQ (b.1 + l.1.length) c.1 [] c.2 []
  (⟨n, b.1, l.1, g.1⟩, g.2)
def tsQ : Nat → Tx → RS → List Tp → List Tp × RS
  | 0, _, s, acc => (acc, s)
  | n + 1, a, s, acc => tsQ n (nmQ a s).1 (tpQ (nmQ a s).1 (nmQ a s).2).2 (acc ++ [(tpQ (nmQ a s).1 (nmQ a s).2).1])
def anR (s : RS) : An × RS :=
  let t := numS s 9007199254740992
  let e := numS t.2 65536
  let f := numS e.2 9007199254740992
  (⟨t.1, e.1, f.1⟩, f.2)
def anQ (s : RS) : An × RS :=
  let x : An := if (anR s).2.2 = 0 then (anR s).1 else ⟨(anR s).1.time, 0, 0⟩
  (x, if okA x = true then (anR s).2 else failS (anR s).2 70)
def stQ (s : RS) : St × RS :=
  let l := tsQ (numS s 8).1 [] (numS s 8).2 []
  let a := allS anQ 8 l.2 []
  (⟨l.1, a.1⟩, a.2)

theorem nmQ_err {a : Tx} {s : RS} (h : s.2 ≠ 0) : (nmQ a s).2.2 ≠ 0 := by
  unfold nmQ
  rw [bytes_err h]
  simp only
  split
  · exact h
  · exact fail_keep h
/-- The name. -/
theorem nmQ_rel (a : Tx) (s : RS) : ((nmQ a s).2.2 = 0 ∧ nmQ a s = bytesS s 1024 ∧ name (bytesS s 1024).1 = true ∧ a < (bytesS s 1024).1) ∨ ((nmQ a s).2.2 ≠ 0 ∧ ((bytesS s 1024).2.2 ≠ 0 ∨ name (bytesS s 1024).1 = false ∨ ¬ a < (bytesS s 1024).1)) := by
  by_cases h : (bytesS s 64).2.2 = 0
  · rw [bytes_mono (m := 64) (M := 1024) (by decide) (by decide) h]
    unfold nmQ
    by_cases hk : (name (bytesS s 64).1 && decide (a < (bytesS s 64).1)) = true
    · rw [if_pos hk]
      simp only [Bool.and_eq_true, decide_eq_true_eq] at hk
      exact .inl ⟨h, rfl, hk.1, hk.2⟩
    · rw [if_neg hk]
      refine .inr ⟨fail_err (by decide), .inr ?_⟩
      simp only [Bool.and_eq_true, decide_eq_true_eq, not_and] at hk
      cases hn : name (bytesS s 64).1 with
      | false => exact .inl rfl
      | true => exact .inr (hk hn)
  · refine .inr ⟨?_, ?_⟩
    · unfold nmQ
      simp only
      split
      · exact h
      · exact fail_keep h
    · rcases bytes_over (m := 64) (M := 1024) (by decide) (by decide) h with q | q
      · exact .inl q
      · refine .inr (.inl ?_)
        cases hn : name (bytesS s 1024).1 with
        | false => rfl
        | true => have := (name_len hn).1; omega
theorem gsQ_err {next : Nat} : ∀ (n : Nat) (a : Tx) (s : RS) (acc : List Gp), s.2 ≠ 0 → (gsQ next n a s acc).2.2 ≠ 0
  | 0, a, s, acc, h => h
  | n + 1, a, s, acc, h => by
    unfold gsQ
    have h1 := nmQ_err (a := a) h
    rw [num_err h1]
    exact gsQ_err n _ _ _ h1
/-- The groups. -/
theorem gsQ_rel (next : Nat) (hN : next ≤ 9007199254740992) : ∀ (n : Nat) (a : Tx) (s : RS) (acc : List Gp), s.2 = 0 → ∃ l, (manyS gpS n s acc).1 = acc ++ l ∧
    (((gsQ next n a s acc).2.2 = 0 ∧ gsQ next n a s acc = manyS gpS n s acc ∧ okGs next a l = true) ∨ ((gsQ next n a s acc).2.2 ≠ 0 ∧ ((manyS gpS n s acc).2.2 ≠ 0 ∨ okGs next a l = false)))
  | 0, a, s, acc, h => ⟨[], by simp [manyS], .inl ⟨h, rfl, rfl⟩⟩
  | n + 1, a, s, acc, h => by
    have e1 : manyS gpS (n + 1) s acc = manyS gpS n (gpS s).2 (acc ++ [(gpS s).1]) := by rw [manyS, if_neg (by simpa using h)]
    have e2 : gsQ next (n + 1) a s acc = gsQ next n (nmQ a s).1 (numS (nmQ a s).2 next).2 (acc ++ [⟨(nmQ a s).1, (numS (nmQ a s).2 next).1⟩]) := rfl
    rw [e1, e2]
    -- whatever comes behind an element that is bad
    have bad : (numS (nmQ a s).2 next).2.2 ≠ 0 → ((gpS s).2.2 ≠ 0 ∨ (name (gpS s).1.n && decide (a < (gpS s).1.n) && decide ((gpS s).1.pos ≤ next)) = false) → ∃ l, (manyS gpS n (gpS s).2 (acc ++ [(gpS s).1])).1 = acc ++ l ∧
        (((gsQ next n (nmQ a s).1 (numS (nmQ a s).2 next).2 (acc ++ [⟨(nmQ a s).1, (numS (nmQ a s).2 next).1⟩])).2.2 = 0 ∧ gsQ next n (nmQ a s).1 (numS (nmQ a s).2 next).2 (acc ++ [⟨(nmQ a s).1, (numS (nmQ a s).2 next).1⟩]) = manyS gpS n (gpS s).2 (acc ++ [(gpS s).1]) ∧ okGs next a l = true) ∨ ((gsQ next n (nmQ a s).1 (numS (nmQ a s).2 next).2 (acc ++ [⟨(nmQ a s).1, (numS (nmQ a s).2 next).1⟩])).2.2 ≠ 0 ∧ ((manyS gpS n (gpS s).2 (acc ++ [(gpS s).1])).2.2 ≠ 0 ∨ okGs next a l = false))) := by
      intro hb hd
      obtain ⟨l, hl⟩ := manyS_app gpS n (gpS s).2 (acc ++ [(gpS s).1])
      refine ⟨(gpS s).1 :: l, by rw [hl]; simp, .inr ⟨gsQ_err _ _ _ _ hb, ?_⟩⟩
      rcases hd with hd | hd
      · exact .inl (manyS_stop hd)
      · exact .inr (by rw [okGs, hd]; rfl)
    rcases nmQ_rel a s with ⟨h1, h2, h3, h4⟩ | ⟨h1, h2⟩
    · by_cases hk : (numS (nmQ a s).2 next).2.2 = 0
      · have h5 : numS (bytesS s 1024).2 9007199254740992 = numS (nmQ a s).2 next := by rw [← h2]; exact num_mono hN hk
        have h6 : (gpS s).2 = (numS (nmQ a s).2 next).2 := by simp only [gpS]; rw [h5]
        have h7 : (gpS s).1 = ⟨(nmQ a s).1, (numS (nmQ a s).2 next).1⟩ := by simp only [gpS]; rw [h5, h2]
        have h8 := numS_le (nmQ a s).2 next
        rw [h6, h7]
        obtain ⟨l, hl, hr⟩ := gsQ_rel next hN n (nmQ a s).1 (numS (nmQ a s).2 next).2 (acc ++ [⟨(nmQ a s).1, (numS (nmQ a s).2 next).1⟩]) hk
        have ho : okGs next a (⟨(nmQ a s).1, (numS (nmQ a s).2 next).1⟩ :: l) = okGs next (nmQ a s).1 l := by
          rw [okGs]
          simp only [h2, h3, h4, decide_true, Bool.true_and]
          rw [← h2]
          have : decide (((numS (nmQ a s).2 next).1 : Int) ≤ (next : Int)) = true := by simpa using h8
          rw [this, Bool.true_and]
        refine ⟨⟨(nmQ a s).1, (numS (nmQ a s).2 next).1⟩ :: l, by rw [hl]; simp, ?_⟩
        rw [ho]
        exact hr
      · refine bad hk ?_
        rcases num_over (M := 9007199254740992) hk with q | q
        · exact .inl (by simp only [gpS]; rw [← h2]; exact q)
        · refine .inr ?_
          have : decide ((gpS s).1.pos ≤ (next : Int)) = false := by
            simp only [gpS, ← h2, decide_eq_false_iff_not]
            omega
          rw [this, Bool.and_false]
    · have hb : (numS (nmQ a s).2 next).2.2 ≠ 0 := by rw [num_err h1]; exact h1
      refine bad hb ?_
      rcases h2 with q | q | q
      · exact .inl (by simp only [gpS]; rw [num_err q]; exact q)
      · exact .inr (by simp only [gpS, q, Bool.false_and])
      · have q' : decide (a < (gpS s).1.n) = false := decide_eq_false q
        exact .inr (by rw [q', Bool.and_false, Bool.false_and])

theorem by64_err (s : RS) (h : s.2 ≠ 0) : (bytesS s 64).2.2 ≠ 0 := by rw [bytes_err h]; exact h
theorem rcQ_err {s : RS} (h : s.2 ≠ 0) : (rcQ s).2.2 ≠ 0 := by
  unfold rcQ
  exact allS_err by64_err _ _ _ (by rw [num_err h]; exact h)
theorem rcS_err {s : RS} (h : s.2 ≠ 0) : (rcS s).2.2 ≠ 0 := by
  unfold rcS
  exact manyS_stop (by rw [num_err h]; exact h)
theorem gpsS_err {s : RS} (h : s.2 ≠ 0) : (gpsS s).2.2 ≠ 0 := by
  unfold gpsS
  exact manyS_stop (by rw [num_err h]; exact h)
theorem rcQ_rel (s : RS) : ((rcQ s).2.2 = 0 ∧ rcS s = rcQ s) ∨ ((rcQ s).2.2 ≠ 0 ∧ (rcS s).2.2 ≠ 0) := by
  by_cases h : (numS s 64).2.2 = 0
  · exact all_many by64_err _ _ _ h
  · exact .inr ⟨allS_err by64_err _ _ _ h, manyS_stop h⟩
theorem nxQ_err {b : Nat} {l : List Tx} {s : RS} (h : s.2 ≠ 0) : (nxQ b l s).2 ≠ 0 := by
  unfold nxQ
  split
  · exact h
  · exact fail_keep h
theorem tail_err {b : Nat} {l : List Tx} {s : RS} (h : s.2 ≠ 0) (k : Nat) : (gsQ k (numS (nxQ b l s) 8).1 [] (numS (nxQ b l s) 8).2 []).2.2 ≠ 0 := by
  have h1 := nxQ_err (b := b) (l := l) h
  exact gsQ_err _ _ _ _ (by rw [num_err h1]; exact h1)
theorem tpQ_err {n : Tx} {s : RS} (h : s.2 ≠ 0) : (tpQ n s).2.2 ≠ 0 := by
  simp only [tpQ]
  exact tail_err (rcQ_err (by rw [num_err h]; exact h)) _
theorem tpS_err {s : RS} (h : (bytesS s 1024).2.2 ≠ 0) : (tpS s).2.2 ≠ 0 := by
  simp only [tpS]
  exact gpsS_err (rcS_err (by rw [num_err h]; exact h))
/-- A topic. -/
theorem tpQ_rel (a : Tx) (s : RS) : ((tpQ (nmQ a s).1 (nmQ a s).2).2.2 = 0 ∧ tpQ (nmQ a s).1 (nmQ a s).2 = tpS s ∧ okT (tpS s).1 = true ∧ a < (tpS s).1.n ∧ (nmQ a s).1 = (tpS s).1.n) ∨ ((tpQ (nmQ a s).1 (nmQ a s).2).2.2 ≠ 0 ∧ ((tpS s).2.2 ≠ 0 ∨ (okT (tpS s).1 && decide (a < (tpS s).1.n)) = false)) := by
  rcases nmQ_rel a s with ⟨h1, h2, h3, h4⟩ | ⟨h1, h2⟩
  · rw [h2]
    by_cases hb : (numS (bytesS s 1024).2 9007199254740992).2.2 = 0
    · rcases rcQ_rel (numS (bytesS s 1024).2 9007199254740992).2 with ⟨l1, l2⟩ | ⟨l1, l2⟩
      · by_cases hn : (numS (bytesS s 1024).2 9007199254740992).1 + (rcQ (numS (bytesS s 1024).2 9007199254740992).2).1.length ≤ 9007199254740992
        · have hx : nxQ (numS (bytesS s 1024).2 9007199254740992).1 (rcQ (numS (bytesS s 1024).2 9007199254740992).2).1 (rcQ (numS (bytesS s 1024).2 9007199254740992).2).2 = (rcQ (numS (bytesS s 1024).2 9007199254740992).2).2 := by rw [nxQ, if_pos hn]
          simp only [tpQ, tpS]
          rw [hx, l2]
          simp only [gpsS]
          generalize rcQ (numS (bytesS s 1024).2 9007199254740992).2 = l at *
          generalize (numS (bytesS s 1024).2 9007199254740992).1 = b at *
          by_cases hc : (numS l.2 8).2.2 = 0
          · obtain ⟨t, ht, hr⟩ := gsQ_rel (b + l.1.length) hn (numS l.2 8).1 [] (numS l.2 8).2 [] hc
            rw [List.nil_append] at ht
            have hok : okT ⟨(bytesS s 1024).1, b, l.1, t⟩ = okGs ((b + l.1.length : Nat) : Int) [] t := by
              have e : (Tp.mk (bytesS s 1024).1 b l.1 t).next = ((b + l.1.length : Nat) : Int) := by simp [Tp.next]
              simp only [okT, e, h3, Bool.true_and]
              have : decide (((b + l.1.length : Nat) : Int) ≤ maxNum) = true := by
                refine decide_eq_true ?_
                show ((b + l.1.length : Nat) : Int) ≤ 9007199254740992
                omega
              rw [this, Bool.true_and]
            rcases hr with ⟨r1, r2, r3⟩ | ⟨r1, r2⟩
            · refine .inl ⟨r1, by rw [r2], ?_, h4, trivial⟩
              rw [ht, hok]
              exact r3
            · refine .inr ⟨r1, ?_⟩
              rcases r2 with r2 | r2
              · exact .inl r2
              · exact .inr (by rw [ht, hok, r2]; rfl)
          · exact .inr ⟨gsQ_err _ _ _ _ hc, .inl (manyS_stop hc)⟩
        · refine .inr ⟨?_, .inr ?_⟩
          · simp only [tpQ]
            have hf : (nxQ (numS (bytesS s 1024).2 9007199254740992).1 (rcQ (numS (bytesS s 1024).2 9007199254740992).2).1 (rcQ (numS (bytesS s 1024).2 9007199254740992).2).2).2 ≠ 0 := by rw [nxQ, if_neg hn]; exact fail_err (by decide)
            exact gsQ_err _ _ _ _ (by rw [num_err hf]; exact hf)
          · have : okT (tpS s).1 = false := by
              simp only [okT, tpS, Tp.next, l2]
              have : decide (((numS (bytesS s 1024).2 9007199254740992).1 : Int) + ((rcQ (numS (bytesS s 1024).2 9007199254740992).2).1.length : Int) ≤ maxNum) = false := by
                refine decide_eq_false ?_
                show ¬ ((numS (bytesS s 1024).2 9007199254740992).1 : Int) + ((rcQ (numS (bytesS s 1024).2 9007199254740992).2).1.length : Int) ≤ 9007199254740992
                omega
              rw [this, Bool.and_false, Bool.false_and]
            rw [this, Bool.false_and]
      · refine .inr ⟨?_, .inl ?_⟩
        · simp only [tpQ]
          exact tail_err l1 _
        · simp only [tpS]
          exact gpsS_err l2
    · refine .inr ⟨?_, .inl ?_⟩
      · simp only [tpQ]
        exact tail_err (rcQ_err hb) _
      · simp only [tpS]
        exact gpsS_err (rcS_err hb)
  · refine .inr ⟨tpQ_err h1, ?_⟩
    rcases h2 with q | q | q
    · exact .inl (tpS_err q)
    · refine .inr ?_
      have : okT (tpS s).1 = false := by simp only [okT, tpS, q, Bool.false_and]
      rw [this, Bool.false_and]
    · refine .inr ?_
      have : decide (a < (tpS s).1.n) = false := decide_eq_false q
      rw [this, Bool.and_false]
theorem tsQ_err : ∀ (n : Nat) (a : Tx) (s : RS) (acc : List Tp), s.2 ≠ 0 → (tsQ n a s acc).2.2 ≠ 0
  | 0, a, s, acc, h => h
  | n + 1, a, s, acc, h => by
    unfold tsQ
    exact tsQ_err n _ _ _ (tpQ_err (nmQ_err h))
/-- The topics. -/
theorem tsQ_rel : ∀ (n : Nat) (a : Tx) (s : RS) (acc : List Tp), s.2 = 0 → ∃ l, (manyS tpS n s acc).1 = acc ++ l ∧
    (((tsQ n a s acc).2.2 = 0 ∧ tsQ n a s acc = manyS tpS n s acc ∧ okTs a l = true) ∨ ((tsQ n a s acc).2.2 ≠ 0 ∧ ((manyS tpS n s acc).2.2 ≠ 0 ∨ okTs a l = false)))
  | 0, a, s, acc, h => ⟨[], by simp [manyS], .inl ⟨h, rfl, rfl⟩⟩
  | n + 1, a, s, acc, h => by
    have e1 : manyS tpS (n + 1) s acc = manyS tpS n (tpS s).2 (acc ++ [(tpS s).1]) := by rw [manyS, if_neg (by simpa using h)]
    have e2 : tsQ (n + 1) a s acc = tsQ n (nmQ a s).1 (tpQ (nmQ a s).1 (nmQ a s).2).2 (acc ++ [(tpQ (nmQ a s).1 (nmQ a s).2).1]) := rfl
    rw [e1, e2]
    rcases tpQ_rel a s with ⟨h1, h2, h3, h4, h5⟩ | ⟨h1, h2⟩
    · rw [h2] at h1 ⊢
      rw [h5]
      obtain ⟨l, hl, hr⟩ := tsQ_rel n (tpS s).1.n (tpS s).2 (acc ++ [(tpS s).1]) h1
      have ho : okTs a ((tpS s).1 :: l) = okTs (tpS s).1.n l := by rw [okTs, h3, decide_eq_true h4]; rfl
      refine ⟨(tpS s).1 :: l, by rw [hl]; simp, ?_⟩
      rw [ho]
      exact hr
    · obtain ⟨l, hl⟩ := manyS_app tpS n (tpS s).2 (acc ++ [(tpS s).1])
      refine ⟨(tpS s).1 :: l, by rw [hl]; simp, .inr ⟨tsQ_err _ _ _ _ h1, ?_⟩⟩
      rcases h2 with q | q
      · exact .inl (manyS_stop q)
      · exact .inr (by rw [okTs, q]; rfl)
theorem num_least {s : RS} {m M : Nat} (h : (numS s M).2.2 = 0) (hm : (numS s M).1 ≤ m) : numS s m = numS s M := by
  obtain ⟨h0, h1, h2, h3⟩ := numS_ok h
  rw [h3] at hm
  rw [h3, numS, if_neg (by simpa using h0), if_neg (by simpa using h1), if_neg (by simp only at hm; omega)]
theorem an_eq {s : RS} (h : (numS (numS s 9007199254740992).2 1024).2.2 = 0) : anS s = anR s := by
  simp only [anS, anR]
  rw [num_mono (m := 1024) (M := 65536) (by omega) h]
theorem anS_err {s : RS} (h : (numS (numS s 9007199254740992).2 1024).2.2 ≠ 0) : (anS s).2.2 ≠ 0 := by
  simp only [anS]
  rw [num_err h]
  exact h
theorem anS_keep (s : RS) (h : s.2 ≠ 0) : (anS s).2.2 ≠ 0 := anS_err (by rw [num_err h, num_err h]; exact h)
theorem anR_keep (s : RS) (h : s.2 ≠ 0) : (anR s).2.2 ≠ 0 := by
  simp only [anR]
  rw [num_err h, num_err h, num_err h]
  exact h
theorem ite_keep {c : Prop} [Decidable c] {s : RS} {e : Int} (h : s.2 ≠ 0) : (if c then s else failS s e).2 ≠ 0 := by
  split
  · exact h
  · exact fail_keep h
theorem anQ_keep (s : RS) (h : s.2 ≠ 0) : (anQ s).2.2 ≠ 0 := by
  have h1 := anR_keep s h
  simp only [anQ]
  exact ite_keep h1
theorem told_le {e : Int} (h : told e = true) : 0 ≤ e ∧ e ≤ 1024 := by
  simp only [told, Bool.or_eq_true, beq_iff_eq] at h
  omega
/-- An answer. -/
theorem anQ_rel (s : RS) : ((anQ s).2.2 = 0 ∧ anQ s = anS s ∧ okA (anS s).1 = true) ∨ ((anQ s).2.2 ≠ 0 ∧ ((anS s).2.2 ≠ 0 ∨ okA (anS s).1 = false)) := by
  by_cases h : (anR s).2.2 = 0
  · have hq : anQ s = ((anR s).1, if okA (anR s).1 = true then (anR s).2 else failS (anR s).2 70) := by simp only [anQ]; rw [if_pos h]
    rw [hq]
    by_cases hk : okA (anR s).1 = true
    · rw [if_pos hk]
      have hm : (numS (numS s 9007199254740992).2 1024).2.2 = 0 := by
        have ht : told (anR s).1.err = true := by simp only [okA, Bool.and_eq_true] at hk; exact hk.1.1
        have hl := (told_le ht).2
        simp only [anR] at hl h
        have he : (numS (numS s 9007199254740992).2 65536).2.2 = 0 := (numS_ok h).1
        rw [num_least (M := 65536) he (by omega)]
        exact he
      rw [an_eq hm]
      exact .inl ⟨h, rfl, hk⟩
    · rw [if_neg hk]
      refine .inr ⟨fail_err (by decide), ?_⟩
      by_cases hm : (numS (numS s 9007199254740992).2 1024).2.2 = 0
      · rw [an_eq hm]; exact .inr (by simpa using hk)
      · exact .inl (anS_err hm)
  · refine .inr ⟨?_, .inl ?_⟩
    · simp only [anQ]
      exact ite_keep h
    · by_cases hm : (numS (numS s 9007199254740992).2 1024).2.2 = 0
      · rw [an_eq hm]; exact h
      · exact anS_err hm
theorem allS_app {α : Type} (f : RS → α × RS) : ∀ (n : Nat) (s : RS) (acc : List α), ∃ l, (allS f n s acc).1 = acc ++ l
  | 0, s, acc => ⟨[], by simp [allS]⟩
  | n + 1, s, acc => by
    obtain ⟨l, h⟩ := allS_app f n (f s).2 (acc ++ [(f s).1])
    exact ⟨(f s).1 :: l, by rw [allS, h]; simp⟩
/-- The answers. -/
theorem asQ_rel : ∀ (n : Nat) (s : RS) (acc : List An), ∃ l, (allS anS n s acc).1 = acc ++ l ∧
    ((s.2 = 0 ∧ (allS anQ n s acc).2.2 = 0 ∧ allS anQ n s acc = allS anS n s acc ∧ l.all okA = true) ∨ ((allS anQ n s acc).2.2 ≠ 0 ∧ ((allS anS n s acc).2.2 ≠ 0 ∨ l.all okA = false)))
  | 0, s, acc => by
    refine ⟨[], by simp [allS], ?_⟩
    by_cases h : s.2 = 0
    · exact .inl ⟨h, h, rfl, rfl⟩
    · exact .inr ⟨h, .inl h⟩
  | n + 1, s, acc => by
    by_cases h : s.2 = 0
    · rcases anQ_rel s with ⟨h1, h2, h3⟩ | ⟨h1, h2⟩
      · obtain ⟨l, hl, hr⟩ := asQ_rel n (anS s).2 (acc ++ [(anS s).1])
        refine ⟨(anS s).1 :: l, by rw [allS, hl]; simp, ?_⟩
        have e1 : allS anQ (n + 1) s acc = allS anQ n (anS s).2 (acc ++ [(anS s).1]) := by rw [allS, h2]
        have e2 : allS anS (n + 1) s acc = allS anS n (anS s).2 (acc ++ [(anS s).1]) := rfl
        have e3 : ((anS s).1 :: l).all okA = l.all okA := by rw [List.all_cons, h3, Bool.true_and]
        rw [e1, e2, e3]
        rcases hr with ⟨-, r1, r2, r3⟩ | r
        · exact .inl ⟨h, r1, r2, r3⟩
        · exact .inr r
      · obtain ⟨l, hl⟩ := allS_app anS n (anS s).2 (acc ++ [(anS s).1])
        refine ⟨(anS s).1 :: l, by rw [allS, hl]; simp, .inr ⟨?_, ?_⟩⟩
        · rw [allS]; exact allS_err anQ_keep _ _ _ h1
        · rcases h2 with q | q
          · exact .inl (by rw [allS]; exact allS_err anS_keep _ _ _ q)
          · exact .inr (by rw [List.all_cons, q, Bool.false_and])
    · obtain ⟨l, hl⟩ := allS_app anS (n + 1) s acc
      exact ⟨l, hl, .inr ⟨allS_err anQ_keep _ _ _ h, .inl (allS_err anS_keep _ _ _ h)⟩⟩
theorem done_err {s : RS} (h : s.2 ≠ 0) : doneS s ≠ 0 := by
  unfold doneS
  rw [if_neg (fun q => h q.1)]
  exact h
theorem done_ok {s : RS} (h : doneS s = 0) : s.2 = 0 := by
  by_cases h1 : s.2 = 0
  · exact h1
  · exact absurd h (done_err h1)
/-- THE PROGRAM's READING IS THE DOCUMENT's. -/
theorem stQ_rel (s : RS) : (doneS (stQ s).2 = 0 ∧ stQ s = stS s ∧ okS (stS s).1 = true) ∨ (doneS (stQ s).2 ≠ 0 ∧ ¬ (okS (stS s).1 = true ∧ doneS (stS s).2 = 0)) := by
  by_cases h : (numS s 8).2.2 = 0
  · obtain ⟨l, hl, hr⟩ := tsQ_rel (numS s 8).1 [] (numS s 8).2 [] h
    rw [List.nil_append] at hl
    rcases hr with ⟨r1, r2, r3⟩ | ⟨r1, r2⟩
    · obtain ⟨a, ha, hq⟩ := asQ_rel 8 (manyS tpS (numS s 8).1 (numS s 8).2 []).2 []
      rw [List.nil_append] at ha
      rcases hq with ⟨-, q1, q2, q3⟩ | ⟨q1, q2⟩
      · have e : stQ s = stS s := by simp only [stQ, stS]; rw [r2, q2]
        have ho : okS (stS s).1 = true := by
          simp only [okS, stS]
          rw [hl, ha, r3, q3]
          rfl
        by_cases hd : doneS (stQ s).2 = 0
        · exact .inl ⟨hd, e, ho⟩
        · exact .inr ⟨hd, fun x => hd (by rw [e]; exact x.2)⟩
      · refine .inr ⟨?_, fun x => ?_⟩
        · simp only [stQ]
          rw [r2]
          exact done_err q1
        · rcases q2 with q | q
          · exact done_err q x.2
          · have hx := x.1
            simp only [okS, stS] at hx
            rw [hl, ha, r3, q] at hx
            cases hx
    · refine .inr ⟨?_, fun x => ?_⟩
      · simp only [stQ]
        exact done_err (allS_err anQ_keep _ _ _ r1)
      · rcases r2 with q | q
        · refine done_err ?_ x.2
          simp only [stS]
          exact allS_err anS_keep _ _ _ q
        · have hx := x.1
          simp only [okS, stS] at hx
          rw [hl, q] at hx
          cases hx
  · refine .inr ⟨?_, fun x => ?_⟩
    · simp only [stQ]
      exact done_err (allS_err anQ_keep _ _ _ (tsQ_err _ _ _ _ h))
    · refine done_err ?_ x.2
      simp only [stS]
      exact allS_err anS_keep _ _ _ (manyS_stop h)
theorem stP_of (b : Tx) : stP b = if doneS (stQ (b, 0)).2 = 0 then some (stQ (b, 0)).1 else none := by
  unfold stP
  rcases stQ_rel (b, 0) with ⟨h1, h2, h3⟩ | ⟨h1, h2⟩
  · rw [if_pos h1, if_pos ⟨h3, by rw [← h2]; exact h1⟩, h2]
  · rw [if_neg h1, if_neg h2]
end Go.Proofs.YtmefagflnhkbdaaGreat.Te

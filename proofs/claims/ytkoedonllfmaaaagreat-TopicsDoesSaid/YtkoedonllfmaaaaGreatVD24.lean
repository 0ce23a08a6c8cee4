/-
  Layer 7: the document's does: all kinds but the trim.
-/
import Derived.Test.YtkoedonllfmaaaaGreatVD23
import Derived.Test.YtkoedonllfmaaaaGreatVD10
namespace Go.Proofs.YtkoedonllfmaaaaGreat.Xw
set_option linter.unusedSimpArgs false
open Go Go.RowKit Ck Kw Ga Kf Km Pm Pe Pz Py Tm Tn Tq Ah Ta Tb Td Xa Xr Xs Xu Ph
attribute [local go_sem ↓] Go.wp_at_zero Go.wp_at_succ
set_option linter.unusedVariables false
set_option maxRecDepth 100000

theorem upd_set {L : List Tp} (hr : RT L) {i : Nat} {t : Tp} (hi : L[i]? = some t) (g : Tp → Tp) : updT L t.n g = L.set i (g t) := by
  obtain ⟨hl, he⟩ := List.getElem?_eq_some_iff.1 hi
  refine List.ext_getElem? (fun j => ?_)
  rw [updT, List.getElem?_map, List.getElem?_set]
  by_cases e : i = j
  · subst e
    rw [if_pos rfl, if_pos hl, hi]
    simp
  · rw [if_neg e]
    cases hj : L[j]? with
    | none => rfl
    | some u =>
      obtain ⟨hl2, he2⟩ := List.getElem?_eq_some_iff.1 hj
      have hne : u.n ≠ t.n := fun hn => by
        rcases Nat.lt_or_gt_of_ne e with h | h
        · have := List.pairwise_iff_getElem.1 hr i j hl hl2 h
          rw [he, he2, hn] at this
          exact List.lt_irrefl _ this
        · have := List.pairwise_iff_getElem.1 hr j i hl2 hl h
          rw [he, he2, hn] at this
          exact List.lt_irrefl _ this
      rw [Option.map_some, if_neg hne]
/-- The two boxes of does. -/
structure PD (w : World) (o : O) (A : Option Addr) (c : Nat) (W : World) : Prop where
  op : Blk W w.heap.size 38 #[.int .i64 o.kind, .string ⟨o.topic.toArray⟩, .string ⟨o.group.toArray⟩, .int .i64 o.off, .slice A o.recs.length c]
  res : Blk W (w.heap.size + 1) 30 #[.int .i64 0, .int .i64 0]
theorem PD.later {w W W' : World} {o : O} {A : Option Addr} {c : Nat} (h : PD w o A c W) (b : Below W.heap.size W W') : PD w o A c W' := ⟨h.op.below b h.op.lt, h.res.below b h.res.lt⟩
theorem PD.ch {w W W' : World} {o : O} {A : Option Addr} {c : Nat} {S : Nat → Prop} (h : PD w o A c W) (b : Ch (fun k => S k ∧ k < w.heap.size) W W') : PD w o A c W' := ⟨h.op.ch b (fun h => by have := h.2; omega), h.res.ch b (fun h => by have := h.2; omega)⟩
theorem pd_new (w : World) (o : O) (A : Option Addr) (c : Nat) : PD w o A c ((w.alloc (.cells #[.int .i64 o.kind, .string ⟨o.topic.toArray⟩, .string ⟨o.group.toArray⟩, .int .i64 o.off, .slice A o.recs.length c] 38)).alloc (.cells #[.int .i64 0, .int .i64 0] 30)) :=
  ⟨(Blk.new w _ _).alloc _, Blk.new_at (by simp) rfl⟩
/-- Behind a call on the topics the result is written. -/
theorem rdone_end {w w2 w3 : World} {S : Nat → Prop} {q g : Nat} {s : St} {u1 u2 : Value} (hb : Below w.heap.size w w2) (hg0 : w.heap.size ≤ g) (hg1 : g < w2.heap.size) (h : RDone (fun k => S k ∧ k < w.heap.size) q s w2 w3) : RDone S q s w ((w3.setCell ⟨g, 0, none⟩ u1).setCell ⟨g, 1, none⟩ u2) := by
  have cr := two_ch w3 g u1 u2
  have s1 := hb.size
  have s2 := h.2.size
  have hsz : ((w3.setCell ⟨g, 0, none⟩ u1).setCell ⟨g, 1, none⟩ u2).heap.size = w3.heap.size := by simp
  refine ⟨(h.1.ch cr (fun k hk e => ?_)).up (fun k hk => ?_), ?_⟩
  · rcases hk with hk | hk <;> omega
  · rcases hk with hk | hk
    · exact .inl hk.1
    · exact .inr ⟨by omega, by rw [hsz]; exact hk.2⟩
  · have c1 : Ch (fun k => S k ∧ k < w.heap.size) w w3 := (Ch.of_below hb (Nat.le_refl _)).trans h.2 (fun k _ h => h)
    exact (c1.trans cr (fun k hk h => by omega)).mono (fun k _ h => h.1)
/-- What does answers and leaves. -/
def Did (S : Nat → Prop) (q : Nat) (m : St) (o : O) (w : World) (e : Ending) (w' : World) : Prop :=
  ∃ v, e = .returned (.tuple #[.agg #[.int .i64 (doesS m.L o).1.1, .int .i64 (doesS m.L o).1.2], v]) ∧ Ps w' w.heap.size v (doesS m.L o).2.1 ∧ RDone S q ⟨(doesS m.L o).2.2, m.last⟩ w w'
theorem did_of {S : Nat → Prop} {q : Nat} {m : St} {o : O} {w w' : World} {k off : Int} {pl : List (Tx × Int × Tx)} {L : List Tp} {v : Value} (h : doesS m.L o = ((k, off), pl, L)) (hp : Ps w' w.heap.size v pl) (hd : RDone S q ⟨L, m.last⟩ w w') : Did S q m o w (.returned (.tuple #[.agg #[.int .i64 k, .int .i64 off], v])) w' := by
  unfold Did
  rw [h]
  exact ⟨v, rfl, hp, hd⟩
set_option maxHeartbeats 1000000 in
theorem rdoes_bad (w : World) (S : Nat → Prop) (q : Nat) (m : St) (o : O) (X : Nat → Prop) (A : Option Addr) (c : Nat) (h : Tk w S q m) (hg : GoodL m.L) (hls : Ls w X (.slice A o.recs.length c) o.recs) (hl : o.recs.length ≤ 140737488355328) (hz : check o ≠ 0) :
    Calls Tryz.prog 21 #[.pointer (some ⟨q, 0, none⟩), .agg #[.int .i64 o.kind, .string ⟨o.topic.toArray⟩, .string ⟨o.group.toArray⟩, .int .i64 o.off, .slice A o.recs.length c]] w (Did S q m o w) := by
  have H := Lib.hid h
  have hb2 : Below w.heap.size w ((w.alloc (.cells #[.int .i64 o.kind, .string ⟨o.topic.toArray⟩, .string ⟨o.group.toArray⟩, .int .i64 o.off, .slice A o.recs.length c] 38)).alloc (.cells #[.int .i64 0, .int .i64 0] 30)) := (op_below w _).trans ((op_below _ _).mono (by simp))
  have hs2 : w.heap.size + 1 < ((w.alloc (.cells #[.int .i64 o.kind, .string ⟨o.topic.toArray⟩, .string ⟨o.group.toArray⟩, .int .i64 o.off, .slice A o.recs.length c] 38)).alloc (.cells #[.int .i64 0, .int .i64 0] 30)).heap.size := by simp
  have HPD := Lib.hid (pd_new w o A c)
  have HT := Lib.hid (h.bound.later hb2)
  have HLS := Lib.hid (hls.after hb2)
  have HG := Lib.hid hg
  have HB := Lib.hid (And.intro hb2 hs2)
  have HCK := Lib.hid (rcheck_any o (.agg #[.int .i64 o.kind, .string ⟨o.topic.toArray⟩, .string ⟨o.group.toArray⟩, .int .i64 o.off, .slice A o.recs.length c]) X ((w.alloc (.cells #[.int .i64 o.kind, .string ⟨o.topic.toArray⟩, .string ⟨o.group.toArray⟩, .int .i64 o.off, .slice A o.recs.length c] 38)).alloc (.cells #[.int .i64 0, .int .i64 0] 30)) ⟨A, c, rfl, HLS.out⟩ hl)
  have HE : Hid (doesS m.L o = ((check o, 0), [], m.L)) := Lib.hid (by rw [doesS, if_pos hz])
  generalize check o = z at *
  have z0 : (z == 0) = false := beq_eq_false_iff_ne.2 hz
  have z1 : decide (z = 0) = false := decide_eq_false hz
  clear h hls hb2 hs2 hg hz
  have o0 := HPD.out.op.cell 0
  have o1 := HPD.out.op.cell 1
  have o2 := HPD.out.op.cell 2
  have o3 := HPD.out.op.cell 3
  have o4 := HPD.out.op.cell 4
  simp only [List.getElem?_toArray, List.getElem?_cons_zero, List.getElem?_cons_succ] at o0 o1 o2 o3 o4
  go_enter Tryz.func21, Tryz.ntmps21
  go_wp2_with fail
  generalize ((w.alloc (.cells #[.int .i64 o.kind, .string ⟨o.topic.toArray⟩, .string ⟨o.group.toArray⟩, .int .i64 o.off, .slice A o.recs.length c] 38)).alloc (.cells #[.int .i64 0, .int .i64 0] 30)) = w2 at *
  refine HCK.out.mono ?_
  rintro e w3 ⟨rfl, hb3⟩
  have HPD3 := Lib.hid (HPD.out.later hb3)
  have HT3 := Lib.hid (HT.out.later hb3)
  have HB3 : Hid (Below w.heap.size w w3 ∧ w.heap.size + 1 < w3.heap.size) := Lib.hid ⟨HB.out.1.trans (hb3.mono HB.out.1.size), by have := HB.out.2; have := hb3.size; omega⟩
  have HLS3 := Lib.hid (HLS.out.after hb3)
  clear hb3 o0 o1 o2 o3 o4
  have o0 := HPD3.out.op.cell 0
  have o1 := HPD3.out.op.cell 1
  have o2 := HPD3.out.op.cell 2
  have o3 := HPD3.out.op.cell 3
  have o4 := HPD3.out.op.cell 4
  simp only [List.getElem?_toArray, List.getElem?_cons_zero, List.getElem?_cons_succ] at o0 o1 o2 o3 o4
  go_wp2_with fail
  refine (rbad_any _ z).mono ?_
  rintro e wb ⟨rfl, hbb⟩
  have HPC := Lib.hid (HPD3.out.later hbb)
  have HBC := Lib.hid (HB3.out.1.trans (hbb.mono HB3.out.1.size))
  have q0 := HPC.out.res.cell 0
  have q1 := HPC.out.res.cell 1
  have qf0 := HPC.out.res.frozen 0
  have qf1 := HPC.out.res.frozen 1
  simp only [List.getElem?_toArray, List.getElem?_cons_zero, List.getElem?_cons_succ] at q0 q1
  clear hbb
  go_wp2_with fail
  refine bodyPost_ret (Ck.results_row_tmp rfl _ _ (w.heap.size + 1) 30 #[.int .i64 z, .int .i64 0] (0, 0) _ rfl (Xr.blk2 HPC.out.res _ _) Tryz.underlying30 rfl Xr.size_res) rfl ?_
  have c3 := two_ch wb (w.heap.size + 1) (.int .i64 z) (.int .i64 0)
  exact did_of HE.out (Ps.nil _ _) (rdone_below H.out (HBC.out.trans (c3.below (fun k hk h => by omega) HBC.out.size)))
set_option maxHeartbeats 1000000 in
theorem rdoes_0 (w : World) (S : Nat → Prop) (q : Nat) (m : St) (o : O) (X : Nat → Prop) (A : Option Addr) (c : Nat) (h : Tk w S q m) (hg : GoodL m.L) (hls : Ls w X (.slice A o.recs.length c) o.recs) (hl : o.recs.length ≤ 140737488355328) (hz : check o = 0) (hk : o.kind = 0) :
    Calls Tryz.prog 21 #[.pointer (some ⟨q, 0, none⟩), .agg #[.int .i64 o.kind, .string ⟨o.topic.toArray⟩, .string ⟨o.group.toArray⟩, .int .i64 o.off, .slice A o.recs.length c]] w (Did S q m o w) := by
  obtain ⟨kind, topic, group, off, recs⟩ := o
  simp only at hk
  subst hk
  have H := Lib.hid h
  have hb2 : Below w.heap.size w ((w.alloc (.cells #[.int .i64 0, .string ⟨topic.toArray⟩, .string ⟨group.toArray⟩, .int .i64 off, .slice A recs.length c] 38)).alloc (.cells #[.int .i64 0, .int .i64 0] 30)) := (op_below w _).trans ((op_below _ _).mono (by simp))
  have hs2 : w.heap.size + 1 < ((w.alloc (.cells #[.int .i64 0, .string ⟨topic.toArray⟩, .string ⟨group.toArray⟩, .int .i64 off, .slice A recs.length c] 38)).alloc (.cells #[.int .i64 0, .int .i64 0] 30)).heap.size := by simp
  have HPD := Lib.hid (pd_new w ⟨0, topic, group, off, recs⟩ A c)
  have HT := Lib.hid (h.bound.later hb2)
  have HLS := Lib.hid (hls.after hb2)
  have HG := Lib.hid hg
  have HB := Lib.hid (And.intro hb2 hs2)
  have HCK := Lib.hid (rcheck_any ⟨0, topic, group, off, recs⟩ (.agg #[.int .i64 0, .string ⟨topic.toArray⟩, .string ⟨group.toArray⟩, .int .i64 off, .slice A recs.length c]) X ((w.alloc (.cells #[.int .i64 0, .string ⟨topic.toArray⟩, .string ⟨group.toArray⟩, .int .i64 off, .slice A recs.length c] 38)).alloc (.cells #[.int .i64 0, .int .i64 0] 30)) ⟨A, c, rfl, HLS.out⟩ hl)
  rw [hz] at HCK
  have HE : Hid (doesS m.L ⟨0, topic, group, off, recs⟩ = ((0, 0), [], m.L)) := Lib.hid (by rw [doesS, if_neg (by omega), if_pos rfl])
  clear h hls hb2 hs2 hg
  have o0 := HPD.out.op.cell 0
  have o1 := HPD.out.op.cell 1
  have o2 := HPD.out.op.cell 2
  have o3 := HPD.out.op.cell 3
  have o4 := HPD.out.op.cell 4
  simp only [List.getElem?_toArray, List.getElem?_cons_zero, List.getElem?_cons_succ] at o0 o1 o2 o3 o4
  (try dsimp only at HCK HE o0 o1 o2 o3 o4)
  go_enter Tryz.func21, Tryz.ntmps21
  go_wp2_with fail
  generalize ((w.alloc (.cells #[.int .i64 0, .string ⟨topic.toArray⟩, .string ⟨group.toArray⟩, .int .i64 off, .slice A recs.length c] 38)).alloc (.cells #[.int .i64 0, .int .i64 0] 30)) = w2 at *
  refine HCK.out.mono ?_
  rintro e w3 ⟨rfl, hb3⟩
  have HPD3 := Lib.hid (HPD.out.later hb3)
  have HT3 := Lib.hid (HT.out.later hb3)
  have HB3 : Hid (Below w.heap.size w w3 ∧ w.heap.size + 1 < w3.heap.size) := Lib.hid ⟨HB.out.1.trans (hb3.mono HB.out.1.size), by have := HB.out.2; have := hb3.size; omega⟩
  have HLS3 := Lib.hid (HLS.out.after hb3)
  clear hb3 o0 o1 o2 o3 o4
  have o0 := HPD3.out.op.cell 0
  have o1 := HPD3.out.op.cell 1
  have o2 := HPD3.out.op.cell 2
  have o3 := HPD3.out.op.cell 3
  have o4 := HPD3.out.op.cell 4
  simp only [List.getElem?_toArray, List.getElem?_cons_zero, List.getElem?_cons_succ] at o0 o1 o2 o3 o4
  (try dsimp only at o0 o1 o2 o3 o4)
  have q0 := HPD3.out.res.cell 0
  have q1 := HPD3.out.res.cell 1
  have qf0 := HPD3.out.res.frozen 0
  have qf1 := HPD3.out.res.frozen 1
  simp only [List.getElem?_toArray, List.getElem?_cons_zero, List.getElem?_cons_succ] at q0 q1
  go_wp2_with fail
  refine bodyPost_ret (Ck.results_row_tmp rfl _ _ (w.heap.size + 1) 30 #[.int .i64 0, .int .i64 0] (0, 0) _ rfl (Xr.blk2 HPD3.out.res _ _) Tryz.underlying30 rfl Xr.size_res) rfl ?_
  have c3 := two_ch w3 (w.heap.size + 1) (.int .i64 0) (.int .i64 0)
  exact did_of HE.out (Ps.nil _ _) (rdone_below H.out (HB3.out.1.trans (c3.below (fun k hk h => by omega) HB3.out.1.size)))
theorem does_cr {L : List Tp} {topic group : Tx} {off : Int} {recs : List Tx} (hz : check ⟨1, topic, group, off, recs⟩ = 0) : doesS L ⟨1, topic, group, off, recs⟩ = (((createT L topic).1, 0), [], (createT L topic).2) := by
  rw [doesS, if_neg (by omega), if_neg (by simp), if_pos rfl, createT]
  split
  · rfl
  · split
    · rfl
    · rfl
set_option maxHeartbeats 1000000 in
theorem rdoes_1 (w : World) (S : Nat → Prop) (q : Nat) (m : St) (o : O) (X : Nat → Prop) (A : Option Addr) (c : Nat) (h : Tk w S q m) (hg : GoodL m.L) (hls : Ls w X (.slice A o.recs.length c) o.recs) (hl : o.recs.length ≤ 140737488355328) (hz : check o = 0) (hk : o.kind = 1) :
    Calls Tryz.prog 21 #[.pointer (some ⟨q, 0, none⟩), .agg #[.int .i64 o.kind, .string ⟨o.topic.toArray⟩, .string ⟨o.group.toArray⟩, .int .i64 o.off, .slice A o.recs.length c]] w (Did S q m o w) := by
  obtain ⟨kind, topic, group, off, recs⟩ := o
  simp only at hk
  subst hk
  have H := Lib.hid h
  have hb2 : Below w.heap.size w ((w.alloc (.cells #[.int .i64 1, .string ⟨topic.toArray⟩, .string ⟨group.toArray⟩, .int .i64 off, .slice A recs.length c] 38)).alloc (.cells #[.int .i64 0, .int .i64 0] 30)) := (op_below w _).trans ((op_below _ _).mono (by simp))
  have hs2 : w.heap.size + 1 < ((w.alloc (.cells #[.int .i64 1, .string ⟨topic.toArray⟩, .string ⟨group.toArray⟩, .int .i64 off, .slice A recs.length c] 38)).alloc (.cells #[.int .i64 0, .int .i64 0] 30)).heap.size := by simp
  have HPD := Lib.hid (pd_new w ⟨1, topic, group, off, recs⟩ A c)
  have HT := Lib.hid (h.bound.later hb2)
  have HLS := Lib.hid (hls.after hb2)
  have HG := Lib.hid hg
  have HB := Lib.hid (And.intro hb2 hs2)
  have HCK := Lib.hid (rcheck_any ⟨1, topic, group, off, recs⟩ (.agg #[.int .i64 1, .string ⟨topic.toArray⟩, .string ⟨group.toArray⟩, .int .i64 off, .slice A recs.length c]) X ((w.alloc (.cells #[.int .i64 1, .string ⟨topic.toArray⟩, .string ⟨group.toArray⟩, .int .i64 off, .slice A recs.length c] 38)).alloc (.cells #[.int .i64 0, .int .i64 0] 30)) ⟨A, c, rfl, HLS.out⟩ hl)
  have hlt : topic.length ≤ 140737488355328 := by have := (check_lens hz).1 rfl; simp only at this; omega
  have HE : Hid (doesS m.L ⟨1, topic, group, off, recs⟩ = (((createT m.L topic).1, 0), [], (createT m.L topic).2)) := Lib.hid (does_cr hz)
  rw [hz] at HCK
  clear h hls hb2 hs2 hg
  have o0 := HPD.out.op.cell 0
  have o1 := HPD.out.op.cell 1
  have o2 := HPD.out.op.cell 2
  have o3 := HPD.out.op.cell 3
  have o4 := HPD.out.op.cell 4
  simp only [List.getElem?_toArray, List.getElem?_cons_zero, List.getElem?_cons_succ] at o0 o1 o2 o3 o4
  (try dsimp only at HCK HE o0 o1 o2 o3 o4)
  go_enter Tryz.func21, Tryz.ntmps21
  go_wp2_with fail
  generalize ((w.alloc (.cells #[.int .i64 1, .string ⟨topic.toArray⟩, .string ⟨group.toArray⟩, .int .i64 off, .slice A recs.length c] 38)).alloc (.cells #[.int .i64 0, .int .i64 0] 30)) = w2 at *
  refine HCK.out.mono ?_
  rintro e w3 ⟨rfl, hb3⟩
  have HPD3 := Lib.hid (HPD.out.later hb3)
  have HT3 := Lib.hid (HT.out.later hb3)
  have HB3 : Hid (Below w.heap.size w w3 ∧ w.heap.size + 1 < w3.heap.size) := Lib.hid ⟨HB.out.1.trans (hb3.mono HB.out.1.size), by have := HB.out.2; have := hb3.size; omega⟩
  have HLS3 := Lib.hid (HLS.out.after hb3)
  clear hb3 o0 o1 o2 o3 o4
  have o0 := HPD3.out.op.cell 0
  have o1 := HPD3.out.op.cell 1
  have o2 := HPD3.out.op.cell 2
  have o3 := HPD3.out.op.cell 3
  have o4 := HPD3.out.op.cell 4
  simp only [List.getElem?_toArray, List.getElem?_cons_zero, List.getElem?_cons_succ] at o0 o1 o2 o3 o4
  (try dsimp only at o0 o1 o2 o3 o4)
  have HCR := Lib.hid (rcreate_any w3 _ q m topic hlt HT3.out HG.out.few)
  go_wp2_with fail
  refine HCR.out.mono ?_
  rintro e w4 ⟨rfl, hd⟩
  have HPD4 := Lib.hid (HPD3.out.ch hd.2)
  have HD := Lib.hid hd
  clear hd
  have q0 := HPD4.out.res.cell 0
  have q1 := HPD4.out.res.cell 1
  have qf0 := HPD4.out.res.frozen 0
  have qf1 := HPD4.out.res.frozen 1
  simp only [List.getElem?_toArray, List.getElem?_cons_zero, List.getElem?_cons_succ] at q0 q1
  go_wp2_with fail
  refine bodyPost_ret (Ck.results_row_tmp rfl _ _ (w.heap.size + 1) 30 #[.int .i64 (createT m.L topic).1, .int .i64 0] (0, 0) _ rfl (Xr.blk2 HPD4.out.res _ _) Tryz.underlying30 rfl Xr.size_res) rfl ?_
  exact did_of HE.out (Ps.nil _ _) (rdone_end HB3.out.1 (by omega) HB3.out.2 HD.out)
set_option maxHeartbeats 1000000 in
theorem rdoes_no2 (w : World) (S : Nat → Prop) (q : Nat) (m : St) (o : O) (X : Nat → Prop) (A : Option Addr) (c : Nat) (h : Tk w S q m) (hg : GoodL m.L) (hls : Ls w X (.slice A o.recs.length c) o.recs) (hl : o.recs.length ≤ 140737488355328) (hz : check o = 0) (hk : o.kind = 2) (hf : findT m.L o.topic = none) :
    Calls Tryz.prog 21 #[.pointer (some ⟨q, 0, none⟩), .agg #[.int .i64 o.kind, .string ⟨o.topic.toArray⟩, .string ⟨o.group.toArray⟩, .int .i64 o.off, .slice A o.recs.length c]] w (Did S q m o w) := by
  obtain ⟨kind, topic, group, off, recs⟩ := o
  simp only at hk
  subst hk
  simp only at hf
  have H := Lib.hid h
  have hb2 : Below w.heap.size w ((w.alloc (.cells #[.int .i64 2, .string ⟨topic.toArray⟩, .string ⟨group.toArray⟩, .int .i64 off, .slice A recs.length c] 38)).alloc (.cells #[.int .i64 0, .int .i64 0] 30)) := (op_below w _).trans ((op_below _ _).mono (by simp))
  have hs2 : w.heap.size + 1 < ((w.alloc (.cells #[.int .i64 2, .string ⟨topic.toArray⟩, .string ⟨group.toArray⟩, .int .i64 off, .slice A recs.length c] 38)).alloc (.cells #[.int .i64 0, .int .i64 0] 30)).heap.size := by simp
  have HPD := Lib.hid (pd_new w ⟨2, topic, group, off, recs⟩ A c)
  have HT := Lib.hid (h.bound.later hb2)
  have HLS := Lib.hid (hls.after hb2)
  have HG := Lib.hid hg
  have HB := Lib.hid (And.intro hb2 hs2)
  have HCK := Lib.hid (rcheck_any ⟨2, topic, group, off, recs⟩ (.agg #[.int .i64 2, .string ⟨topic.toArray⟩, .string ⟨group.toArray⟩, .int .i64 off, .slice A recs.length c]) X ((w.alloc (.cells #[.int .i64 2, .string ⟨topic.toArray⟩, .string ⟨group.toArray⟩, .int .i64 off, .slice A recs.length c] 38)).alloc (.cells #[.int .i64 0, .int .i64 0] 30)) ⟨A, c, rfl, HLS.out⟩ hl)
  have HE : Hid (doesS m.L ⟨2, topic, group, off, recs⟩ = ((4, 0), [], m.L)) := Lib.hid (by rw [doesS, if_neg (by omega), if_neg (by simp), if_neg (by simp)]; simp only [hf])
  have HF := Lib.hid hf
  clear hf
  rw [hz] at HCK
  clear h hls hb2 hs2 hg
  have o0 := HPD.out.op.cell 0
  have o1 := HPD.out.op.cell 1
  have o2 := HPD.out.op.cell 2
  have o3 := HPD.out.op.cell 3
  have o4 := HPD.out.op.cell 4
  simp only [List.getElem?_toArray, List.getElem?_cons_zero, List.getElem?_cons_succ] at o0 o1 o2 o3 o4
  (try dsimp only at HCK HE o0 o1 o2 o3 o4)
  go_enter Tryz.func21, Tryz.ntmps21
  go_wp2_with fail
  generalize ((w.alloc (.cells #[.int .i64 2, .string ⟨topic.toArray⟩, .string ⟨group.toArray⟩, .int .i64 off, .slice A recs.length c] 38)).alloc (.cells #[.int .i64 0, .int .i64 0] 30)) = w2 at *
  refine HCK.out.mono ?_
  rintro e w3 ⟨rfl, hb3⟩
  have HPD3 := Lib.hid (HPD.out.later hb3)
  have HT3 := Lib.hid (HT.out.later hb3)
  have HB3 : Hid (Below w.heap.size w w3 ∧ w.heap.size + 1 < w3.heap.size) := Lib.hid ⟨HB.out.1.trans (hb3.mono HB.out.1.size), by have := HB.out.2; have := hb3.size; omega⟩
  have HLS3 := Lib.hid (HLS.out.after hb3)
  clear hb3 o0 o1 o2 o3 o4
  have o0 := HPD3.out.op.cell 0
  have o1 := HPD3.out.op.cell 1
  have o2 := HPD3.out.op.cell 2
  have o3 := HPD3.out.op.cell 3
  have o4 := HPD3.out.op.cell 4
  simp only [List.getElem?_toArray, List.getElem?_cons_zero, List.getElem?_cons_succ] at o0 o1 o2 o3 o4
  (try dsimp only at o0 o1 o2 o3 o4)
  have HAT := Lib.hid (rat_any w3 _ q m topic HT3.out HG.out.few)
  go_wp2_with fail
  refine HAT.out.mono ?_
  rintro e w' ⟨⟨z, rfl, hzz⟩, rfl⟩
  obtain rfl : z = -1 := by
    rcases hzz with ⟨i, f', h1, h2, h3⟩ | ⟨_, h1⟩
    · rw [HF.out] at h1; cases h1
    · exact h1
  clear hzz
  go_wp2_with fail
  refine (rbad_any _ 4).mono ?_
  rintro e wb ⟨rfl, hbb⟩
  have HPC := Lib.hid (HPD3.out.later hbb)
  have HBC := Lib.hid (HB3.out.1.trans (hbb.mono HB3.out.1.size))
  have q0 := HPC.out.res.cell 0
  have q1 := HPC.out.res.cell 1
  have qf0 := HPC.out.res.frozen 0
  have qf1 := HPC.out.res.frozen 1
  simp only [List.getElem?_toArray, List.getElem?_cons_zero, List.getElem?_cons_succ] at q0 q1
  clear hbb
  go_wp2_with fail
  refine bodyPost_ret (Ck.results_row_tmp rfl _ _ (w.heap.size + 1) 30 #[.int .i64 4, .int .i64 0] (0, 0) _ rfl (Xr.blk2 HPC.out.res _ _) Tryz.underlying30 rfl Xr.size_res) rfl ?_
  have c3 := two_ch wb (w.heap.size + 1) (.int .i64 4) (.int .i64 0)
  exact did_of HE.out (Ps.nil _ _) (rdone_below H.out (HBC.out.trans (c3.below (fun k hk h => by omega) HBC.out.size)))
set_option maxHeartbeats 1000000 in
theorem rdoes_no3 (w : World) (S : Nat → Prop) (q : Nat) (m : St) (o : O) (X : Nat → Prop) (A : Option Addr) (c : Nat) (h : Tk w S q m) (hg : GoodL m.L) (hls : Ls w X (.slice A o.recs.length c) o.recs) (hl : o.recs.length ≤ 140737488355328) (hz : check o = 0) (hk : o.kind = 3) (hf : findT m.L o.topic = none) :
    Calls Tryz.prog 21 #[.pointer (some ⟨q, 0, none⟩), .agg #[.int .i64 o.kind, .string ⟨o.topic.toArray⟩, .string ⟨o.group.toArray⟩, .int .i64 o.off, .slice A o.recs.length c]] w (Did S q m o w) := by
  obtain ⟨kind, topic, group, off, recs⟩ := o
  simp only at hk
  subst hk
  simp only at hf
  have H := Lib.hid h
  have hb2 : Below w.heap.size w ((w.alloc (.cells #[.int .i64 3, .string ⟨topic.toArray⟩, .string ⟨group.toArray⟩, .int .i64 off, .slice A recs.length c] 38)).alloc (.cells #[.int .i64 0, .int .i64 0] 30)) := (op_below w _).trans ((op_below _ _).mono (by simp))
  have hs2 : w.heap.size + 1 < ((w.alloc (.cells #[.int .i64 3, .string ⟨topic.toArray⟩, .string ⟨group.toArray⟩, .int .i64 off, .slice A recs.length c] 38)).alloc (.cells #[.int .i64 0, .int .i64 0] 30)).heap.size := by simp
  have HPD := Lib.hid (pd_new w ⟨3, topic, group, off, recs⟩ A c)
  have HT := Lib.hid (h.bound.later hb2)
  have HLS := Lib.hid (hls.after hb2)
  have HG := Lib.hid hg
  have HB := Lib.hid (And.intro hb2 hs2)
  have HCK := Lib.hid (rcheck_any ⟨3, topic, group, off, recs⟩ (.agg #[.int .i64 3, .string ⟨topic.toArray⟩, .string ⟨group.toArray⟩, .int .i64 off, .slice A recs.length c]) X ((w.alloc (.cells #[.int .i64 3, .string ⟨topic.toArray⟩, .string ⟨group.toArray⟩, .int .i64 off, .slice A recs.length c] 38)).alloc (.cells #[.int .i64 0, .int .i64 0] 30)) ⟨A, c, rfl, HLS.out⟩ hl)
  have HE : Hid (doesS m.L ⟨3, topic, group, off, recs⟩ = ((4, 0), [], m.L)) := Lib.hid (by rw [doesS, if_neg (by omega), if_neg (by simp), if_neg (by simp)]; simp only [hf])
  have HF := Lib.hid hf
  clear hf
  rw [hz] at HCK
  clear h hls hb2 hs2 hg
  have o0 := HPD.out.op.cell 0
  have o1 := HPD.out.op.cell 1
  have o2 := HPD.out.op.cell 2
  have o3 := HPD.out.op.cell 3
  have o4 := HPD.out.op.cell 4
  simp only [List.getElem?_toArray, List.getElem?_cons_zero, List.getElem?_cons_succ] at o0 o1 o2 o3 o4
  (try dsimp only at HCK HE o0 o1 o2 o3 o4)
  go_enter Tryz.func21, Tryz.ntmps21
  go_wp2_with fail
  generalize ((w.alloc (.cells #[.int .i64 3, .string ⟨topic.toArray⟩, .string ⟨group.toArray⟩, .int .i64 off, .slice A recs.length c] 38)).alloc (.cells #[.int .i64 0, .int .i64 0] 30)) = w2 at *
  refine HCK.out.mono ?_
  rintro e w3 ⟨rfl, hb3⟩
  have HPD3 := Lib.hid (HPD.out.later hb3)
  have HT3 := Lib.hid (HT.out.later hb3)
  have HB3 : Hid (Below w.heap.size w w3 ∧ w.heap.size + 1 < w3.heap.size) := Lib.hid ⟨HB.out.1.trans (hb3.mono HB.out.1.size), by have := HB.out.2; have := hb3.size; omega⟩
  have HLS3 := Lib.hid (HLS.out.after hb3)
  clear hb3 o0 o1 o2 o3 o4
  have o0 := HPD3.out.op.cell 0
  have o1 := HPD3.out.op.cell 1
  have o2 := HPD3.out.op.cell 2
  have o3 := HPD3.out.op.cell 3
  have o4 := HPD3.out.op.cell 4
  simp only [List.getElem?_toArray, List.getElem?_cons_zero, List.getElem?_cons_succ] at o0 o1 o2 o3 o4
  (try dsimp only at o0 o1 o2 o3 o4)
  have HAT := Lib.hid (rat_any w3 _ q m topic HT3.out HG.out.few)
  go_wp2_with fail
  refine HAT.out.mono ?_
  rintro e w' ⟨⟨z, rfl, hzz⟩, rfl⟩
  obtain rfl : z = -1 := by
    rcases hzz with ⟨i, f', h1, h2, h3⟩ | ⟨_, h1⟩
    · rw [HF.out] at h1; cases h1
    · exact h1
  clear hzz
  go_wp2_with fail
  refine (rbad_any _ 4).mono ?_
  rintro e wb ⟨rfl, hbb⟩
  have HPC := Lib.hid (HPD3.out.later hbb)
  have HBC := Lib.hid (HB3.out.1.trans (hbb.mono HB3.out.1.size))
  have q0 := HPC.out.res.cell 0
  have q1 := HPC.out.res.cell 1
  have qf0 := HPC.out.res.frozen 0
  have qf1 := HPC.out.res.frozen 1
  simp only [List.getElem?_toArray, List.getElem?_cons_zero, List.getElem?_cons_succ] at q0 q1
  clear hbb
  go_wp2_with fail
  refine bodyPost_ret (Ck.results_row_tmp rfl _ _ (w.heap.size + 1) 30 #[.int .i64 4, .int .i64 0] (0, 0) _ rfl (Xr.blk2 HPC.out.res _ _) Tryz.underlying30 rfl Xr.size_res) rfl ?_
  have c3 := two_ch wb (w.heap.size + 1) (.int .i64 4) (.int .i64 0)
  exact did_of HE.out (Ps.nil _ _) (rdone_below H.out (HBC.out.trans (c3.below (fun k hk h => by omega) HBC.out.size)))
set_option maxHeartbeats 1000000 in
theorem rdoes_no4 (w : World) (S : Nat → Prop) (q : Nat) (m : St) (o : O) (X : Nat → Prop) (A : Option Addr) (c : Nat) (h : Tk w S q m) (hg : GoodL m.L) (hls : Ls w X (.slice A o.recs.length c) o.recs) (hl : o.recs.length ≤ 140737488355328) (hz : check o = 0) (hk : o.kind = 4) (hf : findT m.L o.topic = none) :
    Calls Tryz.prog 21 #[.pointer (some ⟨q, 0, none⟩), .agg #[.int .i64 o.kind, .string ⟨o.topic.toArray⟩, .string ⟨o.group.toArray⟩, .int .i64 o.off, .slice A o.recs.length c]] w (Did S q m o w) := by
  obtain ⟨kind, topic, group, off, recs⟩ := o
  simp only at hk
  subst hk
  simp only at hf
  have H := Lib.hid h
  have hb2 : Below w.heap.size w ((w.alloc (.cells #[.int .i64 4, .string ⟨topic.toArray⟩, .string ⟨group.toArray⟩, .int .i64 off, .slice A recs.length c] 38)).alloc (.cells #[.int .i64 0, .int .i64 0] 30)) := (op_below w _).trans ((op_below _ _).mono (by simp))
  have hs2 : w.heap.size + 1 < ((w.alloc (.cells #[.int .i64 4, .string ⟨topic.toArray⟩, .string ⟨group.toArray⟩, .int .i64 off, .slice A recs.length c] 38)).alloc (.cells #[.int .i64 0, .int .i64 0] 30)).heap.size := by simp
  have HPD := Lib.hid (pd_new w ⟨4, topic, group, off, recs⟩ A c)
  have HT := Lib.hid (h.bound.later hb2)
  have HLS := Lib.hid (hls.after hb2)
  have HG := Lib.hid hg
  have HB := Lib.hid (And.intro hb2 hs2)
  have HCK := Lib.hid (rcheck_any ⟨4, topic, group, off, recs⟩ (.agg #[.int .i64 4, .string ⟨topic.toArray⟩, .string ⟨group.toArray⟩, .int .i64 off, .slice A recs.length c]) X ((w.alloc (.cells #[.int .i64 4, .string ⟨topic.toArray⟩, .string ⟨group.toArray⟩, .int .i64 off, .slice A recs.length c] 38)).alloc (.cells #[.int .i64 0, .int .i64 0] 30)) ⟨A, c, rfl, HLS.out⟩ hl)
  have HE : Hid (doesS m.L ⟨4, topic, group, off, recs⟩ = ((4, 0), [], m.L)) := Lib.hid (by rw [doesS, if_neg (by omega), if_neg (by simp), if_neg (by simp)]; simp only [hf])
  have HF := Lib.hid hf
  clear hf
  rw [hz] at HCK
  clear h hls hb2 hs2 hg
  have o0 := HPD.out.op.cell 0
  have o1 := HPD.out.op.cell 1
  have o2 := HPD.out.op.cell 2
  have o3 := HPD.out.op.cell 3
  have o4 := HPD.out.op.cell 4
  simp only [List.getElem?_toArray, List.getElem?_cons_zero, List.getElem?_cons_succ] at o0 o1 o2 o3 o4
  (try dsimp only at HCK HE o0 o1 o2 o3 o4)
  go_enter Tryz.func21, Tryz.ntmps21
  go_wp2_with fail
  generalize ((w.alloc (.cells #[.int .i64 4, .string ⟨topic.toArray⟩, .string ⟨group.toArray⟩, .int .i64 off, .slice A recs.length c] 38)).alloc (.cells #[.int .i64 0, .int .i64 0] 30)) = w2 at *
  refine HCK.out.mono ?_
  rintro e w3 ⟨rfl, hb3⟩
  have HPD3 := Lib.hid (HPD.out.later hb3)
  have HT3 := Lib.hid (HT.out.later hb3)
  have HB3 : Hid (Below w.heap.size w w3 ∧ w.heap.size + 1 < w3.heap.size) := Lib.hid ⟨HB.out.1.trans (hb3.mono HB.out.1.size), by have := HB.out.2; have := hb3.size; omega⟩
  have HLS3 := Lib.hid (HLS.out.after hb3)
  clear hb3 o0 o1 o2 o3 o4
  have o0 := HPD3.out.op.cell 0
  have o1 := HPD3.out.op.cell 1
  have o2 := HPD3.out.op.cell 2
  have o3 := HPD3.out.op.cell 3
  have o4 := HPD3.out.op.cell 4
  simp only [List.getElem?_toArray, List.getElem?_cons_zero, List.getElem?_cons_succ] at o0 o1 o2 o3 o4
  (try dsimp only at o0 o1 o2 o3 o4)
  have HAT := Lib.hid (rat_any w3 _ q m topic HT3.out HG.out.few)
  go_wp2_with fail
  refine HAT.out.mono ?_
  rintro e w' ⟨⟨z, rfl, hzz⟩, rfl⟩
  obtain rfl : z = -1 := by
    rcases hzz with ⟨i, f', h1, h2, h3⟩ | ⟨_, h1⟩
    · rw [HF.out] at h1; cases h1
    · exact h1
  clear hzz
  go_wp2_with fail
  refine (rbad_any _ 4).mono ?_
  rintro e wb ⟨rfl, hbb⟩
  have HPC := Lib.hid (HPD3.out.later hbb)
  have HBC := Lib.hid (HB3.out.1.trans (hbb.mono HB3.out.1.size))
  have q0 := HPC.out.res.cell 0
  have q1 := HPC.out.res.cell 1
  have qf0 := HPC.out.res.frozen 0
  have qf1 := HPC.out.res.frozen 1
  simp only [List.getElem?_toArray, List.getElem?_cons_zero, List.getElem?_cons_succ] at q0 q1
  clear hbb
  go_wp2_with fail
  refine bodyPost_ret (Ck.results_row_tmp rfl _ _ (w.heap.size + 1) 30 #[.int .i64 4, .int .i64 0] (0, 0) _ rfl (Xr.blk2 HPC.out.res _ _) Tryz.underlying30 rfl Xr.size_res) rfl ?_
  have c3 := two_ch wb (w.heap.size + 1) (.int .i64 4) (.int .i64 0)
  exact did_of HE.out (Ps.nil _ _) (rdone_below H.out (HBC.out.trans (c3.below (fun k hk h => by omega) HBC.out.size)))
theorem does_pub {L : List Tp} {topic group : Tx} {off : Int} {recs : List Tx} {i : Nat} {t : Tp} (hg : GoodL L) (hz : check ⟨2, topic, group, off, recs⟩ = 0) (hf : findT L topic = some t) (hi : L[i]? = some t) : doesS L ⟨2, topic, group, off, recs⟩ = pubT L i t recs := by
  obtain ⟨-, hn⟩ := findT_some hf
  rw [doesS, if_neg (by omega), if_neg (by simp), if_neg (by simp)]
  simp only [hf, if_true, pubT]
  split
  · rfl
  · rw [← hn, upd_set hg.rises hi]
theorem does_com {L : List Tp} {topic group : Tx} {off : Int} {recs : List Tx} {i : Nat} {t : Tp} (hg : GoodL L) (hz : check ⟨3, topic, group, off, recs⟩ = 0) (hf : findT L topic = some t) (hi : L[i]? = some t) : doesS L ⟨3, topic, group, off, recs⟩ = ((comT L i t group off).1, [], (comT L i t group off).2) := by
  obtain ⟨-, hn⟩ := findT_some hf
  rw [doesS, if_neg (by omega), if_neg (by simp), if_neg (by simp)]
  simp only [hf, comT]
  rw [if_neg (by simp), if_pos trivial]
  split
  · rfl
  · split
    · rfl
    · rw [← hn, upd_set hg.rises hi]
set_option maxHeartbeats 1000000 in
theorem rdoes_2 (w : World) (S : Nat → Prop) (q : Nat) (m : St) (o : O) (X : Nat → Prop) (A : Option Addr) (c : Nat) (h : Tk w S q m) (hg : GoodL m.L) (hls : Ls w X (.slice A o.recs.length c) o.recs) (hl : o.recs.length ≤ 140737488355328) (hz : check o = 0) (hk : o.kind = 2) (t : Tp) (hf : findT m.L o.topic = some t) :
    Calls Tryz.prog 21 #[.pointer (some ⟨q, 0, none⟩), .agg #[.int .i64 o.kind, .string ⟨o.topic.toArray⟩, .string ⟨o.group.toArray⟩, .int .i64 o.off, .slice A o.recs.length c]] w (Did S q m o w) := by
  obtain ⟨kind, topic, group, off, recs⟩ := o
  simp only at hk
  subst hk
  simp only at hf
  have H := Lib.hid h
  have hb2 : Below w.heap.size w ((w.alloc (.cells #[.int .i64 2, .string ⟨topic.toArray⟩, .string ⟨group.toArray⟩, .int .i64 off, .slice A recs.length c] 38)).alloc (.cells #[.int .i64 0, .int .i64 0] 30)) := (op_below w _).trans ((op_below _ _).mono (by simp))
  have hs2 : w.heap.size + 1 < ((w.alloc (.cells #[.int .i64 2, .string ⟨topic.toArray⟩, .string ⟨group.toArray⟩, .int .i64 off, .slice A recs.length c] 38)).alloc (.cells #[.int .i64 0, .int .i64 0] 30)).heap.size := by simp
  have HPD := Lib.hid (pd_new w ⟨2, topic, group, off, recs⟩ A c)
  have HT := Lib.hid (h.bound.later hb2)
  have HLS := Lib.hid (hls.after hb2)
  have HG := Lib.hid hg
  have HB := Lib.hid (And.intro hb2 hs2)
  have HCK := Lib.hid (rcheck_any ⟨2, topic, group, off, recs⟩ (.agg #[.int .i64 2, .string ⟨topic.toArray⟩, .string ⟨group.toArray⟩, .int .i64 off, .slice A recs.length c]) X ((w.alloc (.cells #[.int .i64 2, .string ⟨topic.toArray⟩, .string ⟨group.toArray⟩, .int .i64 off, .slice A recs.length c] 38)).alloc (.cells #[.int .i64 0, .int .i64 0] 30)) ⟨A, c, rfl, HLS.out⟩ hl)
  have HRL := Lib.hid (check_lens hz).2.2.2
  have HE : Hid (∀ i, m.L[i]? = some t → doesS m.L ⟨2, topic, group, off, recs⟩ = pubT m.L i t recs) := Lib.hid (fun i hi => does_pub hg hz hf hi)
  have HF := Lib.hid hf
  clear hf
  rw [hz] at HCK
  clear h hls hb2 hs2 hg
  have o0 := HPD.out.op.cell 0
  have o1 := HPD.out.op.cell 1
  have o2 := HPD.out.op.cell 2
  have o3 := HPD.out.op.cell 3
  have o4 := HPD.out.op.cell 4
  simp only [List.getElem?_toArray, List.getElem?_cons_zero, List.getElem?_cons_succ] at o0 o1 o2 o3 o4
  (try dsimp only at HCK HE o0 o1 o2 o3 o4)
  go_enter Tryz.func21, Tryz.ntmps21
  go_wp2_with fail
  generalize ((w.alloc (.cells #[.int .i64 2, .string ⟨topic.toArray⟩, .string ⟨group.toArray⟩, .int .i64 off, .slice A recs.length c] 38)).alloc (.cells #[.int .i64 0, .int .i64 0] 30)) = w2 at *
  refine HCK.out.mono ?_
  rintro e w3 ⟨rfl, hb3⟩
  have HPD3 := Lib.hid (HPD.out.later hb3)
  have HT3 := Lib.hid (HT.out.later hb3)
  have HB3 : Hid (Below w.heap.size w w3 ∧ w.heap.size + 1 < w3.heap.size) := Lib.hid ⟨HB.out.1.trans (hb3.mono HB.out.1.size), by have := HB.out.2; have := hb3.size; omega⟩
  have HLS3 := Lib.hid (HLS.out.after hb3)
  clear hb3 o0 o1 o2 o3 o4
  have o0 := HPD3.out.op.cell 0
  have o1 := HPD3.out.op.cell 1
  have o2 := HPD3.out.op.cell 2
  have o3 := HPD3.out.op.cell 3
  have o4 := HPD3.out.op.cell 4
  simp only [List.getElem?_toArray, List.getElem?_cons_zero, List.getElem?_cons_succ] at o0 o1 o2 o3 o4
  (try dsimp only at o0 o1 o2 o3 o4)
  have HAT := Lib.hid (rat_any w3 _ q m topic HT3.out HG.out.few)
  go_wp2_with fail
  refine HAT.out.mono ?_
  rintro e w' ⟨⟨z, rfl, hzz⟩, rfl⟩
  obtain ⟨i, hi, rfl⟩ : ∃ i : Nat, m.L[i]? = some t ∧ z = i := by
    rcases hzz with ⟨i, f', h1, h2, h3⟩ | ⟨h1, _⟩
    · rw [HF.out] at h1; injection h1 with h1; exact ⟨i, h1 ▸ h2, h3⟩
    · rw [HF.out] at h1; cases h1
  clear hzz
  have hi0 : (0 : Int) ≤ (i : Int) := by omega
  have HI := Lib.hid hi
  have hrl := HRL.out rfl
  have HPB := Lib.hid (rpublish_any w3 _ q i m t ⟨2, topic, group, off, recs⟩ X A c HT3.out HG.out hi HLS3.out (by have := hrl.2.1; simp only at this ⊢; omega) hrl.2.2.1)
  clear hrl hi
  go_wp2_with fail
  refine HPB.out.mono ?_
  rintro e w4 ⟨v, rfl, hp, hd⟩
  have HPD4 := Lib.hid (HPD3.out.ch hd.2)
  have HD := Lib.hid (And.intro hp hd)
  clear hp hd
  have q0 := HPD4.out.res.cell 0
  have q1 := HPD4.out.res.cell 1
  have qf0 := HPD4.out.res.frozen 0
  have qf1 := HPD4.out.res.frozen 1
  simp only [List.getElem?_toArray, List.getElem?_cons_zero, List.getElem?_cons_succ] at q0 q1
  go_wp2_with fail
  refine bodyPost_ret (Ck.results_row_tmp rfl _ _ (w.heap.size + 1) 30 #[.int .i64 (pubT m.L i t recs).1.1, .int .i64 (pubT m.L i t recs).1.2] (0, 0) _ rfl (Xr.blk2 HPD4.out.res _ _) Tryz.underlying30 rfl Xr.size_res) rfl ?_
  have hc := two_ch w4 (w.heap.size + 1) (.int .i64 (pubT m.L i t recs).1.1) (.int .i64 (pubT m.L i t recs).1.2)
  have h3 := HB3.out
  have h31 := h3.1.size
  exact did_of (HE.out i HI.out) ((HD.out.1.ch hc (fun k hk => by omega)).base h31) (rdone_end h3.1 (by omega) h3.2 HD.out.2)
end Go.Proofs.YtkoedonllfmaaaaGreat.Xw

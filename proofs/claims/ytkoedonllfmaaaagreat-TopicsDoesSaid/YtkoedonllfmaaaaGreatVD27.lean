/-
  Layer 7: the document's does, whole, and its Apply.
-/
import Derived.Test.YtkoedonllfmaaaaGreatVD25
import Derived.Test.YtkoedonllfmaaaaGreatVD26
import Derived.Test.YtkoedonllfmaaaaGreatVD15
import Derived.Test.YtkoedonllfmaaaaGreatVD11
import Derived.Test.YtkoedonllfmaaaaGreatVD12
import Derived.Test.YtkoedonllfmaaaaGreatVD04
import Derived.Outline
import Derived.Test.YtkoedonllfmaaaaGreatVD17
import Derived.Lib.MinMax
namespace Go.Proofs.YtkoedonllfmaaaaGreat.Xy
set_option linter.unusedSimpArgs false
open Go Go.RowKit Ck Kw Ga Kf Km Pm Pe Pz Py Qb Tm Tn Tq Ah Ai Ta Tb Td Xa Xr Xs Xu Xv Ph Xw Xx
attribute [local go_sem ↓] Go.wp_at_zero Go.wp_at_succ
set_option linter.unusedVariables false
set_option maxRecDepth 100000

set_option maxHeartbeats 1000000 in
theorem rdoes_3 (w : World) (S : Nat → Prop) (q : Nat) (m : St) (o : O) (X : Nat → Prop) (A : Option Addr) (c : Nat) (h : Tk w S q m) (hg : GoodL m.L) (hls : Ls w X (.slice A o.recs.length c) o.recs) (hl : o.recs.length ≤ 140737488355328) (hz : check o = 0) (hk : o.kind = 3) (t : Tp) (hf : findT m.L o.topic = some t) :
    Calls Tryz.prog 21 #[.pointer (some ⟨q, 0, none⟩), .agg #[.int .i64 o.kind, .string ⟨o.topic.toArray⟩, .string ⟨o.group.toArray⟩, .int .i64 o.off, .slice A o.recs.length c]] w (Did S q m o w) := by
  obtain ⟨kind, topic, group, off, recs⟩ := o
  simp only at hk
  subst hk
  simp only at hf
  have H := Lib.hid h
  have hb2 : Below w.heap.size w ((w.alloc (.cells #[.int .i64 3, .string ⟨topic.toArray⟩, .string ⟨group.toArray⟩, .int .i64 off, .slice A recs.length c] 38)).alloc (.cells #[.int .i64 0, .int .i64 0] 30)) := (op_below w _).trans ((op_below _ _).mono (by simp))
  have hs2 : w.heap.size + 1 < ((w.alloc (.cells #[.int .i64 3, .string ⟨topic.toArray⟩, .string ⟨group.toArray⟩, .int .i64 off, .slice A recs.length c] 38)).alloc (.cells #[.int .i64 0, .int .i64 0] 30)).heap.size := by simp
  have HPD := Lib.hid (pd_new w ⟨3, topic, group, off, recs⟩ A c)
  have HT := Lib.hid (h.bound.later hb2)
  have HLS := Lib.hid (hls.after hb2)
  have HG := Lib.hid hg
  have HB := Lib.hid (And.intro hb2 hs2)
  have HCK := Lib.hid (rcheck_any ⟨3, topic, group, off, recs⟩ (.agg #[.int .i64 3, .string ⟨topic.toArray⟩, .string ⟨group.toArray⟩, .int .i64 off, .slice A recs.length c]) X ((w.alloc (.cells #[.int .i64 3, .string ⟨topic.toArray⟩, .string ⟨group.toArray⟩, .int .i64 off, .slice A recs.length c] 38)).alloc (.cells #[.int .i64 0, .int .i64 0] 30)) ⟨A, c, rfl, HLS.out⟩ hl)
  have HE : Hid (∀ i, m.L[i]? = some t → doesS m.L ⟨3, topic, group, off, recs⟩ = ((comT m.L i t group off).1, [], (comT m.L i t group off).2)) := Lib.hid (fun i hi => does_com hg hz hf hi)
  have HF := Lib.hid hf
  clear hf
  rw [hz] at HCK
  clear h hls hb2 hs2 hg
  have o0 := HPD.out.op.cell 0
  have o1 := HPD.out.op.cell 1
  have o2 := HPD.out.op.cell 2
  have o3 := HPD.out.op.cell 3
  have o4 := HPD.out.op.cell 4
  simp only [List.getElem?_toArray, List.getElem?_cons_zero, List.getElem?_cons_succ] at o0 o1 o2 o3 o4
  (try dsimp only at HCK HE o0 o1 o2 o3 o4)
  go_enter Tryz.func21, Tryz.ntmps21
  go_wp2_with fail
  generalize ((w.alloc (.cells #[.int .i64 3, .string ⟨topic.toArray⟩, .string ⟨group.toArray⟩, .int .i64 off, .slice A recs.length c] 38)).alloc (.cells #[.int .i64 0, .int .i64 0] 30)) = w2 at *
  refine HCK.out.mono ?_
  rintro e w3 ⟨rfl, hb3⟩
  have HPD3 := Lib.hid (HPD.out.later hb3)
  have HT3 := Lib.hid (HT.out.later hb3)
  have HB3 : Hid (Below w.heap.size w w3 ∧ w.heap.size + 1 < w3.heap.size) := Lib.hid ⟨HB.out.1.trans (hb3.mono HB.out.1.size), by have := HB.out.2; have := hb3.size; omega⟩
  have HLS3 := Lib.hid (HLS.out.after hb3)
  clear hb3 o0 o1 o2 o3 o4
  have o0 := HPD3.out.op.cell 0
  have o1 := HPD3.out.op.cell 1
  have o2 := HPD3.out.op.cell 2
  have o3 := HPD3.out.op.cell 3
  have o4 := HPD3.out.op.cell 4
  simp only [List.getElem?_toArray, List.getElem?_cons_zero, List.getElem?_cons_succ] at o0 o1 o2 o3 o4
  (try dsimp only at o0 o1 o2 o3 o4)
  have HAT := Lib.hid (rat_any w3 _ q m topic HT3.out HG.out.few)
  go_wp2_with fail
  refine HAT.out.mono ?_
  rintro e w' ⟨⟨z, rfl, hzz⟩, rfl⟩
  obtain ⟨i, hi, rfl⟩ : ∃ i : Nat, m.L[i]? = some t ∧ z = i := by
    rcases hzz with ⟨i, f', h1, h2, h3⟩ | ⟨h1, _⟩
    · rw [HF.out] at h1; injection h1 with h1; exact ⟨i, h1 ▸ h2, h3⟩
    · rw [HF.out] at h1; cases h1
  clear hzz
  have hi0 : (0 : Int) ≤ (i : Int) := by omega
  have HI := Lib.hid hi
  have HPB := Lib.hid (rcommit_any w3 _ q i m t ⟨3, topic, group, off, recs⟩ A c HT3.out HG.out hi)
  clear hi
  go_wp2_with fail
  refine HPB.out.mono ?_
  rintro e w4 ⟨rfl, hd⟩
  dsimp only at hd ⊢
  have HPD4 := Lib.hid (HPD3.out.ch hd.2)
  have HD := Lib.hid hd
  clear hd
  have q0 := HPD4.out.res.cell 0
  have q1 := HPD4.out.res.cell 1
  have qf0 := HPD4.out.res.frozen 0
  have qf1 := HPD4.out.res.frozen 1
  simp only [List.getElem?_toArray, List.getElem?_cons_zero, List.getElem?_cons_succ] at q0 q1
  go_wp2_with fail
  refine bodyPost_ret (Ck.results_row_tmp rfl _ _ (w.heap.size + 1) 30 #[.int .i64 (comT m.L i t group off).1.1, .int .i64 (comT m.L i t group off).1.2] (0, 0) _ rfl (Xr.blk2 HPD4.out.res _ _) Tryz.underlying30 rfl Xr.size_res) rfl ?_
  exact did_of (HE.out i HI.out) (Ps.nil _ _) (rdone_end HB3.out.1 (by omega) HB3.out.2 HD.out)
theorem rdoes_any (w : World) (S : Nat → Prop) (q : Nat) (m : St) (o : O) (X : Nat → Prop) (A : Option Addr) (c : Nat) (h : Tk w S q m) (hg : GoodL m.L) (hls : Ls w X (.slice A o.recs.length c) o.recs) (hl : o.recs.length ≤ 140737488355328) :
    Calls Tryz.prog 21 #[.pointer (some ⟨q, 0, none⟩), .agg #[.int .i64 o.kind, .string ⟨o.topic.toArray⟩, .string ⟨o.group.toArray⟩, .int .i64 o.off, .slice A o.recs.length c]] w (Did S q m o w) := by
  by_cases hz : check o = 0
  · rcases kind_cases (check_ok hz).1 with hk | hk | hk | hk | hk
    · exact rdoes_0 w S q m o X A c h hg hls hl hz hk
    · exact rdoes_1 w S q m o X A c h hg hls hl hz hk
    · cases hf : findT m.L o.topic with
      | none => exact rdoes_no2 w S q m o X A c h hg hls hl hz hk hf
      | some t => exact rdoes_2 w S q m o X A c h hg hls hl hz hk t hf
    · cases hf : findT m.L o.topic with
      | none => exact rdoes_no3 w S q m o X A c h hg hls hl hz hk hf
      | some t => exact rdoes_3 w S q m o X A c h hg hls hl hz hk t hf
    · cases hf : findT m.L o.topic with
      | none => exact rdoes_no4 w S q m o X A c h hg hls hl hz hk hf
      | some t => exact rdoes_4 w S q m o X A c h hg hls hl hz hk t hf
  · exact rdoes_bad w S q m o X A c h hg hls hl hz
open Aj
theorem tk_last {w : World} {S : Nat → Prop} {q : Nat} {s : St} (h : Tk w S q s) {i : Nat} (hi : i < s.last.length) (a : An) :
    Tk (((w.setCell ⟨q, 1 + i * 3, none⟩ (.int .i64 a.time)).setCell ⟨q, 1 + i * 3 + 1, none⟩ (.int .i64 a.err)).setCell ⟨q, 1 + i * 3 + 2, none⟩ (.int .i64 a.off)) S q ⟨s.L, s.last.set i a⟩ := by
  obtain ⟨l, lv, e, h⟩ := h
  have c : Ch (fun k => k = q) w (((w.setCell ⟨q, 1 + i * 3, none⟩ (.int .i64 a.time)).setCell ⟨q, 1 + i * 3 + 1, none⟩ (.int .i64 a.err)).setCell ⟨q, 1 + i * 3 + 2, none⟩ (.int .i64 a.off)) :=
    (((Ch.refl (fun k => k = q) w).setCell (p := ⟨q, 1 + i * 3, none⟩) (fun _ => rfl) _).setCell (p := ⟨q, 1 + i * 3 + 1, none⟩) (fun _ => rfl) _).setCell (p := ⟨q, 1 + i * 3 + 2, none⟩) (fun _ => rfl) _
  have hb := ((h.blk.set_ (1 + i * 3) (.int .i64 a.time)).set_ (1 + i * 3 + 1) (.int .i64 a.err)).set_ (1 + i * 3 + 2) (.int .i64 a.off)
  have e2 : ((((lv :: ACs s.last).toArray.setIfInBounds (1 + i * 3) (.int .i64 a.time)).setIfInBounds (1 + i * 3 + 1) (.int .i64 a.err)).setIfInBounds (1 + i * 3 + 2) (.int .i64 a.off)) = (lv :: ACs (s.last.set i a)).toArray := by
    have e3 : ACs (s.last.set i a) = (((ACs s.last).set (i * 3) (.int .i64 a.time)).set (i * 3 + 1) (.int .i64 a.err)).set (i * 3 + 2) (.int .i64 a.off) := (acs_set s.last i hi a).symm
    rw [e3]
    simp only [List.setIfInBounds_toArray]
    rw [show 1 + i * 3 + 2 = (i * 3 + 2) + 1 by omega, show 1 + i * 3 + 1 = (i * 3 + 1) + 1 by omega, show 1 + i * 3 = i * 3 + 1 by omega]
    simp only [List.set_cons_succ]
  rw [e2] at hb
  exact ⟨l, lv, e, hb, own_ch h.row c (fun g hg e => own_far h.row h.blk (by decide) (by rw [← e]; exact hg)), h.sq, h.slv, fun x hx => (h.each x hx).ch c (fun k _ hk => .inr (.inl hk))⟩
theorem tk_cellA {w : World} {S : Nat → Prop} {q : Nat} {s : St} (h : Tk w S q s) {i : Nat} (hi : i < s.last.length) : (w.cell? ⟨q, 1 + i * 3, none⟩ = some (.int .i64 s.last[i].time) ∧ w.cell? ⟨q, 1 + i * 3 + 1, none⟩ = some (.int .i64 s.last[i].err) ∧ w.cell? ⟨q, 1 + i * 3 + 2, none⟩ = some (.int .i64 s.last[i].off)) ∧ (w.frozen? ⟨q, 1 + i * 3, none⟩ = false ∧ w.frozen? ⟨q, 1 + i * 3 + 1, none⟩ = false ∧ w.frozen? ⟨q, 1 + i * 3 + 2, none⟩ = false) := by
  obtain ⟨l, lv, e, h⟩ := h
  have key : ∀ j, j < 3 → w.cell? ⟨q, 1 + i * 3 + j, none⟩ = (AC s.last[i])[j]? := fun j hj => by
    have := h.blk.cell (1 + i * 3 + j)
    rw [this, List.getElem?_toArray, show 1 + i * 3 + j = (i * 3 + j) + 1 from by omega, List.getElem?_cons_succ]
    exact flat_get AC_len s.last i hi j hj
  exact ⟨⟨key 0 (by omega), key 1 (by omega), key 2 (by omega)⟩, h.blk.frozen _, h.blk.frozen _, h.blk.frozen _⟩
/-- What the document's Apply answers and leaves. -/
def RAsked (S : Nat → Prop) (q : Nat) (s : St) (client time : Int) (o : O) (w : World) (e : Ending) (w' : World) : Prop :=
  ∃ v, e = .returned (.tuple #[.agg #[.int .i64 (appS s client time o).1.1, .int .i64 (appS s client time o).1.2], v, .bool (appS s client time o).2.2.1]) ∧ Ps w' w.heap.size v (appS s client time o).2.1 ∧ RDone S q (appS s client time o).2.2.2 w w'
theorem rasked_of {w w' : World} {S : Nat → Prop} {q : Nat} {s s' : St} {client time : Int} {o : O} {k off : Int} {b : Bool} {v : Value} {pl : List (Tx × Int × Tx)} (h : appS s client time o = ((k, off), pl, b, s')) (h4 : Ps w' w.heap.size v pl) (h5 : RDone S q s' w w') :
    RAsked S q s client time o w (.returned (.tuple #[.agg #[.int .i64 k, .int .i64 off], v, .bool b])) w' := by
  unfold RAsked
  rw [h]
  exact ⟨v, rfl, h4, h5⟩
theorem rapply_fin {w W1 w2 W3 W4 : World} {S : Nat → Prop} {q : Nat} {s s' : St} {client time : Int} {o : O} {A : Option Addr} {c : Nat} {x y : Value} (hz : Tk w S q s) (hk : AK w client time o A c W1) (c2 : Ch (fun k => S k ∧ k < w.heap.size) W1 w2) (b3 : Below w2.heap.size w2 W3) (c4 : Ch (fun k => k = q) W3 W4) (h : Tk W4 (Up (fun k => S k ∧ k < w.heap.size) W1 w2) q s') :
    RDone S q s' w ((W4.setCell ⟨w.heap.size + 1, 0, none⟩ x).setCell ⟨w.heap.size + 1, 1, none⟩ y) := by
  have hs := hk.below.size
  have hr := hk.res.lt
  have s2 := c2.size
  have s3 := b3.size
  have s4 := c4.size
  obtain ⟨l0, lv0, _, hz'⟩ := hz
  have hSp := hz'.sq
  have c5 := Al.two_ch W4 (w.heap.size + 1) x y
  have s5 := c5.size
  refine ⟨(h.ch c5 (fun k hk e => ?_)).up (fun k hk => ?_), ?_⟩
  · rcases hk with h | h
    · have := h.2; omega
    · have := h.1; omega
  · rcases hk with h | h
    · exact .inl h.1
    · exact .inr ⟨by omega, by omega⟩
  · have k1 : Ch S w W1 := Ch.of_below hk.below (Nat.le_refl _)
    have k2 : Ch S w w2 := k1.trans (c2.mono (T := S) (fun k _ h => h.1)) (fun _ _ h => h)
    have k3 : Ch S w W3 := k2.trans (Ch.of_below (S := S) b3 (Nat.le_refl _)) (fun _ _ h => h)
    have k4 : Ch S w W4 := k3.trans (c4.mono (T := S) (fun k _ h => by rw [h]; exact hSp)) (fun _ _ h => h)
    exact k4.trans c5 (fun k h1 h2 => by omega)
theorem rapply_ps {w W1 w2 W3 W4 : World} {q : Nat} {client time : Int} {o : O} {A : Option Addr} {c : Nat} {v x y : Value} {pl : List (Tx × Int × Tx)} (hp : q < w.heap.size) (hk : AK w client time o A c W1) (h : Ps w2 W1.heap.size v pl) (b3 : Below w2.heap.size w2 W3) (c4 : Ch (fun k => k = q) W3 W4) :
    Ps ((W4.setCell ⟨w.heap.size + 1, 0, none⟩ x).setCell ⟨w.heap.size + 1, 1, none⟩ y) w.heap.size v pl := by
  have hs := hk.below.size
  have hr := hk.res.lt
  exact ((((h.later b3).ch c4 (fun k hk => by omega)).ch (Al.two_ch W4 (w.heap.size + 1) x y) (fun k hk => by omega))).base hs
set_option maxHeartbeats 2000000 in
theorem rapply_bad (w : World) (S : Nat → Prop) (q : Nat) (s : St) (client time : Int) (o : O) (A : Option Addr) (c : Nat) (hb : badArg client time = true) (h : Tk w S q s) :
    Calls Tryz.prog 8 #[.pointer (some ⟨q, 0, none⟩), RV client time o A c] w (RAsked S q s client time o w) := by
  have hak := ak_new w client time o A c
  have HAK := Lib.hid hak
  have HZ := Lib.hid h
  have HAP : Hid (appS s client time o = ((1, 0), [], false, s)) := Lib.hid (by rw [appS, if_pos hb])
  obtain ⟨a0, a1, a2, a3, a4, a5, a6⟩ := hak.cells
  obtain ⟨r0, r1, fr0, fr1⟩ := hak.rcells
  clear hak h
  simp only [badArg, Bool.or_eq_true, decide_eq_true_eq] at hb
  unfold RV
  unfold RC at HAK a0 a1 a2 a3 a4 a5 a6 r0 r1 fr0 fr1 ⊢
  simp only [maxNum] at hb
  by_cases h1 : client < 0
  · clear hb
    go_enter Tryz.func8, Tryz.ntmps8
    go_wp2_with fail
    generalize (w.alloc (.cells #[.int .i64 client, .int .i64 time, .int .i64 o.kind, .string ⟨o.topic.toArray⟩, .string ⟨o.group.toArray⟩, .int .i64 o.off, .slice A o.recs.length c] 40)).alloc (.cells #[.int .i64 0, .int .i64 0] 30) = W0 at *
    refine (rbad_any _ 1).mono ?_
    rintro e wb ⟨rfl, hbb⟩
    have HKB := Lib.hid (HAK.out.later hbb)
    clear r0 r1 fr0 fr1
    obtain ⟨r0, r1, fr0, fr1⟩ := AK.rcells HKB.out
    clear hbb
    go_wp2_with fail
    have c3 := Al.two_ch wb (w.heap.size + 1) (.int .i64 1) (.int .i64 0)
    refine bodyPost_ret (results_row_tmp2 rfl _ _ (w.heap.size + 1) 30 #[.int .i64 1, .int .i64 0] (0, 0) _ rfl (Xr.blk2 HKB.out.res _ _) Tryz.underlying30 rfl Ai.size_res) rfl ?_
    exact rasked_of HAP.out (Ps.nil _ _) (rdone_below HZ.out (HKB.out.below.trans (c3.below (fun k hk h => by omega) HKB.out.below.size)))
  · by_cases h2 : 8 ≤ client
    · clear hb
      go_enter Tryz.func8, Tryz.ntmps8
      go_wp2_with fail
      generalize (w.alloc (.cells #[.int .i64 client, .int .i64 time, .int .i64 o.kind, .string ⟨o.topic.toArray⟩, .string ⟨o.group.toArray⟩, .int .i64 o.off, .slice A o.recs.length c] 40)).alloc (.cells #[.int .i64 0, .int .i64 0] 30) = W0 at *
      refine (rbad_any _ 1).mono ?_
      rintro e wb ⟨rfl, hbb⟩
      have HKB := Lib.hid (HAK.out.later hbb)
      clear r0 r1 fr0 fr1
      obtain ⟨r0, r1, fr0, fr1⟩ := AK.rcells HKB.out
      clear hbb
      go_wp2_with fail
      have c3 := Al.two_ch wb (w.heap.size + 1) (.int .i64 1) (.int .i64 0)
      refine bodyPost_ret (results_row_tmp2 rfl _ _ (w.heap.size + 1) 30 #[.int .i64 1, .int .i64 0] (0, 0) _ rfl (Xr.blk2 HKB.out.res _ _) Tryz.underlying30 rfl Ai.size_res) rfl ?_
      exact rasked_of HAP.out (Ps.nil _ _) (rdone_below HZ.out (HKB.out.below.trans (c3.below (fun k hk h => by omega) HKB.out.below.size)))
    · by_cases h3 : time < 1
      · clear hb
        go_enter Tryz.func8, Tryz.ntmps8
        go_wp2_with fail
        generalize (w.alloc (.cells #[.int .i64 client, .int .i64 time, .int .i64 o.kind, .string ⟨o.topic.toArray⟩, .string ⟨o.group.toArray⟩, .int .i64 o.off, .slice A o.recs.length c] 40)).alloc (.cells #[.int .i64 0, .int .i64 0] 30) = W0 at *
        refine (rbad_any _ 1).mono ?_
        rintro e wb ⟨rfl, hbb⟩
        have HKB := Lib.hid (HAK.out.later hbb)
        clear r0 r1 fr0 fr1
        obtain ⟨r0, r1, fr0, fr1⟩ := AK.rcells HKB.out
        clear hbb
        go_wp2_with fail
        have c3 := Al.two_ch wb (w.heap.size + 1) (.int .i64 1) (.int .i64 0)
        refine bodyPost_ret (results_row_tmp2 rfl _ _ (w.heap.size + 1) 30 #[.int .i64 1, .int .i64 0] (0, 0) _ rfl (Xr.blk2 HKB.out.res _ _) Tryz.underlying30 rfl Ai.size_res) rfl ?_
        exact rasked_of HAP.out (Ps.nil _ _) (rdone_below HZ.out (HKB.out.below.trans (c3.below (fun k hk h => by omega) HKB.out.below.size)))
      · have h4 : 9007199254740992 < time := by omega
        clear hb
        go_enter Tryz.func8, Tryz.ntmps8
        go_wp2_with fail
        generalize (w.alloc (.cells #[.int .i64 client, .int .i64 time, .int .i64 o.kind, .string ⟨o.topic.toArray⟩, .string ⟨o.group.toArray⟩, .int .i64 o.off, .slice A o.recs.length c] 40)).alloc (.cells #[.int .i64 0, .int .i64 0] 30) = W0 at *
        refine (rbad_any _ 1).mono ?_
        rintro e wb ⟨rfl, hbb⟩
        have HKB := Lib.hid (HAK.out.later hbb)
        clear r0 r1 fr0 fr1
        obtain ⟨r0, r1, fr0, fr1⟩ := AK.rcells HKB.out
        clear hbb
        go_wp2_with fail
        have c3 := Al.two_ch wb (w.heap.size + 1) (.int .i64 1) (.int .i64 0)
        refine bodyPost_ret (results_row_tmp2 rfl _ _ (w.heap.size + 1) 30 #[.int .i64 1, .int .i64 0] (0, 0) _ rfl (Xr.blk2 HKB.out.res _ _) Tryz.underlying30 rfl Ai.size_res) rfl ?_
        exact rasked_of HAP.out (Ps.nil _ _) (rdone_below HZ.out (HKB.out.below.trans (c3.below (fun k hk h => by omega) HKB.out.below.size)))
set_option maxHeartbeats 2000000 in
theorem rapply_old (w : World) (S : Nat → Prop) (q : Nat) (s : St) (client time : Int) (o : O) (A : Option Addr) (c : Nat) (hb : badArg client time = false) (hle : time ≤ (s.last.getD client.toNat An.zero).time) (h : Tk w S q s) (h8 : s.last.length = 8) :
    Calls Tryz.prog 8 #[.pointer (some ⟨q, 0, none⟩), RV client time o A c] w (RAsked S q s client time o w) := by
  have hak := ak_new w client time o A c
  have HAK := Lib.hid hak
  have HZ := Lib.hid h
  have hz1 := h.later (HAK.out.below.mono (Nat.le_refl _))
  obtain ⟨c0, c1, t0, t1⟩ := badArg_no (by rw [hb]; simp)
  have hlen := h8
  obtain ⟨i, rfl⟩ : ∃ i : Nat, client = (i : Int) := ⟨client.toNat, by omega⟩
  have hi : i < s.last.length := by omega
  obtain ⟨⟨q0, q1, q2⟩, -⟩ := tk_cellA hz1 hi
  have hg : s.last.getD (Int.toNat (i : Int)) An.zero = s.last[i] := by rw [Int.toNat_natCast, List.getD_eq_getElem?_getD, List.getElem?_eq_getElem hi]; rfl

  rw [hg] at hle
  have HAP : Hid (appS s i time o = if time = s.last[i].time then ((s.last[i].err, s.last[i].off), [], false, s) else ((7, 0), [], false, s)) := Lib.hid (by
    rw [appS, if_neg (by rw [hb]; simp)]
    simp only [hg]
    split
    · rfl
    · rw [if_pos (by omega)])
  obtain ⟨a0, a1, a2, a3, a4, a5, a6⟩ := hak.cells
  obtain ⟨r0, r1, fr0, fr1⟩ := hak.rcells
  simp only [maxNum] at t1
  have hi8 : (i : Int) < 8 := by omega
  clear hak h hb hg hlen hz1
  generalize s.last[i] = a at *
  obtain ⟨at', ae, ao⟩ := a
  simp only at q0 q1 q2 hle HAP
  unfold RV
  unfold RC at HAK a0 a1 a2 a3 a4 a5 a6 r0 r1 fr0 fr1 q0 q1 q2 ⊢
  by_cases he : time = at'
  · subst he
    rw [if_pos rfl] at HAP
    go_enter Tryz.func8, Tryz.ntmps8
    go_wp2_with fail

    generalize (w.alloc (.cells #[.int .i64 (i : Int), .int .i64 time, .int .i64 o.kind, .string ⟨o.topic.toArray⟩, .string ⟨o.group.toArray⟩, .int .i64 o.off, .slice A o.recs.length c] 40)).alloc (.cells #[.int .i64 0, .int .i64 0] 30) = W0 at *
    go_region_held3 (fun w' => w'.cell? ⟨w.heap.size, 0, none⟩ = some (.int .i64 (i : Int)) ∧ w'.cell? ⟨q, 1 + i * 3, none⟩ = some (.int .i64 time) ∧ w'.cell? ⟨q, 1 + i * 3 + 1, none⟩ = some (.int .i64 ae) ∧ w'.cell? ⟨q, 1 + i * 3 + 2, none⟩ = some (.int .i64 ao)) (first | exact ⟨a0, q0, q1, q2⟩ | go_keep) (fail)
    have hb1 : Below W0.heap.size W0 (W0.alloc (.cells #[.int .i64 time, .int .i64 ae, .int .i64 ao] 32)).drew := below_drewN (op_below _ _) 1
    have hl1 : Blk (W0.alloc (.cells #[.int .i64 time, .int .i64 ae, .int .i64 ao] 32)).drew W0.heap.size 32 #[.int .i64 time, .int .i64 ae, .int .i64 ao] := Blk.new _ _ _
    have HAK1 := Lib.hid (HAK.out.later hb1)
    generalize (W0.alloc (.cells #[.int .i64 time, .int .i64 ae, .int .i64 ao] 32)).drew = W1 at *
    clear a0 a1 a2 a3 a4 a5 a6 r0 r1 fr0 fr1 q0 q1 q2
    obtain ⟨a0, a1, a2, a3, a4, a5, a6⟩ := AK.cells HAK1.out
    obtain ⟨r0, r1, fr0, fr1⟩ := AK.rcells HAK1.out
    have l0 := hl1.cell 0
    have l1 := hl1.cell 1
    have l2 := hl1.cell 2
    simp only [List.getElem?_toArray, List.getElem?_cons_zero, List.getElem?_cons_succ] at l0 l1 l2
    have HB1 := Lib.hid (And.intro hb1 hl1)
    clear hb1 hl1
    go_wp2_with fail
    refine bodyPost_ret (results_row_tmp2 rfl _ _ (w.heap.size + 1) 30 #[.int .i64 ae, .int .i64 ao] (0, 0) _ rfl (Xr.blk2 HAK1.out.res _ _) Tryz.underlying30 rfl Ai.size_res) rfl ?_
    have c3 := Al.two_ch W1 (w.heap.size + 1) (.int .i64 ae) (.int .i64 ao)
    exact rasked_of HAP.out (Ps.nil _ _) (rdone_below HZ.out (HAK1.out.below.trans (c3.below (fun k hk h => by omega) HAK1.out.below.size)))
  · rw [if_neg he] at HAP
    have hlt : time < at' := by omega
    have heb : (time == at') = false := beq_eq_false_iff_ne.2 he
    clear hle he
    go_enter Tryz.func8, Tryz.ntmps8
    go_wp2_with fail

    generalize (w.alloc (.cells #[.int .i64 (i : Int), .int .i64 time, .int .i64 o.kind, .string ⟨o.topic.toArray⟩, .string ⟨o.group.toArray⟩, .int .i64 o.off, .slice A o.recs.length c] 40)).alloc (.cells #[.int .i64 0, .int .i64 0] 30) = W0 at *
    go_region_held3 (fun w' => w'.cell? ⟨w.heap.size, 0, none⟩ = some (.int .i64 (i : Int)) ∧ w'.cell? ⟨q, 1 + i * 3, none⟩ = some (.int .i64 at') ∧ w'.cell? ⟨q, 1 + i * 3 + 1, none⟩ = some (.int .i64 ae) ∧ w'.cell? ⟨q, 1 + i * 3 + 2, none⟩ = some (.int .i64 ao)) (first | exact ⟨a0, q0, q1, q2⟩ | go_keep) (fail)
    have hb1 : Below W0.heap.size W0 (W0.alloc (.cells #[.int .i64 at', .int .i64 ae, .int .i64 ao] 32)).drew := below_drewN (op_below _ _) 1
    have hl1 : Blk (W0.alloc (.cells #[.int .i64 at', .int .i64 ae, .int .i64 ao] 32)).drew W0.heap.size 32 #[.int .i64 at', .int .i64 ae, .int .i64 ao] := Blk.new _ _ _
    have HAK1 := Lib.hid (HAK.out.later hb1)
    generalize (W0.alloc (.cells #[.int .i64 at', .int .i64 ae, .int .i64 ao] 32)).drew = W1 at *
    clear a0 a1 a2 a3 a4 a5 a6 r0 r1 fr0 fr1 q0 q1 q2
    obtain ⟨a0, a1, a2, a3, a4, a5, a6⟩ := AK.cells HAK1.out
    obtain ⟨r0, r1, fr0, fr1⟩ := AK.rcells HAK1.out
    have l0 := hl1.cell 0
    have l1 := hl1.cell 1
    have l2 := hl1.cell 2
    simp only [List.getElem?_toArray, List.getElem?_cons_zero, List.getElem?_cons_succ] at l0 l1 l2
    have HB1 := Lib.hid (And.intro hb1 hl1)
    clear hb1 hl1
    go_wp2_with fail
    refine (rbad_any _ 7).mono ?_
    rintro e wb ⟨rfl, hbb⟩
    have HKB := Lib.hid (HAK1.out.later hbb)
    clear r0 r1 fr0 fr1
    obtain ⟨r0, r1, fr0, fr1⟩ := AK.rcells HKB.out
    clear hbb
    go_wp2_with fail
    have c3 := Al.two_ch wb (w.heap.size + 1) (.int .i64 7) (.int .i64 0)
    refine bodyPost_ret (results_row_tmp2 rfl _ _ (w.heap.size + 1) 30 #[.int .i64 7, .int .i64 0] (0, 0) _ rfl (Xr.blk2 HKB.out.res _ _) Tryz.underlying30 rfl Ai.size_res) rfl ?_
    exact rasked_of HAP.out (Ps.nil _ _) (rdone_below HZ.out (HKB.out.below.trans (c3.below (fun k hk h => by omega) HKB.out.below.size)))
set_option maxHeartbeats 2000000 in
theorem rapply_new (w : World) (S : Nat → Prop) (q : Nat) (s : St) (client time : Int) (o : O) (X : Nat → Prop) (A : Option Addr) (c : Nat) (hb : badArg client time = false) (hlt : (s.last.getD client.toNat An.zero).time < time) (h : Tk w S q s) (hgs : GoodS s) (hls : Ls w X (.slice A o.recs.length c) o.recs) (hl : o.recs.length ≤ 140737488355328) :
    Calls Tryz.prog 8 #[.pointer (some ⟨q, 0, none⟩), RV client time o A c] w (RAsked S q s client time o w) := by
  have h8 := hgs.eight
  have HGS := Lib.hid hgs
  clear hgs
  have hak := ak_new w client time o A c
  have HAK := Lib.hid hak
  have HZ := Lib.hid h
  have hz1 := h.later (HAK.out.below.mono (Nat.le_refl _))
  obtain ⟨c0, c1, t0, t1⟩ := badArg_no (by rw [hb]; simp)
  have hlen := h8
  obtain ⟨i, rfl⟩ : ∃ i : Nat, client = (i : Int) := ⟨client.toNat, by omega⟩
  have hi : i < s.last.length := by omega
  obtain ⟨⟨q0, q1, q2⟩, -⟩ := tk_cellA hz1 hi
  have hg : s.last.getD (Int.toNat (i : Int)) An.zero = s.last[i] := by rw [Int.toNat_natCast, List.getD_eq_getElem?_getD, List.getElem?_eq_getElem hi]; rfl

  rw [hg] at hlt
  have hg2 : s.last.getD i An.zero = s.last[i] := by rw [← hg, Int.toNat_natCast]
  have HAP : Hid (appS s i time o = ((doesS s.L o).1, (doesS s.L o).2.1, true, ⟨(doesS s.L o).2.2, s.last.set i ⟨time, (doesS s.L o).1.1, (doesS s.L o).1.2⟩⟩)) := Lib.hid (by
    rw [appS, if_neg (by rw [hb]; simp)]
    simp only [Int.toNat_natCast, hg2]
    rw [if_neg (by omega), if_neg (by omega)])
  have HLS := Lib.hid hls
  obtain ⟨a0, a1, a2, a3, a4, a5, a6⟩ := hak.cells
  obtain ⟨r0, r1, fr0, fr1⟩ := hak.rcells
  simp only [maxNum] at t1
  have hi8 : (i : Int) < 8 := by omega
  have HI := Lib.hid hi
  clear hak h hb hg hg2 hlen hls hz1 h8
  generalize s.last[i] = a at *
  clear hi
  obtain ⟨at', ae, ao⟩ := a
  simp only at q0 q1 q2 hlt
  unfold RV
  unfold RC at HAK a0 a1 a2 a3 a4 a5 a6 r0 r1 fr0 fr1 q0 q1 q2 ⊢
  have heb : (time == at') = false := beq_eq_false_iff_ne.2 (by omega)
  go_enter Tryz.func8, Tryz.ntmps8
  go_wp2_with fail
  generalize (w.alloc (.cells #[.int .i64 (i : Int), .int .i64 time, .int .i64 o.kind, .string ⟨o.topic.toArray⟩, .string ⟨o.group.toArray⟩, .int .i64 o.off, .slice A o.recs.length c] 40)).alloc (.cells #[.int .i64 0, .int .i64 0] 30) = W0 at *
  go_region_held3 (fun w' => w'.cell? ⟨w.heap.size, 0, none⟩ = some (.int .i64 (i : Int)) ∧ w'.cell? ⟨q, 1 + i * 3, none⟩ = some (.int .i64 at') ∧ w'.cell? ⟨q, 1 + i * 3 + 1, none⟩ = some (.int .i64 ae) ∧ w'.cell? ⟨q, 1 + i * 3 + 2, none⟩ = some (.int .i64 ao)) (first | exact ⟨a0, q0, q1, q2⟩ | go_keep) (fail)
  have hb1 : Below W0.heap.size W0 (W0.alloc (.cells #[.int .i64 at', .int .i64 ae, .int .i64 ao] 32)).drew := below_drewN (op_below _ _) 1
  have hl1 : Blk (W0.alloc (.cells #[.int .i64 at', .int .i64 ae, .int .i64 ao] 32)).drew W0.heap.size 32 #[.int .i64 at', .int .i64 ae, .int .i64 ao] := Blk.new _ _ _
  have HAK1 := Lib.hid (HAK.out.later hb1)
  generalize (W0.alloc (.cells #[.int .i64 at', .int .i64 ae, .int .i64 ao] 32)).drew = W1 at *
  clear a0 a1 a2 a3 a4 a5 a6 r0 r1 fr0 fr1 q0 q1 q2
  obtain ⟨a0, a1, a2, a3, a4, a5, a6⟩ := AK.cells HAK1.out
  obtain ⟨r0, r1, fr0, fr1⟩ := AK.rcells HAK1.out
  have l0 := hl1.cell 0
  have l1 := hl1.cell 1
  have l2 := hl1.cell 2
  simp only [List.getElem?_toArray, List.getElem?_cons_zero, List.getElem?_cons_succ] at l0 l1 l2
  have HB1 := Lib.hid (And.intro hb1 hl1)
  clear hb1 hl1
  go_wp2_with fail

  have hzb := (Tk.bound HZ.out).later HAK1.out.below
  have HDO := Lib.hid (rdoes_any W1 _ q s o X A c hzb HGS.out.L (HLS.out.after HAK1.out.below) hl)
  refine HDO.out.mono ?_
  rintro e w2 ⟨v2, rfl, hps, hd2⟩
  have hreq2 := HAK1.out.req.ch hd2.2 (fun h => by have := h.2; omega)
  have hres2 := HAK1.out.res.ch hd2.2 (fun h => by have := h.2; omega)
  have HD2 := Lib.hid (And.intro hd2 hps)
  clear a0 a1 a2 a3 a4 a5 a6 r0 r1 fr0 fr1 l0 l1 l2 hps hd2 hzb
  have a0 := hreq2.cell 0
  have a1 := hreq2.cell 1
  have r0 := hres2.cell 0
  have r1 := hres2.cell 1
  have fr0 := hres2.frozen 0
  have fr1 := hres2.frozen 1
  (try unfold RC at a0 a1)
  simp only [List.getElem?_toArray, List.getElem?_cons_zero, List.getElem?_cons_succ] at r0 r1 a0 a1
  have HB2 := Lib.hid (And.intro hreq2 hres2)
  clear hreq2 hres2
  generalize he1 : (doesS s.L o).1.1 = ke at *
  generalize he2 : (doesS s.L o).1.2 = ko at *
  have HE12 := Lib.hid (And.intro he1 he2)
  clear he1 he2
  go_wp2_with fail
  have hb3 := op_below w2 (.cells #[.int .i64 ke, .int .i64 ko] 30)
  have hv3 : Blk (w2.alloc (.cells #[.int .i64 ke, .int .i64 ko] 30)) w2.heap.size 30 #[.int .i64 ke, .int .i64 ko] := Blk.new _ _ _
  generalize w2.alloc (.cells #[.int .i64 ke, .int .i64 ko] 30) = W3 at hb3 hv3 ⊢
  have hreq3 := HB2.out.1.below hb3 HB2.out.1.lt
  have hres3 := HB2.out.2.below hb3 HB2.out.2.lt
  have hz3 := HD2.out.1.1.later hb3
  obtain ⟨u0, u1, u2, q0, q1, q2, fq0, fq1, fq2⟩ : ∃ u0 u1 u2, W3.cell? ⟨q, 1 + i * 3, none⟩ = some (.int .i64 u0) ∧ W3.cell? ⟨q, 1 + i * 3 + 1, none⟩ = some (.int .i64 u1) ∧ W3.cell? ⟨q, 1 + i * 3 + 2, none⟩ = some (.int .i64 u2) ∧ W3.frozen? ⟨q, 1 + i * 3, none⟩ = false ∧ W3.frozen? ⟨q, 1 + i * 3 + 1, none⟩ = false ∧ W3.frozen? ⟨q, 1 + i * 3 + 2, none⟩ = false := by
    obtain ⟨⟨h1, h2, h3⟩, h4, h5, h6⟩ := tk_cellA hz3 HI.out
    exact ⟨_, _, _, h1, h2, h3, h4, h5, h6⟩
  clear a0 a1 r0 r1 fr0 fr1
  have a0 := hreq3.cell 0
  have a1 := hreq3.cell 1
  have m0 := hv3.cell 0
  have m1 := hv3.cell 1
  (try unfold RC at a0 a1)
  simp only [List.getElem?_toArray, List.getElem?_cons_zero, List.getElem?_cons_succ] at a0 a1 m0 m1
  have HB3 := Lib.hid (And.intro hreq3 (And.intro hres3 (And.intro hb3 hv3)))
  have HZ3 := Lib.hid hz3
  clear hreq3 hres3 hb3 hv3 hz3
  go_region_law (fail)
  all_goals
    have hpw : q < w.heap.size := by
      obtain ⟨l', lv', _, h'⟩ := HZ.out
      exact h'.blk.lt
    have hz4 := tk_last HZ3.out HI.out ⟨time, ke, ko⟩
    have c4 := Al.three_ch W3 q (1 + i * 3) (1 + i * 3 + 1) (1 + i * 3 + 2) (.int .i64 time) (.int .i64 ke) (.int .i64 ko)
    generalize ((W3.setCell ⟨q, 1 + i * 3, none⟩ (.int .i64 time)).setCell ⟨q, 1 + i * 3 + 1, none⟩ (.int .i64 ke)).setCell ⟨q, 1 + i * 3 + 2, none⟩ (.int .i64 ko) = W4 at hz4 c4 ⊢
    have hw2 := HAK1.out.below.size
    have hw3 := HD2.out.1.2.size
    have hv4 := HB3.out.2.2.2.ch c4 (by omega)
    have hres4 := HB3.out.2.1.ch c4 (by omega)
    clear a0 a1 m0 m1 q0 q1 q2 fq0 fq1 fq2
    have hz4' := hz4.later (below_drewN (Below.refl _ W4) 1)
    have c4' := Al.ch_drew c4
    have hv4' : Blk W4.drew _ _ _ := hv4
    have hres4' : Blk W4.drew _ _ _ := hres4
    change Tk W4.drew _ _ _ at hz4'
    clear hz4 c4 hv4 hres4
    generalize W4.drew = W5 at hz4' c4' hv4' hres4' ⊢
    have m0 := hv4'.cell 0
    have m1 := hv4'.cell 1
    have r0 := hres4'.cell 0
    have r1 := hres4'.cell 1
    have fr0 := hres4'.frozen 0
    have fr1 := hres4'.frozen 1
    simp only [List.getElem?_toArray, List.getElem?_cons_zero, List.getElem?_cons_succ] at m0 m1 r0 r1
    have H4 := Lib.hid (And.intro hz4' (And.intro c4' hres4'))
    have HPW := Lib.hid hpw
    clear hz4' c4' hv4' hres4' hpw hw2 hw3
    go_wp2_with fail
    refine bodyPost_ret (results_row_tmp2 rfl _ _ (w.heap.size + 1) 30 #[.int .i64 ke, .int .i64 ko] (0, 0) _ rfl (Xr.blk2 H4.out.2.2 _ _) Tryz.underlying30 rfl Ai.size_res) rfl ?_
    exact rasked_of (by rw [HAP.out, ← HE12.out.1, ← HE12.out.2]) (rapply_ps HPW.out HAK1.out HD2.out.2 HB3.out.2.2.1 H4.out.2.1) (rapply_fin HZ.out HAK1.out HD2.out.1.2 HB3.out.2.2.1 H4.out.2.1 H4.out.1)
theorem rapply_any (w : World) (S : Nat → Prop) (q : Nat) (s : St) (client time : Int) (o : O) (X : Nat → Prop) (A : Option Addr) (c : Nat) (h : Tk w S q s) (hg : GoodS s) (hls : Ls w X (.slice A o.recs.length c) o.recs) (hl : o.recs.length ≤ 140737488355328) :
    Calls Tryz.prog 8 #[.pointer (some ⟨q, 0, none⟩), RV client time o A c] w (RAsked S q s client time o w) := by
  by_cases hb : badArg client time = true
  · exact rapply_bad w S q s client time o A c hb h
  · have hb := Bool.eq_false_iff.2 hb
    by_cases hle : time ≤ (s.last.getD client.toNat An.zero).time
    · exact rapply_old w S q s client time o A c hb hle h hg.eight
    · exact rapply_new w S q s client time o X A c hb (by omega) h hg hls hl
end Go.Proofs.YtkoedonllfmaaaaGreat.Xy

/-
  Contracts of the program's topics: putNum, putBytes.
-/
namespace Go.Proofs.YtkoedonllfmaaaaGreat.Bp
set_option linter.unusedSimpArgs false
open Go Go.RowKit Ck Kw Ca Cb Ga Pk
attribute [local go_sem ↓] Go.wp_at_zero Go.wp_at_succ
set_option linter.unusedVariables false

theorem none_sl (w : World) : Sl w (fun _ => False) 1 (.slice none 0 0) 0 (BVs []) := Sl.of_own (World.ownsRow_nil w 0 5 1) (fun _ _ _ h => h)

set_option maxRecDepth 100000 in
set_option maxHeartbeats 1000000 in
theorem pnum_any (B : Nat) (v : Value) (n : Nat) (b : List UInt8) (w : World) (hown : w.ownsRow B 5 1 v b.length (BVs b)) (hB : B ≤ w.heap.size) (hl : b.length ≤ 140737488355318) (hn : n < 9223372036854775808) :
    Calls Tryz.prog 60 #[v, .int .i64 (n : Int)] w fun e w' => Onto w B 5 v (b ++ Cm.enc n) e w' := by
  have hlen := Cm.enc_len n
  obtain ⟨i0, hi0, hz0, hz1, hz2⟩ := info_parts Cb.info_u8
  have hw := wrap_u64' n (by omega)
  have HP := Lib.hid (putnum_any (fun _ => False) (.slice none 0 0) 0 [] n w (none_sl w) (by omega) (by omega))
  obtain ⟨A0, c0, rfl⟩ := own_shape hown
  have HO := Lib.hid hown
  clear hown
  go_enter Tryz.func60, Tryz.ntmps60
  go_wp2_with fail
  refine HP.out.mono ?_
  rintro e w1 ⟨v1, rfl, ho1, hb1⟩
  simp only [List.nil_append] at ho1
  obtain ⟨A1, c1, rfl⟩ := own_shape ho1
  have HO1 := Lib.hid ho1
  have HB1 := Lib.hid hb1
  clear ho1 hb1
  go_wp2_with (at_builtin; refine wpList_append_sl _ rfl (.tmp 5) (.tmp 8) _ rfl B 5 i0 _ 1 1 Tryz.underlying49 hi0 hz0 hz1 hz2 rfl (by omega) _ b.length (BVs b) rfl (own_below HO.out HB1.out) (fun _ => False) _ (Cm.enc n).length (BVs (Cm.enc n)) rfl (Sl.of_own HO1.out (fun _ _ _ h => h)) (BVs_one _) (by simp only [maxLen]; omega) (by omega) (Nat.le_trans hB HB1.out.size) ?_; intro v2 w2 happ)
  go_ret
  exact Onto.of HB1.out happ

set_option maxRecDepth 100000 in
set_option maxHeartbeats 1000000 in
theorem pbytes_any (B : Nat) (X : Nat → Prop) (v vx : Value) (k : Nat) (b x : List UInt8) (w : World) (hown : w.ownsRow B 5 1 v b.length (BVs b)) (hB : B ≤ w.heap.size) (hx : Sl w X 1 vx k (BVs x)) (hl : b.length ≤ 140737488355300) (hk : b.length + x.length ≤ 140737488355300) :
    Calls Tryz.prog 61 #[v, vx] w fun e w' => Onto w B 5 v (b ++ Cm.encB x) e w' := by
  have hkl : k = x.length := by obtain ⟨A, c, _, h, _⟩ := hx; rw [BVs_len] at h; omega
  obtain ⟨Ax, cx, rfl⟩ : ∃ A c, vx = .slice A k c := by obtain ⟨A, c, h, _⟩ := hx; exact ⟨A, c, h⟩
  subst hkl
  have hlen := Cm.enc_len x.length
  have HBL := Lib.hid (Cm.encB_len x)
  obtain ⟨i0, hi0, hz0, hz1, hz2⟩ := info_parts Cb.info_u8
  have HP := Lib.hid (putbytes_any X (.slice none 0 0) (.slice Ax x.length cx) 0 x.length [] x w (Sl.nil w X 1) hx (by omega) (by omega))
  obtain ⟨A0, c0, rfl⟩ := own_shape hown
  have HO := Lib.hid hown
  clear hown
  go_enter Tryz.func61, Tryz.ntmps61
  go_wp2_with fail
  refine HP.out.mono ?_
  rintro e w1 ⟨v1, rfl, ho1, hb1⟩
  simp only [List.nil_append] at ho1
  obtain ⟨A1, c1, rfl⟩ := own_shape ho1
  have HO1 := Lib.hid ho1
  have HB1 := Lib.hid hb1
  clear ho1 hb1
  go_wp2_with (at_builtin; refine wpList_append_sl _ rfl (.tmp 5) (.tmp 7) _ rfl B 5 i0 _ 1 1 Tryz.underlying49 hi0 hz0 hz1 hz2 rfl (by omega) _ b.length (BVs b) rfl (own_below HO.out HB1.out) (fun _ => False) _ (Cm.encB x).length (BVs (Cm.encB x)) rfl (Sl.of_own HO1.out (fun _ _ _ h => h)) (BVs_one _) (by have := HBL.out; simp only [maxLen]; omega) (by have := HBL.out; omega) (Nat.le_trans hB HB1.out.size) ?_; intro v2 w2 happ)
  go_ret
  exact Onto.of HB1.out happ
end Go.Proofs.YtkoedonllfmaaaaGreat.Bp

/-
  Layer 7: the bytes of a placed record, both sides.
-/
namespace Go.Proofs.YtkoedonllfmaaaaGreat.Xo
set_option linter.unusedSimpArgs false
open Go Go.RowKit Ck Cd Kw Ga Kf Kx Pm Pe Tm Tn Tq Aa Bp Xj
attribute [local go_sem ↓] Go.wp_at_zero Go.wp_at_succ
set_option linter.unusedVariables false
set_option maxRecDepth 100000

theorem rput_any (X : Nat → Prop) (v : Value) (n k : Nat) (b : List UInt8) (w : World) (hv : Sl w X 1 v n (BVs b)) (hn : n ≤ 140737488355318) (hk : k < 9223372036854775808) :
    Calls Tryz.prog 64 #[v, .int .i64 (k : Int)] w fun e w' => Made w 5 (b ++ Cm.enc k) e w' := by
  have HR := Lib.hid (rputnum_any X v n b k w hv hn (by omega))
  go_enter Tryz.func64, Tryz.ntmps64
  go_wp2_with fail
  refine HR.out.mono ?_
  rintro e w1 ⟨v1, rfl, ho, hb⟩
  have HO := Lib.hid ho
  have HB := Lib.hid hb
  clear ho hb
  go_wp2_with fail
  go_ret
  exact ⟨_, rfl, HO.out, HB.out⟩
end Go.Proofs.YtkoedonllfmaaaaGreat.Xo

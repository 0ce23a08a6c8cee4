import Derived.Deep.RegionHeld3
import Derived.BigQuiet
import Derived.RangeFuncNested
import Derived.RangeFuncBound
import Derived.RangeFuncCalls
import Derived.RangeFuncLeaves
import Derived.RangeFuncWrites
import Derived.Test.YtmhmnkpaijoaaaaGreatS07
namespace Go.Proofs.YtmhmnkpaijoaaaaGreat.Jt
set_option linter.unusedSimpArgs false
open Go Go.RowKit Ck Kf Kw Ga Pm Pe Ph Pk Py Qb Qs Qg Lk Ld Jm Ja Jb Jc Jf Jk Js
attribute [local go_sem ↓] Go.wp_at_zero Go.wp_at_succ
set_option linter.unusedVariables false
set_option maxRecDepth 100000
structure OR (B : Nat) (A : Option Addr) (c : Nat) (recs : List Tx) (vals : List Value) (W : World) : Prop where
  row : W.ownsRow B 195 1 (.slice A recs.length c) recs.length vals
  each : ∀ i (hi : i < recs.length), ∃ u, vals[i]? = some u /\ W.ownsRow B 5 1 u recs[i].length (BVs recs[i])
section
variable {B : Nat} {A : Option Addr} {c : Nat} {recs : List Tx} {vals : List Value} {W W' : World}
theorem OR.later (h : OR B A c recs vals W) (b : Below W.heap.size W W') : OR B A c recs vals W' := ⟨own_below h.row b, fun i hi => by
  obtain ⟨u, hu, ho⟩ := h.each i hi
  exact ⟨u, hu, own_below ho b⟩⟩
theorem OR.base {B' : Nat} (h : OR B A c recs vals W) (hb : B' <= B) : OR B' A c recs vals W := ⟨own_base h.row hb, fun i hi => by
  obtain ⟨u, hu, ho⟩ := h.each i hi
  exact ⟨u, hu, own_base ho hb⟩⟩
theorem OR.ch {S : Nat -> Prop} (h : OR B A c recs vals W) (k : Ch S W W') (hS : ∀ q, B <= q -> ¬ S q) : OR B A c recs vals W' := ⟨own_ch h.row k (fun g hg => hS g (h.row.lt g hg).1), fun i hi => by
  obtain ⟨u, hu, ho⟩ := h.each i hi
  exact ⟨u, hu, own_ch ho k (fun g hg => hS g (ho.lt g hg).1)⟩⟩
theorem OR.put {g j : Nat} {u : Value} {t : TypeId} {n m cc : Nat} {xs : List Value} (h : OR B A c recs vals W) (hr : W.ownsRow B t m (.slice (some ⟨g, 0, none⟩) n cc) n xs) (h1 : t ≠ 195) (h2 : t ≠ 5) : OR B A c recs vals (W.setCell ⟨g, j, none⟩ u) := by
  have cg := (hr.stored j u).2
  have ne : ∀ {t' : TypeId} {v : Value} {k s : Nat} {ys : List Value}, W.ownsRow B t' s v k ys -> t ≠ t' -> v.ownBlock = none \/ v.ownBlock ≠ some g := fun {t' v k s ys} ho ht => by
    rcases ho.2 with ⟨rfl, _⟩ | ⟨g2, cap, cur, rfl, _, hg2, _⟩
    . exact .inl rfl
    . right
      simp only [Value.ownBlock, ne_eq, Option.some.injEq]
      rintro rfl
      rcases hr.2 with ⟨hn, _⟩ | ⟨g3, cap3, cur3, hv, _, hg3, _⟩
      . simp at hn
      . simp only [Value.slice.injEq, Option.some.injEq, Addr.mk.injEq, and_true] at hv
        obtain ⟨rfl, _⟩ := hv
        rw [hg3] at hg2
        simp only [Option.some.injEq, Obj.cells.injEq] at hg2
        exact ht hg2.2.1
  exact ⟨h.row.kept cg (ne h.row h1), fun i hi => by
    obtain ⟨w1, hu, ho⟩ := h.each i hi
    exact ⟨w1, hu, ho.kept cg (ne ho h2)⟩⟩
theorem OR.ls (h : OR B A c recs vals W) : Ls W (fun q => q < B) (.slice A recs.length c) recs :=
  ⟨vals, Sl.of_own h.row (fun q h1 _ h2 => by omega), fun i hi => by
    obtain ⟨u, hu, ho⟩ := h.each i hi
    exact ⟨u, hu, Sl.of_own ho (fun q h1 _ h2 => by omega)⟩⟩
end
def OwnQ (w : World) (q : Q) (e : Ending) (w' : World) : Prop := ∃ A c vals, e = .returned (QV q A c) /\ OR w.heap.size A c q.o.recs vals w' /\ Below w.heap.size w w'
theorem fin2 {w w2 w3 : World} {q : Q} {A : Option Addr} {c : Nat} {vals : List Value} (h : OR (w.heap.size + 2) A c q.o.recs vals w2) (b : Below w.heap.size w w2) (hc : Ch (fun k => w.heap.size <= k /\ k < w.heap.size + 2) w2 w3) :
    OwnQ w q (.returned (QV q A c)) w3 :=
  ⟨A, c, vals, rfl, (h.ch hc (fun q hq hk => by omega)).base (by omega), b.trans (hc.below (fun k hk h => by omega) b.size)⟩
set_option maxHeartbeats 2000000 in
theorem qown_any (w : World) (q : Q) (X : Nat -> Prop) (A : Option Addr) (c : Nat) (hls : Ls w X (.slice A q.o.recs.length c) q.o.recs) (hlo : far q.o 140737488351232) :
    Calls Tryz.prog 113 #[QV q A c] w (OwnQ w q) := by
  have b1 := op_below w (.cells (QC q A c) 111)
  have b2 : Below w.heap.size w ((w.alloc (.cells (QC q A c) 111)).alloc (.cells Z7 111)) := b1.alloc b1.size _
  have k0 : QB ((w.alloc (.cells (QC q A c) 111)).alloc (.cells Z7 111)) w.heap.size q A c := Blk.alloc (Blk.new w _ _) _
  have k1 : Blk ((w.alloc (.cells (QC q A c) 111)).alloc (.cells Z7 111)) (w.heap.size + 1) 111 Z7 := Blk.new_at (by simp) rfl
  have hz : ((w.alloc (.cells (QC q A c) 111)).alloc (.cells Z7 111)).heap.size = w.heap.size + 2 := by simp
  have HZ := Lib.hid hz
  have HC := Lib.hid (Qg.clone_any _ q.o X A c (hls.after b2) hlo)
  obtain ⟨a0, a1, a2, a3, a4, a5, a6⟩ := k0.cells
  have HB := Lib.hid b2
  have HK0 := Lib.hid k0
  have HK1 := Lib.hid k1
  clear b1 b2 k0 k1 hls hlo hz
  unfold QV
  unfold OV at HC
  unfold QC Z7 at HC HB HK0 HK1 HZ a0 a1 a2 a3 a4 a5 a6
  unfold QC
  go_enter Tryz.func113, Tryz.ntmps113
  go_wp2_with fail
  refine HC.out.mono ?_
  rintro e w2 ⟨A2, c2, vals, rfl, hcl⟩
  have HOR : Hid (OR (w.heap.size + 2) A2 c2 q.o.recs vals w2) := Lib.hid (by
    rw [<- HZ.out]
    exact ⟨hcl.row, fun i hi => hcl.mine i hi hi⟩)
  have hb2 := hcl.below
  have HB2 := Lib.hid (HB.out.trans (hb2.mono HB.out.size))
  have hq2 : Blk w2 w.heap.size 111 _ := Blk.below HK0.out hb2 (Blk.lt HK0.out)
  have hr2 : Blk w2 (w.heap.size + 1) 111 _ := Blk.below HK1.out hb2 (Blk.lt HK1.out)
  clear hcl hb2 a0 a1 a2 a3 a4 a5 a6
  obtain ⟨⟨a0, a1, a2, a3, a4, a5, a6⟩, ⟨f0, f1, f2, f3, f4, f5, f6⟩⟩ := Blk.cells7 hq2
  obtain ⟨⟨z0, z1, z2, z3, z4, z5, z6⟩, ⟨y0, y1, y2, y3, y4, y5, y6⟩⟩ := Blk.cells7 hr2
  have HQ2 := Lib.hid hq2
  have HR2 := Lib.hid hr2
  clear hq2 hr2
  unfold OV
  go_wp2_with fail
  refine bodyPost_ret (results_row1 rfl _ _ (w.heap.size + 1) 111 #[.int .i64 q.client, .int .i64 q.time, .int .i64 q.o.kind, .string ⟨q.o.topic.toArray⟩, .string ⟨q.o.group.toArray⟩, .int .i64 q.o.off, .slice A2 q.o.recs.length c2] (0, 0) _ rfl (blk7 (Blk.ch HR2.out (ch5 (Ch.refl _ _)) (by omega))) Tryz.underlying111 rfl size_req) rfl ?_
  exact fin2 HOR.out HB2.out (((ch5 (g := w.heap.size) (Ch.refl _ w2)).mono (fun k _ hk => by omega)).trans (ch7 (g := w.heap.size + 1) (Ch.refl _ _)) (fun k _ hk => by omega))
theorem flat_one {l : List Sd} {rs : List (Option Addr × Nat)} : ∀ u ∈ flat l rs, u.oneCell' = true := by
  intro u hu
  unfold flat at hu
  obtain ⟨p, _, hp⟩ := List.mem_flatMap.1 hu
  exact Jr.dc_one u hp
set_option maxHeartbeats 400000 in
theorem clone_sds (X : Nat -> Prop) (v : Value) (n : Nat) (xs : List Value) (w : World) (hv : Sl w X 9 v n xs) (h1 : ∀ u ∈ xs, u.oneCell' = true) (hn : n * 104 <= 140737488355328) :
    Calls Tryz.prog 112 #[v] w fun e w' => ∃ A c, e = .returned (.slice A n c) /\ w'.ownsRow w.heap.size 113 9 (.slice A n c) n xs /\ Below w.heap.size w w' := by
  obtain ⟨i0, hi0, hz0, hz1, hz2⟩ := Jr.info_parts9 Jr.info_sd
  have hv' := hv
  obtain ⟨A, c, rfl, hxl, -⟩ := hv'
  have heq := fun (W : World) => Lib.run_eql_slice_nil (P := Tryz.prog) W 39 113 A n c 0 0 Tryz.underlying39
  rcases A with _ | ad
  . obtain ⟨h0, rfl⟩ := hv.none_
    subst h0
    clear hv h1 hxl
    go_enter Tryz.func112, Tryz.ntmps112
    go_wp2
    go_ret
    exact ⟨_, _, rfl, World.ownsRow_nil _ _ _ _, Below.refl _ _⟩
  . have HX := Lib.hid hxl
    clear hxl
    go_enter Tryz.func112, Tryz.ntmps112
    go_wp2_with (at_builtin; refine wpList_append_sh _ rfl (.tmp 5) (.tmp 6) _ rfl w.heap.size 113 i0 _ 9 104 Tryz.underlying39 hi0 hz0 hz1 hz2 rfl (by omega) (.slice (some ⟨w.heap.size, 0, none⟩) 0 0) 0 [] rfl (World.ownsRow_made w #[] 0 (Nat.le_refl _) (by simp only [maxLen]; omega) rfl) X _ n xs rfl (hv.alloc _) h1 (by simp only [maxLen]; omega) (by omega) (by simp) ?_; intro A2 c2 w2 happ)
    go_ret
    obtain ⟨ho, hg, hr⟩ := happ
    rw [Nat.zero_add] at hr
    refine ⟨A2, c2, by simp, by simpa using ho, ?_⟩
    exact ((Below.refl _ _).alloc (Nat.le_refl _) _).grown hg (by simp) (by simp [Value.ownBlock])
structure CLB (w0 : World) (X : Nat -> Prop) (v : Value) (l : List Sd) (rs : List (Option Addr × Nat)) (k : Nat) (W : World) : Prop where
  below : Below w0.heap.size w0 W
  len : rs.length = l.length
  row : W.ownsRow w0.heap.size 113 9 v l.length (flat l rs)
  mine : ∀ i (hi : i < l.length), i < k -> ∃ r vals, rs[i]? = some r /\ OR w0.heap.size r.1 r.2 l[i].q.o.recs vals W
  rest : ∀ i (hi : i < l.length), k <= i -> ∃ r, rs[i]? = some r /\ Ls W (fun q => w0.heap.size <= q) (.slice r.1 l[i].q.o.recs.length r.2) l[i].q.o.recs
section
variable {w0 W W' : World} {X : Nat -> Prop} {v : Value} {l : List Sd} {rs : List (Option Addr × Nat)} {k : Nat}
theorem CLB.later (h : CLB w0 X v l rs k W) (hb : Below W.heap.size W W') : CLB w0 X v l rs k W' :=
  ⟨h.below.trans (hb.mono h.below.size), h.len, own_below h.row hb, fun i hi hk => by
    obtain ⟨r, vals, hr, ho⟩ := h.mine i hi hk
    exact ⟨r, vals, hr, ho.later hb⟩, fun i hi hk => by
    obtain ⟨r, hr, ho⟩ := h.rest i hi hk
    exact ⟨r, hr, ho.after hb⟩⟩
theorem flat_at {l : List Sd} {rs : List (Option Addr × Nat)} (h : rs.length = l.length) {i : Nat} (hi : i < l.length) {r : Option Addr × Nat} (hr : rs[i]? = some r) (j : Nat) (hj : j < 9) : (flat l rs)[i * 9 + j]? = ((DC l[i] r.1 r.2).toList)[j]? := by
  have hz : i < (l.zip rs).length := by rw [zip_len h]; exact hi
  have hr2 : i < rs.length := by omega
  have he : (l.zip rs)[i] = (l[i], r) := by
    rw [List.getElem_zip]
    have : rs[i] = r := by have := List.getElem?_eq_getElem hr2; rw [this] at hr; exact Option.some.inj hr
    rw [this]
  rw [flat, flat_get DC_len _ _ hz j hj, he]
theorem CLB.at_ (h : CLB w0 X v l rs k W) (hk : k < l.length) :
    ∃ g c r, v = .slice (some ⟨g, 0, none⟩) l.length c /\ rs[k]? = some r /\ (∀ j, j < 9 -> W.cell? ⟨g, k * 9 + j, none⟩ = ((DC l[k] r.1 r.2).toList)[j]?) /\ (∀ j, W.frozen? ⟨g, k * 9 + j, none⟩ = false) /\ Ls W (fun q => w0.heap.size <= q) (.slice r.1 l[k].q.o.recs.length r.2) l[k].q.o.recs := by
  obtain ⟨g, c, rfl, hb, hlt⟩ := h.row.form (by omega)
  obtain ⟨r, hr, hs⟩ := h.rest k hk (Nat.le_refl _)
  refine ⟨g, c, r, rfl, hr, fun j hj => ?_, fun j => h.row.frozenAt _, hs⟩
  rw [h.row.cellAt _ (by omega), flat_at h.len hk hr j hj]
theorem set_same {xs : List Value} {i : Nat} {u : Value} (h : xs[i]? = some u) : xs.set i u = xs := by
  apply List.ext_getElem?
  intro j
  by_cases hj : i = j
  . subst hj
    rw [List.getElem?_set_self (by
      by_cases hl : i < xs.length
      . exact hl
      . rw [List.getElem?_eq_none (by omega)] at h; exact absurd h (by simp)), h]
  . rw [List.getElem?_set_ne hj]
theorem zip_set : ∀ (l : List Sd) (rs : List (Option Addr × Nat)) (k : Nat) (hk : k < l.length) (r : Option Addr × Nat), l.zip (rs.set k r) = (l.zip rs).set k (l[k], r)
  | [], _, _, hk, _ => absurd hk (by simp)
  | y :: l, [], k, hk, r => by simp
  | y :: l, a :: rs, 0, hk, r => rfl
  | y :: l, a :: rs, k + 1, hk, r => by
    have hk' : k < l.length := by simpa using hk
    have := zip_set l rs k hk' r
    simp only [List.set_cons_succ, List.zip_cons_cons, this, List.getElem_cons_succ]
theorem own_un {B : Nat} {g n cc m n' s : Nat} {xs ys : List Value} {t t' : TypeId} {v : Value} (hr : W.ownsRow B t m (.slice (some ⟨g, 0, none⟩) n cc) n xs) (ho : W.ownsRow B t' s v n' ys) (ht : t ≠ t') : v.ownBlock ≠ some g := by
  rcases ho.2 with ⟨rfl, _⟩ | ⟨g2, cap, cur, rfl, _, hg2, _⟩
  . simp [Value.ownBlock]
  . simp only [Value.ownBlock, ne_eq, Option.some.injEq]
    rintro rfl
    rcases hr.2 with ⟨hn, _⟩ | ⟨g3, cap3, cur3, hv, _, hg3, _⟩
    . simp at hn
    . simp only [Value.slice.injEq, Option.some.injEq, Addr.mk.injEq, and_true] at hv
      obtain ⟨rfl, _⟩ := hv
      rw [hg3] at hg2
      simp only [Option.some.injEq, Obj.cells.injEq] at hg2
      exact ht hg2.2.1
theorem OR.chT {B : Nat} {A : Option Addr} {c : Nat} {recs : List Tx} {vals : List Value} {g n cc m : Nat} {xs : List Value} {t : TypeId} (h : OR B A c recs vals W) (kc : Ch (fun q => q = g) W W') (hr : W.ownsRow B t m (.slice (some ⟨g, 0, none⟩) n cc) n xs) (h1 : t ≠ 195) (h2 : t ≠ 5) : OR B A c recs vals W' :=
  ⟨own_ch h.row kc (fun q hq e => own_un hr h.row h1 (by rw [hq, e])), fun i hi => by
    obtain ⟨u, hu, ho⟩ := h.each i hi
    exact ⟨u, hu, own_ch ho kc (fun q hq e => own_un hr ho h2 (by rw [hq, e]))⟩⟩
theorem ch7at {a w : World} {g o : Nat} {x0 x1 x2 x3 x4 x5 x6 : Value} (h : Ch (fun k => k = g) a w) :
    Ch (fun k => k = g) a (((((((w.setCell ⟨g, o, none⟩ x0).setCell ⟨g, o + 1, none⟩ x1).setCell ⟨g, o + 2, none⟩ x2).setCell ⟨g, o + 3, none⟩ x3).setCell ⟨g, o + 4, none⟩ x4).setCell ⟨g, o + 5, none⟩ x5).setCell ⟨g, o + 6, none⟩ x6) :=
  ((((((h.setCell (fun _ => rfl) _).setCell (fun _ => rfl) _).setCell (fun _ => rfl) _).setCell (fun _ => rfl) _).setCell (fun _ => rfl) _).setCell (fun _ => rfl) _).setCell (fun _ => rfl) _
theorem CLB.step {g c c2 : Nat} {A2 : Option Addr} {vals : List Value} (h : CLB w0 X (.slice (some ⟨g, 0, none⟩) l.length c) l rs k W) (hk : k < l.length) (ho : OR w0.heap.size A2 c2 l[k].q.o.recs vals W) :
    CLB w0 X (.slice (some ⟨g, 0, none⟩) l.length c) l (rs.set k (A2, c2)) (k + 1) (((((((W.setCell ⟨g, k * 9, none⟩ (.int .i64 l[k].q.client)).setCell ⟨g, k * 9 + 1, none⟩ (.int .i64 l[k].q.time)).setCell ⟨g, k * 9 + 2, none⟩ (.int .i64 l[k].q.o.kind)).setCell ⟨g, k * 9 + 3, none⟩ (.string ⟨l[k].q.o.topic.toArray⟩)).setCell ⟨g, k * 9 + 4, none⟩ (.string ⟨l[k].q.o.group.toArray⟩)).setCell ⟨g, k * 9 + 5, none⟩ (.int .i64 l[k].q.o.off)).setCell ⟨g, k * 9 + 6, none⟩ (.slice A2 l[k].q.o.recs.length c2)) := by
  obtain ⟨r, hr, -⟩ := h.rest k hk (Nat.le_refl _)
  have f := fun j hj => flat_at h.len hk hr j hj
  have f0 := f 0 (by omega)
  rw [Nat.add_zero] at f0
  have s0 := (h.row.stored (k * 9) (.int .i64 l[k].q.client)).1
  rw [set_same f0] at s0
  have s1 := (s0.stored (k * 9 + 1) (.int .i64 l[k].q.time)).1
  rw [set_same (f 1 (by omega))] at s1
  have s2 := (s1.stored (k * 9 + 2) (.int .i64 l[k].q.o.kind)).1
  rw [set_same (f 2 (by omega))] at s2
  have s3 := (s2.stored (k * 9 + 3) (.string ⟨l[k].q.o.topic.toArray⟩)).1
  rw [set_same (f 3 (by omega))] at s3
  have s4 := (s3.stored (k * 9 + 4) (.string ⟨l[k].q.o.group.toArray⟩)).1
  rw [set_same (f 4 (by omega))] at s4
  have s5 := (s4.stored (k * 9 + 5) (.int .i64 l[k].q.o.off)).1
  rw [set_same (f 5 (by omega))] at s5
  have s6 := (s5.stored (k * 9 + 6) (.slice A2 l[k].q.o.recs.length c2)).1
  have hzl : k < (l.zip rs).length := by rw [zip_len h.len]; exact hk
  have hrk : rs[k]'(by have := h.len; omega) = r := by have := List.getElem?_eq_getElem (show k < rs.length by have := h.len; omega); rw [this] at hr; exact Option.some.inj hr
  have he : (flat l rs).set (k * 9 + 6) (.slice A2 l[k].q.o.recs.length c2) = flat l (rs.set k (A2, c2)) := by
    unfold flat
    rw [zip_set l rs k hk (A2, c2)]
    exact flat_set DC_len _ k hzl (l[k], (A2, c2)) 6 (by omega) _ (by rw [List.getElem_zip, hrk]; rfl)
  rw [he] at s6
  have kc : Ch (fun q => q = g) W _ := ch7at (o := k * 9) (x0 := .int .i64 l[k].q.client) (x1 := .int .i64 l[k].q.time) (x2 := .int .i64 l[k].q.o.kind) (x3 := .string ⟨l[k].q.o.topic.toArray⟩) (x4 := .string ⟨l[k].q.o.group.toArray⟩) (x5 := .int .i64 l[k].q.o.off) (x6 := .slice A2 l[k].q.o.recs.length c2) (Ch.refl _ W)
  have hgb : w0.heap.size <= g := by
    obtain ⟨g', c', hv, hb, _⟩ := h.row.form (by omega)
    simp only [Value.slice.injEq, Option.some.injEq, Addr.mk.injEq, and_true] at hv
    omega
  refine ⟨h.below.trans (kc.below (fun q hq e => by omega) h.below.size), by simpa using h.len, s6, fun i hi hik => ?_, fun i hi hik => ?_⟩
  . by_cases he : i = k
    . subst he
      exact ⟨_, vals, List.getElem?_set_self (by have := h.len; omega), ho.chT kc h.row (by decide) (by decide)⟩
    . obtain ⟨r', vs, hr', ho'⟩ := h.mine i hi (by omega)
      exact ⟨r', vs, by rw [List.getElem?_set_ne (fun q => he q.symm)]; exact hr', ho'.chT kc h.row (by decide) (by decide)⟩
  . obtain ⟨r', hr', hl'⟩ := h.rest i hi (by omega)
    exact ⟨r', by rw [List.getElem?_set_ne (by omega)]; exact hr', hl'.ch kc (fun q _ e => by show w0.heap.size <= q; omega)⟩
end
set_option maxHeartbeats 4000000 in
theorem cloneb_any (w : World) (X : Nat -> Prop) (A : Option Addr) (c : Nat) (l : List Sd) (h : BI w X (.slice A l.length c) l) (hf : ∀ y ∈ l, far y.q.o 140737488351232) (hl : l.length * 104 <= 140737488355328) :
    Calls Tryz.prog 93 #[.slice A l.length c] w fun e w' => ∃ A' c' rs, e = .returned (.slice A' l.length c') /\ CLB w X (.slice A' l.length c') l rs l.length w' := by
  obtain ⟨rs, hrl, hsl, heach⟩ := h
  have HSC := Lib.hid (clone_sds X _ _ _ w hsl flat_one hl)
  have HEA := Lib.hid heach
  have HRL := Lib.hid hrl
  have HF := Lib.hid hf
  have hln : l.length <= 140737488355328 := by omega
  clear hsl heach hrl hf hl
  go_enter Tryz.func93, Tryz.ntmps93
  go_wp2_with fail
  refine HSC.out.mono ?_
  rintro e w1 ⟨A1, c1, rfl, ho1, hb1⟩
  have HC1 : Hid (CLB w X (.slice A1 l.length c1) l rs 0 w1) := Lib.hid ⟨hb1, HRL.out, ho1, fun i hi hk => absurd hk (by omega), fun i hi _ => by
    obtain ⟨r, hr, hls⟩ := HEA.out i hi
    exact ⟨r, hr, (hls.old' (Nat.le_refl _)).after hb1⟩⟩
  clear ho1 hb1 HSC
  go_wp2_with fail
  go_loopw [8] (fun i wr => ∃ (k : Nat) (rs : List (Option Addr × Nat)), k <= l.length /\ i = .int .i64 k /\ CLB w X (.slice A1 l.length c1) l rs k wr) (fun i _ => l.length - (intOf i).toNat)
  case atStart => exact ⟨0, rs, Nat.zero_le _, rfl, HC1.out⟩
  case round =>
    obtain ⟨k, rs2, hk, rfl, hcl⟩ := hrel
    clear HC1
    by_cases hlt : k < l.length
    . have HCL := Lib.hid hcl
      obtain ⟨g, cc, r, hv, hr, hcell, hfz, hls⟩ := hcl.at_ hlt
      simp only [Value.slice.injEq, true_and] at hv
      obtain ⟨rfl, rfl⟩ := hv
      obtain ⟨Ar, cr⟩ := r
      have hfar := HF.out _ (List.getElem_mem hlt)
      have a0 := hcell 0 (by omega)
      have a1 := hcell 1 (by omega)
      have a2 := hcell 2 (by omega)
      have a3 := hcell 3 (by omega)
      have a4 := hcell 4 (by omega)
      have a5 := hcell 5 (by omega)
      have a6 := hcell 6 (by omega)
      rw [Nat.add_zero] at a0
      unfold DC at a0 a1 a2 a3 a4 a5 a6
      simp only [List.getElem?_toArray, List.getElem?_cons_zero, List.getElem?_cons_succ] at a0 a1 a2 a3 a4 a5 a6
      have HCQ := Lib.hid (qown_any wr l[k].q _ Ar cr hls hfar)
      have HR := Lib.hid hr
      have HFZ := Lib.hid hfz
      have hkp : (0 : Int) <= (k : Int) := by omega
      have hkl : (k : Int) < (l.length : Int) := by omega
      clear hcl hr hcell hfz hls hfar
      unfold QV QC at HCQ
      go_wp2_with fail
      refine HCQ.out.mono ?_
      rintro e w2 ⟨A2, c2, vals, rfl, hor, hb2⟩
      have HC2 := Lib.hid (HCL.out.later hb2)
      have HN := Lib.hid (HC2.out.step hlt (hor.base HCL.out.below.size))
      obtain ⟨g', c', r', hv, hr, hcell, hfz, -⟩ := HC2.out.at_ hlt
      simp only [Value.slice.injEq, Option.some.injEq, Addr.mk.injEq, and_true, true_and] at hv
      obtain ⟨rfl, rfl⟩ := hv
      clear a0 a1 a2 a3 a4 a5 a6 hor hb2 HCQ
      have a0 := hcell 0 (by omega)
      have a1 := hcell 1 (by omega)
      have a2 := hcell 2 (by omega)
      have a3 := hcell 3 (by omega)
      have a4 := hcell 4 (by omega)
      have a5 := hcell 5 (by omega)
      have a6 := hcell 6 (by omega)
      have f0 := hfz 0
      have f1 := hfz 1
      have f2 := hfz 2
      have f3 := hfz 3
      have f4 := hfz 4
      have f5 := hfz 5
      have f6 := hfz 6
      rw [Nat.add_zero] at a0 f0
      unfold DC at a0 a1 a2 a3 a4 a5 a6
      simp only [List.getElem?_toArray, List.getElem?_cons_zero, List.getElem?_cons_succ] at a0 a1 a2 a3 a4 a5 a6
      clear hr hcell hfz
      unfold QV QC
      go_wp2_with fail
      go_roundw
      case rel => exact ⟨k + 1, _, by omega, by go_num, HN.out⟩
      case measure => simp [intOf]; omega
    . have hke : k = l.length := by omega
      subst hke
      have HCL := Lib.hid hcl
      clear hcl
      go_wp2_with fail
      go_ret
      exact ⟨_, _, rs2, rfl, HCL.out⟩
end Go.Proofs.YtmhmnkpaijoaaaaGreat.Jt
namespace Go.Proofs.YtmhmnkpaijoaaaaGreat.Pub
set_option linter.unusedSimpArgs false
open Go Go.RowKit Ck Cf Kw Ga Kf Pm Pe Pg Ik Lk Jm Ja Jb Jf Jg Jl Jn Kc Kj Pra Prb Prc Prd Pre Prf Prn Prr Prx Psg Psh Psx Pta Ptd Pte Pth Pua Ic Qb Jt
attribute [local go_sem ↓] Go.wp_at_zero Go.wp_at_succ
set_option linter.unusedVariables false
set_option maxRecDepth 100000
theorem clb_bi {w0 W : World} {X : Nat -> Prop} {v : Value} {a : List Sd} {rs : List (Option Addr × Nat)} (h : CLB w0 X v a rs a.length W) : BI W (fun q => q < w0.heap.size) v a :=
  ⟨rs, h.len, Sl.of_own h.row (fun q h1 _ h2 => by omega), fun i hi => by
    obtain ⟨r, vals, hr, ho⟩ := h.mine i hi hi
    exact ⟨r, hr, ho.ls⟩⟩
structure OwnP (w : World) (p : Pd) (r : Pl2) (w' : World) : Prop where
  sg : w'.ownsRow w.heap.size 36 2 (.slice r.1.1 p.signs.length r.1.2) p.signs.length (p.signs.flatMap SC)
  bi : BI w' (fun k => k < w.heap.size) (.slice r.2.1 p.batch.length r.2.2) p.batch
  below : Below w.heap.size w w'
theorem OwnP.pi {w w' : World} {p : Pd} {r : Pl2} (h : OwnP w p r w') : PI w' (fun k => k < w.heap.size) p r :=
  ⟨Sl.of_own h.sg (fun k h1 _ h2 => by omega), h.bi⟩
theorem OwnP.frozen {w w' : World} {p : Pd} {r : Pl2} (h : OwnP w p r w') (ad : Addr) (ha : r.1.1 = some ad) : w'.frozen? ad = false := by
  have hs := h.sg
  rw [ha] at hs
  rcases hs.2 with ⟨hn, _⟩ | ⟨g, cap, cur, hv, _⟩
  . cases hn
  . have e : ad = ⟨g, 0, none⟩ := by simp only [Value.slice.injEq, Option.some.injEq] at hv; exact hv.1
    rw [e] at hs ⊢
    exact hs.frozenAt 0
theorem OwnP.later {w w' w'' : World} {p : Pd} {r : Pl2} (h : OwnP w p r w') (b : Below w'.heap.size w' w'') : OwnP w p r w'' :=
  ⟨own_below h.sg b, h.bi.after b, h.below.trans (b.mono h.below.size)⟩
theorem OwnP.base {w w1 w' : World} {p : Pd} {r : Pl2} (h : OwnP w1 p r w') (b : Below w.heap.size w w1) : OwnP w p r w' :=
  ⟨own_base h.sg b.size, h.bi.weaken (fun k _ hk => by show k < w1.heap.size; have := b.size; have hk' : k < w.heap.size := hk; omega), b.trans (h.below.mono b.size)⟩
theorem OwnP.turn {w w1 w' w'' : World} {T : Nat -> Prop} {p : Pd} {r : Pl2} (h : OwnP w1 p r w') (b : Below w.heap.size w w1) (c : Ch T w' w'') (h1 : ∀ k, T k -> k < w1.heap.size) (h2 : ∀ k, T k -> w.heap.size <= k) : OwnP w p r w'' :=
  ⟨own_base (own_ch h.sg c (fun m hm e => by have := (h.sg.lt m hm).1; have := h1 m e; omega)) b.size, (h.bi.ch c (fun k _ hk => h1 k hk)).weaken (fun k _ hk => by show k < w1.heap.size; have := b.size; have hk' : k < w.heap.size := hk; omega), (b.trans (h.below.mono b.size)).trans (c.below (fun k hk e => by have := h2 k e; omega) (b.trans (h.below.mono b.size)).size)⟩
theorem sc_one {l : List (Int × Int)} : ∀ u ∈ l.flatMap SC, u.oneCell' = true := by
  intro u hu
  obtain ⟨x, -, hx⟩ := List.mem_flatMap.1 hu
  simp only [SC, List.mem_cons, List.not_mem_nil, or_false] at hx
  rcases hx with rfl | rfl <;> rfl
abbrev Z7p : Array Value := #[.int .i64 0, .int .i64 0, .int .i64 0, .int .i64 0, .int .i64 0, .slice none 0 0, .slice none 0 0]
set_option maxHeartbeats 4000000 in
theorem pclone_any (w : World) (X : Nat -> Prop) (p : Pd) (r : Pl2) (h : PI w X p r) (hv : okV p) :
    Calls Tryz.prog 59 #[.agg (PC p r)] w fun e w' => ∃ r', e = .returned (.agg (PC p r')) /\ OwnP w p r' w' := by
  obtain ⟨b2, k0, k1, hz⟩ : Below w.heap.size w ((w.alloc (.cells (PC p r) 41)).alloc (.cells Z7p 41)) /\ Blk ((w.alloc (.cells (PC p r) 41)).alloc (.cells Z7p 41)) w.heap.size 41 (PC p r) /\ Blk ((w.alloc (.cells (PC p r) 41)).alloc (.cells Z7p 41)) (w.heap.size + 1) 41 Z7p /\ ((w.alloc (.cells (PC p r) 41)).alloc (.cells Z7p 41)).heap.size = w.heap.size + 2 :=
    ⟨((Below.refl _ w).alloc (Nat.le_refl _) _).alloc (by simp) _, Blk.alloc (Blk.new w _ _) _, Blk.new_at (by simp) rfl, by simp⟩
  have HPI := Lib.hid ((pi_old h (Nat.le_refl _)).after b2)
  have HV := Lib.hid hv
  have HB := Lib.hid b2
  have HK0 := Lib.hid k0
  have HK1 := Lib.hid k1
  have HZ := Lib.hid hz
  clear b2 k0 k1 h hv hz
  unfold PC Z7p at HPI HB HK0 HK1 HZ
  unfold PC
  go_enter Tryz.func59, Tryz.ntmps59
  go_wp2_with fail
  generalize (w.alloc (.cells #[.int .i64 p.view, .int .i64 p.seq, .int .i64 p.dig, .int .i64 p.first.1, .int .i64 p.first.2, .slice r.1.1 p.signs.length r.1.2, .slice r.2.1 p.batch.length r.2.2] 41)).alloc (.cells #[.int .i64 0, .int .i64 0, .int .i64 0, .int .i64 0, .int .i64 0, .slice none 0 0, .slice none 0 0] 41) = w0 at *
  refine (clone_signs _ _ _ _ w0 HPI.out.signs sc_one (by have := HV.out.2.1; omega)).mono ?_
  rintro e w1 ⟨A1, c1, rfl, ho1, hb1⟩
  have hk0 := HK0.out.below hb1 HK0.out.lt
  have hk1 := HK1.out.below hb1 HK1.out.lt
  have HPB := Lib.hid (HPI.out.batch.after hb1)
  have HB1 := Lib.hid (HB.out.trans (hb1.mono HB.out.size))
  have HO1 : Hid (w1.ownsRow (w.heap.size + 2) 36 2 (.slice A1 p.signs.length c1) p.signs.length (p.signs.flatMap SC)) := Lib.hid (HZ.out ▸ ho1)
  have k5 : w1.cell? ⟨w.heap.size, 5, none⟩ = some (.slice r.1.1 p.signs.length r.1.2) := hk0.cell 5
  have f5 := hk0.frozen 5
  have hset := hk0.set_ 5 (.slice A1 p.signs.length c1)
  simp only [List.setIfInBounds_toArray, List.set_cons_succ, List.set_cons_zero] at hset
  have HS1 := Lib.hid hset
  have HK1' := Lib.hid (hk1.ch (Ch.setCell (Ch.refl (fun k => k = w.heap.size) w1) (p := ⟨w.heap.size, 5, none⟩) (fun _ => rfl) (.slice A1 p.signs.length c1)) (by omega))
  have HC1 : Hid (Ch (fun k => k = w.heap.size) w1 (w1.setCell ⟨w.heap.size, 5, none⟩ (.slice A1 p.signs.length c1))) := Lib.hid (Ch.setCell (Ch.refl (fun k => k = w.heap.size) w1) (p := ⟨w.heap.size, 5, none⟩) (fun _ => rfl) (.slice A1 p.signs.length c1))
  have k6 := hset.cell 6
  simp only [List.getElem?_toArray, List.getElem?_cons_zero, List.getElem?_cons_succ] at k6
  clear ho1 hb1 hk0 hk1 HK0 HK1 hset
  go_wp2_with fail
  generalize w1.setCell ⟨w.heap.size, 5, none⟩ (.slice A1 p.signs.length c1) = w2 at *
  have hlb : p.batch.length * 104 <= 140737488355328 := by have := HV.out.2.2.1; omega
  have hpb2 := HPB.out.ch HC1.out (fun k _ hk => .inr (by omega))
  refine (cloneb_any w2 _ r.2.1 r.2.2 p.batch hpb2 HV.out.2.2.2 hlb).mono ?_
  rintro e w3 ⟨A2, c2, rs, rfl, hcl⟩
  have hb3 := hcl.below
  have hbi := clb_bi hcl
  have hk0 := HS1.out.below hb3 HS1.out.lt
  have hk1 := HK1'.out.below hb3 HK1'.out.lt
  have HO3 : Hid (w3.ownsRow (w.heap.size + 2) 36 2 (.slice A1 p.signs.length c1) p.signs.length (p.signs.flatMap SC)) := Lib.hid (own_below (own_ch HO1.out HC1.out (fun m hm e => by have := (HO1.out.lt m hm).1; omega)) hb3)
  have HB3 : Hid (Below w.heap.size w w3) := Lib.hid ((HC1.out.below (B := w.heap.size) (fun k hk e => by omega) HB1.out.size |> fun b => HB1.out.trans b).trans (hb3.mono (Nat.le_trans HB1.out.size HC1.out.size)))
  have HBI := Lib.hid (hbi.weaken (Y := fun k => k < w.heap.size + 2) (fun k _ hk => by have := HB1.out.size; have := HC1.out.size; have := HS1.out.lt; have := HK1'.out.lt; omega))
  obtain ⟨⟨a0, a1, a2, a3, a4, a5, a6⟩, ⟨f0, f1, f2, f3, f4, f5, f6⟩⟩ := Blk.cells7 hk0
  obtain ⟨⟨z0, z1, z2, z3, z4, z5, z6⟩, ⟨y0, y1, y2, y3, y4, y5, y6⟩⟩ := Blk.cells7 hk1
  have HK0 := Lib.hid hk0
  have HK1 := Lib.hid hk1
  clear hcl hb3 hbi hk0 hk1 hpb2 k6 k5 hlb HO1 HS1 HC1 HPB HPI
  go_wp2_with fail
  refine bodyPost_ret (results_row1 rfl _ _ (w.heap.size + 1) 41 (PC p ((A1, c1), (A2, c2))) (0, 0) _ rfl (Pre.blk7 (Blk.ch HK1.out (Ch.setCell (Ch.refl (fun k => k = w.heap.size) w3) (p := ⟨w.heap.size, 6, none⟩) (fun _ => rfl) _) (by omega))) Tryz.underlying41 rfl size_prep) rfl ?_
  have cc : Ch (fun k => k = w.heap.size \/ k = w.heap.size + 1) w3 _ := ((Ch.setCell (Ch.refl (fun k => k = w.heap.size) w3) (p := ⟨w.heap.size, 6, none⟩) (fun _ => rfl) (.slice A2 p.batch.length c2)).mono (T := fun k => k = w.heap.size \/ k = w.heap.size + 1) (fun _ _ h => .inl h)).trans ((Pre.ch7 _ (w.heap.size + 1) (.int .i64 p.view) (.int .i64 p.seq) (.int .i64 p.dig) (.int .i64 p.first.1) (.int .i64 p.first.2) (.slice A1 p.signs.length c1) (.slice A2 p.batch.length c2)).mono (T := fun k => k = w.heap.size \/ k = w.heap.size + 1) (fun _ _ h => .inr h)) (fun _ _ h => h)
  exact ⟨((A1, c1), (A2, c2)), rfl, own_base (own_ch HO3.out cc (fun m hm e => by have := (HO3.out.lt m hm).1; rcases e with e | e <;> omega)) (by omega), (HBI.out.ch cc (fun k _ hk => by rcases hk with e | e <;> (show k < w.heap.size + 2; omega))).weaken (fun k _ hk => by show k < w.heap.size + 2; have hk' : k < w.heap.size := hk; omega), HB3.out.trans (cc.below (fun k hk e => by rcases e with e | e <;> omega) HB3.out.size)⟩
end Go.Proofs.YtmhmnkpaijoaaaaGreat.Pub
namespace Go.Proofs.YtmhmnkpaijoaaaaGreat.Puc
set_option linter.unusedSimpArgs false
open Go Go.RowKit Ck Cf Kw Ga Kf Pm Pe Pg Ik Lk Jm Ja Jb Jf Jg Jl Jn Kc Kj Pra Prb Prc Prd Pre Prf Prn Prr Prx Psg Psh Psx Pta Ptd Pte Pth Pua Jt Pub
attribute [local go_sem ↓] Go.wp_at_zero Go.wp_at_succ
set_option linter.unusedVariables false
set_option maxRecDepth 100000
theorem isseq_any (w : World) (n : Int) : Calls Tryz.prog 46 #[.int .i64 n] w fun e w' => e = .returned (.bool (okN n)) /\ w = w' := by
  have HN : Hid (okN n = (decide (1 <= n) && decide (n <= 9007199254740992))) := Lib.hid (by
    rw [Bool.eq_iff_iff, okN_iff, Bool.and_eq_true, decide_eq_true_eq, decide_eq_true_eq])
  by_cases h1 : 1 <= n
  . by_cases h2 : n <= 9007199254740992
    . have HO : Hid (okN n = true) := Lib.hid (by rw [HN.out, decide_eq_true h1, decide_eq_true h2]; rfl)
      go_enter Tryz.func46, Tryz.ntmps46
      go_wp2_with fail
      go_ret
      exact ⟨by rw [HO.out]; rfl, rfl⟩
    . have HO : Hid (okN n = false) := Lib.hid (by rw [HN.out, decide_eq_false h2]; simp)
      go_enter Tryz.func46, Tryz.ntmps46
      go_wp2_with fail
      go_ret
      exact ⟨by rw [HO.out]; rfl, rfl⟩
  . have HO : Hid (okN n = false) := Lib.hid (by rw [HN.out, decide_eq_false h1]; simp)
    go_enter Tryz.func46, Tryz.ntmps46
    go_wp2_with fail
    go_ret
    exact ⟨by rw [HO.out]; rfl, rfl⟩
theorem made_on (w : World) (g m : Nat) (h : Blk w g 101 #[.map (some m)]) : Calls Tryz.prog 58 #[.pointer (some ⟨g, 0, none⟩)] w fun e w' => e = .returned (.bool true) /\ w = w' := by
  have c0 : w.cell? ⟨g, 0, none⟩ = some (.map (some m)) := h.cell 0
  have hq := fun W => run_neq_map_nil (P := Tryz.prog) W 99 2 41 (some m) Tryz.underlying99
  clear h
  go_enter Tryz.func58, Tryz.ntmps58
  go_wp2
  go_ret
  exact ⟨rfl, rfl⟩
def UnH (W : World) (v : Value) : Prop := v = .pointer none \/ ∃ g, v = .pointer (some ⟨g, 0, none⟩) /\ Blk W g 101 #[.map none]
theorem UnH.later {W W' : World} {v : Value} (h : UnH W v) (b : Below W.heap.size W W') : UnH W' v := by
  rcases h with h | ⟨g, h, hb⟩
  . exact .inl h
  . exact .inr ⟨g, h, hb.below b hb.lt⟩
theorem made_un (w : World) (v : Value) (h : UnH w v) : Calls Tryz.prog 58 #[v] w fun e w' => e = .returned (.bool false) /\ w = w' := by
  rcases h with rfl | ⟨g, rfl, h⟩
  . go_enter Tryz.func58, Tryz.ntmps58
    go_wp2
    go_ret
    exact ⟨rfl, rfl⟩
  . have c0 : w.cell? ⟨g, 0, none⟩ = some (.map none) := h.cell 0
    have hq := fun W => run_neq_map_nil (P := Tryz.prog) W 99 2 41 none Tryz.underlying99
    clear h
    go_enter Tryz.func58, Tryz.ntmps58
    go_wp2
    go_ret
    exact ⟨rfl, rfl⟩
theorem pnew_any (w : World) : Calls Tryz.prog 18 #[] w fun e w' => ∃ g, e = .returned (.pointer (some ⟨g, 0, none⟩)) /\ Hd w' (fun k => w.heap.size <= k /\ k < w'.heap.size) g [] /\ Below w.heap.size w w' := by
  have hmm : ∀ W : World, (Instr.makeMap 99 none).run Tryz.prog W = .ok (.map (some W.heap.size)) (W.alloc (.map #[] 0)) := fun W => by
    simp [Instr.makeMap, run_underlying Tryz.underlying99]
  have hb : Below w.heap.size w ((w.alloc (.map #[] 0)).alloc (.cells #[.map (some w.heap.size)] 101)) := ((Below.refl _ w).alloc (Nat.le_refl _) _).alloc (by simp) _
  have hh : Hd ((w.alloc (.map #[] 0)).alloc (.cells #[.map (some w.heap.size)] 101)) (fun k => w.heap.size <= k /\ k < ((w.alloc (.map #[] 0)).alloc (.cells #[.map (some w.heap.size)] 101)).heap.size) (w.heap.size + 1) [] :=
    ⟨w.heap.size, .map [], Blk.new_at (by simp) rfl, ⟨by simp, by simp⟩, ⟨by simp, by simp; omega⟩, by omega, (World.ownsMap_made w _ _ _).alloc _, DL.empty, rise_nil, (fun p h => by simp at h), by simp⟩
  have HH := Lib.hid hh
  have HB := Lib.hid hb
  clear hh hb
  go_enter Tryz.func18, Tryz.ntmps18
  go_wp2_with fail
  go_ret
  exact ⟨_, rfl, HH.out, HB.out⟩
theorem plen_any (w : World) (S : Nat -> Prop) (g : Nat) (l : List Pd) (h : Hd w S g l) :
    Calls Tryz.prog 28 #[.pointer (some ⟨g, 0, none⟩)] w fun e w' => e = .returned (.int .i64 l.length) /\ Below w.heap.size w w' := by
  obtain ⟨m, D, h1, h2, h3, h4, h5, h6, h7⟩ := h
  have c0 : w.cell? ⟨g, 0, none⟩ = some (.map (some m)) := h1.cell 0
  have HM := Lib.hid (made_on w g m h1)
  have hl : ∀ ty, (Builtin.len_ #[99] ty #[.map (some m)]).run Tryz.prog w = .ok (.int .i64 (l.length : Int)) w := fun ty => by
    rw [h5.len Tryz.underlying99, h6.size]
  clear h1 h2 h3 h4 h5 h6 h7
  go_enter Tryz.func28, Tryz.ntmps28
  go_wp2_with fail
  refine HM.out.mono ?_
  rintro e w1 ⟨rfl, rfl⟩
  go_wp2_with fail
  go_ret
  exact ⟨rfl, Below.refl _ _⟩
end Go.Proofs.YtmhmnkpaijoaaaaGreat.Puc
namespace Go.Proofs.YtmhmnkpaijoaaaaGreat.Pud
set_option linter.unusedSimpArgs false
open Go Go.RowKit Ck Cf Kw Ga Kf Pm Pe Pg Ik Lk Jm Ja Jb Jf Jg Jl Jn Kc Kj Pra Prb Prc Prd Pre Prf Prn Prr Prx Psg Psh Psx Pta Ptd Pte Pth Pua Jt Pub Puc
attribute [local go_sem ↓] Go.wp_at_zero Go.wp_at_succ
set_option linter.unusedVariables false
set_option maxRecDepth 100000
theorem okV_zero : okV Pd.zero := by
  refine ⟨⟨fun y hy => ?_, ?_, ?_⟩, ?_, ?_, fun y hy => ?_⟩ <;> simp_all [Pd.zero]
theorem okV_get {l : List Pd} (h : ∀ p ∈ l, okV p) (n : Int) : okV ((getP l n).getD Pd.zero) := by
  cases hg : getP l n with
  | none => exact okV_zero
  | some p => exact h p (List.mem_of_find?_eq_some hg)
set_option maxHeartbeats 4000000 in
theorem pget_any (w : World) (S : Nat -> Prop) (g : Nat) (l : List Pd) (n : Int) (h : Hd w S g l) (h1 : -9223372036854775808 <= n) (h2 : n <= 9223372036854775807) :
    Calls Tryz.prog 23 #[.pointer (some ⟨g, 0, none⟩), .int .i64 n] w fun e w' => ∃ r, e = .returned (.tuple #[.agg (PC ((getP l n).getD Pd.zero) r), .bool (getP l n).isSome]) /\ OwnP w ((getP l n).getD Pd.zero) r w' := by
  obtain ⟨m, D, hb, hgS, hmS, hgm, ho, hd, hr, hv, -⟩ := h
  have hb0 : Below w.heap.size w (w.alloc (.cells Z7p 41)) := (Below.refl _ w).alloc (Nat.le_refl _) _
  have hk0 : Blk (w.alloc (.cells Z7p 41)) w.heap.size 41 Z7p := Blk.new w _ _
  have HV := Lib.hid (okV_get hv n)
  have ho1 := map_ch ho (Ch.of_below (S := fun _ => False) hb0 (Nat.le_refl _)) (fun h => h)
  have hd1 := hd.after hb0
  obtain ⟨r, hpi, hlook⟩ := look_pd ho1 hd1 (key_i64 h1 h2)
  have HPI := Lib.hid hpi
  have hbk := hb.below hb0 hb.lt
  have c0 : (w.alloc (.cells Z7p 41)).cell? ⟨g, 0, none⟩ = some (.map (some m)) := hbk.cell 0
  have HM := Lib.hid (made_on _ g m hbk)
  have HB0 := Lib.hid hb0
  have HK0 := Lib.hid hk0
  have hsz : (w.alloc (.cells Z7p 41)).heap.size = w.heap.size + 1 := by simp
  have HSZ := Lib.hid hsz
  generalize (getP l n).getD Pd.zero = x at *
  generalize (getP l n).isSome = b at *
  clear hb hgS hmS hgm ho hd hr hv hb0 hk0 ho1 hd1 hpi hbk hsz
  unfold PC Z7p at *
  go_enter Tryz.func23, Tryz.ntmps23
  go_wp2_with fail
  refine HM.out.mono ?_
  rintro e w1 ⟨rfl, rfl⟩
  generalize w.alloc (.cells #[.int .i64 0, .int .i64 0, .int .i64 0, .int .i64 0, .int .i64 0, .slice none 0 0, .slice none 0 0] 41) = w0 at *
  go_wp2_with fail
  have hb1 : Below w0.heap.size w0 (w0.alloc (.cells #[.int .i64 x.view, .int .i64 x.seq, .int .i64 x.dig, .int .i64 x.first.1, .int .i64 x.first.2, .slice r.1.1 x.signs.length r.1.2, .slice r.2.1 x.batch.length r.2.2] 41)) := (Below.refl _ w0).alloc (Nat.le_refl _) _
  have HPI1 := Lib.hid (HPI.out.after hb1)
  have HK1 := Lib.hid (HK0.out.below hb1 HK0.out.lt)
  have HB1 := Lib.hid (HB0.out.trans (hb1.mono HB0.out.size))
  have HSZ1 : Hid (w.heap.size < w0.heap.size /\ w0.heap.size <= (w0.alloc (.cells #[.int .i64 x.view, .int .i64 x.seq, .int .i64 x.dig, .int .i64 x.first.1, .int .i64 x.first.2, .slice r.1.1 x.signs.length r.1.2, .slice r.2.1 x.batch.length r.2.2] 41)).heap.size) := Lib.hid ⟨by have := HSZ.out; omega, hb1.size⟩
  clear hb1
  generalize w0.alloc (.cells #[.int .i64 x.view, .int .i64 x.seq, .int .i64 x.dig, .int .i64 x.first.1, .int .i64 x.first.2, .slice r.1.1 x.signs.length r.1.2, .slice r.2.1 x.batch.length r.2.2] 41) = w1 at *
  refine (pclone_any w1 _ x r HPI1.out HV.out).mono ?_
  rintro e w2 ⟨q, rfl, hown⟩
  have HOWN := Lib.hid hown
  have hk := HK1.out.below hown.below HK1.out.lt
  obtain ⟨⟨z0, z1, z2, z3, z4, z5, z6⟩, ⟨y0, y1, y2, y3, y4, y5, y6⟩⟩ := Blk.cells7 hk
  have HK2 := Lib.hid hk
  clear hown hk hlook HM c0
  unfold PC
  go_wp2_with fail
  refine bodyPost_ret (results_row_tmp rfl _ _ w.heap.size 41 (PC x q) (0, 0) _ rfl (Pre.blk7 HK2.out) Tryz.underlying41 rfl size_prep) rfl ?_
  exact ⟨q, rfl, HOWN.out.turn HB1.out (Pre.ch7 w2 w.heap.size (.int .i64 x.view) (.int .i64 x.seq) (.int .i64 x.dig) (.int .i64 x.first.1) (.int .i64 x.first.2) (.slice q.1.1 x.signs.length q.1.2) (.slice q.2.1 x.batch.length q.2.2)) (fun k hk => by have := HSZ1.out; omega) (fun k hk => by omega)⟩
end Go.Proofs.YtmhmnkpaijoaaaaGreat.Pud
namespace Go.Proofs.YtmhmnkpaijoaaaaGreat.Pug
set_option linter.unusedSimpArgs false
open Go Go.RowKit Ck Cf Kw Ga Kf Pm Pe Pg Ik Lk Jm Ja Jb Jf Jg Jl Jn Kc Kj Pra Prb Prc Prd Pre Prf Prn Prr Prx Psg Psh Psx Pta Ptd Pte Pth Pua Jt Pub Puc Pud
attribute [local go_sem ↓] Go.wp_at_zero Go.wp_at_succ
set_option linter.unusedVariables false
set_option maxRecDepth 100000
theorem put_bad {l : List Pd} {x : Pd} (h : okN x.seq = false) : putP l x = (l, false) := by unfold putP; rw [if_neg (by rw [h]; exact Bool.false_ne_true)]
theorem put_no {l : List Pd} {x q : Pd} (hr : Rise l) (h : okN x.seq = true) (hg : getP l x.seq = some q) (hv : x.view <= q.view) : putP l x = (l, false) := by
  rw [get_had hr] at hg
  unfold putP
  rw [if_pos h, hg]
  simp only
  rw [if_pos hv]
theorem put_yes {l : List Pd} {x : Pd} (hr : Rise l) (h : okN x.seq = true) (hg : ∀ q, getP l x.seq = some q -> q.view < x.view) : (putP l x).2 = true := by
  rw [get_had hr] at hg
  unfold putP
  rw [if_pos h]
  cases hh : hadP l x.seq with
  | none => rfl
  | some q =>
    have := hg q hh
    simp only
    rw [if_neg (by omega)]
structure PS (w : World) (S : Nat -> Prop) (g m : Nat) (D : DataW Value) (l : List Pd) (x : Pd) (r : Pl2) (W : World) : Prop where
  below : Below w.heap.size w W
  box : Blk W w.heap.size 41 (PC x r)
  hd : Blk W g 101 #[.map (some m)]
  own : W.ownsMap Tryz.prog 2 RV m l.length D
  dl : DL W (fun k => (¬ S k \/ k = g \/ k = m) \/ w.heap.size <= k) D l
  pi : PI W (fun k => w.heap.size <= k) x r
theorem PS.later {w : World} {S : Nat -> Prop} {g m : Nat} {D : DataW Value} {l : List Pd} {x : Pd} {r : Pl2} {W W' : World} (h : PS w S g m D l x r W) (b : Below W.heap.size W W') : PS w S g m D l x r W' :=
  ⟨h.below.trans (b.mono h.below.size), h.box.below b h.box.lt, h.hd.below b h.hd.lt, map_ch h.own (Ch.of_below (S := fun _ => False) b (Nat.le_refl _)) (fun h => h), h.dl.after b, h.pi.after b⟩
theorem PS.cells {w : World} {S : Nat -> Prop} {g m : Nat} {D : DataW Value} {l : List Pd} {x : Pd} {r : Pl2} {W : World} (h : PS w S g m D l x r W) : W.cell? ⟨g, 0, none⟩ = some (.map (some m)) /\ (W.cell? ⟨w.heap.size, 0, none⟩ = some (.int .i64 x.view) /\ W.cell? ⟨w.heap.size, 1, none⟩ = some (.int .i64 x.seq) /\ W.cell? ⟨w.heap.size, 2, none⟩ = some (.int .i64 x.dig) /\ W.cell? ⟨w.heap.size, 3, none⟩ = some (.int .i64 x.first.1) /\ W.cell? ⟨w.heap.size, 4, none⟩ = some (.int .i64 x.first.2) /\ W.cell? ⟨w.heap.size, 5, none⟩ = some (.slice r.1.1 x.signs.length r.1.2) /\ W.cell? ⟨w.heap.size, 6, none⟩ = some (.slice r.2.1 x.batch.length r.2.2)) :=
  ⟨h.hd.cell 0, h.box.cell 0, h.box.cell 1, h.box.cell 2, h.box.cell 3, h.box.cell 4, h.box.cell 5, h.box.cell 6⟩
theorem PS.look {w : World} {S : Nat -> Prop} {g m : Nat} {D : DataW Value} {l : List Pd} {x : Pd} {r : Pl2} {W : World} (h : PS w S g m D l x r W) (hs : okN x.seq = true) : ∃ ro, ∀ W', PS w S g m D l x r W' -> (Instr.lookup 99 (.map (some m)) (.int .i64 x.seq) true).run Tryz.prog W' = .ok (.tuple #[.agg (PC ((getP l x.seq).getD Pd.zero) ro), .bool (getP l x.seq).isSome]) W' := by
  cases hg : getP l x.seq with
  | none =>
    refine ⟨((none, 0), (none, 0)), fun W' h' => ?_⟩
    obtain ⟨v, ps, hrun, hv⟩ := h'.own.look_ok law_i64 Tryz.underlying99 (zero_prep W') (zd := .held (.agg #[.int .i64 0, .int .i64 0, .int .i64 0, .int .i64 0, .int .i64 0, .slice none 0 0, .slice none 0 0])) (zp := []) rfl (key_ok hs)
    rw [h'.dl.has, hg] at hrun
    have hn : Maps.has D (.int .i64 x.seq) = false := by rw [h'.dl.has, hg]; rfl
    rw [Maps.atKey_of_not_has hn] at hv
    simp only [RV, Option.some.injEq, Prod.mk.injEq, DataW.held.injEq] at hv
    rw [hrun, hv.1]
    rfl
  | some p =>
    obtain ⟨ro, h1, h2⟩ := h.dl.at_ x.seq p hg
    refine ⟨ro, fun W' h' => ?_⟩
    obtain ⟨v, ps, hrun, hv⟩ := h'.own.look_ok law_i64 Tryz.underlying99 (zero_prep W') (zd := .held (.agg #[.int .i64 0, .int .i64 0, .int .i64 0, .int .i64 0, .int .i64 0, .slice none 0 0, .slice none 0 0])) (zp := []) rfl (key_ok hs)
    rw [h'.dl.has, hg] at hrun
    rw [h1] at hv
    simp only [RV, Option.some.injEq, Prod.mk.injEq, DataW.held.injEq] at hv
    rw [hrun, hv.1]
    rfl
theorem PS.cells_turn {w w3 w4 : World} {S : Nat -> Prop} {g m : Nat} {D : DataW Value} {l : List Pd} {x : Pd} {r : Pl2} (h : PS w S g m D l x r w3) (ht : w3.mapTurned w4 m) (hw : g < w.heap.size /\ m < w.heap.size) (hgm : g ≠ m) : w4.cell? ⟨g, 0, none⟩ = some (.map (some m)) /\ w4.cell? ⟨w.heap.size, 0, none⟩ = some (.int .i64 x.view) /\ w4.cell? ⟨w.heap.size, 1, none⟩ = some (.int .i64 x.seq) /\ w4.cell? ⟨w.heap.size, 2, none⟩ = some (.int .i64 x.dig) /\ w4.cell? ⟨w.heap.size, 3, none⟩ = some (.int .i64 x.first.1) /\ w4.cell? ⟨w.heap.size, 4, none⟩ = some (.int .i64 x.first.2) /\ w4.cell? ⟨w.heap.size, 5, none⟩ = some (.slice r.1.1 x.signs.length r.1.2) /\ w4.cell? ⟨w.heap.size, 6, none⟩ = some (.slice r.2.1 x.batch.length r.2.2) := by
  have c34 : Ch (fun k => k = m) w3 w4 := Ch.of_grown ht.grown (fun k hk _ => (Option.some.inj hk).symm)
  have h1 := h.hd.ch c34 hgm
  have h2 := h.box.ch c34 (by omega)
  exact ⟨h1.cell 0, h2.cell 0, h2.cell 1, h2.cell 2, h2.cell 3, h2.cell 4, h2.cell 5, h2.cell 6⟩
theorem put_fin {w w2 w3 w4 : World} {S : Nat -> Prop} {g m : Nat} {D : DataW Value} {l : List Pd} {x : Pd} {r q : Pl2} (h2 : PS w S g m D l x r w2) (hs : okN x.seq = true) (hg : ∀ p, getP l x.seq = some p -> p.view < x.view) (hv : okV x /\ l.length <= 1599289640354 /\ Rise l /\ S g /\ S m /\ g ≠ m /\ ∀ p ∈ l, okV p) (hw : g < w.heap.size /\ m < w.heap.size)
    (ho : OwnP w2 x q w3) (h4 : w4.ownsMap Tryz.prog 2 RV m (l.length + 1) (D.put (.int .i64 x.seq) (.held (.agg (PC x q))))) (ht : w3.mapTurned w4 m) : Hd w4 (Nw S w.heap.size w4.heap.size) g (putP l x).1 /\ Ch S w w4 := by
  obtain ⟨hvx, hl, hr, hgS, hmS, hgm, hvl⟩ := hv
  have c34 : Ch (fun k => k = m) w3 w4 := Ch.of_grown ht.grown (fun k hk _ => (Option.some.inj hk).symm)
  have b3 := ho.below
  have s2 := h2.below.size
  have s3 := b3.size
  have s4 := c34.size
  have hD := h2.own.tidy law_i64
  have hdl : DL w3 (fun k => ¬ Nw S w.heap.size w4.heap.size k \/ k = g \/ k = m) (D.put (.int .i64 x.seq) (.held (.agg (PC x q)))) (putP l x).1 := by
    refine ((h2.dl.after b3).weaken (fun k hk hn => ?_)).put hr hD hs hg (ho.pi.weaken (fun k hk hn => ?_))
    . rcases hn with hn | hn
      . exact .inl (.inl (fun hS => hn (.inl hS)))
      . exact .inl (.inr hn)
    . rcases hn with hn | hn | hn
      . show k < w2.heap.size
        rcases Nat.lt_or_ge k w2.heap.size with h | h
        . exact h
        . exact (hn (.inr ⟨by omega, by omega⟩)).elim
      . show k < w2.heap.size; omega
      . show k < w2.heap.size; omega
  refine ⟨⟨m, _, ((h2.hd.below b3 h2.hd.lt).ch c34 hgm), .inl hgS, .inl hmS, hgm, ?_, hdl.ch c34 (fun k _ hk => .inr (.inr hk)), rise_put hr x, fun p hp => ?_, Nat.le_trans (put_len l x) (by omega)⟩, ?_⟩
  . have := own_exact h4
    rw [hdl.size] at this
    exact this
  . rcases put_mem hp with hp | rfl
    . exact hvl p hp
    . exact hvx
  . exact (Ch.of_below (S := S) (h2.below.trans (b3.mono s2)) (Nat.le_refl _)).trans c34 (fun k _ hk => by rw [hk]; exact hmS)
set_option maxHeartbeats 8000000 in
theorem pput_any (w : World) (S X : Nat -> Prop) (g : Nat) (l : List Pd) (x : Pd) (r : Pl2) (h : Hd w S g l) (hx : PI w X x r) (hv : okV x) (hl : l.length <= 1599289640354) :
    Calls Tryz.prog 21 #[.pointer (some ⟨g, 0, none⟩), .agg (PC x r)] w fun e w' => e = .returned (.bool (putP l x).2) /\ Hd w' (Nw S w.heap.size w'.heap.size) g (putP l x).1 /\ Ch S w w' := by
  have HHD := Lib.hid h
  obtain ⟨m, D, hb, hgS, hmS, hgm, ho, hd, hr, hvl, -⟩ := h
  have hb0 : Below w.heap.size w (w.alloc (.cells (PC x r) 41)) := (Below.refl _ w).alloc (Nat.le_refl _) _
  have hk0 : Blk (w.alloc (.cells (PC x r) 41)) w.heap.size 41 (PC x r) := Blk.new w _ _
  have hdo : DL w (fun k => (¬ S k \/ k = g \/ k = m) \/ w.heap.size <= k) D l := ⟨hd.has, fun n p hp => by obtain ⟨q, h1, h2⟩ := hd.at_ n p hp; exact ⟨q, h1, pi_old h2 (Nat.le_refl _)⟩, hd.size⟩
  have hps : PS w S g m D l x r (w.alloc (.cells (PC x r) 41)) := ⟨hb0, hk0, hb.below hb0 hb.lt, map_ch ho (Ch.of_below (S := fun _ => False) hb0 (Nat.le_refl _)) (fun h => h), hdo.after hb0, ((pi_old hx (Nat.le_refl _)).weaken (fun k _ hk => .inr hk)).after hb0⟩
  have HPS := Lib.hid hps
  have HV := Lib.hid (And.intro hv (And.intro hl (And.intro hr (And.intro hgS (And.intro hmS (And.intro hgm hvl))))))
  have HGL := Lib.hid (And.intro hb.lt ho.lt)
  have HSAME : Hid (∀ W, Below w.heap.size w W -> Hd W (Nw S w.heap.size W.heap.size) g l /\ Ch S w W) := Lib.hid (fun W b => ⟨(HHD.out.later b).weaken (fun k _ hk => .inl hk), Ch.of_below b (Nat.le_refl _)⟩)
  have HIS := Lib.hid (fun W => isseq_any W x.seq)
  have hc := hps.cells
  obtain ⟨c0, b0, b1, b2, b3, b4, b5, b6⟩ := hc
  have HM := Lib.hid (fun (W : World) (h : PS w S g m D l x r W) => made_on W g m h.hd)
  clear hb hgS hmS hgm ho hd hr hvl hb0 hk0 hdo hps hv hl hx HHD
  unfold PC at HPS c0 b0 b1 b2 b3 b4 b5 b6 ⊢
  cases hs : okN x.seq with
  | false =>
    have HO := Lib.hid (put_bad (l := l) hs)
    rw [hs] at HIS
    clear hs
    go_enter Tryz.func21, Tryz.ntmps21
    go_wp2_with fail
    refine (HM.out _ HPS.out).mono ?_
    rintro e w1 ⟨rfl, rfl⟩
    go_wp2_with fail
    refine (HIS.out _).mono ?_
    rintro e w1 ⟨rfl, rfl⟩
    go_wp2_with fail
    go_ret
    rw [HO.out]
    exact ⟨rfl, HSAME.out _ HPS.out.below⟩
  | true =>
    obtain ⟨ro, hlk⟩ := HPS.out.look hs
    have HLK := Lib.hid hlk
    have HS := Lib.hid hs
    rw [hs] at HIS
    clear hs hlk
    go_enter Tryz.func21, Tryz.ntmps21
    go_wp2_with fail
    refine (HM.out _ HPS.out).mono ?_
    rintro e w1 ⟨rfl, rfl⟩
    go_wp2_with fail
    refine (HIS.out _).mono ?_
    rintro e w1 ⟨rfl, rfl⟩
    generalize w.alloc (.cells #[.int .i64 x.view, .int .i64 x.seq, .int .i64 x.dig, .int .i64 x.first.1, .int .i64 x.first.2, .slice r.1.1 x.signs.length r.1.2, .slice r.2.1 x.batch.length r.2.2] 41) = w0 at *
    have HGP : Hid (∀ q, getP l x.seq = some q -> (getP l x.seq).isSome = true /\ (getP l x.seq).getD Pd.zero = q) := Lib.hid (fun q hq => by rw [hq]; exact ⟨rfl, rfl⟩)
    have HGN : Hid (((getP l x.seq).isSome = true -> getP l x.seq = some ((getP l x.seq).getD Pd.zero)) /\ ((getP l x.seq).isSome = false -> ∀ q, getP l x.seq ≠ some q)) := Lib.hid ⟨fun h => by
      cases hg : getP l x.seq with
      | none => rw [hg] at h; cases h
      | some q => rfl, fun h q hq => by rw [hq] at h; cases h⟩
    generalize (getP l x.seq).getD Pd.zero = old at *
    generalize (getP l x.seq).isSome = is at *
    have HQ : Hid (∀ W, Below w0.heap.size w0 W -> W.cell? ⟨g, 0, none⟩ = some (.map (some m)) /\ W.cell? ⟨w.heap.size, 1, none⟩ = some (.int .i64 x.seq) /\ (Instr.lookup 99 (.map (some m)) (.int .i64 x.seq) true).run Tryz.prog W = .ok (.tuple #[.agg (PC old ro), .bool is]) W) := Lib.hid (fun W b => by
      have h := HPS.out.later b
      exact ⟨h.cells.1, h.cells.2.2.1, HLK.out W h⟩)
    unfold PC at HQ
    go_wp2_with fail
    have hq0 := HQ.out w0.drew (below_drewN (Below.refl _ _) 1)
    have hq1 := HQ.out (w0.alloc (.cells Z7p 41)).drew (below_drewN ((Below.refl _ w0).alloc (Nat.le_refl _) _) 1)
    have hq2 := HQ.out (w0.alloc (.cells (PC old ro) 41)).drew (below_drewN ((Below.refl _ w0).alloc (Nat.le_refl _) _) 1)
    unfold PC at hq2
    unfold Z7p at hq1
    have hb2 : Below w0.heap.size w0 (w0.alloc (.cells (PC old ro) 41)).drew := below_drewN ((Below.refl _ w0).alloc (Nat.le_refl _) _) 1
    have HP2 := Lib.hid (HPS.out.later hb2)
    have HK2 : Hid (Blk (w0.alloc (.cells (PC old ro) 41)).drew w0.heap.size 41 (PC old ro)) := Lib.hid (Blk.new w0 _ _)
    have hsplit : (is = true /\ x.view <= old.view) \/ ((∀ p, getP l x.seq = some p -> p.view < x.view) /\ (is = false \/ (is = true /\ decide (x.view <= old.view) = false))) := by
      cases his : is with
      | false => exact .inr ⟨fun p hp => (by have := (HGP.out p hp).1; rw [his] at this; cases this), .inl rfl⟩
      | true =>
        by_cases hvv : x.view <= old.view
        . exact .inl ⟨rfl, hvv⟩
        . exact .inr ⟨fun p hp => by rw [<- (HGP.out p hp).2]; omega, .inr ⟨rfl, decide_eq_false hvv⟩⟩
    have HSP := Lib.hid hsplit
    unfold PC at HP2 HK2
    clear c0 b0 b1 b2 b3 b4 b5 b6 hb2 hsplit
    go_region_held3 (fun w' => w'.cell? ⟨g, 0, none⟩ = some (.map (some m)) /\ w'.cell? ⟨w.heap.size, 1, none⟩ = some (.int .i64 x.seq) /\ (Instr.lookup 99 (.map (some m)) (.int .i64 x.seq) true).run Tryz.prog w' = .ok (.tuple #[.agg #[.int .i64 old.view, .int .i64 old.seq, .int .i64 old.dig, .int .i64 old.first.1, .int .i64 old.first.2, .slice ro.1.1 old.signs.length ro.1.2, .slice ro.2.1 old.batch.length ro.2.2], .bool is]) w') (first | with_reducible exact hq0 | with_reducible exact hq1 | with_reducible exact hq2 | (go_keep; done)) (fail)
    all_goals
      clear hq0 hq1 hq2 HQ HLK HPS
      generalize (w0.alloc (.cells #[.int .i64 old.view, .int .i64 old.seq, .int .i64 old.dig, .int .i64 old.first.1, .int .i64 old.first.2, .slice ro.1.1 old.signs.length ro.1.2, .slice ro.2.1 old.batch.length ro.2.2] 41)).drew = w2 at *
      generalize w0.heap.size = bo at *
      have o0 : w2.cell? ⟨bo, 0, none⟩ = some (.int .i64 old.view) := HK2.out.cell 0
      obtain ⟨c0, b0, b1, b2, b3, b4, b5, b6⟩ := HP2.out.cells
      rcases HSP.out with ⟨rfl, hvv⟩ | ⟨hg, hor⟩
      . have HO := Lib.hid (put_no HV.out.2.2.1 HS.out (HGN.out.1 rfl) hvv)
        go_wp2_with fail
        go_ret
        rw [HO.out]
        exact ⟨rfl, HSAME.out _ HP2.out.below⟩
      . have HG := Lib.hid hg
        clear hg
        rcases hor with rfl | ⟨rfl, hvv⟩
        all_goals
          go_wp2_with fail
          have HML : Hid (l.length < maxLen) := Lib.hid (by have := HV.out.2.1; simp only [maxLen]; omega)
          have HK : Hid (keyOf Tryz.prog 2 (.int .i64 x.seq) = some (.int .i64 x.seq)) := Lib.hid (key_ok HS.out)
          have HC : Hid (∀ W, PS w S g m D l x r W -> W.cell? ⟨g, 0, none⟩ = some (.map (some m)) /\ W.cell? ⟨w.heap.size, 0, none⟩ = some (.int .i64 x.view) /\ W.cell? ⟨w.heap.size, 1, none⟩ = some (.int .i64 x.seq) /\ W.cell? ⟨w.heap.size, 2, none⟩ = some (.int .i64 x.dig) /\ W.cell? ⟨w.heap.size, 3, none⟩ = some (.int .i64 x.first.1) /\ W.cell? ⟨w.heap.size, 4, none⟩ = some (.int .i64 x.first.2) /\ W.cell? ⟨w.heap.size, 5, none⟩ = some (.slice r.1.1 x.signs.length r.1.2) /\ W.cell? ⟨w.heap.size, 6, none⟩ = some (.slice r.2.1 x.batch.length r.2.2)) := Lib.hid (fun W h => ⟨h.cells.1, h.cells.2⟩)
          have HP3 : Hid (PS w S g m D l x r w2.drew) := Lib.hid (HP2.out.later (below_drewN (Below.refl _ _) 1))
          have j2 := HC.out w2.drew HP3.out
          have HPC : Hid (Calls Tryz.prog 59 #[.agg #[.int .i64 x.view, .int .i64 x.seq, .int .i64 x.dig, .int .i64 x.first.1, .int .i64 x.first.2, .slice r.1.1 x.signs.length r.1.2, .slice r.2.1 x.batch.length r.2.2]] w2.drew fun e w3 => ∃ q, e = .returned (.agg (PC x q)) /\ OwnP w2.drew x q w3) := Lib.hid (pclone_any w2.drew _ x r HP3.out.pi HV.out.1)
          clear c0 b0 b1 b2 b3 b4 b5 b6 o0
          go_region_held3 (fun w' => w'.cell? ⟨g, 0, none⟩ = some (.map (some m)) /\ w'.cell? ⟨w.heap.size, 0, none⟩ = some (.int .i64 x.view) /\ w'.cell? ⟨w.heap.size, 1, none⟩ = some (.int .i64 x.seq) /\ w'.cell? ⟨w.heap.size, 2, none⟩ = some (.int .i64 x.dig) /\ w'.cell? ⟨w.heap.size, 3, none⟩ = some (.int .i64 x.first.1) /\ w'.cell? ⟨w.heap.size, 4, none⟩ = some (.int .i64 x.first.2) /\ w'.cell? ⟨w.heap.size, 5, none⟩ = some (.slice r.1.1 x.signs.length r.1.2) /\ w'.cell? ⟨w.heap.size, 6, none⟩ = some (.slice r.2.1 x.batch.length r.2.2)) (first | with_reducible exact j2 | with_reducible exact j3 | with_reducible exact j4 | (go_keep; done))
            (first | (go_at_call 59; refine HPC.out.mono ?_; rintro e w3 ⟨q, rfl, hown⟩; have hP4 := HP3.out.later hown.below; have j3 := HC.out w3 hP4; obtain ⟨w4, hst, hmap4, hturn4⟩ := hP4.own.store law_i64 Tryz.underlying99 HML.out HK.out (val := .agg (PC x q)) (rfl : RV _ = some (.held _, [])); have j4 := hP4.cells_turn hturn4 HGL.out HV.out.2.2.2.2.2.1))
          have HFN := Lib.hid (put_fin HP3.out HS.out HG.out HV.out HGL.out hown hmap4 hturn4)
          have HPY := Lib.hid (put_yes HV.out.2.2.1 HS.out HG.out)
          clear hown hmap4 hturn4 j2 j3 j4 hst hP4
          go_wp2_with fail
          go_ret
          rw [HPY.out]
          exact ⟨rfl, HFN.out⟩
end Go.Proofs.YtmhmnkpaijoaaaaGreat.Pug
namespace Go.Proofs.YtmhmnkpaijoaaaaGreat.Kr
set_option linter.unusedSimpArgs false
set_option linter.unusedVariables false
open Go Go.RowKit Ck Kw
def Bk (D k : Nat) : Prop := k = D \/ k = D + 1
theorem putObj_size (W : World) (l : Nat) (o : Obj) : (W.putObj l o).heap.size = W.heap.size := by simp [World.putObj]
theorem ch_putObj (W : World) (l : Nat) (o : Obj) : Ch (fun k => k = l) W (W.putObj l o) :=
  Ch.of_grown (grownBy_putObj' W l o) (fun g e _ => by injection e with e; exact e.symm)
section
variable {F : Fence} {n : Nat} {P : Program}
end
end Go.Proofs.YtmhmnkpaijoaaaaGreat.Kr

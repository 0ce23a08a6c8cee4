/-
  Contract of the program's topics: Apply, where a request is done.
-/
import Derived.Test.YtkoedonllfmaaaaGreatVD14
import Derived.Test.YtkoedonllfmaaaaGreatVD04
import Derived.Test.YtkoedonllfmaaaaGreatVD05
namespace Go.Proofs.YtkoedonllfmaaaaGreat.Al
set_option linter.unusedSimpArgs false
open Go Go.RowKit Ck Kw Ga Kf Km Kd Pm Pz Pe Pg Py Qb Qg Tm Tn Tq Aa Ab Ac Ad Ae Af Ag Ah Ai Aj
attribute [local go_sem ↓] Go.wp_at_zero Go.wp_at_succ
set_option linter.unusedVariables false

theorem three_ch (W : World) (p i j k : Nat) (x y z : Value) : Ch (fun q => q = p) W (((W.setCell ⟨p, i, none⟩ x).setCell ⟨p, j, none⟩ y).setCell ⟨p, k, none⟩ z) :=
  (((Ch.refl (fun q => q = p) W).setCell (p := ⟨p, i, none⟩) (fun _ => rfl) _).setCell (p := ⟨p, j, none⟩) (fun _ => rfl) _).setCell (p := ⟨p, k, none⟩) (fun _ => rfl) _
theorem two_ch (W : World) (g : Nat) (x y : Value) : Ch (fun q => q = g) W ((W.setCell ⟨g, 0, none⟩ x).setCell ⟨g, 1, none⟩ y) :=
  ((Ch.refl (fun q => q = g) W).setCell (p := ⟨g, 0, none⟩) (fun _ => rfl) _).setCell (p := ⟨g, 1, none⟩) (fun _ => rfl) _
theorem ch_drew {S : Nat → Prop} {a b : World} (h : Ch S a b) : Ch S a b.drew := ⟨h.os, h.tape, h.output, h.size, h.block⟩
section
variable {w W1 w2 W3 W4 : World} {S R S2 R2 : Nat → Prop} {p : Nat} {s s' : St} {client time : Int} {o : O} {A : Option Addr} {c : Nat} {u v : Value} {pl : List (Tx × Int × Tx)} {B : Nat}
theorem apply_ps (hp : p < w.heap.size) (hk : AK w client time o A c W1) (hB : W1.heap.size ≤ B) (h : Ps w2 B v pl) (c2 : Ch (fun k => S k ∧ k < w.heap.size) W1 w2) (b3 : Below w2.heap.size w2 W3) (c4 : Ch (fun q => q = p) W3 W4) {x y : Value} :
    Ps ((W4.setCell ⟨w.heap.size + 1, 0, none⟩ x).setCell ⟨w.heap.size + 1, 1, none⟩ y) B v pl := by
  have hs := hk.below.size
  have hr := hk.res.lt
  exact (((h.later b3).ch c4 (fun k hk => by omega)).ch (two_ch W4 (w.heap.size + 1) x y) (fun k hk => by omega))
theorem apply_fin (hz : Tz w S R p s) (hp : p < w.heap.size) (hk : AK w client time o A c W1) (h1 : ∀ k, S2 k → Up (fun k => S k ∧ k < w.heap.size) W1 w2 k ∧ k < B) (h2 : ∀ k, R2 k → Up R W1 w2 k ∧ k < B) (c2 : Ch (fun k => S k ∧ k < w.heap.size) W1 w2) (b3 : Below w2.heap.size w2 W3) (c4 : Ch (fun q => q = p) W3 W4) (h : Tz W4 S2 R2 p s') {x y : Value} :
    Applied S R p s' B w ((W4.setCell ⟨w.heap.size + 1, 0, none⟩ x).setCell ⟨w.heap.size + 1, 1, none⟩ y) := by
  have hs := hk.below.size
  have hr := hk.res.lt
  have s2 := c2.size
  have s3 := b3.size
  have s4 := c4.size
  have hSp : S p := by
    obtain ⟨m', D', G', V', M', F', h'⟩ := hz
    exact h'.sp
  have c5 := two_ch W4 (w.heap.size + 1) x y
  have s5 := c5.size
  refine ⟨S2, R2, h.ch c5 (fun k hk e => ?_) (fun k hk e => ?_), fun k hk => ?_, fun k hk => ?_, ?_⟩
  · rcases (h1 k hk).1 with h | h
    · have := h.2; omega
    · have := h.1; omega
  · rcases (h2 k hk).1 with h | h
    · have := (Tz.rlt hz k h).2; omega
    · have := h.1; omega
  · refine ⟨?_, (h1 k hk).2⟩
    rcases (h1 k hk).1 with h | h
    · exact .inl h.1
    · exact .inr ⟨by omega, by omega⟩
  · refine ⟨?_, (h2 k hk).2⟩
    rcases (h2 k hk).1 with h | h
    · exact .inl h
    · exact .inr ⟨by omega, by omega⟩
  · have k1 : Ch S w W1 := Ch.of_below hk.below (Nat.le_refl _)
    have k2 : Ch S w w2 := k1.trans (c2.mono (T := S) (fun k _ h => h.1)) (fun _ _ h => h)
    have k3 : Ch S w W3 := k2.trans (Ch.of_below (S := S) b3 (Nat.le_refl _)) (fun _ _ h => h)
    have k4 : Ch S w W4 := k3.trans (c4.mono (T := S) (fun k _ h => by rw [h]; exact hSp)) (fun _ _ h => h)
    exact k4.trans c5 (fun k h1 h2 => by omega)
end
set_option maxRecDepth 100000 in
set_option maxHeartbeats 2000000 in
theorem apply_new (w : World) (S R : Nat → Prop) (p : Nat) (s : St) (client time : Int) (o : O) (X : Nat → Prop) (A : Option Addr) (c : Nat) (hb : badArg client time = false) (hlt : (s.last.getD client.toNat An.zero).time < time) (h : Tz w S R p s) (hls : Ls w X (.slice A o.recs.length c) o.recs) (hl : o.recs.length ≤ 140737488355328) :
    Calls Tryz.prog 7 #[.pointer (some ⟨p, 0, none⟩), RV client time o A c] w (Asked S R p s client time o w) := by
  have hak := ak_new w client time o A c
  have HAK := Lib.hid hak
  have HZ := Lib.hid h
  have hz1 := h.later (HAK.out.below.mono (Nat.le_refl _))
  have HM := Lib.hid (made_on _ S R p s hz1)
  obtain ⟨c0, c1, t0, t1⟩ := badArg_no (by rw [hb]; simp)
  obtain ⟨m, D, G, V, M, F, hP⟩ := hz1
  have hlen := hP.len8
  obtain ⟨i, rfl⟩ : ∃ i : Nat, client = (i : Int) := ⟨client.toNat, by omega⟩
  have hi : i < s.last.length := by omega
  obtain ⟨q0, q1, q2⟩ := hP.cellA hi
  have hg : s.last.getD (Int.toNat (i : Int)) An.zero = s.last[i] := by rw [Int.toNat_natCast, List.getD_eq_getElem?_getD, List.getElem?_eq_getElem hi]; rfl
  rw [hg] at hlt
  have hg2 : s.last.getD i An.zero = s.last[i] := by rw [← hg, Int.toNat_natCast]
  have HAP : Hid (appS s i time o = ((doesS s.L o).1, (doesS s.L o).2.1, true, ⟨(doesS s.L o).2.2, s.last.set i ⟨time, (doesS s.L o).1.1, (doesS s.L o).1.2⟩⟩)) := Lib.hid (by
    rw [appS, if_neg (by rw [hb]; simp)]
    simp only [Int.toNat_natCast, hg2]
    rw [if_neg (by omega), if_neg (by omega)])
  have hgs : GoodS (appS s i time o).2.2.2 := appS_good HZ.out.good i time o
  rw [HAP.out] at hgs
  have HGS := Lib.hid hgs
  have HLS := Lib.hid hls
  obtain ⟨a0, a1, a2, a3, a4, a5, a6⟩ := hak.cells
  obtain ⟨r0, r1, fr0, fr1⟩ := hak.rcells
  simp only [maxNum] at t1
  have hcl : (decide (0 ≤ (i : Int)) && decide ((i : Int) < 8)) = true := by simp; omega
  have HCN : ∀ W : World, Hid (Calls Tryz.prog 18 #[.int .i64 (i : Int)] W fun e w' => e = .returned (.bool true) ∧ W = w') := fun W => Lib.hid (by rw [← hcl]; exact client_any W i)
  have hi8 : i < 8 := by omega
  clear hak h hP hb hg hg2 hcl hlen hgs hls
  generalize s.last[i] = a at *
  obtain ⟨at', ae, ao⟩ := a
  simp only at q0 q1 q2 hlt
  unfold RV
  unfold RC at HAK HM a0 a1 a2 a3 a4 a5 a6 r0 r1 fr0 fr1 q0 q1 q2 ⊢
  have heb : (time == at') = false := beq_eq_false_iff_ne.2 (by omega)
  go_enter Tryz.func7, Tryz.ntmps7
  go_wp2_with fail
  refine HM.out.mono ?_
  rintro e w1 ⟨rfl, rfl⟩
  go_wp2_with fail
  refine (HCN _).out.mono ?_
  rintro e w1 ⟨rfl, rfl⟩
  go_wp2_with fail
  generalize (w.alloc (.cells #[.int .i64 (i : Int), .int .i64 time, .int .i64 o.kind, .string ⟨o.topic.toArray⟩, .string ⟨o.group.toArray⟩, .int .i64 o.off, .slice A o.recs.length c] 40)).alloc (.cells #[.int .i64 0, .int .i64 0] 30) = W0 at *
  go_region_held3 (fun w' => w'.cell? ⟨w.heap.size, 0, none⟩ = some (.int .i64 (i : Int)) ∧ w'.cell? ⟨p, 1 + i * 3, none⟩ = some (.int .i64 at') ∧ w'.cell? ⟨p, 1 + i * 3 + 1, none⟩ = some (.int .i64 ae) ∧ w'.cell? ⟨p, 1 + i * 3 + 2, none⟩ = some (.int .i64 ao)) (first | exact ⟨a0, q0, q1, q2⟩ | go_keep) (fail)
  have hb1 : Below W0.heap.size W0 (W0.alloc (.cells #[.int .i64 at', .int .i64 ae, .int .i64 ao] 63)).drew := below_drewN (op_below _ _) 1
  have hl1 : Blk (W0.alloc (.cells #[.int .i64 at', .int .i64 ae, .int .i64 ao] 63)).drew W0.heap.size 63 #[.int .i64 at', .int .i64 ae, .int .i64 ao] := Blk.new _ _ _
  have HAK1 := Lib.hid (HAK.out.later hb1)
  generalize (W0.alloc (.cells #[.int .i64 at', .int .i64 ae, .int .i64 ao] 63)).drew = W1 at *
  clear a0 a1 a2 a3 a4 a5 a6 r0 r1 fr0 fr1 q0 q1 q2
  obtain ⟨a0, a1, a2, a3, a4, a5, a6⟩ := AK.cells HAK1.out
  obtain ⟨r0, r1, fr0, fr1⟩ := AK.rcells HAK1.out
  have l0 := hl1.cell 0
  have l1 := hl1.cell 1
  have l2 := hl1.cell 2
  simp only [List.getElem?_toArray, List.getElem?_cons_zero, List.getElem?_cons_succ] at l0 l1 l2
  have HB1 := Lib.hid (And.intro hb1 hl1)
  clear hb1 hl1
  go_wp2_with fail
  have hzb := (Tz.bound HZ.out).later HAK1.out.below
  have HDO := Lib.hid (do_any W1 _ R p s o X A c hzb (HLS.out.after HAK1.out.below) hl)
  unfold OV at HDO
  refine HDO.out.mono ?_
  rintro e w2 ⟨v2, B2, rfl, hBB, hps, S2, R2, hz2, hS2, hR2, hc2⟩
  have hreq2 := HAK1.out.req.ch hc2 (fun h => by have := h.2; omega)
  have hres2 := HAK1.out.res.ch hc2 (fun h => by have := h.2; omega)
  have HD2 := Lib.hid (And.intro hz2 (And.intro hS2 (And.intro hR2 (And.intro hc2 (And.intro hBB hps)))))
  clear a0 a1 a2 a3 a4 a5 a6 r0 r1 fr0 fr1 l0 l1 l2 hps hz2 hS2 hR2 hc2 hBB
  have a0 := hreq2.cell 0
  have a1 := hreq2.cell 1
  have r0 := hres2.cell 0
  have r1 := hres2.cell 1
  have fr0 := hres2.frozen 0
  have fr1 := hres2.frozen 1
  unfold RC at a0 a1
  simp only [List.getElem?_toArray, List.getElem?_cons_zero, List.getElem?_cons_succ] at r0 r1 a0 a1
  have HB2 := Lib.hid (And.intro hreq2 hres2)
  clear hreq2 hres2
  generalize he1 : (doesS s.L o).1.1 = ke at *
  generalize he2 : (doesS s.L o).1.2 = ko at *
  have HE12 := Lib.hid (And.intro he1 he2)
  clear he1 he2
  go_wp2_with fail
  have hb3 := op_below w2 (.cells #[.int .i64 ke, .int .i64 ko] 30)
  have hv3 : Blk (w2.alloc (.cells #[.int .i64 ke, .int .i64 ko] 30)) w2.heap.size 30 #[.int .i64 ke, .int .i64 ko] := Blk.new _ _ _
  generalize w2.alloc (.cells #[.int .i64 ke, .int .i64 ko] 30) = W3 at hb3 hv3 ⊢
  have hreq3 := HB2.out.1.below hb3 HB2.out.1.lt
  have hres3 := HB2.out.2.below hb3 HB2.out.2.lt
  have hz3 := HD2.out.1.later hb3
  obtain ⟨m3, D3, G3, V3, M3, F3, hP3⟩ := hz3
  have hi3 : i < (⟨(doesS s.L o).2.2, s.last⟩ : St).last.length := hi
  obtain ⟨u0, u1, u2, q0, q1, q2⟩ : ∃ u0 u1 u2, W3.cell? ⟨p, 1 + i * 3, none⟩ = some (.int .i64 u0) ∧ W3.cell? ⟨p, 1 + i * 3 + 1, none⟩ = some (.int .i64 u1) ∧ W3.cell? ⟨p, 1 + i * 3 + 2, none⟩ = some (.int .i64 u2) := ⟨_, _, _, hP3.cellA hi3⟩
  have fq0 := hP3.blk.frozen (1 + i * 3)
  have fq1 := hP3.blk.frozen (1 + i * 3 + 1)
  have fq2 := hP3.blk.frozen (1 + i * 3 + 2)
  clear a0 a1 r0 r1 fr0 fr1
  have a0 := hreq3.cell 0
  have a1 := hreq3.cell 1
  have m0 := hv3.cell 0
  have m1 := hv3.cell 1
  unfold RC at a0 a1
  simp only [List.getElem?_toArray, List.getElem?_cons_zero, List.getElem?_cons_succ] at a0 a1 m0 m1
  have HB3 := Lib.hid (And.intro hreq3 (And.intro hres3 (And.intro hb3 hv3)))
  have HP3 := Lib.hid hP3
  clear hreq3 hres3 hb3 hv3 hP3 hi3
  go_region_law (fail)
  all_goals
    have hpw : p < w.heap.size := by
      obtain ⟨m', D', G', V', M', F', h'⟩ := HZ.out
      exact h'.blk.lt
    have hz4 := tz_last HP3.out.shut hi8 ⟨time, ke, ko⟩ HGS.out
    have c4 := three_ch W3 p (1 + i * 3) (1 + i * 3 + 1) (1 + i * 3 + 2) (.int .i64 time) (.int .i64 ke) (.int .i64 ko)
    generalize ((W3.setCell ⟨p, 1 + i * 3, none⟩ (.int .i64 time)).setCell ⟨p, 1 + i * 3 + 1, none⟩ (.int .i64 ke)).setCell ⟨p, 1 + i * 3 + 2, none⟩ (.int .i64 ko) = W4 at hz4 c4 ⊢
    have hw2 := HAK1.out.below.size
    have hw3 := HD2.out.2.2.2.1.size
    have hv4 := HB3.out.2.2.2.ch c4 (by omega)
    have hres4 := HB3.out.2.1.ch c4 (by omega)
    clear a0 a1 m0 m1 q0 q1 q2 fq0 fq1 fq2
    have hz4' : Tz W4.drew S2 R2 p _ := hz4.ch (ch_drew (Ch.refl (fun _ => False) W4)) (fun _ _ h => h) (fun _ _ h => h)
    have c4' := ch_drew c4
    have hv4' : Blk W4.drew _ _ _ := hv4
    have hres4' : Blk W4.drew _ _ _ := hres4
    clear hz4 c4 hv4 hres4
    generalize W4.drew = W5 at hz4' c4' hv4' hres4' ⊢
    have m0 := hv4'.cell 0
    have m1 := hv4'.cell 1
    have r0 := hres4'.cell 0
    have r1 := hres4'.cell 1
    have fr0 := hres4'.frozen 0
    have fr1 := hres4'.frozen 1
    simp only [List.getElem?_toArray, List.getElem?_cons_zero, List.getElem?_cons_succ] at m0 m1 r0 r1
    have H4 := Lib.hid (And.intro hz4' (And.intro c4' hres4'))
    have HPW := Lib.hid (And.intro hpw (And.intro hw2 hw3))
    clear hz4' c4' hv4' hres4' hpw hw2 hw3
    go_wp2_with fail
    refine bodyPost_ret (results_row_tmp2 rfl _ _ (w.heap.size + 1) 30 #[.int .i64 ke, .int .i64 ko] (0, 0) _ rfl (blk2 H4.out.2.2 _ _) Tryz.underlying30 rfl Ai.size_res) rfl ?_
    exact asked_of (by rw [HAP.out, ← HE12.out.1, ← HE12.out.2]) (Nat.le_trans HPW.out.2.1 HD2.out.2.2.2.2.1) (apply_ps HPW.out.1 HAK1.out HD2.out.2.2.2.2.1 HD2.out.2.2.2.2.2 HD2.out.2.2.2.1 HB3.out.2.2.1 H4.out.2.1) (apply_fin HZ.out HPW.out.1 HAK1.out HD2.out.2.1 HD2.out.2.2.1 HD2.out.2.2.2.1 HB3.out.2.2.1 H4.out.2.1 H4.out.1)
theorem apply_any (w : World) (S R : Nat → Prop) (p : Nat) (s : St) (client time : Int) (o : O) (X : Nat → Prop) (A : Option Addr) (c : Nat) (h : Tz w S R p s) (hls : Ls w X (.slice A o.recs.length c) o.recs) (hl : o.recs.length ≤ 140737488355328) :
    Calls Tryz.prog 7 #[.pointer (some ⟨p, 0, none⟩), RV client time o A c] w (Asked S R p s client time o w) := by
  by_cases hb : badArg client time = true
  · exact apply_bad w S R p s client time o A c hb h
  · have hb := Bool.eq_false_iff.2 hb
    by_cases hle : time ≤ (s.last.getD client.toNat An.zero).time
    · exact apply_old w S R p s client time o A c hb hle h
    · exact apply_new w S R p s client time o X A c hb (by omega) h hls hl
end Go.Proofs.YtkoedonllfmaaaaGreat.Al

/-
  The plain mathematics of layer 7 (topics): what is asked of topics.
-/
namespace Go.Proofs.YtkoedonllfmaaaaGreat.To
set_option linter.unusedSimpArgs false
set_option linter.unusedVariables false
open Cm Pm Pz Tm Tn Tq
/-- What Bounds answers. -/
def boundsT (L : List Tp) (s : Tx) : Int × Int × Int := match findT L s with
  | none => (0, 0, 4)
  | some t => (t.base, t.next, 0)
/-- What Get answers. -/
def getT (L : List Tp) (s : Tx) (k : Int) : Tx × Int := match findT L s with
  | none => ([], 4)
  | some t => if k < t.base ∨ t.next ≤ k then ([], 72) else (t.recs.getD (k - t.base).toNat [], 0)
/-- What Committed answers. -/
def commT (L : List Tp) (s g : Tx) : Int × Int := match findT L s with
  | none => (0, 4)
  | some t => match pos t.gs g with
    | none => (0, 4)
    | some k => (k, 0)
end Go.Proofs.YtkoedonllfmaaaaGreat.To

/-
  Contracts of the program's topics: Bounds, Get.
-/
namespace Go.Proofs.YtkoedonllfmaaaaGreat.Am
set_option linter.unusedSimpArgs false
open Go Go.RowKit Ck Kw Ga Kf Km Pm Pz Tm Tn Tq To Aa Ab Ac
attribute [local go_sem ↓] Go.wp_at_zero Go.wp_at_succ
set_option linter.unusedVariables false

set_option maxRecDepth 100000 in
set_option maxHeartbeats 1000000 in
theorem bounds_any (w : World) (S R : Nat → Prop) (p : Nat) (s : St) (x : Tx) (hx : x.length ≤ 140737488355328) (h : Tz w S R p s) :
    Calls Tryz.prog 52 #[.pointer (some ⟨p, 0, none⟩), .string ⟨x.toArray⟩] w fun e w' => e = .returned (.tuple #[.int .i64 (boundsT s.L x).1, .int .i64 (boundsT s.L x).2.1, .int .i64 (boundsT s.L x).2.2]) ∧ Below w.heap.size w w' := by
  obtain ⟨m, D, G, V, M, F, hP⟩ := h
  have HF := Lib.hid (find_on w S R p m s D G V M F x hx hP)
  cases hf : findT s.L x with
  | none =>
    have e : boundsT s.L x = (0, 0, 4) := by rw [boundsT, hf]
    rw [e]
    rw [hf] at HF
    unfold PV at HF
    simp only [Option.map_none, Option.isSome_none] at HF
    clear hP hf e hx
    go_enter Tryz.func52, Tryz.ntmps52
    go_wp2_with fail
    refine HF.out.mono ?_
    rintro e w2 ⟨rfl, rfl⟩
    go_wp2_with fail
    go_ret3
    exact ⟨rfl, Below.refl _ _⟩
  | some t =>
    have e : boundsT s.L x = (t.base, t.next, 0) := by rw [boundsT, hf]
    rw [e]
    obtain ⟨ht, hn⟩ := findT_some hf
    have hT := hP.top t ht
    have hfit := hP.good.L.fit t ht
    have HN := Lib.hid (next_any w.drew _ R _ t _ _ (Tg.later hT (below_drewN (Below.refl _ w) 1)) hfit.base hfit.next)
    have c0 : w.cell? ⟨G t.n, 0, none⟩ = some (.int .i64 t.base) := hT.blk.cell 0
    have HT := Lib.hid hT
    rw [hf] at HF
    unfold PV at HF
    simp only [Option.map_some, Option.isSome_some] at HF
    clear hP hf e hx hT hfit ht hn
    go_enter Tryz.func52, Tryz.ntmps52
    go_wp2_with fail
    refine HF.out.mono ?_
    rintro e w2 ⟨rfl, rfl⟩
    go_wp2_with fail
    go_region_held3 (fun w' => w'.cell? ⟨G t.n, 0, none⟩ = some (.int .i64 t.base)) (first | exact c0 | exact j0)
      (first
        | (go_at_call 40; refine HN.out.mono ?_; rintro e w3 ⟨rfl, hb3⟩; have hb3' := below_of_drew hb3; have j0 : w3.cell? ⟨G t.n, 0, none⟩ = some (.int .i64 t.base) := (HT.out.blk.below hb3' HT.out.blk.lt).cell 0))
    all_goals
      go_wp2_with fail
      go_ret3
      exact ⟨rfl, hb3'⟩
/-- What Get leaves. -/
def Got (w : World) (r : Tx × Int) (e : Ending) (w' : World) : Prop := ∃ v, e = .returned (.tuple #[v, .int .i64 r.2]) ∧ w'.ownsRow w.heap.size 5 1 v r.1.length (BVs r.1) ∧ Below w.heap.size w w'
set_option maxRecDepth 100000 in
set_option maxHeartbeats 1000000 in
theorem get_any (w : World) (S R : Nat → Prop) (p : Nat) (s : St) (x : Tx) (k : Int) (hx : x.length ≤ 140737488355328) (h : Tz w S R p s) :
    Calls Tryz.prog 15 #[.pointer (some ⟨p, 0, none⟩), .string ⟨x.toArray⟩, .int .i64 k] w (Got w (getT s.L x k)) := by
  obtain ⟨m, D, G, V, M, F, hP⟩ := h
  have HF := Lib.hid (find_on w S R p m s D G V M F x hx hP)
  cases hf : findT s.L x with
  | none =>
    have e : getT s.L x k = ([], 4) := by rw [getT, hf]
    rw [e]
    rw [hf] at HF
    unfold PV at HF
    simp only [Option.map_none, Option.isSome_none] at HF
    clear hP hf e hx
    go_enter Tryz.func15, Tryz.ntmps15
    go_wp2_with fail
    refine HF.out.mono ?_
    rintro e w2 ⟨rfl, rfl⟩
    go_wp2_with fail
    go_ret2
    exact ⟨_, rfl, World.ownsRow_nil _ _ _ _, Below.refl _ _⟩
  | some t =>
    have e : getT s.L x k = if k < t.base ∨ t.next ≤ k then ([], 72) else (t.recs.getD (k - t.base).toNat [], 0) := by rw [getT, hf]
    rw [e]
    obtain ⟨ht, hn⟩ := findT_some hf
    have hT := hP.top t ht
    have hfit := hP.good.L.fit t ht
    have HN := Lib.hid (next_any w _ R _ t _ _ hT hfit.base hfit.next)
    have c0 : w.cell? ⟨G t.n, 0, none⟩ = some (.int .i64 t.base) := hT.blk.cell 0
    have HT := Lib.hid hT
    obtain ⟨vals, h1, h2⟩ := hT.recs
    obtain ⟨Ar, cr, hV⟩ := own_shape h1
    have HV := Lib.hid (And.intro h1 h2)
    have hb0 := hfit.base
    have hb1 := hfit.next
    have hfew := hfit.few
    have heach := hfit.each
    have HNX : Hid (t.next = t.base + (t.recs.length : Int)) := Lib.hid rfl
    simp only [maxNum] at hb1
    have HE := Lib.hid heach
    rw [hf] at HF
    unfold PV at HF
    simp only [Option.map_some, Option.isSome_some] at HF
    clear hP hf e hx hT hfit ht hn h1 h2 heach
    by_cases q1 : k < t.base
    · rw [if_pos (.inl q1)]
      go_enter Tryz.func15, Tryz.ntmps15
      go_wp2_with fail
      refine HF.out.mono ?_
      rintro e w2 ⟨rfl, rfl⟩
      go_wp2_with fail
      go_ret2
      exact ⟨_, rfl, World.ownsRow_nil _ _ _ _, Below.refl _ _⟩
    · have q1' : t.base ≤ k := by omega
      by_cases q2 : t.next ≤ k
      · rw [if_pos (.inr q2)]
        clear q1
        go_enter Tryz.func15, Tryz.ntmps15
        go_wp2_with fail
        refine HF.out.mono ?_
        rintro e w2 ⟨rfl, rfl⟩
        go_wp2_with fail
        refine HN.out.mono ?_
        rintro e w3 ⟨rfl, hb3⟩
        have HB3 := Lib.hid hb3
        clear hb3
        go_wp2_with fail
        go_ret2
        exact ⟨_, rfl, World.ownsRow_nil _ _ _ _, HB3.out⟩
      · have q2' : k < t.next := by omega
        have hj : (k - t.base).toNat < t.recs.length := by have := HNX.out; omega
        rw [if_neg (by omega), List.getD_eq_getElem?_getD, List.getElem?_eq_getElem hj]
        have hk : k = t.base + ((k - t.base).toNat : Int) := by omega
        generalize (k - t.base).toNat = j at *
        subst hk
        simp only [Option.getD_some]
        have hw : IntKind.i64.wrap (t.base + (j : Int) - t.base) = (j : Int) := by
          rw [show t.base + (j : Int) - t.base = (j : Int) from by omega]
          exact Ga.wrap64 (by omega) (by omega)
        have hw2 : t.base + (j : Int) - t.base = (j : Int) := by omega
        have hw3 : IntKind.i64.wrap (j : Int) = (j : Int) := Ga.wrap64 (by omega) (by omega)
        have hj2 : (j : Int) < (t.recs.length : Int) := by omega
        have HJ := Lib.hid hj
        clear q1 q2
        go_enter Tryz.func15, Tryz.ntmps15
        go_wp2_with fail
        refine HF.out.mono ?_
        rintro e w2 ⟨rfl, rfl⟩
        go_wp2_with fail
        refine HN.out.mono ?_
        rintro e w3 ⟨rfl, hb3⟩
        have HB3 := Lib.hid hb3
        have HT3 := Lib.hid (Tg.later HT.out hb3)
        clear hb3 c0
        obtain ⟨u, hu, hs⟩ := HV.out.2 j HJ.out
        have hs3 := hs.after HB3.out
        have hcell : ∃ g, Ar = some ⟨g, 0, none⟩ ∧ w3.cell? ⟨g, j, none⟩ = some u := by
          have ho := own_below HV.out.1 HB3.out
          rw [hV] at ho
          obtain ⟨g, c, hv, hb, hlt⟩ := ho.form (by have := HJ.out; omega)
          obtain ⟨rfl, _, rfl⟩ := Value.slice.inj hv
          exact ⟨g, rfl, by rw [ho.cellAt j (by have := HJ.out; omega), hu]⟩
        obtain ⟨g, rfl, hcell⟩ := hcell
        obtain ⟨Au, cu, rfl, -⟩ := id hs3
        have HCL := Lib.hid (clone_sh _ _ _ t.recs[j] w3.drew hs3.drew (by have := HE.out _ (List.getElem_mem HJ.out); omega))
        have c0 : w3.cell? ⟨G t.n, 0, none⟩ = some (.int .i64 t.base) := HT3.out.blk.cell 0
        have c1 : w3.cell? ⟨G t.n, 1, none⟩ = some (.slice (some ⟨g, 0, none⟩) t.recs.length cr) := by
          have := HT3.out.blk.cell 1
          rw [← hV]
          simpa using this
        clear hs hs3 hu
        go_wp2_with fail
        go_region_held3 (fun w' => w'.cell? ⟨G t.n, 0, none⟩ = some (.int .i64 t.base) ∧ w'.cell? ⟨G t.n, 1, none⟩ = some (.slice (some ⟨g, 0, none⟩) t.recs.length cr) ∧ w'.cell? ⟨g, j, none⟩ = some (.slice Au t.recs[j].length cu)) (first | exact ⟨c0, c1, hcell⟩ | exact ⟨j0, j1, j2⟩)
          (first
            | (go_at_call 41; refine HCL.out.mono ?_; rintro e w4 ⟨A4, c4, rfl, ho4, hb4⟩; have hb4' : Below w3.heap.size w3 w4 := below_of_drew hb4; have j0 : w4.cell? ⟨G t.n, 0, none⟩ = some (.int .i64 t.base) := (hb4'.cell (World.block_lt_of_cell? _ _ c0)).trans c0; have j1 : w4.cell? ⟨G t.n, 1, none⟩ = some (.slice (some ⟨g, 0, none⟩) t.recs.length cr) := (hb4'.cell (World.block_lt_of_cell? _ _ c1)).trans c1; have j2 : w4.cell? ⟨g, j, none⟩ = some (.slice Au t.recs[j].length cu) := (hb4'.cell (World.block_lt_of_cell? _ _ hcell)).trans hcell))
        all_goals
          go_wp2_with fail
          go_ret2
          exact ⟨_, rfl, own_base ho4 HB3.out.size, below_tr HB3.out hb4'⟩
end Go.Proofs.YtkoedonllfmaaaaGreat.Am

/-
  The contract of the laws' live.
-/
namespace Go.Proofs.YtkoedonllfmaaaaGreat.An
set_option linter.unusedSimpArgs false
open Go Go.RowKit Ck Kw Ga Kf Km Kd Pm Pz Pe Pg Py Qb Qg Tm Tn Tq To Aa Ab Ac Ad Ae Af Ag Ah Ai Aj Al Am
attribute [local go_sem ↓] Go.wp_at_zero Go.wp_at_succ
set_option linter.unusedVariables false

def o1 : O := ⟨1, [116], [], 0, []⟩
def o2 : O := ⟨2, [116], [], 0, [[1], [2]]⟩
def o3 : O := ⟨0, [], [], 0, []⟩
def s1 : St := (appS St.zero 0 1 o1).2.2.2
def s2 : St := (appS s1 1 1 o2).2.2.2
theorem app1 : appS St.zero 0 1 o1 = ((0, 0), [], true, s1) := by decide +kernel
theorem app2 : appS s1 1 1 o2 = ((0, 0), [([116], 0, [1]), ([116], 1, [2])], true, s2) := by decide +kernel
theorem app3 : appS s2 1 1 o3 = ((0, 0), [], false, s2) := by decide +kernel
theorem get4 : getT s2.L [116] 1 = ([2], 0) := by decide +kernel
theorem ls_nil (w : World) (X : Nat → Prop) : Ls w X (.slice none 0 0) [] := ⟨[], Sl.nil _ _ _, fun i hi => absurd hi (by simp)⟩
/-- Topics that are in none of the blocks N. -/
def On (N : Nat → Prop) (w : World) (p : Nat) (s : St) : Prop := ∃ S R, Tz w S R p s ∧ (∀ k, S k → ¬ N k ∧ k < w.heap.size) ∧ ∀ k, R k → ¬ N k
section
variable {N N' : Nat → Prop} {p : Nat} {w w' : World} {s s' : St} {X : Nat → Prop}
theorem On.ch (h : On N w p s) (c : Ch X w w') (hx : ∀ k, X k → N k) : On N w' p s := by
  obtain ⟨S, R, h1, h2, h3⟩ := h
  exact ⟨S, R, h1.ch c (fun k hk hX => (h2 k hk).1 (hx k hX)) (fun k hk hX => h3 k hk (hx k hX)), fun k hk => ⟨(h2 k hk).1, Nat.lt_of_lt_of_le (h2 k hk).2 c.size⟩, h3⟩
theorem On.later (h : On N w p s) (b : Below w.heap.size w w') : On N w' p s := h.ch (Ch.of_below (S := fun _ => False) b (Nat.le_refl _)) (fun _ h => h.elim)
theorem On.weaken (h : On N w p s) (hn : ∀ k, N' k → N k) : On N' w p s := by
  obtain ⟨S, R, h1, h2, h3⟩ := h
  exact ⟨S, R, h1, fun k hk => ⟨fun h => (h2 k hk).1 (hn k h), (h2 k hk).2⟩, fun k hk h => h3 k hk (hn k h)⟩
/-- What is made beside them is none of them. -/
theorem On.skip (h : On N w p s) (b : Below w.heap.size w w') : On (fun k => N k ∨ (w.heap.size ≤ k ∧ k < w'.heap.size)) w' p s := by
  obtain ⟨S, R, h1, h2, h3⟩ := h
  refine ⟨S, R, h1.later b, fun k hk => ⟨fun h => ?_, Nat.lt_of_lt_of_le (h2 k hk).2 b.size⟩, fun k hk h => ?_⟩
  · rcases h with h | h
    · exact (h2 k hk).1 h
    · have := (h2 k hk).2; omega
  · rcases h with h | h
    · exact h3 k hk h
    · have := (Tz.rlt h1 k hk).2; omega
theorem On.good (h : On N w p s) : GoodS s := by
  obtain ⟨S, R, h1, h2, h3⟩ := h
  exact h1.good
theorem on_new (h : Tz w' (New w w') (fun _ => False) p s) : On (fun k => k < w.heap.size) w' p s := ⟨_, _, h, fun k hk => ⟨by have := hk.1; omega, hk.2⟩, fun k hk => hk.elim⟩
/-- What a request leaves of topics that are in none of the blocks N. -/
theorem On.asked {client time : Int} {o : O} {A : Option Addr} {c : Nat} {k off : Int} {b : Bool} {pl : List (Tx × Int × Tx)} (h : On N w p s) (hN : ∀ k, N k → k < w.heap.size) (hls : Ls w X (.slice A o.recs.length c) o.recs) (hl : o.recs.length ≤ 140737488355328) (ha : appS s client time o = ((k, off), pl, b, s')) :
    Calls Tryz.prog 7 #[.pointer (some ⟨p, 0, none⟩), RV client time o A c] w fun e w' => ∃ v B, e = .returned (.tuple #[.agg #[.int .i64 k, .int .i64 off], v, .bool b]) ∧ w.heap.size ≤ B ∧ Ps w' B v pl ∧ On (fun k => N k ∨ (B ≤ k ∧ k < w'.heap.size)) w' p s' ∧ Ch (fun k => ¬ N k ∧ k < w.heap.size) w w' := by
  obtain ⟨S, R, h1, h2, h3⟩ := h
  refine (apply_any w S R p s client time o X A c h1 hls hl).mono ?_
  intro e w' he
  unfold Asked at he
  rw [ha] at he
  obtain ⟨v, B, hv, hB, hp, S', R', g1, g2, g3, g4⟩ := he
  have hs := g4.size
  refine ⟨v, B, hv, hB, hp, ⟨_, R', Tz.bound g1, fun k hk => ⟨fun h => ?_, hk.2⟩, fun k hk h => ?_⟩, g4.mono (fun k hk hs => h2 k hs)⟩
  · obtain ⟨q1, q2⟩ := g2 k hk.1
    rcases h with h | h
    · rcases q1 with q | q
      · exact (h2 k q).1 h
      · have := hN k h; omega
    · omega
  · obtain ⟨q1, q2⟩ := g3 k hk
    rcases h with h | h
    · rcases q1 with q | q
      · exact h3 k q h
      · have := hN k h; omega
    · omega
end
theorem On.get {N : Nat → Prop} {p : Nat} {w : World} {s : St} (h : On N w p s) (x : Tx) (k : Int) (hx : x.length ≤ 140737488355328) : Calls Tryz.prog 15 #[.pointer (some ⟨p, 0, none⟩), .string ⟨x.toArray⟩, .int .i64 k] w (Got w (getT s.L x k)) := by
  obtain ⟨S, R, h1, -⟩ := h
  exact get_any w S R p s x k hx h1
theorem second_off {w : World} {B : Nat} {v : Value} {n m : Tx} {x y : Tx} {i j : Int} (h : Ps w B v [(n, i, x), (m, j, y)]) : ∃ g c, v = .slice (some ⟨g, 0, none⟩) 2 c ∧ w.cell? ⟨g, 4, none⟩ = some (.int .i64 j) := by
  obtain ⟨l, hl, hr, -⟩ := h
  obtain ⟨g, c, rfl, hb, hlt⟩ := hr.form (by simp)
  refine ⟨g, c, rfl, ?_⟩
  have hc := hr.cells (g := g) rfl 4 (.int .i64 j)
  have ha : (⟨g, 0, none⟩ : Addr).add 4 = ⟨g, 4, none⟩ := rfl
  rw [ha] at hc
  refine hc ?_
  match l, hl with
  | [a, b], hl =>
    simp only [List.map_cons, List.map_nil, List.cons.injEq, and_true] at hl
    obtain ⟨-, hb⟩ := hl
    simp [PCs, PC, hb]
theorem one_rec (w : World) (x : UInt8) {cs : Array Value} (hc : cs = #[.int .u8 (x.toNat : Int)]) {g : Nat} (hg : g = w.heap.size) : Sl (w.alloc (.cells cs 5)) (fun _ => False) 1 (.slice (some ⟨g, 0, none⟩) 1 1) 1 (BVs [x]) := by
  subst hg
  exact Sl_lit w (fun _ => False) 5 [x] (by rw [hc]; rfl) rfl (by omega) (fun h => h)
/-- Two records of one byte each. -/
theorem two_recs (w : World) (x y : UInt8) {c1 c2 : Array Value} (h1 : c1 = #[.int .u8 (x.toNat : Int)]) (h2 : c2 = #[.int .u8 (y.toNat : Int)]) {g : Nat} (hg : g = w.heap.size) :
    Ls (((w.alloc (.cells c1 5)).alloc (.cells c2 5)).alloc (.cells #[.slice (some ⟨g, 0, none⟩) 1 1, .slice (some ⟨g + 1, 0, none⟩) 1 1] 55)) (fun _ => False) (.slice (some ⟨g + 1 + 1, 0, none⟩) 2 2) [[x], [y]] := by
  have b1 : Below ((w.alloc (.cells c1 5))).heap.size (w.alloc (.cells c1 5)) ((w.alloc (.cells c1 5)).alloc (.cells c2 5)) := op_below _ _
  have s1 := ((one_rec w x h1 hg).after (op_below _ (.cells c2 5))).after (op_below _ (.cells #[.slice (some ⟨g, 0, none⟩) 1 1, .slice (some ⟨g + 1, 0, none⟩) 1 1] 55))
  have s2 := (one_rec (w.alloc (.cells c1 5)) y h2 (g := g + 1) (by simp [hg])).after (op_below _ (.cells #[.slice (some ⟨g, 0, none⟩) 1 1, .slice (some ⟨g + 1, 0, none⟩) 1 1] 55))
  have hb : Blk (((w.alloc (.cells c1 5)).alloc (.cells c2 5)).alloc (.cells #[.slice (some ⟨g, 0, none⟩) 1 1, .slice (some ⟨g + 1, 0, none⟩) 1 1] 55)) (g + 1 + 1) 55 #[.slice (some ⟨g, 0, none⟩) 1 1, .slice (some ⟨g + 1, 0, none⟩) 1 1] := Blk.new_at (by simp [hg]) rfl
  refine ⟨[.slice (some ⟨g, 0, none⟩) 1 1, .slice (some ⟨g + 1, 0, none⟩) 1 1], ⟨_, _, rfl, rfl, Nat.le_refl _, by simp [maxLen], fun _ => ⟨_, rfl, hb.lt, fun h => h, fun j u hu => ?_⟩⟩, fun i hi => ?_⟩
  · have ha : (⟨g + 1 + 1, 0, none⟩ : Addr).add j = ⟨g + 1 + 1, j, none⟩ := by unfold Addr.add; split <;> simp_all
    rw [ha, hb.cell j]
    simpa using hu
  · match i, hi with
    | 0, _ => exact ⟨_, rfl, s1⟩
    | 1, _ => exact ⟨_, rfl, s2⟩
set_option maxRecDepth 100000 in
set_option maxHeartbeats 2000000 in
theorem live_any (w : World) : Calls Tryz.prog 5 #[] w fun e w' => e = .returned (.bool true) ∧ Below w.heap.size w w' := by
  go_enter Tryz.func5, Tryz.ntmps5
  go_wp2_with fail
  refine (new_any w).mono ?_
  rintro e w1 ⟨p, rfl, hz1, hb1⟩
  have HO1 := Lib.hid (on_new hz1)
  have HB1 := Lib.hid hb1
  clear hz1 hb1
  go_wp2_with fail
  refine (HO1.out.asked (client := 0) (time := 1) (o := o1) (X := fun _ => False) (A := none) (c := 0) (fun k hk => by have := HB1.out.size; omega) (ls_nil _ _) (by decide) app1).mono ?_
  rintro e w2 ⟨v2, B2, rfl, hB2, hp2, ho2, hc2⟩
  have hb2 := HB1.out.trans (hc2.below (fun k hk h => h.1 hk) HB1.out.size)
  have HO2 := Lib.hid (ho2.weaken (N' := fun k => k < w.heap.size) (fun k hk => .inl hk))
  have HB2 := Lib.hid hb2
  clear hB2 hp2 ho2 hc2 hb2
  go_wp2_with fail
  have hba : Below w2.heap.size w2 ((((w2.alloc (.cells #[.int .i64 0, .int .i64 0] 30)).alloc (.cells #[.int .u8 1] 5)).alloc (.cells #[.int .u8 2] 5)).alloc (.cells #[.slice (some ⟨w2.heap.size + 1, 0, none⟩) 1 1, .slice (some ⟨w2.heap.size + 1 + 1, 0, none⟩) 1 1] 55)) :=
    (((op_below w2 _).trans ((op_below _ _).mono (by simp))).trans ((op_below _ _).mono (by simp; omega))).trans ((op_below _ _).mono (by simp; omega))
  have hls := two_recs (w2.alloc (.cells #[.int .i64 0, .int .i64 0] 30)) 1 2 (c1 := #[.int .u8 1]) (c2 := #[.int .u8 2]) rfl rfl (g := w2.heap.size + 1) (by simp)
  have hra : Blk ((((w2.alloc (.cells #[.int .i64 0, .int .i64 0] 30)).alloc (.cells #[.int .u8 1] 5)).alloc (.cells #[.int .u8 2] 5)).alloc (.cells #[.slice (some ⟨w2.heap.size + 1, 0, none⟩) 1 1, .slice (some ⟨w2.heap.size + 1 + 1, 0, none⟩) 1 1] 55)) w2.heap.size 30 #[.int .i64 0, .int .i64 0] := (((Blk.new w2 _ _).alloc _).alloc _).alloc _
  generalize ((((w2.alloc (.cells #[.int .i64 0, .int .i64 0] 30)).alloc (.cells #[.int .u8 1] 5)).alloc (.cells #[.int .u8 2] 5)).alloc (.cells #[.slice (some ⟨w2.heap.size + 1, 0, none⟩) 1 1, .slice (some ⟨w2.heap.size + 1 + 1, 0, none⟩) 1 1] 55)) = w3 at hba hls hra ⊢
  have HO3 := Lib.hid (HO2.out.skip hba)
  have HB3 := Lib.hid (HB2.out.trans (hba.mono HB2.out.size))
  have HZ3 := Lib.hid (And.intro hba hra)
  have hN3 : ∀ k, (k < w.heap.size ∨ (w2.heap.size ≤ k ∧ k < w3.heap.size)) → k < w3.heap.size := fun k hk => by have := HB3.out.size; omega
  refine (HO3.out.asked (client := 1) (time := 1) (o := o2) (X := fun _ => False) (A := some ⟨w2.heap.size + 1 + 1 + 1, 0, none⟩) (c := 2) hN3 hls (by decide) app2).mono ?_
  rintro e w4 ⟨v4, B4, rfl, hB4, hp4, ho4, hc4⟩
  have HO4 := Lib.hid ho4
  have HP4 := Lib.hid hp4
  have HB4 := Lib.hid (HB3.out.trans (hc4.below (fun k hk h => h.1 (.inl hk)) HB3.out.size))
  have HR4 := Lib.hid (HZ3.out.2.ch hc4 (fun h => h.1 (.inr ⟨Nat.le_refl _, HZ3.out.2.lt⟩)))
  have HN4 := Lib.hid hB4
  have HS4 := Lib.hid hc4.size
  clear hba hls hra hN3 hB4 hp4 ho4 hc4
  go_wp2_with fail
  have hb5 := op_below w4 (.cells #[.int .i64 0, .int .i64 0] 30)
  have hrb : Blk (w4.alloc (.cells #[.int .i64 0, .int .i64 0] 30)) w4.heap.size 30 #[.int .i64 0, .int .i64 0] := Blk.new w4 _ _
  generalize w4.alloc (.cells #[.int .i64 0, .int .i64 0] 30) = w5 at hb5 hrb ⊢
  have HO5 := Lib.hid (HO4.out.skip hb5)
  have HB5 := Lib.hid (HB4.out.trans (hb5.mono HB4.out.size))
  have HP5 := Lib.hid (HP4.out.later hb5)
  have HR5 := Lib.hid (And.intro (HR4.out.below hb5 HR4.out.lt) hrb)
  have HZ5 := Lib.hid hb5.size
  have hlt := HZ3.out.2.lt
  have hN5 : ∀ k, (((k < w.heap.size ∨ (w2.heap.size ≤ k ∧ k < w3.heap.size)) ∨ (B4 ≤ k ∧ k < w4.heap.size)) ∨ (w4.heap.size ≤ k ∧ k < w5.heap.size)) → k < w5.heap.size := fun k hk => by have := HB3.out.size; have := HS4.out; have := HZ5.out; omega
  refine (HO5.out.asked (client := 1) (time := 1) (o := o3) (X := fun _ => False) (A := none) (c := 0) hN5 (ls_nil _ _) (by decide) app3).mono ?_
  rintro e w6 ⟨v6, B6, rfl, hB6, hp6, ho6, hc6⟩
  have HB6 := Lib.hid (HB5.out.trans (hc6.below (fun k hk h => h.1 (.inl (.inl (.inl hk)))) HB5.out.size))
  have HR6 := Lib.hid (And.intro (HR5.out.1.ch hc6 (fun h => h.1 (.inl (.inl (.inr ⟨Nat.le_refl _, hlt⟩))))) (HR5.out.2.ch hc6 (fun h => h.1 (.inr ⟨Nat.le_refl _, HR5.out.2.lt⟩))))
  have HP6 := Lib.hid (HP5.out.ch hc6 (fun k hk => by
    rcases Nat.lt_or_ge k B4 with h | h
    · exact h
    · refine absurd ?_ hk.1
      rcases Nat.lt_or_ge k w4.heap.size with h' | h'
      · exact .inl (.inr ⟨h, h'⟩)
      · exact .inr ⟨h', hk.2⟩))
  have HO6 := Lib.hid ho6
  clear hlt hN5 hB6 hp6 ho6 hc6 hb5 hrb
  go_wp2_with fail
  have hb7 := op_below w6 (.cells #[.int .i64 0, .int .i64 0] 30)
  have hrc : Blk (w6.alloc (.cells #[.int .i64 0, .int .i64 0] 30)) w6.heap.size 30 #[.int .i64 0, .int .i64 0] := Blk.new w6 _ _
  generalize w6.alloc (.cells #[.int .i64 0, .int .i64 0] 30) = w7 at hb7 hrc ⊢
  refine ((HO6.out.later hb7).get [116] 1 (by decide)).mono ?_
  intro e w8 hgot
  rw [get4] at hgot
  obtain ⟨v8, rfl, hown8, hb8⟩ := hgot
  have HB8 := Lib.hid ((HB6.out.trans (hb7.mono HB6.out.size)).trans (hb8.mono (Nat.le_trans HB6.out.size hb7.size)))
  have HR8 := Lib.hid (And.intro ((HR6.out.1.below hb7 HR6.out.1.lt).below hb8 (Nat.lt_of_lt_of_le HR6.out.1.lt hb7.size)) (And.intro ((HR6.out.2.below hb7 HR6.out.2.lt).below hb8 (Nat.lt_of_lt_of_le HR6.out.2.lt hb7.size)) (hrc.below hb8 hrc.lt)))
  have HP8 := Lib.hid ((HP6.out.later hb7).later hb8)
  have HO8 := Lib.hid hown8
  clear hb7 hrc hown8 hb8
  obtain ⟨Av, cv, rfl⟩ := own_shape HO8.out
  obtain ⟨hq1, hq2, hq3⟩ := HR8.out
  have a0 := hq1.cell 0
  have b0 := hq2.cell 0
  have b1 := hq2.cell 1
  have c0 := hq3.cell 0
  have c1 := hq3.cell 1
  simp only [List.getElem?_toArray, List.getElem?_cons_zero, List.getElem?_cons_succ] at a0 b0 b1 c0 c1
  obtain ⟨g8, c8, rfl, d4⟩ := second_off HP8.out
  have heq := fun W => equal_any W (fun _ => False) (fun _ => False) (.slice Av 1 cv) (.slice (some ⟨w8.heap.size, 0, none⟩) 1 1) 1 1 [2] [2]
  clear hq1 hq2 hq3
  go_wp2_with fail
  refine (heq _ ((Sl.of_own HO8.out (fun _ _ _ h => h)).alloc _) (one_rec w8 2 rfl rfl)).mono ?_
  rintro e w' ⟨rfl, rfl⟩
  go_wp2_with fail
  go_ret
  exact ⟨rfl, HB8.out.alloc HB8.out.size _⟩
end Go.Proofs.YtkoedonllfmaaaaGreat.An

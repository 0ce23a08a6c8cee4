/-
  Contract of the program's topics: Apply, where a request is done.
-/
import Derived.Test.YtcmknopgoiabbaaAj
namespace Go.Proofs.Ytcmknopgoiabbaa.Al
set_option linter.unusedSimpArgs false
open Go Go.RowKit Ck Kw Ga Kf Km Kd Pm Pz Pe Pg Py Qb Qg Tm Tn Tq Aa Ab Ac Ad Ae Af Ag Ah Ai Aj
attribute [local go_sem ↓] Go.wp_at_zero Go.wp_at_succ
set_option linter.unusedVariables false

theorem three_ch (W : World) (p i j k : Nat) (x y z : Value) : Ch (fun q => q = p) W (((W.setCell ⟨p, i, none⟩ x).setCell ⟨p, j, none⟩ y).setCell ⟨p, k, none⟩ z) :=
  (((Ch.refl (fun q => q = p) W).setCell (p := ⟨p, i, none⟩) (fun _ => rfl) _).setCell (p := ⟨p, j, none⟩) (fun _ => rfl) _).setCell (p := ⟨p, k, none⟩) (fun _ => rfl) _
theorem two_ch (W : World) (g : Nat) (x y : Value) : Ch (fun q => q = g) W ((W.setCell ⟨g, 0, none⟩ x).setCell ⟨g, 1, none⟩ y) :=
  ((Ch.refl (fun q => q = g) W).setCell (p := ⟨g, 0, none⟩) (fun _ => rfl) _).setCell (p := ⟨g, 1, none⟩) (fun _ => rfl) _
theorem ch_drew {S : Nat → Prop} {a b : World} (h : Ch S a b) : Ch S a b.drew := ⟨h.os, h.tape, h.output, h.size, h.block⟩
section
variable {w W1 w2 W3 W4 : World} {S R S2 R2 : Nat → Prop} {p : Nat} {s s' : St} {client time : Int} {o : O} {A : Option Addr} {c : Nat} {u v : Value} {pl : List (Tx × Int × Tx)} {B : Nat}
theorem apply_ps (hp : p < w.heap.size) (hk : AK w client time o A c W1) (hB : W1.heap.size ≤ B) (h : Ps w2 B v pl) (c2 : Ch (fun k => S k ∧ k < w.heap.size) W1 w2) (b3 : Below w2.heap.size w2 W3) (c4 : Ch (fun q => q = p) W3 W4) {x y : Value} :
    Ps ((W4.setCell ⟨w.heap.size + 1, 0, none⟩ x).setCell ⟨w.heap.size + 1, 1, none⟩ y) B v pl := by
  have hs := hk.below.size
  have hr := hk.res.lt
  exact (((h.later b3).ch c4 (fun k hk => by omega)).ch (two_ch W4 (w.heap.size + 1) x y) (fun k hk => by omega))
theorem apply_fin (hz : Tz w S R p s) (hp : p < w.heap.size) (hk : AK w client time o A c W1) (h1 : ∀ k, S2 k → Up (fun k => S k ∧ k < w.heap.size) W1 w2 k ∧ k < B) (h2 : ∀ k, R2 k → Up R W1 w2 k ∧ k < B) (c2 : Ch (fun k => S k ∧ k < w.heap.size) W1 w2) (b3 : Below w2.heap.size w2 W3) (c4 : Ch (fun q => q = p) W3 W4) (h : Tz W4 S2 R2 p s') {x y : Value} :
    Applied S R p s' B w ((W4.setCell ⟨w.heap.size + 1, 0, none⟩ x).setCell ⟨w.heap.size + 1, 1, none⟩ y) := by
  have hs := hk.below.size
  have hr := hk.res.lt
  have s2 := c2.size
  have s3 := b3.size
  have s4 := c4.size
  have hSp : S p := by
    obtain ⟨m', D', G', V', M', F', h'⟩ := hz
    exact h'.sp
  have c5 := two_ch W4 (w.heap.size + 1) x y
  have s5 := c5.size
  refine ⟨S2, R2, h.ch c5 (fun k hk e => ?_) (fun k hk e => ?_), fun k hk => ?_, fun k hk => ?_, ?_⟩
  · rcases (h1 k hk).1 with h | h
    · have := h.2; omega
    · have := h.1; omega
  · rcases (h2 k hk).1 with h | h
    · have := (Tz.rlt hz k h).2; omega
    · have := h.1; omega
  · refine ⟨?_, (h1 k hk).2⟩
    rcases (h1 k hk).1 with h | h
    · exact .inl h.1
    · exact .inr ⟨by omega, by omega⟩
  · refine ⟨?_, (h2 k hk).2⟩
    rcases (h2 k hk).1 with h | h
    · exact .inl h
    · exact .inr ⟨by omega, by omega⟩
  · have k1 : Ch S w W1 := Ch.of_below hk.below (Nat.le_refl _)
    have k2 : Ch S w w2 := k1.trans (c2.mono (T := S) (fun k _ h => h.1)) (fun _ _ h => h)
    have k3 : Ch S w W3 := k2.trans (Ch.of_below (S := S) b3 (Nat.le_refl _)) (fun _ _ h => h)
    have k4 : Ch S w W4 := k3.trans (c4.mono (T := S) (fun k _ h => by rw [h]; exact hSp)) (fun _ _ h => h)
    exact k4.trans c5 (fun k h1 h2 => by omega)
end
set_option maxRecDepth 100000 in
set_option maxHeartbeats 2000000 in
theorem apply_new (w : World) (S R : Nat → Prop) (p : Nat) (s : St) (client time : Int) (o : O) (X : Nat → Prop) (A : Option Addr) (c : Nat) (hb : badArg client time = false) (hlt : (s.last.getD client.toNat An.zero).time < time) (h : Tz w S R p s) (hls : Ls w X (.slice A o.recs.length c) o.recs) (hl : o.recs.length ≤ 140737488355328) :
    Calls Try.prog 7 #[.pointer (some ⟨p, 0, none⟩), RV client time o A c] w (Asked S R p s client time o w) := by
  have hak := ak_new w client time o A c
  have HAK := Lib.hid hak
  have HZ := Lib.hid h
  have hz1 := h.later (HAK.out.below.mono (Nat.le_refl _))
  have HM := Lib.hid (made_on _ S R p s hz1)
  obtain ⟨c0, c1, t0, t1⟩ := badArg_no (by rw [hb]; simp)
  obtain ⟨m, D, G, V, M, F, hP⟩ := hz1
  have hlen := hP.len8
  obtain ⟨i, rfl⟩ : ∃ i : Nat, client = (i : Int) := ⟨client.toNat, by omega⟩
  have hi : i < s.last.length := by omega
  obtain ⟨q0, q1, q2⟩ := hP.cellA hi
  have hg : s.last.getD (Int.toNat (i : Int)) An.zero = s.last[i] := by rw [Int.toNat_natCast, List.getD_eq_getElem?_getD, List.getElem?_eq_getElem hi]; rfl
  rw [hg] at hlt
  have hg2 : s.last.getD i An.zero = s.last[i] := by rw [← hg, Int.toNat_natCast]
  have HAP : Hid (appS s i time o = ((doesS s.L o).1, (doesS s.L o).2.1, true, ⟨(doesS s.L o).2.2, s.last.set i ⟨time, (doesS s.L o).1.1, (doesS s.L o).1.2⟩⟩)) := Lib.hid (by
    rw [appS, if_neg (by rw [hb]; simp)]
    simp only [Int.toNat_natCast, hg2]
    rw [if_neg (by omega), if_neg (by omega)])
  have hgs : GoodS (appS s i time o).2.2.2 := appS_good HZ.out.good i time o
  rw [HAP.out] at hgs
  have HGS := Lib.hid hgs
  have HLS := Lib.hid hls
  obtain ⟨a0, a1, a2, a3, a4, a5, a6⟩ := hak.cells
  obtain ⟨r0, r1, fr0, fr1⟩ := hak.rcells
  simp only [maxNum] at t1
  have hcl : (decide (0 ≤ (i : Int)) && decide ((i : Int) < 8)) = true := by simp; omega
  have HCN : ∀ W : World, Hid (Calls Try.prog 14 #[.int .i64 (i : Int)] W fun e w' => e = .returned (.bool true) ∧ W = w') := fun W => Lib.hid (by rw [← hcl]; exact client_any W i)
  have hi8 : i < 8 := by omega
  clear hak h hP hb hg hg2 hcl hlen hgs hls
  generalize s.last[i] = a at *
  obtain ⟨at', ae, ao⟩ := a
  simp only at q0 q1 q2 hlt
  unfold RV
  unfold RC at HAK HM a0 a1 a2 a3 a4 a5 a6 r0 r1 fr0 fr1 q0 q1 q2 ⊢
  have heb : (time == at') = false := beq_eq_false_iff_ne.2 (by omega)
  go_enter Try.func7, Try.ntmps7
  go_wp2_with fail
  refine HM.out.mono ?_
  rintro e w1 ⟨rfl, rfl⟩
  go_wp2_with fail
  refine (HCN _).out.mono ?_
  rintro e w1 ⟨rfl, rfl⟩
  go_wp2_with fail
  generalize (w.alloc (.cells #[.int .i64 (i : Int), .int .i64 time, .int .i64 o.kind, .string ⟨o.topic.toArray⟩, .string ⟨o.group.toArray⟩, .int .i64 o.off, .slice A o.recs.length c] 31)).alloc (.cells #[.int .i64 0, .int .i64 0] 34) = W0 at *
  go_region_held3 (fun w' => w'.cell? ⟨w.heap.size, 0, none⟩ = some (.int .i64 (i : Int)) ∧ w'.cell? ⟨p, 1 + i * 3, none⟩ = some (.int .i64 at') ∧ w'.cell? ⟨p, 1 + i * 3 + 1, none⟩ = some (.int .i64 ae) ∧ w'.cell? ⟨p, 1 + i * 3 + 2, none⟩ = some (.int .i64 ao)) (first | exact ⟨a0, q0, q1, q2⟩ | go_keep) (fail)
  have hb1 : Below W0.heap.size W0 (W0.alloc (.cells #[.int .i64 at', .int .i64 ae, .int .i64 ao] 54)).drew := below_drewN (op_below _ _) 1
  have hl1 : Blk (W0.alloc (.cells #[.int .i64 at', .int .i64 ae, .int .i64 ao] 54)).drew W0.heap.size 54 #[.int .i64 at', .int .i64 ae, .int .i64 ao] := Blk.new _ _ _
  have HAK1 := Lib.hid (HAK.out.later hb1)
  generalize (W0.alloc (.cells #[.int .i64 at', .int .i64 ae, .int .i64 ao] 54)).drew = W1 at *
  clear a0 a1 a2 a3 a4 a5 a6 r0 r1 fr0 fr1 q0 q1 q2
  obtain ⟨a0, a1, a2, a3, a4, a5, a6⟩ := AK.cells HAK1.out
  obtain ⟨r0, r1, fr0, fr1⟩ := AK.rcells HAK1.out
  have l0 := hl1.cell 0
  have l1 := hl1.cell 1
  have l2 := hl1.cell 2
  simp only [List.getElem?_toArray, List.getElem?_cons_zero, List.getElem?_cons_succ] at l0 l1 l2
  have HB1 := Lib.hid (And.intro hb1 hl1)
  clear hb1 hl1
  go_wp2_with fail
  have hzb := (Tz.bound HZ.out).later HAK1.out.below
  have HDO := Lib.hid (do_any W1 _ R p s o X A c hzb (HLS.out.after HAK1.out.below) hl)
  unfold OV at HDO
  refine HDO.out.mono ?_
  rintro e w2 ⟨v2, B2, rfl, hBB, hps, S2, R2, hz2, hS2, hR2, hc2⟩
  have hreq2 := HAK1.out.req.ch hc2 (fun h => by have := h.2; omega)
  have hres2 := HAK1.out.res.ch hc2 (fun h => by have := h.2; omega)
  have HD2 := Lib.hid (And.intro hz2 (And.intro hS2 (And.intro hR2 (And.intro hc2 (And.intro hBB hps)))))
  clear a0 a1 a2 a3 a4 a5 a6 r0 r1 fr0 fr1 l0 l1 l2 hps hz2 hS2 hR2 hc2 hBB
  have a0 := hreq2.cell 0
  have a1 := hreq2.cell 1
  have r0 := hres2.cell 0
  have r1 := hres2.cell 1
  have fr0 := hres2.frozen 0
  have fr1 := hres2.frozen 1
  unfold RC at a0 a1
  simp only [List.getElem?_toArray, List.getElem?_cons_zero, List.getElem?_cons_succ] at r0 r1 a0 a1
  have HB2 := Lib.hid (And.intro hreq2 hres2)
  clear hreq2 hres2
  generalize he1 : (doesS s.L o).1.1 = ke at *
  generalize he2 : (doesS s.L o).1.2 = ko at *
  have HE12 := Lib.hid (And.intro he1 he2)
  clear he1 he2
  go_wp2_with fail
  have hb3 := op_below w2 (.cells #[.int .i64 ke, .int .i64 ko] 34)
  have hv3 : Blk (w2.alloc (.cells #[.int .i64 ke, .int .i64 ko] 34)) w2.heap.size 34 #[.int .i64 ke, .int .i64 ko] := Blk.new _ _ _
  generalize w2.alloc (.cells #[.int .i64 ke, .int .i64 ko] 34) = W3 at hb3 hv3 ⊢
  have hreq3 := HB2.out.1.below hb3 HB2.out.1.lt
  have hres3 := HB2.out.2.below hb3 HB2.out.2.lt
  have hz3 := HD2.out.1.later hb3
  obtain ⟨m3, D3, G3, V3, M3, F3, hP3⟩ := hz3
  have hi3 : i < (⟨(doesS s.L o).2.2, s.last⟩ : St).last.length := hi
  obtain ⟨u0, u1, u2, q0, q1, q2⟩ : ∃ u0 u1 u2, W3.cell? ⟨p, 1 + i * 3, none⟩ = some (.int .i64 u0) ∧ W3.cell? ⟨p, 1 + i * 3 + 1, none⟩ = some (.int .i64 u1) ∧ W3.cell? ⟨p, 1 + i * 3 + 2, none⟩ = some (.int .i64 u2) := ⟨_, _, _, hP3.cellA hi3⟩
  have fq0 := hP3.blk.frozen (1 + i * 3)
  have fq1 := hP3.blk.frozen (1 + i * 3 + 1)
  have fq2 := hP3.blk.frozen (1 + i * 3 + 2)
  clear a0 a1 r0 r1 fr0 fr1
  have a0 := hreq3.cell 0
  have a1 := hreq3.cell 1
  have m0 := hv3.cell 0
  have m1 := hv3.cell 1
  unfold RC at a0 a1
  simp only [List.getElem?_toArray, List.getElem?_cons_zero, List.getElem?_cons_succ] at a0 a1 m0 m1
  have HB3 := Lib.hid (And.intro hreq3 (And.intro hres3 (And.intro hb3 hv3)))
  have HP3 := Lib.hid hP3
  clear hreq3 hres3 hb3 hv3 hP3 hi3
  go_region_law (fail)
  all_goals
    have hpw : p < w.heap.size := by
      obtain ⟨m', D', G', V', M', F', h'⟩ := HZ.out
      exact h'.blk.lt
    have hz4 := tz_last HP3.out.shut hi8 ⟨time, ke, ko⟩ HGS.out
    have c4 := three_ch W3 p (1 + i * 3) (1 + i * 3 + 1) (1 + i * 3 + 2) (.int .i64 time) (.int .i64 ke) (.int .i64 ko)
    generalize ((W3.setCell ⟨p, 1 + i * 3, none⟩ (.int .i64 time)).setCell ⟨p, 1 + i * 3 + 1, none⟩ (.int .i64 ke)).setCell ⟨p, 1 + i * 3 + 2, none⟩ (.int .i64 ko) = W4 at hz4 c4 ⊢
    have hw2 := HAK1.out.below.size
    have hw3 := HD2.out.2.2.2.1.size
    have hv4 := HB3.out.2.2.2.ch c4 (by omega)
    have hres4 := HB3.out.2.1.ch c4 (by omega)
    clear a0 a1 m0 m1 q0 q1 q2 fq0 fq1 fq2
    have hz4' : Tz W4.drew S2 R2 p _ := hz4.ch (ch_drew (Ch.refl (fun _ => False) W4)) (fun _ _ h => h) (fun _ _ h => h)
    have c4' := ch_drew c4
    have hv4' : Blk W4.drew _ _ _ := hv4
    have hres4' : Blk W4.drew _ _ _ := hres4
    clear hz4 c4 hv4 hres4
    generalize W4.drew = W5 at hz4' c4' hv4' hres4' ⊢
    have m0 := hv4'.cell 0
    have m1 := hv4'.cell 1
    have r0 := hres4'.cell 0
    have r1 := hres4'.cell 1
    have fr0 := hres4'.frozen 0
    have fr1 := hres4'.frozen 1
    simp only [List.getElem?_toArray, List.getElem?_cons_zero, List.getElem?_cons_succ] at m0 m1 r0 r1
    have H4 := Lib.hid (And.intro hz4' (And.intro c4' hres4'))
    have HPW := Lib.hid (And.intro hpw (And.intro hw2 hw3))
    clear hz4' c4' hv4' hres4' hpw hw2 hw3
    go_wp2_with fail
    refine bodyPost_ret (results_row_tmp2 rfl _ _ (w.heap.size + 1) 34 #[.int .i64 ke, .int .i64 ko] (0, 0) _ rfl (blk2 H4.out.2.2 _ _) Try.underlying34 rfl Ai.size_res) rfl ?_
    exact asked_of (by rw [HAP.out, ← HE12.out.1, ← HE12.out.2]) (Nat.le_trans HPW.out.2.1 HD2.out.2.2.2.2.1) (apply_ps HPW.out.1 HAK1.out HD2.out.2.2.2.2.1 HD2.out.2.2.2.2.2 HD2.out.2.2.2.1 HB3.out.2.2.1 H4.out.2.1) (apply_fin HZ.out HPW.out.1 HAK1.out HD2.out.2.1 HD2.out.2.2.1 HD2.out.2.2.2.1 HB3.out.2.2.1 H4.out.2.1 H4.out.1)
theorem apply_any (w : World) (S R : Nat → Prop) (p : Nat) (s : St) (client time : Int) (o : O) (X : Nat → Prop) (A : Option Addr) (c : Nat) (h : Tz w S R p s) (hls : Ls w X (.slice A o.recs.length c) o.recs) (hl : o.recs.length ≤ 140737488355328) :
    Calls Try.prog 7 #[.pointer (some ⟨p, 0, none⟩), RV client time o A c] w (Asked S R p s client time o w) := by
  by_cases hb : badArg client time = true
  · exact apply_bad w S R p s client time o A c hb h
  · have hb := Bool.eq_false_iff.2 hb
    by_cases hle : time ≤ (s.last.getD client.toNat An.zero).time
    · exact apply_old w S R p s client time o A c hb hle h
    · exact apply_new w S R p s client time o X A c hb (by omega) h hls hl
end Go.Proofs.Ytcmknopgoiabbaa.Al

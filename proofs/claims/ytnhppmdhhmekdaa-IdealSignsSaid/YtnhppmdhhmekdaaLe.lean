/-
  Contract of the document's ledger: Sign.
-/
import Derived.Test.YtnhppmdhhmekdaaLd
import Derived.Deep.RegionLaw
namespace Go.Proofs.Ytnhppmdhhmekdaa.Le
open Go Go.RowKit Ck Im Ik Ia Ib Ic Lk La Lb Lc Ld

/-- What Sign leaves of the document's ledger. -/
def RSignd (S : Nat → Prop) (p : Nat) (L : List Sg) (s : Sg) (w : World) (e : Ending) (w' : World) : Prop :=
  e = .returned (.tuple #[GV (ans s), .int .i64 (code s)]) ∧ Rl w' (Up S w w') p (pay L s) ∧ Ch S w w'
theorem Rl.upb {w w' : World} {S : Nat → Prop} {p : Nat} {L : List Sg} (h : Rl w S p L) (b : Below w.heap.size w w') : Rl w' (Up S w w') p L :=
  Rl.up (h.ch (Ch.of_below (S := fun _ => False) b (Nat.le_refl _)) (fun _ _ h => h))

set_option maxHeartbeats 1000000 in
theorem rsign_key (w : World) (S : Nat → Prop) (p : Nat) (L : List Sg) (s : Sg) (h : Rl w S p L) (hc : s.1 < 0 ∨ 21 ≤ s.1) :
    Calls Try.prog 27 #[.pointer (some ⟨p, 0, none⟩), .int .i64 s.1, .int .i64 s.2] w (RSignd S p L s w) := by
  have hcode : code s = 20 := by rw [code, if_pos hc]
  have hans : ans s = (0, 0) := by rw [ans, hcode]; rfl
  have hpay : pay L s = L := by rw [pay, hcode]; rfl
  have HC := Lib.hid (And.intro hcode (And.intro hans hpay))
  have HT := Lib.hid h
  clear hcode hans hpay h
  obtain ⟨x, y⟩ := s
  simp only at hc ⊢
  by_cases h1 : x < 0
  · clear hc
    go_enter Try.func27, Try.ntmps27
    go_wp2
    refine bodyPost_ret (results_row_tmp rfl _ _ w.heap.size 50 #[.int .i64 0, .int .i64 0] (0, 0) _ rfl (heap_alloc_new w _) Try.underlying50 rfl size_sign) rfl ?_
    refine ⟨by rw [HC.out.1, HC.out.2.1]; rfl, ?_, Ch.of_below ((Below.refl _ w).alloc (Nat.le_refl _) _) (Nat.le_refl _)⟩
    rw [HC.out.2.2]
    exact Rl.upb HT.out ((Below.refl _ w).alloc (Nat.le_refl _) _)
  · have h2 : 21 ≤ x := by omega
    clear hc
    go_enter Try.func27, Try.ntmps27
    go_wp2
    refine bodyPost_ret (results_row_tmp rfl _ _ w.heap.size 50 #[.int .i64 0, .int .i64 0] (0, 0) _ rfl (heap_alloc_new w _) Try.underlying50 rfl size_sign) rfl ?_
    refine ⟨by rw [HC.out.1, HC.out.2.1]; rfl, ?_, Ch.of_below ((Below.refl _ w).alloc (Nat.le_refl _) _) (Nat.le_refl _)⟩
    rw [HC.out.2.2]
    exact Rl.upb HT.out ((Below.refl _ w).alloc (Nat.le_refl _) _)

set_option maxHeartbeats 1000000 in
theorem rsign_dig (w : World) (S : Nat → Prop) (p : Nat) (L : List Sg) (s : Sg) (h : Rl w S p L) (hk : ¬ (s.1 < 0 ∨ 21 ≤ s.1)) (hd : s.2 < 1) :
    Calls Try.prog 27 #[.pointer (some ⟨p, 0, none⟩), .int .i64 s.1, .int .i64 s.2] w (RSignd S p L s w) := by
  have hcode : code s = 1 := by rw [code, if_neg hk, if_pos hd]
  have hans : ans s = (0, 0) := by rw [ans, hcode]; rfl
  have hpay : pay L s = L := by rw [pay, hcode]; rfl
  have HC := Lib.hid (And.intro hcode (And.intro hans hpay))
  have HT := Lib.hid h
  clear hcode hans hpay h
  obtain ⟨x, y⟩ := s
  simp only at hk hd ⊢
  have h1 : 0 ≤ x := by omega
  have h2 : x < 21 := by omega
  clear hk
  go_enter Try.func27, Try.ntmps27
  go_wp2
  refine bodyPost_ret (results_row_tmp rfl _ _ w.heap.size 50 #[.int .i64 0, .int .i64 0] (0, 0) _ rfl (heap_alloc_new w _) Try.underlying50 rfl size_sign) rfl ?_
  refine ⟨by rw [HC.out.1, HC.out.2.1]; rfl, ?_, Ch.of_below ((Below.refl _ w).alloc (Nat.le_refl _) _) (Nat.le_refl _)⟩
  rw [HC.out.2.2]
  exact Rl.upb HT.out ((Below.refl _ w).alloc (Nat.le_refl _) _)

set_option maxHeartbeats 1000000 in
theorem rsign_old (w : World) (S : Nat → Prop) (p : Nat) (L : List Sg) (s : Sg) (h : Rl w S p L) (hk : ¬ (s.1 < 0 ∨ 21 ≤ s.1)) (hd : ¬ s.2 < 1) (hm : s ∈ L) (hL : L.length ≤ 140737488355328) :
    Calls Try.prog 27 #[.pointer (some ⟨p, 0, none⟩), .int .i64 s.1, .int .i64 s.2] w (RSignd S p L s w) := by
  have hcode : code s = 0 := by rw [code, if_neg hk, if_neg hd]
  have hans : ans s = s := by rw [ans, hcode]; rfl
  have hpay : pay L s = L := by rw [pay, hcode, if_pos rfl, if_pos hm]
  have HC := Lib.hid (And.intro hcode (And.intro hans hpay))
  have HT := Lib.hid h
  have HI := Lib.hid (isS_true hm)
  have HS : Hid (∀ W, Below w.heap.size w W → Calls Try.prog 29 #[.pointer (some ⟨p, 0, none⟩), GV s] W fun e w' => e = .returned (.bool true) ∧ Below W.heap.size W w') :=
    Lib.hid fun W hb => (rsigned_any W S p L s (h.ch (Ch.of_below (S := fun _ => False) hb (Nat.le_refl _)) (fun _ _ h => h)) hL).mono fun e w' he => ⟨by rw [he.1, HI.out], he.2⟩
  clear hcode hans hpay h hm hL
  obtain ⟨x, y⟩ := s
  simp only at hk hd ⊢
  unfold GV at HS
  have h1 : 0 ≤ x := by omega
  have h2 : x < 21 := by omega
  clear hk
  go_enter Try.func27, Try.ntmps27
  go_wp2_with fail
  refine (HS.out _ (W1_below w x y)).mono ?_
  rintro e w2 ⟨rfl, hb2⟩
  have hb2 : Below (W1 w x y).heap.size (W1 w x y) w2 := hb2
  have hB2 : Below w.heap.size w w2 := (W1_below w x y).trans (hb2.mono (by rw [W1_size]; omega))
  have k0 : Blk w2 w.heap.size 50 #[.int .i64 0, .int .i64 0] := (W1_zero w x y).below hb2 (W1_zero w x y).lt
  have k1 : Blk w2 (w.heap.size + 1) 50 #[.int .i64 x, .int .i64 y] := (W1_sign w x y).below hb2 (W1_sign w x y).lt
  have a0 := k0.cell 0
  have a1 := k0.cell 1
  have a2 := k0.frozen 0
  have a3 := k0.frozen 1
  have b0 := k1.cell 0
  have b1 := k1.cell 1
  have K0 := Lib.hid k0
  have HB2 := Lib.hid hB2
  simp only [List.getElem?_toArray, List.getElem?_cons_zero, List.getElem?_cons_succ] at a0 a1 b0 b1
  clear k0 k1 hb2 hB2
  go_wp2
  refine bodyPost_ret (results_row_tmp rfl _ _ w.heap.size 50 #[.int .i64 x, .int .i64 y] (0, 0) _ rfl (blk_two K0.out) Try.underlying50 rfl size_sign) rfl ?_
  have hC : Ch (fun _ => False) w ((w2.setCell ⟨w.heap.size, 0, none⟩ (.int .i64 x)).setCell ⟨w.heap.size, 1, none⟩ (.int .i64 y)) := ((Ch.of_below HB2.out (Nat.le_refl _)).setCell (p := ⟨w.heap.size, 0, none⟩) (fun h => absurd h (Nat.lt_irrefl _)) _).setCell (p := ⟨w.heap.size, 1, none⟩) (fun h => absurd h (Nat.lt_irrefl _)) _
  refine ⟨by rw [HC.out.1, HC.out.2.1]; rfl, ?_, hC.mono (fun _ _ h => h.elim)⟩
  rw [HC.out.2.2]
  exact Rl.up (HT.out.ch hC (fun _ _ h => h))

/-- What the two appends come to, in whichever order. -/
def Both (w2 w4 : World) (L : List Sg) (x y : Int) (v4 : Value) : Prop := Below w2.heap.size w2 w4 ∧ w4.ownsRow w2.heap.size 50 2 v4 (L.length + 1) (GVs L ++ GVs [(x, y)])
theorem both_first {w2 w3 w4 : World} {L : List Sg} {x y : Int} {v3 v4 : Value} {o : Obj} (hb : Below w2.heap.size w2 w3) (ho : w3.ownsRow w2.heap.size 50 2 v3 L.length (GVs L))
    (happ : Appended (w3.alloc o) w2.heap.size 50 2 v3 (L.length + 1) (GVs L ++ GVs [(x, y)]) v4 w4) : Both w2 w4 L x y v4 :=
  ⟨(hb.alloc hb.size o).grown happ.2.1 (by have := hb.size; simp; omega) (fun g hg => (ho.lt g hg).1), happ.1⟩
theorem both_last {w2 w3 w4 : World} {L : List Sg} {x y : Int} {v3 v4 : Value} (hb : Below w2.heap.size w2 w3) (ho : w3.ownsRow w2.heap.size 50 2 v3 L.length (GVs L))
    (happ : Appended w3 w2.heap.size 50 2 v3 (L.length + 1) (GVs L ++ GVs [(x, y)]) v4 w4) : Both w2 w4 L x y v4 :=
  ⟨hb.grown happ.2.1 hb.size (fun g hg => (ho.lt g hg).1), happ.1⟩

theorem rsign_end {w w2 w4 : World} {S : Nat → Prop} {p : Nat} {v4 lv : Value} {x y : Int} {L : List Sg} (hp : S p) (hq : Blk w p 55 #[lv]) (hB2 : Below w.heap.size w w2) (k0 : Blk w2 w.heap.size 50 #[.int .i64 0, .int .i64 0]) (k1 : w.heap.size + 1 < w2.heap.size)
    (h : Both w2 w4 L x y v4) (W5 : World) (hW : W5 = ((w4.setCell ⟨p, 0, none⟩ v4).setCell ⟨w.heap.size, 0, none⟩ (.int .i64 x)).setCell ⟨w.heap.size, 1, none⟩ (.int .i64 y)) :
    Blk W5 w.heap.size 50 #[.int .i64 x, .int .i64 y] ∧ Rl W5 (Up S w W5) p (L ++ [(x, y)]) ∧ Ch S w W5 := by
  obtain ⟨hb, ho⟩ := h
  have hpl := hq.lt
  have hsz := hb.size
  have b4 : Below w.heap.size w w4 := hB2.trans (hb.mono hB2.size)
  have c5 : Ch S w W5 := by
    rw [hW]
    exact (((Ch.of_below b4 (Nat.le_refl _)).setCell (p := ⟨p, 0, none⟩) (fun _ => hp) v4).setCell (p := ⟨w.heap.size, 0, none⟩) (fun h => absurd h (Nat.lt_irrefl _)) _).setCell (p := ⟨w.heap.size, 1, none⟩) (fun h => absurd h (Nat.lt_irrefl _)) _
  have c45 : Ch (fun k => k = p ∨ k = w.heap.size) w4 W5 := by
    rw [hW]
    exact (((Ch.refl _ w4).setCell (p := ⟨p, 0, none⟩) (fun _ => .inl rfl) v4).setCell (p := ⟨w.heap.size, 0, none⟩) (fun _ => .inr rfl) _).setCell (p := ⟨w.heap.size, 1, none⟩) (fun _ => .inr rfl) _
  have hs : W5.heap.size = w4.heap.size := by rw [hW]; simp [World.setCell]
  have q4 : Blk w4 p 55 #[lv] := hq.below b4 hpl
  have k4 : Blk w4 w.heap.size 50 #[.int .i64 0, .int .i64 0] := k0.below hb k0.lt
  refine ⟨?_, ⟨v4, ?_, .inl hp, ?_⟩, c5⟩
  · rw [hW]
    exact blk_two (k4.far (by simp only; omega) _)
  · have e1 := ((q4.set_ 0 v4).far (p := ⟨w.heap.size, 0, none⟩) (by simp only; omega) (.int .i64 x)).far (p := ⟨w.heap.size, 1, none⟩) (by simp only; omega) (.int .i64 y)
    rw [hW]
    simpa using e1
  · rw [List.length_append, GVs_app]
    have o5 : W5.ownsRow w2.heap.size 50 2 v4 (L.length + 1) (GVs L ++ GVs [(x, y)]) := own_ch ho c45 (fun g hg => by
      have := (ho.lt g hg).1
      rintro (rfl | rfl) <;> omega)
    refine Sl.of_own o5 ?_
    rintro k h1 h2 (hn | rfl)
    · exact hn (.inr ⟨by omega, h2⟩)
    · omega

set_option maxHeartbeats 1000000 in
theorem rsign_new (w : World) (S : Nat → Prop) (p : Nat) (L : List Sg) (s : Sg) (h : Rl w S p L) (hk : ¬ (s.1 < 0 ∨ 21 ≤ s.1)) (hd : ¬ s.2 < 1) (hm : ¬ s ∈ L) (hL : (L.length + 1) * 16 ≤ 140737488355328) :
    Calls Try.prog 27 #[.pointer (some ⟨p, 0, none⟩), .int .i64 s.1, .int .i64 s.2] w (RSignd S p L s w) := by
  have hcode : code s = 0 := by rw [code, if_neg hk, if_neg hd]
  have hans : ans s = s := by rw [ans, hcode]; rfl
  have hpay : pay L s = L ++ [s] := by rw [pay, hcode, if_pos rfl, if_neg hm]
  have HC := Lib.hid (And.intro hcode (And.intro hans hpay))
  have HI := Lib.hid (isS_false hm)
  have HS : Hid (∀ W, Below w.heap.size w W → Calls Try.prog 29 #[.pointer (some ⟨p, 0, none⟩), GV s] W fun e w' => e = .returned (.bool false) ∧ Below W.heap.size W w') :=
    Lib.hid fun W hb => (rsigned_any W S p L s (h.ch (Ch.of_below (S := fun _ => False) hb (Nat.le_refl _)) (fun _ _ h => h)) (by omega)).mono fun e w' he => ⟨by rw [he.1, HI.out], he.2⟩
  have HL := Lib.hid hL
  obtain ⟨lv, q1, hp, hsl⟩ := h
  have hsl' := hsl
  obtain ⟨A', c', rfl, -⟩ := hsl'
  have HH := Lib.hid (And.intro q1 (And.intro hp hsl))
  clear hcode hans hpay hm hL q1 hp hsl
  obtain ⟨x, y⟩ := s
  simp only at hk hd ⊢
  unfold GV at HS
  have h1 : 0 ≤ x := by omega
  have h2 : x < 21 := by omega
  clear hk
  go_enter Try.func27, Try.ntmps27
  go_wp2_with fail
  refine (HS.out _ (W1_below w x y)).mono ?_
  rintro e w2 ⟨rfl, hb2⟩
  have hb2 : Below (W1 w x y).heap.size (W1 w x y) w2 := hb2
  have hB2 : Below w.heap.size w w2 := (W1_below w x y).trans (hb2.mono (by rw [W1_size]; omega))
  have k0 : Blk w2 w.heap.size 50 #[.int .i64 0, .int .i64 0] := (W1_zero w x y).below hb2 (W1_zero w x y).lt
  have k1 : Blk w2 (w.heap.size + 1) 50 #[.int .i64 x, .int .i64 y] := (W1_sign w x y).below hb2 (W1_sign w x y).lt
  have q1 : Blk w2 p 55 #[.slice A' L.length c'] := HH.out.1.below hB2 HH.out.1.lt
  have b0 := k1.cell 0
  have b1 := k1.cell 1
  have p0 := q1.cell 0
  have p0' := (q1.alloc (.cells #[.int .i64 x, .int .i64 y] 50)).cell 0
  have K0 := Lib.hid k0
  have K1 := Lib.hid k1
  have Q1 := Lib.hid q1
  have HB2 := Lib.hid hB2
  have HSL : Hid (∀ W, Below w2.heap.size w2 W → Sl W (fun _ => False) 2 (.slice A' L.length c') L.length (GVs L)) := Lib.hid fun W hW => ((HH.out.2.2.after hB2).after hW).weaken (fun _ _ h => h.elim)
  have B0 : Hid (Below w2.heap.size w2 w2.drew) := Lib.hid (below_drewN (Below.refl _ w2) 1)
  have B1 : Hid (Below w2.heap.size w2 (w2.alloc (.cells #[.int .i64 x, .int .i64 y] 50)).drew) := Lib.hid (below_drewN ((Below.refl _ w2).alloc (Nat.le_refl _) _) 1)
  have T0 : Hid (Sl (w2.alloc (.cells #[.int .i64 x, .int .i64 y] 50)).drew (fun _ => False) 2 (.slice (some ⟨w2.heap.size, 0, none⟩) 1 1) 1 (GVs [(x, y)])) := Lib.hid (two_sv w2 (fun _ => False) _ x y (fun h => h))
  simp only [List.getElem?_toArray, List.getElem?_cons_zero, List.getElem?_cons_succ] at b0 b1 p0 p0'
  clear k0 k1 hb2 hB2 q1
  have hpl := HH.out.1.lt
  have n0 : ¬ p = w.heap.size := by omega
  have n1 : ¬ p = w.heap.size + 1 := by omega
  have n2 : ¬ w.heap.size = p := by omega
  have n3 : ¬ w.heap.size + 1 = p := by omega
  have hlen : L.length ≤ 140737488355328 := by have := HL.out; omega
  obtain ⟨i0, hi0, hz0, hz1, hz2⟩ := info_parts info_sign
  go_wp2
  go_region_law (first
    | (refine step_append_new (by rfl) (.const (.slice none 0 0)) (.tmp 30) _ (by rfl) 50 i0 _ 2 16 Try.underlying48 hi0 hz0 hz1 hz2 rfl (by omega) (by rfl) (fun _ => False) (.slice A' L.length c') L.length (GVs L) (by rfl) (by first | exact HSL.out _ B0.out | exact HSL.out _ B1.out) (GVs_one _) (by have := HL.out; simp only [maxLen]; omega) (by have := HL.out; omega) ?_; intro A3 d3 w3 ho3 b3; have hb3 : Below w2.heap.size w2 w3 := (by first | exact below_tr B0.out b3 | exact below_tr B1.out b3); have k3 := K1.out.below hb3 K1.out.lt; have b0 := k3.cell 0; have b1 := k3.cell 1; have HO3 := Lib.hid ho3; have HB3 := Lib.hid hb3; simp only [List.getElem?_toArray, List.getElem?_cons_zero, List.getElem?_cons_succ] at b0 b1; clear k3 ho3 hb3)
    | (refine step_append_sh (by rfl) (.tmp 31) (.tmp 33) _ (by rfl) w2.heap.size 50 i0 _ 2 16 Try.underlying48 hi0 hz0 hz1 hz2 rfl (by omega) (.slice A3 L.length d3) L.length (GVs L) (by rfl) (by first | exact (own_base HO3.out (Nat.le_refl _)).alloc _ | exact own_base HO3.out (by simp)) (fun _ => False) _ 1 (GVs [(x, y)]) (by rfl) (by first | exact two_sv w3 (fun _ => False) _ x y (fun h => h) | exact T0.out.after b3) (GVs_one _) (by have := HL.out; simp only [maxLen]; omega) HL.out (by first | exact HB3.out.size | (have := HB3.out.size; simp; omega)) ?_; intro A4 d4 w4 happ; have hF : Both w2 w4 L x y (.slice A4 (L.length + 1) d4) := (by first | exact both_first HB3.out (own_base HO3.out (Nat.le_refl _)) happ | exact both_last HB3.out (own_base HO3.out (by simp)) happ); have k4 := K0.out.below hF.1 K0.out.lt; have k5 := K1.out.below hF.1 K1.out.lt; have q4 := Q1.out.below hF.1 Q1.out.lt; have g0 := k4.cell 0; have g1 := k4.cell 1; have g2 := k4.frozen 0; have g3 := k4.frozen 1; have g4 := k5.cell 0; have g5 := k5.cell 1; have g6 := q4.cell 0; have g7 := q4.frozen 0; simp only [List.getElem?_toArray, List.getElem?_cons_zero, List.getElem?_cons_succ] at g0 g1 g4 g5 g6; have HF := Lib.hid hF; clear hF k4 k5 q4))
  all_goals
    go_wp2
    have R := rsign_end HH.out.2.1 HH.out.1 HB2.out K0.out K1.out.lt HF.out _ rfl
    refine bodyPost_ret (results_row_tmp rfl _ _ w.heap.size 50 #[.int .i64 x, .int .i64 y] (0, 0) _ rfl R.1 Try.underlying50 rfl size_sign) rfl ?_
    refine ⟨by rw [HC.out.1, HC.out.2.1]; rfl, ?_, R.2.2⟩
    rw [HC.out.2.2]
    exact R.2.1

theorem rsign_any (w : World) (S : Nat → Prop) (p : Nat) (L : List Sg) (s : Sg) (h : Rl w S p L) (hL : (L.length + 1) * 16 ≤ 140737488355328) :
    Calls Try.prog 27 #[.pointer (some ⟨p, 0, none⟩), .int .i64 s.1, .int .i64 s.2] w (RSignd S p L s w) := by
  by_cases hk : s.1 < 0 ∨ 21 ≤ s.1
  · exact rsign_key w S p L s h hk
  · by_cases hd : s.2 < 1
    · exact rsign_dig w S p L s h hk hd
    · by_cases hm : s ∈ L
      · exact rsign_old w S p L s h hk hd hm (by omega)
      · exact rsign_new w S p L s h hk hd hm hL

end Go.Proofs.Ytnhppmdhhmekdaa.Le

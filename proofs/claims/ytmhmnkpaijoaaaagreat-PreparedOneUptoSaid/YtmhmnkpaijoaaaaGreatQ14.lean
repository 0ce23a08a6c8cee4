/-
  Contract of the document's table: Sum.
-/
import Derived.Test.YtmhmnkpaijoaaaaGreatQ01
import Derived.Test.YtmhmnkpaijoaaaaGreatQ07
import Derived.Test.YtmhmnkpaijoaaaaGreatQ08
import Derived.Test.YtmhmnkpaijoaaaaGreatQ09
import Derived.Deep.RegionLaw
import Derived.Test.YtmhmnkpaijoaaaaGreatQ13
import Derived.Test.YtmhmnkpaijoaaaaGreatQ12
namespace Go.Proofs.YtmhmnkpaijoaaaaGreat.Ij
set_option linter.unusedSimpArgs false
set_option linter.unusedVariables false
set_option maxRecDepth 100000
open Go Go.RowKit Ck Im Kw Ik Ia Ib Ic Ie Ih

theorem own_apart {w : World} {b b' n n' s s' : Nat} {e e' : TypeId} {v v' : Value} {xs xs' : List Value} (h : w.ownsRow b e s v n xs) (h' : w.ownsRow b' e' s' v' n' xs') (he : e ≠ e') : v.ownBlock = none ∨ v.ownBlock ≠ v'.ownBlock := by
  rcases h.2 with ⟨rfl, _⟩ | ⟨g, cap, cur, rfl, _, hr, _⟩
  · exact .inl rfl
  · refine .inr ?_
    rcases h'.2 with ⟨rfl, _⟩ | ⟨g', cap', cur', rfl, _, hr', _⟩
    · simp [Value.ownBlock]
    · intro h2
      have h2 : g = g' := by simpa [Value.ownBlock] using h2
      subst h2
      rw [hr] at hr'
      injection hr' with hr'
      injection hr' with _ h3
      exact he h3

/-- What the document's table holds, behind a text more. -/
theorem rf_snoc {w w1 w2 w3 : World} {S : Nat → Prop} {p : Nat} {L : List Tx} {lv v1 v2 v3 : Value} {b : Tx} {vals : List Value} {t : TypeId} (hblk : Blk w p 58 #[lv]) (hp : S p)
    (hvl : vals.length = L.length) (hels : ∀ i (h : i < L.length), ∃ u, vals[i]? = some u ∧ Sl w (fun k => ¬ S k ∨ k = p) 1 u L[i].length (BVs L[i])) (hall : ∀ l ∈ L, l.length ≤ 140737488355328) (hL : L.length < 1048576) (hb : b.length ≤ 140737488355328)
    (h1 : w1.ownsRow w.heap.size 32 1 v1 L.length vals) (b1 : Below w.heap.size w w1) (h2 : w2.ownsRow w1.heap.size 5 1 v2 b.length (BVs b)) (b2 : Below w1.heap.size w1 w2)
    (h3 : Appended (w2.alloc (.cells #[v2] t)) w.heap.size 32 1 v1 (L.length + 1) (vals ++ [v2]) v3 w3) :
    Rf (w3.setCell ⟨p, 0, none⟩ v3) (Up S w (w3.setCell ⟨p, 0, none⟩ v3)) p (L ++ [b]) ∧ Ch S w (w3.setCell ⟨p, 0, none⟩ v3) ∧ Below w.heap.size w w3 := by
  have hpl := hblk.lt
  have b2' : Below w.heap.size w w2 := b1.trans (b2.mono b1.size)
  have b3 : Below w.heap.size w (w2.alloc (.cells #[v2] t)) := b2'.alloc b2'.size _
  have b4 : Below w.heap.size w w3 := b3.grown h3.2.1 b3.size (fun g hg => (h1.lt g hg).1)
  have c5 : Ch S w (w3.setCell ⟨p, 0, none⟩ v3) := (Ch.of_below b4 (Nat.le_refl _)).setCell (p := ⟨p, 0, none⟩) (fun _ => hp) v3
  have hs3 : (w3.setCell ⟨p, 0, none⟩ v3).heap.size = w3.heap.size := by simp [World.setCell]
  have hx : ∀ k, w.heap.size ≤ k → k < w3.heap.size → ¬ (¬ Up S w (w3.setCell ⟨p, 0, none⟩ v3) k ∨ k = p) := by
    rintro k h h' (hn | rfl)
    · exact hn (.inr ⟨h, by rw [hs3]; exact h'⟩)
    · omega
  have o2 : w3.ownsRow w.heap.size 5 1 v2 b.length (BVs b) := by
    exact own_base ((h2.alloc (.cells #[v2] t)).kept h3.2.1 (own_apart h2 (own_below h1 b2) (by decide))) b1.size
  have hw3 := b4.size
  refine ⟨⟨v3, ?_, .inl hp, ⟨vals ++ [v2], ?_, fun i hi => ?_⟩, ?_, ?_⟩, c5, b4⟩
  · have := (hblk.below b4 hpl).set_ 0 v3
    simpa using this
  · have h3' : w3.ownsRow w.heap.size 32 1 v3 (L ++ [b]).length (vals ++ [v2]) := by simpa using h3.1
    exact (Sl.of_own h3' (X := fun k => ¬ Up S w (w3.setCell ⟨p, 0, none⟩ v3) k ∨ k = p) hx).setCell (p := ⟨p, 0, none⟩) (fun _ => .inr rfl) v3
  · by_cases he : i < L.length
    · obtain ⟨u, hu, hsl⟩ := hels i he
      refine ⟨u, by rw [List.getElem?_append_left (by omega)]; exact hu, ?_⟩
      rw [List.getElem_append_left he]
      refine ((hsl.below b4 (fun k h1 h2 => absurd h1 (by omega))).weaken' (Y := fun k => ¬ Up S w (w3.setCell ⟨p, 0, none⟩ v3) k ∨ k = p) ?_).setCell (p := ⟨p, 0, none⟩) (fun _ => .inr rfl) v3
      rintro k _ hX (hn | rfl)
      · exact hX (.inl fun hs => hn (.inl hs))
      · exact hX (.inr rfl)
    · have hie : i = L.length := by simp only [List.length_append, List.length_cons, List.length_nil] at hi; omega
      subst hie
      refine ⟨v2, by rw [List.getElem?_append_right (by omega), hvl, Nat.sub_self]; rfl, ?_⟩
      rw [List.getElem_append_right (Nat.le_refl _)]
      simp only [Nat.sub_self, List.getElem_cons_zero]
      exact (Sl.of_own o2 (X := fun k => ¬ Up S w (w3.setCell ⟨p, 0, none⟩ v3) k ∨ k = p) hx).setCell (p := ⟨p, 0, none⟩) (fun _ => .inr rfl) v3
  · intro l hl
    rcases List.mem_append.1 hl with h2 | h2
    · exact hall l h2
    · simp only [List.mem_cons, List.not_mem_nil, or_false] at h2
      subst h2; exact hb
  · simp only [List.length_append, List.length_cons, List.length_nil]; omega

theorem two_size {w w1 w2 : World} (b1 : Below w.heap.size w w1) (b2 : Below w1.heap.size w1 w2) (o : Obj) : w.heap.size ≤ (w2.alloc o).heap.size := Nat.le_trans b1.size (Nat.le_trans b2.size (by simp))
theorem rf_below {w w1 w2 w3 : World} {o : Obj} {e : TypeId} {n m : Nat} {xs ys : List Value} {v1 v3 : Value} (b1 : Below w.heap.size w w1) (b2 : Below w1.heap.size w1 w2) (h1 : w1.ownsRow w.heap.size e 1 v1 n xs) (h3 : Appended (w2.alloc o) w.heap.size e 1 v1 m ys v3 w3) : Below w.heap.size w w3 := by
  have b2' : Below w.heap.size w w2 := b1.trans (b2.mono b1.size)
  have b3 : Below w.heap.size w (w2.alloc o) := b2'.alloc b2'.size _
  exact b3.grown h3.2.1 b3.size (fun g hg => (h1.lt g hg).1)

/-- What Sum leaves of the document's table. -/
def RSummed (S : Nat → Prop) (p : Nat) (L : List Tx) (b : Tx) (w : World) (e : Ending) (w' : World) : Prop :=
  e = .returned (.int .i64 (sum L b : Int)) ∧ Rf w' (Up S w w') p (add L b) ∧ Ch S w w'

theorem Rf.up {w w' : World} {S : Nat → Prop} {p : Nat} {L : List Tx} (h : Rf w' S p L) : Rf w' (Up S w w') p L := by
  obtain ⟨lv, h1, h2, h3, h4⟩ := h
  refine ⟨lv, h1, .inl h2, h3.weaken ?_, h4⟩
  rintro k _ (hn | rfl)
  · exact .inl fun hs => hn (.inl hs)
  · exact .inr rfl

theorem vals_one {w : World} {X : Nat → Prop} {L : List Tx} {vals : List Value} (hvl : vals.length = L.length) (hels : ∀ i (h : i < L.length), ∃ u, vals[i]? = some u ∧ Sl w X 1 u L[i].length (BVs L[i])) : ∀ u ∈ vals, u.oneCell' = true := by
  intro u hu
  obtain ⟨i, hi, rfl⟩ := List.getElem_of_mem hu
  obtain ⟨u, h1, ⟨A, c, rfl, _⟩⟩ := hels i (by omega)
  rw [List.getElem?_eq_getElem hi] at h1
  injection h1 with h1
  rw [h1]
  rfl

set_option maxRecDepth 100000 in
set_option maxHeartbeats 1000000 in
theorem rsum_any (w : World) (S X : Nat → Prop) (p : Nat) (L : List Tx) (A : Option Addr) (c : Nat) (b : Tx) (h : Rf w S p L) (hb : Sl w X 1 (.slice A b.length c) b.length (BVs b)) (hl : b.length ≤ 140737488355328) :
    Calls Tryz.prog 71 #[.pointer (some ⟨p, 0, none⟩), .slice A b.length c] w (RSummed S p L b w) := by
  have HL := Lib.hid (rlook_any w S X p L _ _ b h hb)
  by_cases hk : num L b = 0
  · have hin := isIn_false hk
    have HT := Lib.hid h
    obtain ⟨lv, h1, hp, hls, hall, hL⟩ := h
    obtain ⟨A', c', rfl⟩ := Ls.shape hls
    by_cases hf : 1048576 ≤ L.length
    · obtain ⟨ha, hs⟩ := add_full hk hf
      have c1 : w.cell? ⟨p, 0, none⟩ = some (.slice A' L.length c') := h1.cell 0
      have HA := Lib.hid ha
      have HS := Lib.hid hs
      have hk0 : (num L b : Int) = 0 := by omega
      have hf' : decide ((1048576 : Int) ≤ (L.length : Int)) = true := by rw [decide_eq_true_eq]; omega
      clear h1 hls hp hall ha hs hk hf hL hl hb
      go_enter Tryz.func71, Tryz.ntmps71
      go_wp2_with (go_at_call 51; refine HL.out.mono ?_; rintro e w' ⟨rfl, rfl⟩)
      go_ret
      refine ⟨by rw [HS.out]; rfl, ?_, Ch.refl S w⟩
      rw [HA.out]
      exact Rf.up HT.out
    · obtain ⟨ha, hs⟩ := add_new hk hf
      have HA := Lib.hid ha
      have HS := Lib.hid hs
      have hf' : decide ((1048576 : Int) ≤ (L.length : Int)) = false := by rw [decide_eq_false_iff_not]; omega
      have hlt : L.length ≤ 2000000 := by omega
      have hlt2 : L.length < 1048576 := by omega
      have HB := Lib.hid hl
      have HBS := Lib.hid hb
      have c1 : w.cell? ⟨p, 0, none⟩ = some (.slice A' L.length c') := h1.cell 0
      obtain ⟨i0, hi0, hz0, hz1, hz2⟩ := info_parts info_sl
      obtain ⟨j0, hj0, hy0, hy1, hy2⟩ := info_parts info_u8
      have hk0 : (num L b : Int) = 0 := by omega
      obtain ⟨vals, hsl, hels⟩ := hls
      have hvl : vals.length = L.length := by obtain ⟨_, _, _, h, _⟩ := hsl; omega
      have hone := vals_one hvl hels
      have H1 := Lib.hid h1
      have HP := Lib.hid (And.intro hp (And.intro hvl (And.intro hels (And.intro hall hlt2))))
      have HSL := Lib.hid hsl
      have HONE := Lib.hid hone
      have hfl : L.length ≤ 140737488355328 := by omega
      have hpl := h1.lt
      clear ha hs hk hf h1 hp hall hL hl hb hsl hels hvl hone hlt2
      go_enter Tryz.func71, Tryz.ntmps71
      go_wp2_with (first
        | (go_at_call 51; refine HL.out.mono ?_; rintro e w' ⟨rfl, rfl⟩)
        | (at_builtin; refine wpList_append_new _ rfl (.const (.slice none 0 0)) (.tmp 25) _ rfl 32 i0 _ 1 24 Tryz.underlying56 hi0 hz0 hz1 hz2 rfl (by omega) rfl _ _ L.length vals rfl HSL.out HONE.out (by simp only [maxLen]; omega) (by omega) ?_; intro A1 d1 w1 ho1 b1)
        | (at_builtin; refine wpList_append_new _ rfl (.const (.slice none 0 0)) (.tmp 27) _ rfl 5 j0 _ 1 1 Tryz.underlying32 hj0 hy0 hy1 hy2 rfl (by omega) rfl _ _ b.length (BVs b) rfl (HBS.out.after b1) (BVs_one _) (by have := HB.out; simp only [maxLen]; omega) (by have := HB.out; omega) ?_; intro A2 d2 w2 ho2 b2)
        | (at_builtin; refine wpList_append_sh _ rfl (.tmp 26) (.tmp 29) _ rfl w.heap.size 32 i0 _ 1 24 Tryz.underlying56 hi0 hz0 hz1 hz2 rfl (by omega) (.slice A1 L.length d1) L.length vals rfl ((own_below ho1 b2).alloc _) (fun _ => False) _ 1 [.slice A2 b.length d2] rfl (one_sv w2 _ _ _ (fun h => h)) (one_slice _ _ _) (by simp only [maxLen]; omega) (by omega) (two_size b1 b2 _) ?_; intro A3 d3 w3 happ3; have k0 := H1.out.below (rf_below b1 b2 ho1 happ3) hpl; have k1 := k0.cell 0; have k2 := k0.frozen 0; simp only [List.getElem?_toArray, List.getElem?_cons_zero] at k1))
      go_ret
      have R := rf_snoc H1.out HP.out.1 HP.out.2.1 HP.out.2.2.1 HP.out.2.2.2.1 HP.out.2.2.2.2 HB.out ho1 b1 ho2 b2 happ3
      refine ⟨by rw [HS.out]; simp, ?_, R.2.1⟩
      rw [HA.out]
      exact R.1
  · have hin := isIn_true hk
    obtain ⟨ha, hs⟩ := add_known hk
    have HT := Lib.hid h
    have HA := Lib.hid ha
    have HS := Lib.hid hs
    clear h ha hs
    go_enter Tryz.func71, Tryz.ntmps71
    go_wp2_with (go_at_call 51; refine HL.out.mono ?_; rintro e w' ⟨rfl, rfl⟩)
    go_ret
    refine ⟨by rw [HS.out]; rfl, ?_, Ch.refl S w⟩
    rw [HA.out]
    exact Rf.up HT.out

end Go.Proofs.YtmhmnkpaijoaaaaGreat.Ij

/-
  Contract of the document's ledger: Sign.
-/
namespace Go.Proofs.YtmhmnkpaijoaaaaGreat.Le
set_option linter.unusedSimpArgs false
set_option linter.unusedVariables false
set_option maxRecDepth 100000
open Go Go.RowKit Ck Im Kw Ik Ia Ib Ic Lk La Lb Lc Ld

/-- What Sign leaves of the document's ledger. -/
def RSignd (S : Nat → Prop) (p : Nat) (L : List Sg) (s : Sg) (w : World) (e : Ending) (w' : World) : Prop :=
  e = .returned (.tuple #[GV (ans s), .int .i64 (code s)]) ∧ Rl w' (Up S w w') p (pay L s) ∧ Ch S w w'
theorem Rl.upb {w w' : World} {S : Nat → Prop} {p : Nat} {L : List Sg} (h : Rl w S p L) (b : Below w.heap.size w w') : Rl w' (Up S w w') p L :=
  Rl.up (h.ch (Ch.of_below (S := fun _ => False) b (Nat.le_refl _)) (fun _ _ h => h))

set_option maxHeartbeats 1000000 in
theorem rsign_key (w : World) (S : Nat → Prop) (p : Nat) (L : List Sg) (s : Sg) (h : Rl w S p L) (hc : s.1 < 0 ∨ 21 ≤ s.1) :
    Calls Tryz.prog 69 #[.pointer (some ⟨p, 0, none⟩), .int .i64 s.1, .int .i64 s.2] w (RSignd S p L s w) := by
  have hcode : code s = 20 := by rw [code, if_pos hc]
  have hans : ans s = (0, 0) := by rw [ans, hcode]; rfl
  have hpay : pay L s = L := by rw [pay, hcode]; rfl
  have HC := Lib.hid (And.intro hcode (And.intro hans hpay))
  have HT := Lib.hid h
  clear hcode hans hpay h
  obtain ⟨x, y⟩ := s
  simp only at hc ⊢
  by_cases h1 : x < 0
  · clear hc
    go_enter Tryz.func69, Tryz.ntmps69
    go_wp2
    refine bodyPost_ret (results_row_tmp rfl _ _ w.heap.size 36 #[.int .i64 0, .int .i64 0] (0, 0) _ rfl (heap_alloc_new w _) Tryz.underlying36 rfl size_sign) rfl ?_
    refine ⟨by rw [HC.out.1, HC.out.2.1]; rfl, ?_, Ch.of_below ((Below.refl _ w).alloc (Nat.le_refl _) _) (Nat.le_refl _)⟩
    rw [HC.out.2.2]
    exact Rl.upb HT.out ((Below.refl _ w).alloc (Nat.le_refl _) _)
  · have h2 : 21 ≤ x := by omega
    clear hc
    go_enter Tryz.func69, Tryz.ntmps69
    go_wp2
    refine bodyPost_ret (results_row_tmp rfl _ _ w.heap.size 36 #[.int .i64 0, .int .i64 0] (0, 0) _ rfl (heap_alloc_new w _) Tryz.underlying36 rfl size_sign) rfl ?_
    refine ⟨by rw [HC.out.1, HC.out.2.1]; rfl, ?_, Ch.of_below ((Below.refl _ w).alloc (Nat.le_refl _) _) (Nat.le_refl _)⟩
    rw [HC.out.2.2]
    exact Rl.upb HT.out ((Below.refl _ w).alloc (Nat.le_refl _) _)

set_option maxHeartbeats 1000000 in
theorem rsign_dig (w : World) (S : Nat → Prop) (p : Nat) (L : List Sg) (s : Sg) (h : Rl w S p L) (hk : ¬ (s.1 < 0 ∨ 21 ≤ s.1)) (hd : s.2 < 1) :
    Calls Tryz.prog 69 #[.pointer (some ⟨p, 0, none⟩), .int .i64 s.1, .int .i64 s.2] w (RSignd S p L s w) := by
  have hcode : code s = 1 := by rw [code, if_neg hk, if_pos hd]
  have hans : ans s = (0, 0) := by rw [ans, hcode]; rfl
  have hpay : pay L s = L := by rw [pay, hcode]; rfl
  have HC := Lib.hid (And.intro hcode (And.intro hans hpay))
  have HT := Lib.hid h
  clear hcode hans hpay h
  obtain ⟨x, y⟩ := s
  simp only at hk hd ⊢
  have h1 : 0 ≤ x := by omega
  have h2 : x < 21 := by omega
  clear hk
  go_enter Tryz.func69, Tryz.ntmps69
  go_wp2
  refine bodyPost_ret (results_row_tmp rfl _ _ w.heap.size 36 #[.int .i64 0, .int .i64 0] (0, 0) _ rfl (heap_alloc_new w _) Tryz.underlying36 rfl size_sign) rfl ?_
  refine ⟨by rw [HC.out.1, HC.out.2.1]; rfl, ?_, Ch.of_below ((Below.refl _ w).alloc (Nat.le_refl _) _) (Nat.le_refl _)⟩
  rw [HC.out.2.2]
  exact Rl.upb HT.out ((Below.refl _ w).alloc (Nat.le_refl _) _)

set_option maxHeartbeats 1000000 in
theorem rsign_old (w : World) (S : Nat → Prop) (p : Nat) (L : List Sg) (s : Sg) (h : Rl w S p L) (hk : ¬ (s.1 < 0 ∨ 21 ≤ s.1)) (hd : ¬ s.2 < 1) (hm : s ∈ L) (hL : L.length ≤ 140737488355328) :
    Calls Tryz.prog 69 #[.pointer (some ⟨p, 0, none⟩), .int .i64 s.1, .int .i64 s.2] w (RSignd S p L s w) := by
  have hcode : code s = 0 := by rw [code, if_neg hk, if_neg hd]
  have hans : ans s = s := by rw [ans, hcode]; rfl
  have hpay : pay L s = L := by rw [pay, hcode, if_pos rfl, if_pos hm]
  have HC := Lib.hid (And.intro hcode (And.intro hans hpay))
  have HT := Lib.hid h
  have HI := Lib.hid (isS_true hm)
  have HS : Hid (∀ W, Below w.heap.size w W → Calls Tryz.prog 101 #[.pointer (some ⟨p, 0, none⟩), GV s] W fun e w' => e = .returned (.bool true) ∧ Below W.heap.size W w') :=
    Lib.hid fun W hb => (rsigned_any W S p L s (h.ch (Ch.of_below (S := fun _ => False) hb (Nat.le_refl _)) (fun _ _ h => h)) hL).mono fun e w' he => ⟨by rw [he.1, HI.out], he.2⟩
  clear hcode hans hpay h hm hL
  obtain ⟨x, y⟩ := s
  simp only at hk hd ⊢
  unfold GV at HS
  have h1 : 0 ≤ x := by omega
  have h2 : x < 21 := by omega
  clear hk
  go_enter Tryz.func69, Tryz.ntmps69
  go_wp2_with fail
  refine (HS.out _ (W1_below w x y)).mono ?_
  rintro e w2 ⟨rfl, hb2⟩
  have hb2 : Below (W1 w x y).heap.size (W1 w x y) w2 := hb2
  have hB2 : Below w.heap.size w w2 := (W1_below w x y).trans (hb2.mono (by rw [W1_size]; omega))
  have k0 : Blk w2 w.heap.size 36 #[.int .i64 0, .int .i64 0] := (W1_zero w x y).below hb2 (W1_zero w x y).lt
  have k1 : Blk w2 (w.heap.size + 1) 36 #[.int .i64 x, .int .i64 y] := (W1_sign w x y).below hb2 (W1_sign w x y).lt
  have a0 := k0.cell 0
  have a1 := k0.cell 1
  have a2 := k0.frozen 0
  have a3 := k0.frozen 1
  have b0 := k1.cell 0
  have b1 := k1.cell 1
  have K0 := Lib.hid k0
  have HB2 := Lib.hid hB2
  simp only [List.getElem?_toArray, List.getElem?_cons_zero, List.getElem?_cons_succ] at a0 a1 b0 b1
  clear k0 k1 hb2 hB2
  go_wp2
  refine bodyPost_ret (results_row_tmp rfl _ _ w.heap.size 36 #[.int .i64 x, .int .i64 y] (0, 0) _ rfl (blk_two K0.out) Tryz.underlying36 rfl size_sign) rfl ?_
  have hC : Ch (fun _ => False) w ((w2.setCell ⟨w.heap.size, 0, none⟩ (.int .i64 x)).setCell ⟨w.heap.size, 1, none⟩ (.int .i64 y)) := ((Ch.of_below HB2.out (Nat.le_refl _)).setCell (p := ⟨w.heap.size, 0, none⟩) (fun h => absurd h (Nat.lt_irrefl _)) _).setCell (p := ⟨w.heap.size, 1, none⟩) (fun h => absurd h (Nat.lt_irrefl _)) _
  refine ⟨by rw [HC.out.1, HC.out.2.1]; rfl, ?_, hC.mono (fun _ _ h => h.elim)⟩
  rw [HC.out.2.2]
  exact Rl.up (HT.out.ch hC (fun _ _ h => h))

/-- What the two appends come to, in whichever order. -/
def Both (w2 w4 : World) (L : List Sg) (x y : Int) (v4 : Value) : Prop := Below w2.heap.size w2 w4 ∧ w4.ownsRow w2.heap.size 36 2 v4 (L.length + 1) (GVs L ++ GVs [(x, y)])
theorem both_first {w2 w3 w4 : World} {L : List Sg} {x y : Int} {v3 v4 : Value} {o : Obj} (hb : Below w2.heap.size w2 w3) (ho : w3.ownsRow w2.heap.size 36 2 v3 L.length (GVs L))
    (happ : Appended (w3.alloc o) w2.heap.size 36 2 v3 (L.length + 1) (GVs L ++ GVs [(x, y)]) v4 w4) : Both w2 w4 L x y v4 :=
  ⟨(hb.alloc hb.size o).grown happ.2.1 (by have := hb.size; simp; omega) (fun g hg => (ho.lt g hg).1), happ.1⟩
theorem both_last {w2 w3 w4 : World} {L : List Sg} {x y : Int} {v3 v4 : Value} (hb : Below w2.heap.size w2 w3) (ho : w3.ownsRow w2.heap.size 36 2 v3 L.length (GVs L))
    (happ : Appended w3 w2.heap.size 36 2 v3 (L.length + 1) (GVs L ++ GVs [(x, y)]) v4 w4) : Both w2 w4 L x y v4 :=
  ⟨hb.grown happ.2.1 hb.size (fun g hg => (ho.lt g hg).1), happ.1⟩

theorem rsign_end {w w2 w4 : World} {S : Nat → Prop} {p : Nat} {v4 lv : Value} {x y : Int} {L : List Sg} (hp : S p) (hq : Blk w p 60 #[lv]) (hB2 : Below w.heap.size w w2) (k0 : Blk w2 w.heap.size 36 #[.int .i64 0, .int .i64 0]) (k1 : w.heap.size + 1 < w2.heap.size)
    (h : Both w2 w4 L x y v4) (W5 : World) (hW : W5 = ((w4.setCell ⟨p, 0, none⟩ v4).setCell ⟨w.heap.size, 0, none⟩ (.int .i64 x)).setCell ⟨w.heap.size, 1, none⟩ (.int .i64 y)) :
    Blk W5 w.heap.size 36 #[.int .i64 x, .int .i64 y] ∧ Rl W5 (Up S w W5) p (L ++ [(x, y)]) ∧ Ch S w W5 := by
  obtain ⟨hb, ho⟩ := h
  have hpl := hq.lt
  have hsz := hb.size
  have b4 : Below w.heap.size w w4 := hB2.trans (hb.mono hB2.size)
  have c5 : Ch S w W5 := by
    rw [hW]
    exact (((Ch.of_below b4 (Nat.le_refl _)).setCell (p := ⟨p, 0, none⟩) (fun _ => hp) v4).setCell (p := ⟨w.heap.size, 0, none⟩) (fun h => absurd h (Nat.lt_irrefl _)) _).setCell (p := ⟨w.heap.size, 1, none⟩) (fun h => absurd h (Nat.lt_irrefl _)) _
  have c45 : Ch (fun k => k = p ∨ k = w.heap.size) w4 W5 := by
    rw [hW]
    exact (((Ch.refl _ w4).setCell (p := ⟨p, 0, none⟩) (fun _ => .inl rfl) v4).setCell (p := ⟨w.heap.size, 0, none⟩) (fun _ => .inr rfl) _).setCell (p := ⟨w.heap.size, 1, none⟩) (fun _ => .inr rfl) _
  have hs : W5.heap.size = w4.heap.size := by rw [hW]; simp [World.setCell]
  have q4 : Blk w4 p 60 #[lv] := hq.below b4 hpl
  have k4 : Blk w4 w.heap.size 36 #[.int .i64 0, .int .i64 0] := k0.below hb k0.lt
  refine ⟨?_, ⟨v4, ?_, .inl hp, ?_⟩, c5⟩
  · rw [hW]
    exact blk_two (k4.far (by simp only; omega) _)
  · have e1 := ((q4.set_ 0 v4).far (p := ⟨w.heap.size, 0, none⟩) (by simp only; omega) (.int .i64 x)).far (p := ⟨w.heap.size, 1, none⟩) (by simp only; omega) (.int .i64 y)
    rw [hW]
    simpa using e1
  · rw [List.length_append, GVs_app]
    have o5 : W5.ownsRow w2.heap.size 36 2 v4 (L.length + 1) (GVs L ++ GVs [(x, y)]) := own_ch ho c45 (fun g hg => by
      have := (ho.lt g hg).1
      rintro (rfl | rfl) <;> omega)
    refine Sl.of_own o5 ?_
    rintro k h1 h2 (hn | rfl)
    · exact hn (.inr ⟨by omega, h2⟩)
    · omega

set_option maxHeartbeats 1000000 in
theorem rsign_new (w : World) (S : Nat → Prop) (p : Nat) (L : List Sg) (s : Sg) (h : Rl w S p L) (hk : ¬ (s.1 < 0 ∨ 21 ≤ s.1)) (hd : ¬ s.2 < 1) (hm : ¬ s ∈ L) (hL : (L.length + 1) * 16 ≤ 140737488355328) :
    Calls Tryz.prog 69 #[.pointer (some ⟨p, 0, none⟩), .int .i64 s.1, .int .i64 s.2] w (RSignd S p L s w) := by
  have hcode : code s = 0 := by rw [code, if_neg hk, if_neg hd]
  have hans : ans s = s := by rw [ans, hcode]; rfl
  have hpay : pay L s = L ++ [s] := by rw [pay, hcode, if_pos rfl, if_neg hm]
  have HC := Lib.hid (And.intro hcode (And.intro hans hpay))
  have HI := Lib.hid (isS_false hm)
  have HS : Hid (∀ W, Below w.heap.size w W → Calls Tryz.prog 101 #[.pointer (some ⟨p, 0, none⟩), GV s] W fun e w' => e = .returned (.bool false) ∧ Below W.heap.size W w') :=
    Lib.hid fun W hb => (rsigned_any W S p L s (h.ch (Ch.of_below (S := fun _ => False) hb (Nat.le_refl _)) (fun _ _ h => h)) (by omega)).mono fun e w' he => ⟨by rw [he.1, HI.out], he.2⟩
  have HL := Lib.hid hL
  obtain ⟨lv, q1, hp, hsl⟩ := h
  have hsl' := hsl
  obtain ⟨A', c', rfl, -⟩ := hsl'
  have HH := Lib.hid (And.intro q1 (And.intro hp hsl))
  clear hcode hans hpay hm hL q1 hp hsl
  obtain ⟨x, y⟩ := s
  simp only at hk hd ⊢
  unfold GV at HS
  have h1 : 0 ≤ x := by omega
  have h2 : x < 21 := by omega
  clear hk
  go_enter Tryz.func69, Tryz.ntmps69
  go_wp2_with fail
  refine (HS.out _ (W1_below w x y)).mono ?_
  rintro e w2 ⟨rfl, hb2⟩
  have hb2 : Below (W1 w x y).heap.size (W1 w x y) w2 := hb2
  have hB2 : Below w.heap.size w w2 := (W1_below w x y).trans (hb2.mono (by rw [W1_size]; omega))
  have k0 : Blk w2 w.heap.size 36 #[.int .i64 0, .int .i64 0] := (W1_zero w x y).below hb2 (W1_zero w x y).lt
  have k1 : Blk w2 (w.heap.size + 1) 36 #[.int .i64 x, .int .i64 y] := (W1_sign w x y).below hb2 (W1_sign w x y).lt
  have q1 : Blk w2 p 60 #[.slice A' L.length c'] := HH.out.1.below hB2 HH.out.1.lt
  have b0 := k1.cell 0
  have b1 := k1.cell 1
  have p0 := q1.cell 0
  have p0' := (q1.alloc (.cells #[.int .i64 x, .int .i64 y] 36)).cell 0
  have K0 := Lib.hid k0
  have K1 := Lib.hid k1
  have Q1 := Lib.hid q1
  have HB2 := Lib.hid hB2
  have HSL : Hid (∀ W, Below w2.heap.size w2 W → Sl W (fun _ => False) 2 (.slice A' L.length c') L.length (GVs L)) := Lib.hid fun W hW => ((HH.out.2.2.after hB2).after hW).weaken (fun _ _ h => h.elim)
  have B0 : Hid (Below w2.heap.size w2 w2.drew) := Lib.hid (below_drewN (Below.refl _ w2) 1)
  have B1 : Hid (Below w2.heap.size w2 (w2.alloc (.cells #[.int .i64 x, .int .i64 y] 36)).drew) := Lib.hid (below_drewN ((Below.refl _ w2).alloc (Nat.le_refl _) _) 1)
  have T0 : Hid (Sl (w2.alloc (.cells #[.int .i64 x, .int .i64 y] 36)).drew (fun _ => False) 2 (.slice (some ⟨w2.heap.size, 0, none⟩) 1 1) 1 (GVs [(x, y)])) := Lib.hid (two_sv w2 (fun _ => False) _ x y (fun h => h))
  simp only [List.getElem?_toArray, List.getElem?_cons_zero, List.getElem?_cons_succ] at b0 b1 p0 p0'
  clear k0 k1 hb2 hB2 q1
  have hpl := HH.out.1.lt
  have n0 : ¬ p = w.heap.size := by omega
  have n1 : ¬ p = w.heap.size + 1 := by omega
  have n2 : ¬ w.heap.size = p := by omega
  have n3 : ¬ w.heap.size + 1 = p := by omega
  have hlen : L.length ≤ 140737488355328 := by have := HL.out; omega
  obtain ⟨i0, hi0, hz0, hz1, hz2⟩ := info_parts info_sign
  go_wp2
  go_region_law (first
    | (refine step_append_new (by rfl) (.const (.slice none 0 0)) (.tmp 30) _ (by rfl) 36 i0 _ 2 16 Tryz.underlying37 hi0 hz0 hz1 hz2 rfl (by omega) (by rfl) (fun _ => False) (.slice A' L.length c') L.length (GVs L) (by rfl) (by first | exact HSL.out _ B0.out | exact HSL.out _ B1.out) (GVs_one _) (by have := HL.out; simp only [maxLen]; omega) (by have := HL.out; omega) ?_; intro A3 d3 w3 ho3 b3; have hb3 : Below w2.heap.size w2 w3 := (by first | exact below_tr B0.out b3 | exact below_tr B1.out b3); have k3 := K1.out.below hb3 K1.out.lt; have b0 := k3.cell 0; have b1 := k3.cell 1; have HO3 := Lib.hid ho3; have HB3 := Lib.hid hb3; simp only [List.getElem?_toArray, List.getElem?_cons_zero, List.getElem?_cons_succ] at b0 b1; clear k3 ho3 hb3)
    | (refine step_append_sh (by rfl) (.tmp 31) (.tmp 33) _ (by rfl) w2.heap.size 36 i0 _ 2 16 Tryz.underlying37 hi0 hz0 hz1 hz2 rfl (by omega) (.slice A3 L.length d3) L.length (GVs L) (by rfl) (by first | exact (own_base HO3.out (Nat.le_refl _)).alloc _ | exact own_base HO3.out (by simp)) (fun _ => False) _ 1 (GVs [(x, y)]) (by rfl) (by first | exact two_sv w3 (fun _ => False) _ x y (fun h => h) | exact T0.out.after b3) (GVs_one _) (by have := HL.out; simp only [maxLen]; omega) HL.out (by first | exact HB3.out.size | (have := HB3.out.size; simp; omega)) ?_; intro A4 d4 w4 happ; have hF : Both w2 w4 L x y (.slice A4 (L.length + 1) d4) := (by first | exact both_first HB3.out (own_base HO3.out (Nat.le_refl _)) happ | exact both_last HB3.out (own_base HO3.out (by simp)) happ); have k4 := K0.out.below hF.1 K0.out.lt; have k5 := K1.out.below hF.1 K1.out.lt; have q4 := Q1.out.below hF.1 Q1.out.lt; have g0 := k4.cell 0; have g1 := k4.cell 1; have g2 := k4.frozen 0; have g3 := k4.frozen 1; have g4 := k5.cell 0; have g5 := k5.cell 1; have g6 := q4.cell 0; have g7 := q4.frozen 0; simp only [List.getElem?_toArray, List.getElem?_cons_zero, List.getElem?_cons_succ] at g0 g1 g4 g5 g6; have HF := Lib.hid hF; clear hF k4 k5 q4))
  all_goals
    go_wp2
    have R := rsign_end HH.out.2.1 HH.out.1 HB2.out K0.out K1.out.lt HF.out _ rfl
    refine bodyPost_ret (results_row_tmp rfl _ _ w.heap.size 36 #[.int .i64 x, .int .i64 y] (0, 0) _ rfl R.1 Tryz.underlying36 rfl size_sign) rfl ?_
    refine ⟨by rw [HC.out.1, HC.out.2.1]; rfl, ?_, R.2.2⟩
    rw [HC.out.2.2]
    exact R.2.1

theorem rsign_any (w : World) (S : Nat → Prop) (p : Nat) (L : List Sg) (s : Sg) (h : Rl w S p L) (hL : (L.length + 1) * 16 ≤ 140737488355328) :
    Calls Tryz.prog 69 #[.pointer (some ⟨p, 0, none⟩), .int .i64 s.1, .int .i64 s.2] w (RSignd S p L s w) := by
  by_cases hk : s.1 < 0 ∨ 21 ≤ s.1
  · exact rsign_key w S p L s h hk
  · by_cases hd : s.2 < 1
    · exact rsign_dig w S p L s h hk hd
    · by_cases hm : s ∈ L
      · exact rsign_old w S p L s h hk hd hm (by omega)
      · exact rsign_new w S p L s h hk hd hm hL

end Go.Proofs.YtmhmnkpaijoaaaaGreat.Le

/-
  Layer 8 (request): the document's table beside its ledger; the contracts of its Seal, Valid, ValidBatch, Digest.
-/
namespace Go.Proofs.YtmhmnkpaijoaaaaGreat.Kc
set_option linter.unusedSimpArgs false
open Go Go.RowKit Ck Kw Ga Kf Pm Pe Pg Pk Py Qb Qg Ik Lk La Lb Lc Ld Jm Ja Jb Jc Jd Je Jf Jg Jh
open Im (num isIn add sum)
attribute [local go_sem ↓] Go.wp_at_zero Go.wp_at_succ
set_option linter.unusedVariables false
set_option maxRecDepth 100000

/-- The document's table and ledger, apart, all of them in blocks of S that are there. -/
def RT (w : World) (S : Nat → Prop) (p g : Nat) (L : List (List UInt8)) (G : List Sg) : Prop :=
  ∃ S1 S2, Rf w S1 p L ∧ Rl w S2 g G ∧ (∀ k, S1 k → S2 k → False) ∧ (∀ k, S1 k → S k ∧ k < w.heap.size) ∧ (∀ k, S2 k → S k ∧ k < w.heap.size)
section
variable {w w' : World} {S T : Nat → Prop} {p g : Nat} {L L' : List (List UInt8)} {G G' : List Sg}
theorem RT.ch {X : Nat → Prop} (h : RT w S p g L G) (c : Ch X w w') (hd : ∀ k, S k → X k → False) : RT w' S p g L G := by
  obtain ⟨S1, S2, h1, h2, h3, h4, h5⟩ := h
  exact ⟨S1, S2, h1.ch c (fun k hk hx => hd k (h4 k hk).1 hx), h2.ch c (fun k hk hx => hd k (h5 k hk).1 hx), h3, fun k hk => ⟨(h4 k hk).1, Nat.lt_of_lt_of_le (h4 k hk).2 c.size⟩, fun k hk => ⟨(h5 k hk).1, Nat.lt_of_lt_of_le (h5 k hk).2 c.size⟩⟩
theorem RT.later (h : RT w S p g L G) (b : Below w.heap.size w w') : RT w' S p g L G := h.ch (Ch.of_below (S := fun _ => False) b (Nat.le_refl _)) (fun _ _ h => h)
theorem RT.weaken (h : RT w S p g L G) (hk : ∀ k, k < w.heap.size → S k → T k) : RT w T p g L G := by
  obtain ⟨S1, S2, h1, h2, h3, h4, h5⟩ := h
  exact ⟨S1, S2, h1, h2, h3, fun k hk' => ⟨hk k (h4 k hk').2 (h4 k hk').1, (h4 k hk').2⟩, fun k hk' => ⟨hk k (h5 k hk').2 (h5 k hk').1, (h5 k hk').2⟩⟩
theorem RT.callT {P : Program} {f : FuncId} {args : Array Value} {r : Ending} (h : RT w S p g L G) (hc : ∀ S1, Rf w S1 p L → Calls P f args w fun e w' => e = r ∧ Rf w' (Up S1 w w') p L' ∧ Ch S1 w w') : Calls P f args w fun e w' => e = r ∧ RT w' (Nw S w.heap.size w'.heap.size) p g L' G ∧ Ch S w w' := by
  obtain ⟨S1, S2, h1, h2, h3, h4, h5⟩ := h
  refine (hc S1 h1).mono ?_
  rintro e w' ⟨he, q1, q2⟩
  have hs := q2.size
  refine ⟨he, ⟨Up S1 w w', S2, q1, h2.ch q2 (fun k hk hx => h3 k hx hk), ?_, ?_, ?_⟩, q2.mono (fun k _ hk => (h4 k hk).1)⟩
  · rintro k (hk | hk) hk2
    · exact h3 k hk hk2
    · have := (h5 k hk2).2; omega
  · rintro k (hk | hk)
    · exact ⟨.inl (h4 k hk).1, by have := (h4 k hk).2; omega⟩
    · exact ⟨.inr hk, hk.2⟩
  · intro k hk
    exact ⟨.inl (h5 k hk).1, by have := (h5 k hk).2; omega⟩
theorem RT.callG {P : Program} {f : FuncId} {args : Array Value} {r : Ending} (h : RT w S p g L G) (hc : ∀ S2, Rl w S2 g G → Calls P f args w fun e w' => e = r ∧ Rl w' (Up S2 w w') g G' ∧ Ch S2 w w') : Calls P f args w fun e w' => e = r ∧ RT w' (Nw S w.heap.size w'.heap.size) p g L G' ∧ Ch S w w' := by
  obtain ⟨S1, S2, h1, h2, h3, h4, h5⟩ := h
  refine (hc S2 h2).mono ?_
  rintro e w' ⟨he, q1, q2⟩
  have hs := q2.size
  refine ⟨he, ⟨S1, Up S2 w w', h1.ch q2 (fun k hk hx => h3 k hk hx), q1, ?_, ?_, ?_⟩, q2.mono (fun k _ hk => (h5 k hk).1)⟩
  · rintro k hk2 (hk | hk)
    · exact h3 k hk2 hk
    · have := (h4 k hk2).2; omega
  · intro k hk
    exact ⟨.inl (h4 k hk).1, by have := (h4 k hk).2; omega⟩
  · rintro k (hk | hk)
    · exact ⟨.inl (h5 k hk).1, by have := (h5 k hk).2; omega⟩
    · exact ⟨.inr hk, hk.2⟩
end
/-- What the document's Seal leaves. -/
def RSealed (S X : Nat → Prop) (p g : Nat) (L : List (List UInt8)) (G : List Sg) (q : Q) (w : World) (e : Ending) (w' : World) : Prop :=
  ∃ A c, e = .returned (.tuple #[DV (sealR L q).1 A c, .int .i64 (sealR L q).2]) ∧ RT w' (Nw S w.heap.size w'.heap.size) p g (sealT L q) (sealG L G q) ∧ Ls w' X (.slice A (sealR L q).1.q.o.recs.length c) (sealR L q).1.q.o.recs ∧ Ch S w w'
theorem rsealed_of {S X : Nat → Prop} {w W W' : World} {A : Option Addr} {c p g : Nat} {L L' : List (List UInt8)} {G G' : List Sg} {q : Q} {d : Sd} {z : Int} (hc : Ch (fun k => S k ∧ k < w.heap.size) w W) (ht : RT W (Nw (fun k => S k ∧ k < w.heap.size) (w.heap.size + 2) W.heap.size) p g L' G') (hl : Ls W X (.slice A d.q.o.recs.length c) d.q.o.recs)
    (hb : W.heap.size ≤ W'.heap.size) (c' : Ch (fun k => k = w.heap.size + 1) W W') (h1 : sealR L q = (d, z)) (h2 : sealT L q = L') (h3 : sealG L G q = G') (hX : X (w.heap.size + 1)) : RSealed S X p g L G q w (.returned (.tuple #[DV d A c, .int .i64 z])) W' := by
  unfold RSealed
  rw [h1, h2, h3]
  refine ⟨A, c, rfl, ?_, hl.ch c' (fun k _ hk => by subst hk; exact hX), ?_⟩
  · refine (ht.ch c' (fun k hk hx => ?_)).weaken (fun k _ hk => ?_)
    · rcases hk with hk | hk <;> omega
    · rcases hk with hk | hk
      · exact .inl hk.1
      · exact .inr ⟨by omega, by omega⟩
  · exact (hc.mono (fun k _ hk => hk.1)).trans c' (fun k h1 h2 => by omega)
set_option maxHeartbeats 8000000 in
theorem rseal_any (w : World) (S X : Nat → Prop) (p g : Nat) (L : List (List UInt8)) (G : List Sg) (q : Q) (A : Option Addr) (c : Nat) (h : RT w S p g L G) (hls : Ls w X (.slice A q.o.recs.length c) q.o.recs) (hX : ∀ k, k < w.heap.size → S k → X k) (hX2 : ∀ k, w.heap.size ≤ k → X k) (hl : q.o.recs.length ≤ 140737488355328) (hG : (G.length + 1) * 16 ≤ 140737488355328) :
    Calls Tryz.prog 40 #[.pointer (some ⟨p, 0, none⟩), .pointer (some ⟨g, 0, none⟩), QV q A c] w (RSealed S X p g L G q w) := by
  have HT : Hid (RT w (fun k => S k ∧ k < w.heap.size) p g L G) := Lib.hid (h.weaken (fun k hk hs => ⟨hs, hk⟩))
  have hs0 := ss_new (fun k => S k ∧ k < w.heap.size) w q A c
  have HB0 : Below w.heap.size w ((w.alloc (.cells (QC q A c) 111)).alloc (.cells Z9 113)) := (op_below w _).trans ((op_below _ _).mono (by simp))
  have HC := Lib.hid (rqbytes_any q (QV q A c) X _ ⟨A, c, rfl, hls.after HB0⟩ hl)
  have HT0 := Lib.hid (HT.out.later HB0)
  have HLS := Lib.hid hls
  have HXX := Lib.hid hX
  have HX2 := Lib.hid hX2
  have HG := Lib.hid hG
  have hr0 := hs0.res
  obtain ⟨a0, a1, a2, a3, a4, a5, a6⟩ := hs0.req.cells
  have HS0 := Lib.hid hs0
  clear h hls hX hX2 hG hs0 HB0
  unfold QV at HC ⊢
  unfold QC Z9 at HC HT0 HS0 hr0 a0 a1 a2 a3 a4 a5 a6
  unfold QC
  obtain ⟨⟨z0, z1, z2, z3, z4, z5, z6, z7, z8⟩, ⟨y0, y1, y2, y3, y4, y5, y6, y7, y8⟩⟩ := Blk.cells9 hr0
  unfold Byt at HC
  clear hr0
  by_cases hq : qcheck q = 0
  · have HQF := Lib.hid (qform_eq hq)
    have HQL := Lib.hid (qraw_len hq)
    have HRT := fun L' G' => Lib.hid (And.intro (sealT_ok (L := L') hq) (sealG_ok (L := L') (G := G') hq))
    have HRR := Lib.hid (fun h => sealR_ok (L := L) hq h)
    have HRN := Lib.hid (fun h => sealR_code (L := L) hq h)
    rw [hq, HQF.out] at HC
    clear hq
    go_enter Tryz.func40, Tryz.ntmps40
    go_wp2_with fail
    refine HC.out.mono ?_
    rintro e w1 ⟨v1, rfl, hsl1, hb1⟩
    have HS1 := Lib.hid (HS0.out.later hb1)
    have HT1 := Lib.hid (HT0.out.later hb1)
    have HB1 := Lib.hid hsl1
    obtain ⟨Ab, cb, rfl, -⟩ := id hsl1
    clear hsl1 hb1 a0 a1 a2 a3 a4 a5 a6 z0 z1 z2 z3 z4 z5 z6 z7 z8 y0 y1 y2 y3 y4 y5 y6 y7 y8
    obtain ⟨a0, -⟩ := HS1.out.req.cells
    have HKY := Lib.hid (rkey_any w1 q.client)
    go_wp2_with fail
    refine HKY.out.mono ?_
    rintro e w' ⟨rfl, rfl⟩
    have HSM := Lib.hid (HT1.out.callT (P := Tryz.prog) (f := 71) (args := #[.pointer (some ⟨p, 0, none⟩), .slice Ab (qraw q).length cb]) (r := .returned (.int .i64 (sum L (qraw q) : Int))) (L' := add L (qraw q)) (fun S1 h1 => Ij.rsum_any w1 S1 _ p L Ab cb (qraw q) h1 HB1.out (by have := HQL.out; omega)))
    clear a0 HKY
    go_wp2_with fail
    refine HSM.out.mono ?_
    rintro e w2 ⟨rfl, ht2, hc2⟩
    have h1w := HS1.out.two
    have h12 := hc2.size
    have HS2 := Lib.hid (HS1.out.step hc2 (fun k _ h => ⟨h, h.2⟩))
    have HT2 := Lib.hid ht2
    clear ht2 hc2 HSM
    have HSG := Lib.hid (HT2.out.callG (P := Tryz.prog) (f := 69) (args := #[.pointer (some ⟨g, 0, none⟩), .int .i64 (key q.client), .int .i64 (sum L (qraw q) : Int)]) (r := .returned (.tuple #[GV (ans (sgOf L q)), .int .i64 (code (sgOf L q))])) (G' := pay G (sgOf L q)) (fun S2 h2 => Le.rsign_any w2 S2 g G (sgOf L q) h2 HG.out))
    go_wp2_with fail
    refine HSG.out.mono ?_
    rintro e w3 ⟨he, ht3, hc3⟩
    have h23 := hc3.size
    have HS3 := Lib.hid (HS2.out.nw hc3 h1w (fun _ h => h.2))
    have HT3 : Hid (RT w3 (Nw (fun k => S k ∧ k < w.heap.size) (w.heap.size + 2) w3.heap.size) p g (add L (qraw q)) (pay G (sgOf L q))) := Lib.hid (ht3.weaken (fun k _ hk => by
      have := nw_two h12 h23 hk
      rcases this with q1 | q1
      · exact .inl q1
      · exact .inr ⟨by omega, q1.2⟩))
    clear ht3 hc3 HSG HT2 HS2 HT1 HS1 HB1
    by_cases hcd : code (sgOf L q) = 0
    · have HR := Lib.hid (HRR.out hcd)
      have hans : ans (sgOf L q) = sgOf L q := by rw [ans, if_pos hcd]
      rw [hcd, hans] at he
      have HRT5 := HRT L G
      clear hcd hans HRR HRN HRT
      generalize sgOf L q = s at *
      obtain ⟨s1, s2⟩ := s
      unfold GV at he
      simp only at he
      subst he
      have hb6 := op_below w3 (.cells #[.int .i64 s1, .int .i64 s2] 36)
      have hk6 : Blk (w3.alloc (.cells #[.int .i64 s1, .int .i64 s2] 36)) w3.heap.size 36 #[.int .i64 s1, .int .i64 s2] := Blk.new _ _ _
      have HS6 := Lib.hid (HS3.out.later hb6)
      have HT6 := Lib.hid (HT3.out.later hb6)
      obtain ⟨a0, a1, a2, a3, a4, a5, a6⟩ := QB.cells HS6.out.req
      obtain ⟨⟨z0, z1, z2, z3, z4, z5, z6, z7, z8⟩, ⟨y0, y1, y2, y3, y4, y5, y6, y7, y8⟩⟩ := Blk.cells9 HS6.out.res
      clear hk6
      go_wp2_with fail
      refine bodyPost_ret (results_row_tmp rfl _ _ (w.heap.size + 1) 113 #[.int .i64 q.client, .int .i64 q.time, .int .i64 q.o.kind, .string ⟨q.o.topic.toArray⟩, .string ⟨q.o.group.toArray⟩, .int .i64 q.o.off, .slice A q.o.recs.length c, .int .i64 s1, .int .i64 s2] (0, 0) _ rfl (blk9 HS6.out.res) Tryz.underlying113 rfl size_signed) rfl ?_
      exact rsealed_of (d := ⟨q, (s1, s2)⟩) HS6.out.ch (HT6.out.weaken (fun k hk h => h.imp id (fun q1 => ⟨q1.1, hk⟩))) (HLS.out.ch HS6.out.ch (fun k hk hs => HXX.out k hk hs.1)) (ch9 (Ch.refl (fun k => k = w.heap.size + 1) _)).size (ch9 (Ch.refl _ _)) HR.out HRT5.out.1 HRT5.out.2 (HX2.out _ (by omega))
    · have HR := Lib.hid (HRN.out hcd)
      have HRT5 := HRT L G
      have hne : (code (sgOf L q) != 0) = true := by simpa using hcd
      have hne2 : (code (sgOf L q) == 0) = false := by simpa using hcd
      clear hcd HRR HRN HRT
      generalize ans (sgOf L q) = s at *
      generalize code (sgOf L q) = z at *
      obtain ⟨s1, s2⟩ := s
      unfold GV at he
      simp only at he
      subst he
      have hb6 := op_below w3 (.cells #[.int .i64 s1, .int .i64 s2] 36)
      have HS6 := Lib.hid (HS3.out.later hb6)
      have HT6 := Lib.hid (HT3.out.later hb6)
      have hr7 : Blk (w3.alloc (.cells #[.int .i64 s1, .int .i64 s2] 36)) (w.heap.size + 1) 113 #[.int .i64 0, .int .i64 0, .int .i64 0, .string ⟨#[]⟩, .string ⟨#[]⟩, .int .i64 0, .slice none 0 0, .int .i64 0, .int .i64 0] := HS6.out.res
      obtain ⟨⟨z0, z1, z2, z3, z4, z5, z6, z7, z8⟩, ⟨y0, y1, y2, y3, y4, y5, y6, y7, y8⟩⟩ := Blk.cells9 hr7
      have HR7 := Lib.hid hr7
      clear hr7
      go_wp2_with fail
      refine bodyPost_ret (results_row_tmp rfl _ _ (w.heap.size + 1) 113 #[.int .i64 0, .int .i64 0, .int .i64 0, .string ⟨#[]⟩, .string ⟨#[]⟩, .int .i64 0, .slice none 0 0, .int .i64 0, .int .i64 0] (0, 0) _ rfl (blk9 HR7.out) Tryz.underlying113 rfl size_signed) rfl ?_
      exact rsealed_of (d := Sd.zero) (A := none) (c := 0) HS6.out.ch (HT6.out.weaken (fun k hk h => h.imp id (fun q1 => ⟨q1.1, hk⟩))) (ls_none _ _) (ch9 (Ch.refl (fun k => k = w.heap.size + 1) _)).size (ch9 (Ch.refl _ _)) HR.out HRT5.out.1 HRT5.out.2 (HX2.out _ (by omega))
  · have hd : (qcheck q != 0) = true := by simpa using hq
    have hd2 : (qcheck q == 0) = false := by simpa using hq
    have HRT := fun G' => Lib.hid (And.intro (sealR_bad (L := L) hq) (And.intro (sealT_bad (L := L) hq) (sealG_bad (L := L) (G := G') hq)))
    clear hq
    go_enter Tryz.func40, Tryz.ntmps40
    go_wp2_with fail
    refine HC.out.mono ?_
    rintro e w1 ⟨v1, rfl, -, hb1⟩
    have HS1 := Lib.hid (HS0.out.later hb1)
    have HT1 := Lib.hid (HT0.out.later hb1)
    have hr1 : Blk w1 (w.heap.size + 1) 113 _ := HS1.out.res
    clear hb1 a0 a1 a2 a3 a4 a5 a6 z0 z1 z2 z3 z4 z5 z6 z7 z8 y0 y1 y2 y3 y4 y5 y6 y7 y8
    unfold Z9 at hr1
    obtain ⟨⟨z0, z1, z2, z3, z4, z5, z6, z7, z8⟩, ⟨y0, y1, y2, y3, y4, y5, y6, y7, y8⟩⟩ := Blk.cells9 hr1
    have HR1 := Lib.hid hr1
    clear hr1
    go_wp2_with fail
    refine bodyPost_ret (results_row_tmp rfl _ _ (w.heap.size + 1) 113 #[.int .i64 0, .int .i64 0, .int .i64 0, .string ⟨#[]⟩, .string ⟨#[]⟩, .int .i64 0, .slice none 0 0, .int .i64 0, .int .i64 0] (0, 0) _ rfl (blk9 HR1.out) Tryz.underlying113 rfl size_signed) rfl ?_
    exact rsealed_of (d := Sd.zero) (A := none) (c := 0) HS1.out.ch (HT1.out.weaken (fun k _ hk => .inl hk)) (ls_none _ _) (ch9 (Ch.refl (fun k => k = w.heap.size + 1) _)).size (ch9 (Ch.refl _ _)) (HRT G).out.1 (HRT G).out.2.1 (HRT G).out.2.2 (HX2.out _ (by omega))
end Go.Proofs.YtmhmnkpaijoaaaaGreat.Kc

/-
  Layer 8 (request): the contract of the document's Valid.
-/
namespace Go.Proofs.YtmhmnkpaijoaaaaGreat.Ke
set_option linter.unusedSimpArgs false
open Go Go.RowKit Ck Kw Ga Kf Pm Pe Pg Pk Py Qb Qg Ik Lk La Lb Lc Ld Jm Ja Jb Jc Jd Je Jf Jg Jh Kc
open Im (num isIn add sum)
attribute [local go_sem ↓] Go.wp_at_zero Go.wp_at_succ
set_option linter.unusedVariables false
set_option maxRecDepth 100000

theorem sgB_parts (a b c e : Int) : sgB (a, b) (c, e) = (decide (a = c) && decide (b = e)) := by
  unfold sgB
  rw [← Bool.decide_and]
  simp
set_option maxHeartbeats 8000000 in
theorem rvalid_any (w : World) (S X : Nat → Prop) (p g : Nat) (L : List (List UInt8)) (G : List Sg) (d : Sd) (A : Option Addr) (c : Nat) (h : RT w S p g L G) (hls : Ls w X (.slice A d.q.o.recs.length c) d.q.o.recs) (hl : d.q.o.recs.length ≤ 140737488355328) (hG : G.length ≤ 140737488355328) :
    Calls Tryz.prog 86 #[.pointer (some ⟨p, 0, none⟩), .pointer (some ⟨g, 0, none⟩), DV d A c] w fun e w' => e = .returned (.bool (validB L G d)) ∧ Below w.heap.size w w' := by
  have hb0 := op_below w (.cells (DC d A c) 113)
  have hk0 : DK (w.alloc (.cells (DC d A c) 113)) w.heap.size d A c := Blk.new w _ _
  have HC := Lib.hid (rqbytes_any d.q (QV d.q A c) X _ ⟨A, c, rfl, hls.after hb0⟩ hl)
  have HT0 := Lib.hid (h.later hb0)
  have HB0 := Lib.hid hb0
  have HK0 := Lib.hid hk0
  obtain ⟨a0, a1, a2, a3, a4, a5, a6, a7, a8⟩ := hk0.cells
  have HGL := Lib.hid hG
  clear h hls hb0 hk0 hG
  unfold Byt at HC
  unfold QV QC at HC
  unfold DV
  unfold DC at HC HT0 HB0 HK0 a0 a1 a2 a3 a4 a5 a6 a7 a8 ⊢
  by_cases hq : qcheck d.q = 0
  · have HV := Lib.hid (validB_ok (L := L) (G := G) hq)
    have HQL := Lib.hid (qraw_len hq)
    rw [hq, qform_eq hq] at HC
    clear hq
    go_enter Tryz.func86, Tryz.ntmps86
    go_wp2_with fail
    refine HC.out.mono ?_
    rintro e w1 ⟨v1, rfl, hsl1, hb1⟩
    have HT1 := Lib.hid (HT0.out.later hb1)
    have HK1 : Hid (DK w1 w.heap.size d A c) := Lib.hid (HK0.out.below hb1 HK0.out.lt)
    have HB1 := Lib.hid (HB0.out.trans (hb1.mono HB0.out.size))
    obtain ⟨Ab, cb, rfl, -⟩ := id hsl1
    have HSL := Lib.hid hsl1
    clear hsl1 hb1 a0 a1 a2 a3 a4 a5 a6 a7 a8 HT0 HK0 HB0
    obtain ⟨a0, -, -, -, -, -, -, a7, a8⟩ := HK1.out.cells
    have HKQ : Hid (∀ n, Calls Tryz.prog 70 #[.int .i64 d.q.client] (w1.drewN n) fun e w'' => e = .returned (.int .i64 (key d.q.client)) ∧ ∃ m, w'' = w1.drewN m) := Lib.hid fun n => Calls.quiet_of_same ((rkey_any (w1.drewN n) d.q.client).mono fun _ _ h => ⟨h.1, h.2.symm⟩)
    have HP : Hid (sgB d.s (key d.q.client, (num L (qraw d.q) : Int)) = (decide (d.s.1 = key d.q.client) && decide (d.s.2 = (num L (qraw d.q) : Int)))) := Lib.hid (sgB_parts d.s.1 d.s.2 _ _)
    by_cases hk : d.s.1 = key d.q.client
    · have hk1 : (d.s.1 == key d.q.client) = true := beq_iff_eq.2 hk
      have HP2 := Lib.hid (HP.out.trans (by rw [decide_eq_true hk, Bool.true_and]))
      clear HP hk
      go_wp2_with fail
      go_quiet ((go_at_call 70; exact HKQ.out _))
      all_goals
        go_wp2_with fail
        have HLK : Hid (Calls Tryz.prog 51 #[.pointer (some ⟨p, 0, none⟩), .slice Ab (qraw d.q).length cb] (w1.drewN nq) fun e w' => e = .returned (.tuple #[.int .i64 (num L (qraw d.q) : Int), .bool (isIn L (qraw d.q))]) ∧ w1.drewN nq = w') := Lib.hid (by
          obtain ⟨S1, S2, t1, t2, -⟩ := HT1.out.later (below_drewN (Below.refl _ w1) nq)
          exact Ih.rlook_any (w1.drewN nq) S1 _ p L _ _ (qraw d.q) t1 (HSL.out.after (below_drewN (Below.refl _ w1) nq)))
        refine HLK.out.mono ?_
        rintro e w' ⟨rfl, rfl⟩
        have HT2 : Hid (RT (w1.drewN nq) S p g L G) := Lib.hid (HT1.out.later (below_drewN (Below.refl _ _) nq))
        have HK2 : Hid (DK (w1.drewN nq) w.heap.size d A c) := HK1
        have HB2 : Hid (Below w.heap.size w (w1.drewN nq)) := Lib.hid (below_drewN HB1.out nq)
        clear HLK HKQ HT1 HK1 HB1 HSL a0 a7 a8
        generalize w1.drewN nq = w2 at *
        obtain ⟨a0, -, -, -, -, -, -, a7, a8⟩ := HK2.out.cells
        have HSG := Lib.hid fun (W : World) (b : Below w2.heap.size w2 W) => show Calls Tryz.prog 101 #[.pointer (some ⟨g, 0, none⟩), GV d.s] W fun e w' => e = .returned (.bool (isS G d.s)) ∧ Below W.heap.size W w' from by
          obtain ⟨S1, S2, t1, t2, -⟩ := HT2.out.later b
          exact Ld.rsigned_any W S2 g G d.s t2 HGL.out
        unfold GV at HSG
        generalize isIn L (qraw d.q) = known at *
        generalize (num L (qraw d.q) : Int) = dg at *
        cases known with
        | false =>
          have HV2 : Hid (validB L G d = false) := Lib.hid HV.out
          clear HV
          go_wp2_with fail
          go_ret
          exact ⟨by rw [HV2.out]; rfl, HB2.out⟩
        | true =>
          by_cases hs : d.s.2 = dg
          · have hs1 : (dg == d.s.2) = true := beq_iff_eq.2 hs.symm
            have HV2 : Hid (validB L G d = isS G d.s) := Lib.hid (by rw [HV.out, HP2.out, decide_eq_true hs]; simp)
            clear HV hs HP2
            generalize isS G d.s = b2 at *
            go_wp2_with fail
            refine (HSG.out w2 (Below.refl _ _)).mono ?_
            rintro e w3 ⟨rfl, hb3⟩
            have HB3 := Lib.hid (HB2.out.trans (hb3.mono HB2.out.size))
            clear hb3
            go_wp2_with fail
            go_ret
            exact ⟨by rw [HV2.out]; rfl, HB3.out⟩
          · have hs1 : (dg == d.s.2) = false := beq_eq_false_iff_ne.2 (fun e => hs e.symm)
            have HV2 : Hid (validB L G d = false) := Lib.hid (by rw [HV.out, HP2.out, decide_eq_false hs]; simp)
            clear HV hs HP2 HSG
            go_wp2_with fail
            go_ret
            exact ⟨by rw [HV2.out]; rfl, HB2.out⟩
    · have hk1 : (d.s.1 == key d.q.client) = false := beq_eq_false_iff_ne.2 hk
      have HV2 : Hid (validB L G d = false) := Lib.hid (by rw [HV.out, HP.out, decide_eq_false hk]; simp)
      clear HP hk HV
      go_wp2_with fail
      go_quiet ((go_at_call 70; exact HKQ.out _))
      all_goals
        go_wp2_with fail
        go_ret
        exact ⟨by rw [HV2.out]; rfl, below_drewN HB1.out _⟩
  · have HV := Lib.hid (validB_bad (L := L) (G := G) hq)
    have hd : (qcheck d.q != 0) = true := by simpa using hq
    have hd2 : (qcheck d.q == 0) = false := by simpa using hq
    clear hq
    go_enter Tryz.func86, Tryz.ntmps86
    go_wp2_with fail
    refine HC.out.mono ?_
    rintro e w1 ⟨v1, rfl, -, hb1⟩
    have HB1 := Lib.hid (HB0.out.trans (hb1.mono HB0.out.size))
    clear hb1
    go_wp2_with fail
    go_quiet (fail)
    all_goals
      go_wp2_with fail
      go_ret
      exact ⟨by rw [HV.out]; rfl, below_drewN HB1.out _⟩
end Go.Proofs.YtmhmnkpaijoaaaaGreat.Ke

/-
  Layer 8 (request): mathematics of what was sealed: who is valid, and the numbers of batches. No program is named here.
-/
namespace Go.Proofs.YtmhmnkpaijoaaaaGreat.Jn
set_option linter.unusedSimpArgs false
open Im (num isIn add sum)
open Lk Ld Jm Jg
set_option linter.unusedVariables false

theorem num_inj {L : List (List UInt8)} {a b : List UInt8} (h : num L a = num L b) (h0 : num L a ≠ 0) : a = b := by
  have h1 := Im.num_get L a h0
  have h2 := Im.num_get L b (by rw [← h]; exact h0)
  rw [h, h2] at h1
  exact (Option.some.inj h1).symm
theorem num_add {L : List (List UInt8)} {b s : List UInt8} (h : num L s ≠ 0) : num (add L b) s = num L s := by
  unfold Im.add
  split
  · rfl
  · split
    · rfl
    · exact Im.num_left L [b] s h
theorem sum_num {L : List (List UInt8)} {b : List UInt8} (h : sum L b ≠ 0) : num (add L b) b = sum L b ∧ num (add L b) b ≠ 0 := by
  unfold Im.sum at h ⊢
  unfold Im.add
  by_cases h1 : num L b ≠ 0
  · rw [if_pos h1, if_pos h1]; exact ⟨rfl, h1⟩
  · rw [if_neg h1] at h ⊢
    rw [if_neg h1]
    by_cases h2 : 1048576 ≤ L.length
    · rw [if_pos h2] at h; exact absurd rfl h
    · rw [if_neg h2] at h ⊢
      rw [if_neg h2]
      have := Im.num_snoc L b b
      rw [if_neg h1, if_pos rfl] at this
      rw [this]
      exact ⟨rfl, by omega⟩
theorem add_full {L : List (List UInt8)} {b : List UInt8} (h : sum L b = 0) : add L b = L := by
  unfold Im.sum at h
  unfold Im.add
  by_cases h1 : num L b ≠ 0
  · rw [if_pos h1]
  · rw [if_neg h1] at h ⊢
    by_cases h2 : 1048576 ≤ L.length
    · rw [if_pos h2]
    · rw [if_neg h2] at h; omega
theorem code_ok {L : List (List UInt8)} {q : Q} (h : qcheck q = 0) : code (sgOf L q) = 0 ↔ sum L (qraw q) ≠ 0 := by
  have h1 := (qcheck_ok h).1
  have h2 := Ja.key_pos ((isC_iff q.client).2 h1)
  unfold code sgOf
  simp only
  rw [h2, if_neg (by omega)]
  by_cases h0 : sum L (qraw q) = 0
  · rw [h0, if_pos (by simp)]; simp
  · rw [if_neg (by omega)]; simp [h0]
/-- These, and just these, were sealed. -/
structure Inv (L : List (List UInt8)) (G : List Sg) (R : List Sd) : Prop where
  good : ∀ d ∈ R, qcheck d.q = 0 ∧ d.s = (key d.q.client, (num L (qraw d.q) : Int)) ∧ num L (qraw d.q) ≠ 0 ∧ d.s ∈ G
  just : ∀ s ∈ G, ∃ d ∈ R, d.s = s
/-- What is sealed with q. -/
def sealS (L : List (List UInt8)) (q : Q) (R : List Sd) : List Sd := if (sealR L q).2 = 0 then R ++ [(sealR L q).1] else R
theorem Inv.step {L : List (List UInt8)} {G : List Sg} {R : List Sd} (h : Inv L G R) (q : Q) : Inv (sealT L q) (sealG L G q) (sealS L q R) := by
  by_cases hq : qcheck q = 0
  · rw [sealT_ok hq, sealG_ok hq]
    by_cases hc : code (sgOf L q) = 0
    · have hs := (code_ok hq).1 hc
      obtain ⟨n1, n2⟩ := sum_num hs
      have hR : sealS L q R = R ++ [⟨q, sgOf L q⟩] := by rw [sealS, sealR_ok hq hc]; rfl
      have hp : pay G (sgOf L q) = if sgOf L q ∈ G then G else G ++ [sgOf L q] := by rw [pay, if_pos hc]
      have hmem : ∀ s, s ∈ pay G (sgOf L q) ↔ s ∈ G ∨ s = sgOf L q := fun s => by
        rw [hp]
        split
        · rename_i hin
          exact ⟨.inl, fun h => h.elim id (fun e => by rw [e]; exact hin)⟩
        · simp
      rw [hR]
      refine ⟨fun d hd => ?_, fun s hs2 => ?_⟩
      · rcases List.mem_append.1 hd with hd | hd
        · obtain ⟨g1, g2, g3, g4⟩ := h.good d hd
          rw [num_add g3]
          exact ⟨g1, g2, g3, (hmem _).2 (.inl g4)⟩
        · obtain rfl : d = ⟨q, sgOf L q⟩ := by simpa using hd
          refine ⟨hq, ?_, n2, (hmem _).2 (.inr rfl)⟩
          simp only
          rw [n1]
          rfl
      · rcases (hmem s).1 hs2 with hs2 | rfl
        · obtain ⟨d, hd, e⟩ := h.just s hs2
          exact ⟨d, List.mem_append_left _ hd, e⟩
        · exact ⟨⟨q, sgOf L q⟩, List.mem_append_right _ (by simp), rfl⟩
    · have hs : sum L (qraw q) = 0 := by
        by_cases h0 : sum L (qraw q) = 0
        · exact h0
        · exact absurd ((code_ok hq).2 h0) hc
      have hR : sealS L q R = R := by rw [sealS, sealR_code hq hc, if_neg (by simpa using hc)]
      have hp : pay G (sgOf L q) = G := by rw [pay, if_neg hc]
      rw [add_full hs, hR, hp]
      exact h
  · have hR : sealS L q R = R := by rw [sealS, sealR_bad hq, if_neg (by simpa using hq)]
    rw [sealT_bad hq, sealG_bad hq, hR]
    exact h
theorem sealG_len (L : List (List UInt8)) (G : List Sg) (q : Q) : (sealG L G q).length ≤ G.length + 1 := by
  unfold sealG
  split
  · omega
  · exact pay_len _ _
theorem sealR_recs (L : List (List UInt8)) (q : Q) : (sealR L q).1.q.o.recs.length ≤ q.o.recs.length := by
  unfold sealR
  split
  · simp [Sd.zero, Q.zero, Pm.O.zero]
  · split
    · simp [Sd.zero, Q.zero, Pm.O.zero]
    · exact Nat.le_refl _

/-- A batch's number. -/
def digR (L : List (List UInt8)) (l : List Sd) : Int × Int := if bcheck l ≠ 0 then (0, bcheck l) else if sum L (braw l) = 0 then (0, 6) else ((sum L (braw l) : Int), 0)
def digT (L : List (List UInt8)) (l : List Sd) : List (List UInt8) := if bcheck l ≠ 0 then L else add L (braw l)
theorem digR_bad {L : List (List UInt8)} {l : List Sd} (h : bcheck l ≠ 0) : digR L l = (0, bcheck l) := by rw [digR, if_pos h]
theorem digT_bad {L : List (List UInt8)} {l : List Sd} (h : bcheck l ≠ 0) : digT L l = L := by rw [digT, if_pos h]
theorem digR_full {L : List (List UInt8)} {l : List Sd} (h : bcheck l = 0) (h0 : sum L (braw l) = 0) : digR L l = (0, 6) := by rw [digR, if_neg (by omega), if_pos h0]
theorem digR_ok {L : List (List UInt8)} {l : List Sd} (h : bcheck l = 0) (h0 : sum L (braw l) ≠ 0) : digR L l = ((sum L (braw l) : Int), 0) := by rw [digR, if_neg (by omega), if_neg h0]
theorem digT_ok {L : List (List UInt8)} {l : List Sd} (h : bcheck l = 0) : digT L l = add L (braw l) := by rw [digT, if_neg (by omega)]
end Go.Proofs.YtmhmnkpaijoaaaaGreat.Jn

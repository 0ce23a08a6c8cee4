/-
  Contract of the document's table: Sum.
-/
import Derived.Test.YtepdajhgfdjklaaIi
namespace Go.Proofs.Ytepdajhgfdjklaa.Ij
open Go Go.RowKit Ck Im Ik Ia Ib Ic Ig Ie Ih Ii

theorem own_apart {w : World} {b b' n n' s s' : Nat} {e e' : TypeId} {v v' : Value} {xs xs' : List Value} (h : w.ownsRow b e s v n xs) (h' : w.ownsRow b' e' s' v' n' xs') (he : e ≠ e') : v.ownBlock = none ∨ v.ownBlock ≠ v'.ownBlock := by
  rcases h.2 with ⟨rfl, _⟩ | ⟨g, cap, cur, rfl, _, hr, _⟩
  · exact .inl rfl
  · refine .inr ?_
    rcases h'.2 with ⟨rfl, _⟩ | ⟨g', cap', cur', rfl, _, hr', _⟩
    · simp [Value.ownBlock]
    · intro h2
      have h2 : g = g' := by simpa [Value.ownBlock] using h2
      subst h2
      rw [hr] at hr'
      injection hr' with hr'
      injection hr' with _ h3
      exact he h3

/-- What the document's table holds, behind a text more. -/
theorem rf_snoc {w w1 w2 w3 : World} {S : Nat → Prop} {p : Nat} {L : List Tx} {lv v1 v2 v3 : Value} {b : Tx} {vals : List Value} {t : TypeId} (hblk : Blk w p 39 #[lv]) (hp : S p)
    (hvl : vals.length = L.length) (hels : ∀ i (h : i < L.length), ∃ u, vals[i]? = some u ∧ Sl w (fun k => ¬ S k ∨ k = p) 1 u L[i].length (BVs L[i])) (hall : ∀ l ∈ L, l.length ≤ 140737488355328) (hL : L.length < 1048576) (hb : b.length ≤ 140737488355328)
    (h1 : w1.ownsRow w.heap.size 41 1 v1 L.length vals) (b1 : Below w.heap.size w w1) (h2 : w2.ownsRow w1.heap.size 5 1 v2 b.length (BVs b)) (b2 : Below w1.heap.size w1 w2)
    (h3 : Appended (w2.alloc (.cells #[v2] t)) w.heap.size 41 1 v1 (L.length + 1) (vals ++ [v2]) v3 w3) :
    Rf (w3.setCell ⟨p, 0, none⟩ v3) (Up S w (w3.setCell ⟨p, 0, none⟩ v3)) p (L ++ [b]) ∧ Ch S w (w3.setCell ⟨p, 0, none⟩ v3) ∧ Below w.heap.size w w3 := by
  have hpl := hblk.lt
  have b2' : Below w.heap.size w w2 := b1.trans (b2.mono b1.size)
  have b3 : Below w.heap.size w (w2.alloc (.cells #[v2] t)) := b2'.alloc b2'.size _
  have b4 : Below w.heap.size w w3 := b3.grown h3.2.1 b3.size (fun g hg => (h1.lt g hg).1)
  have c5 : Ch S w (w3.setCell ⟨p, 0, none⟩ v3) := (Ch.of_below b4 (Nat.le_refl _)).setCell (p := ⟨p, 0, none⟩) (fun _ => hp) v3
  have hs3 : (w3.setCell ⟨p, 0, none⟩ v3).heap.size = w3.heap.size := by simp [World.setCell]
  have hx : ∀ k, w.heap.size ≤ k → k < w3.heap.size → ¬ (¬ Up S w (w3.setCell ⟨p, 0, none⟩ v3) k ∨ k = p) := by
    rintro k h h' (hn | rfl)
    · exact hn (.inr ⟨h, by rw [hs3]; exact h'⟩)
    · omega
  have o2 : w3.ownsRow w.heap.size 5 1 v2 b.length (BVs b) := by
    exact own_base ((h2.alloc (.cells #[v2] t)).kept h3.2.1 (own_apart h2 (own_below h1 b2) (by decide))) b1.size
  have hw3 := b4.size
  refine ⟨⟨v3, ?_, .inl hp, ⟨vals ++ [v2], ?_, fun i hi => ?_⟩, ?_, ?_⟩, c5, b4⟩
  · have := (hblk.below b4 hpl).set_ 0 v3
    simpa using this
  · have h3' : w3.ownsRow w.heap.size 41 1 v3 (L ++ [b]).length (vals ++ [v2]) := by simpa using h3.1
    exact (Sl.of_own h3' (X := fun k => ¬ Up S w (w3.setCell ⟨p, 0, none⟩ v3) k ∨ k = p) hx).setCell (p := ⟨p, 0, none⟩) (fun _ => .inr rfl) v3
  · by_cases he : i < L.length
    · obtain ⟨u, hu, hsl⟩ := hels i he
      refine ⟨u, by rw [List.getElem?_append_left (by omega)]; exact hu, ?_⟩
      rw [List.getElem_append_left he]
      refine ((hsl.below b4 (fun k h1 h2 => absurd h1 (by omega))).weaken' (Y := fun k => ¬ Up S w (w3.setCell ⟨p, 0, none⟩ v3) k ∨ k = p) ?_).setCell (p := ⟨p, 0, none⟩) (fun _ => .inr rfl) v3
      rintro k _ hX (hn | rfl)
      · exact hX (.inl fun hs => hn (.inl hs))
      · exact hX (.inr rfl)
    · have hie : i = L.length := by simp only [List.length_append, List.length_cons, List.length_nil] at hi; omega
      subst hie
      refine ⟨v2, by rw [List.getElem?_append_right (by omega), hvl, Nat.sub_self]; rfl, ?_⟩
      rw [List.getElem_append_right (Nat.le_refl _)]
      simp only [Nat.sub_self, List.getElem_cons_zero]
      exact (Sl.of_own o2 (X := fun k => ¬ Up S w (w3.setCell ⟨p, 0, none⟩ v3) k ∨ k = p) hx).setCell (p := ⟨p, 0, none⟩) (fun _ => .inr rfl) v3
  · intro l hl
    rcases List.mem_append.1 hl with h2 | h2
    · exact hall l h2
    · simp only [List.mem_cons, List.not_mem_nil, or_false] at h2
      subst h2; exact hb
  · simp only [List.length_append, List.length_cons, List.length_nil]; omega

theorem two_size {w w1 w2 : World} (b1 : Below w.heap.size w w1) (b2 : Below w1.heap.size w1 w2) (o : Obj) : w.heap.size ≤ (w2.alloc o).heap.size := Nat.le_trans b1.size (Nat.le_trans b2.size (by simp))
theorem rf_below {w w1 w2 w3 : World} {o : Obj} {e : TypeId} {n m : Nat} {xs ys : List Value} {v1 v3 : Value} (b1 : Below w.heap.size w w1) (b2 : Below w1.heap.size w1 w2) (h1 : w1.ownsRow w.heap.size e 1 v1 n xs) (h3 : Appended (w2.alloc o) w.heap.size e 1 v1 m ys v3 w3) : Below w.heap.size w w3 := by
  have b2' : Below w.heap.size w w2 := b1.trans (b2.mono b1.size)
  have b3 : Below w.heap.size w (w2.alloc o) := b2'.alloc b2'.size _
  exact b3.grown h3.2.1 b3.size (fun g hg => (h1.lt g hg).1)

/-- What Sum leaves of the document's table. -/
def RSummed (S : Nat → Prop) (p : Nat) (L : List Tx) (b : Tx) (w : World) (e : Ending) (w' : World) : Prop :=
  e = .returned (.int .i64 (sum L b : Int)) ∧ Rf w' (Up S w w') p (add L b) ∧ Ch S w w'

theorem Rf.up {w w' : World} {S : Nat → Prop} {p : Nat} {L : List Tx} (h : Rf w' S p L) : Rf w' (Up S w w') p L := by
  obtain ⟨lv, h1, h2, h3, h4⟩ := h
  refine ⟨lv, h1, .inl h2, h3.weaken ?_, h4⟩
  rintro k _ (hn | rfl)
  · exact .inl fun hs => hn (.inl hs)
  · exact .inr rfl

theorem vals_one {w : World} {X : Nat → Prop} {L : List Tx} {vals : List Value} (hvl : vals.length = L.length) (hels : ∀ i (h : i < L.length), ∃ u, vals[i]? = some u ∧ Sl w X 1 u L[i].length (BVs L[i])) : ∀ u ∈ vals, u.oneCell' = true := by
  intro u hu
  obtain ⟨i, hi, rfl⟩ := List.getElem_of_mem hu
  obtain ⟨u, h1, ⟨A, c, rfl, _⟩⟩ := hels i (by omega)
  rw [List.getElem?_eq_getElem hi] at h1
  injection h1 with h1
  rw [h1]
  rfl

set_option maxRecDepth 100000 in
set_option maxHeartbeats 1000000 in
theorem rsum_any (w : World) (S X : Nat → Prop) (p : Nat) (L : List Tx) (A : Option Addr) (c : Nat) (b : Tx) (h : Rf w S p L) (hb : Sl w X 1 (.slice A b.length c) b.length (BVs b)) (hl : b.length ≤ 140737488355328) :
    Calls Try.prog 32 #[.pointer (some ⟨p, 0, none⟩), .slice A b.length c] w (RSummed S p L b w) := by
  have HL := Lib.hid (rlook_any w S X p L _ _ b h hb)
  by_cases hk : num L b = 0
  · have hin := isIn_false hk
    have HT := Lib.hid h
    obtain ⟨lv, h1, hp, hls, hall, hL⟩ := h
    obtain ⟨A', c', rfl⟩ := Ls.shape hls
    by_cases hf : 1048576 ≤ L.length
    · obtain ⟨ha, hs⟩ := add_full hk hf
      have c1 : w.cell? ⟨p, 0, none⟩ = some (.slice A' L.length c') := h1.cell 0
      have HA := Lib.hid ha
      have HS := Lib.hid hs
      have hk0 : (num L b : Int) = 0 := by omega
      have hf' : decide ((1048576 : Int) ≤ (L.length : Int)) = true := by rw [decide_eq_true_eq]; omega
      clear h1 hls hp hall ha hs hk hf hL hl hb
      go_enter Try.func32, Try.ntmps32
      go_wp2_with (go_at_call 48; refine HL.out.mono ?_; rintro e w' ⟨rfl, rfl⟩)
      go_ret
      refine ⟨by rw [HS.out]; rfl, ?_, Ch.refl S w⟩
      rw [HA.out]
      exact Rf.up HT.out
    · obtain ⟨ha, hs⟩ := add_new hk hf
      have HA := Lib.hid ha
      have HS := Lib.hid hs
      have hf' : decide ((1048576 : Int) ≤ (L.length : Int)) = false := by rw [decide_eq_false_iff_not]; omega
      have hlt : L.length ≤ 2000000 := by omega
      have hlt2 : L.length < 1048576 := by omega
      have HB := Lib.hid hl
      have HBS := Lib.hid hb
      have c1 : w.cell? ⟨p, 0, none⟩ = some (.slice A' L.length c') := h1.cell 0
      obtain ⟨i0, hi0, hz0, hz1, hz2⟩ := info_parts info_sl
      obtain ⟨j0, hj0, hy0, hy1, hy2⟩ := info_parts info_u8
      have hk0 : (num L b : Int) = 0 := by omega
      obtain ⟨vals, hsl, hels⟩ := hls
      have hvl : vals.length = L.length := by obtain ⟨_, _, _, h, _⟩ := hsl; omega
      have hone := vals_one hvl hels
      have H1 := Lib.hid h1
      have HP := Lib.hid (And.intro hp (And.intro hvl (And.intro hels (And.intro hall hlt2))))
      have HSL := Lib.hid hsl
      have HONE := Lib.hid hone
      have hfl : L.length ≤ 140737488355328 := by omega
      have hpl := h1.lt
      clear ha hs hk hf h1 hp hall hL hl hb hsl hels hvl hone hlt2
      go_enter Try.func32, Try.ntmps32
      go_wp2_with (first
        | (go_at_call 48; refine HL.out.mono ?_; rintro e w' ⟨rfl, rfl⟩)
        | (at_builtin; refine wpList_append_new _ rfl (.const (.slice none 0 0)) (.tmp 25) _ rfl 41 i0 _ 1 24 Try.underlying22 hi0 hz0 hz1 hz2 rfl (by omega) rfl _ _ L.length vals rfl HSL.out HONE.out (by simp only [maxLen]; omega) (by omega) ?_; intro A1 d1 w1 ho1 b1)
        | (at_builtin; refine wpList_append_new _ rfl (.const (.slice none 0 0)) (.tmp 27) _ rfl 5 j0 _ 1 1 Try.underlying41 hj0 hy0 hy1 hy2 rfl (by omega) rfl _ _ b.length (BVs b) rfl (HBS.out.after b1) (BVs_one _) (by have := HB.out; simp only [maxLen]; omega) (by have := HB.out; omega) ?_; intro A2 d2 w2 ho2 b2)
        | (at_builtin; refine wpList_append_sh _ rfl (.tmp 26) (.tmp 29) _ rfl w.heap.size 41 i0 _ 1 24 Try.underlying22 hi0 hz0 hz1 hz2 rfl (by omega) (.slice A1 L.length d1) L.length vals rfl ((own_below ho1 b2).alloc _) (fun _ => False) _ 1 [.slice A2 b.length d2] rfl (one_sv w2 _ _ _ (fun h => h)) (one_slice _ _ _) (by simp only [maxLen]; omega) (by omega) (two_size b1 b2 _) ?_; intro A3 d3 w3 happ3; have k0 := H1.out.below (rf_below b1 b2 ho1 happ3) hpl; have k1 := k0.cell 0; have k2 := k0.frozen 0; simp only [List.getElem?_toArray, List.getElem?_cons_zero] at k1))
      go_ret
      have R := rf_snoc H1.out HP.out.1 HP.out.2.1 HP.out.2.2.1 HP.out.2.2.2.1 HP.out.2.2.2.2 HB.out ho1 b1 ho2 b2 happ3
      refine ⟨by rw [HS.out]; simp, ?_, R.2.1⟩
      rw [HA.out]
      exact R.1
  · have hin := isIn_true hk
    obtain ⟨ha, hs⟩ := add_known hk
    have HT := Lib.hid h
    have HA := Lib.hid ha
    have HS := Lib.hid hs
    clear h ha hs
    go_enter Try.func32, Try.ntmps32
    go_wp2_with (go_at_call 48; refine HL.out.mono ?_; rintro e w' ⟨rfl, rfl⟩)
    go_ret
    refine ⟨by rw [HS.out]; rfl, ?_, Ch.refl S w⟩
    rw [HA.out]
    exact Rf.up HT.out

end Go.Proofs.Ytepdajhgfdjklaa.Ij

/-
  Contract of the document's own reader of layer 1: List.
-/
import Derived.Test.YtkhncipagdejnaaCo
namespace Go.Proofs.Ytkhncipagdejnaa.Cp
open Go Go.RowKit Ck Ca Cb Ce Cf Cg Ch Ci Cj Cn Co

/-- What a list's reading leaves. -/
def RListed (w : World) (X : Nat → Prop) (g : Nat) (r : List (List UInt8) × Cm.RS) (e : Ending) (w' : World) : Prop :=
  ∃ v, e = .returned v ∧ Ls w' (fun k => k < w.heap.size) v r.1 ∧ w.grownBy w' (some g) ∧ RR w' X g r.2

/-- One round: a part was read and put behind the others. -/
theorem rlist_round {W wr w1 w2 : World} {X : Nat → Prop} {g : Nat} {v u v2 : Value} {vals : List Value} {acc : List (List UInt8)} {x : List UInt8} {s1 : Cm.RS} {t e : TypeId}
    (hg : W.grownBy wr (some g)) (hgl : g < W.heap.size) (hown : wr.ownsRow W.heap.size e 1 v acc.length vals) (hels : Els wr W.heap.size v vals acc)
    (hu : w1.ownsRow wr.heap.size t 1 u x.length (BVs x)) (hg1 : wr.grownBy w1 (some g)) (hc1 : RR w1 (fun k => X k ∨ W.heap.size ≤ k) g s1)
    (happ : Appended (w1.alloc (.cells #[u] e)) W.heap.size e 1 v (acc.length + 1) (vals ++ [u]) v2 w2) :
    w2.ownsRow W.heap.size e 1 v2 (acc ++ [x]).length (vals ++ [u]) ∧ Els w2 W.heap.size v2 (vals ++ [u]) (acc ++ [x]) ∧ W.grownBy w2 (some g) ∧ RR w2 (fun k => X k ∨ W.heap.size ≤ k) g s1 := by
  have hlt := hown.lt
  have h1 : Els w1 W.heap.size v (vals ++ [u]) (acc ++ [x]) := by
    refine (hels.grown hg1 (fun k hk => .inl (by injection hk with hk; omega))).push (Sl.of_own hu fun k hk _ hy => ?_)
    rcases hy with hy | hy
    · have := hg.size; omega
    · have := (hlt k hy).2; omega
  have h2 := h1.keep (w' := w1.alloc (.cells #[u] e)) (by simp) (fun b hb _ => Below.heap_alloc _ _ _ hb)
  have h3 := h2.grown happ.2.1 (fun k hk => .inr hk)
  have hsz := happ.2.1.size
  refine ⟨by rw [List.length_append]; exact happ.1, ?_, ?_, ?_⟩
  · refine ⟨h3.1, fun i hi => ?_⟩
    obtain ⟨u0, hu0, h5⟩ := h2.2 i hi
    refine ⟨u0, hu0, ?_⟩
    have h6 : Sl w2 (fun k => (k < W.heap.size ∨ v.ownBlock = some k) ∨ (w1.alloc (.cells #[u] e)).heap.size ≤ k) 1 u0 (acc ++ [x])[i].length (BVs (acc ++ [x])[i]) :=
      (h5.old (Nat.le_refl _)).grown happ.2.1 (fun k hk _ => .inl (.inr hk))
    refine h6.weaken fun b _ hy => ?_
    rcases hy with hy | hy
    · exact .inl (.inl hy)
    · rcases happ.2.2 with hr | hr
      · rw [hr] at hy; exact .inl (.inr hy)
      · rw [hr] at hy; injection hy with hy; exact .inr (by omega)
  · have k1 := hg.trans hg1
    have k2 := grown_below k1 ((Below.refl w1.heap.size w1).alloc (Nat.le_refl _) (.cells #[u] e))
    exact grown_step k2 happ.2.1 (.inr fun k hk => (hlt k hk).1)
  · refine (hc1.after ((Below.refl w1.heap.size w1).alloc (Nat.le_refl _) (.cells #[u] e))).grown happ.2.1 ?_ (fun k hk _ => .inr (hlt k hk).1)
    intro he
    have := (hlt g he.symm).1
    omega


/-- The loop of the list's reading: from the number of its parts on. -/
def RRel (w : World) (X : Nat → Prop) (g : Nat) (s : Cm.RS) (N : Nat) (R : List (List UInt8) × Cm.RS) (each : Int) (v i : Value) (wr : World) : Prop :=
  ∃ (k : Nat) (s1 : Cm.RS) (acc : List (List UInt8)) (vals : List Value), i = .int .u64 k ∧ k ≤ N ∧ wr.ownsRow w.heap.size 22 1 v acc.length vals ∧ Els wr w.heap.size v vals acc ∧ w.grownBy wr (some g) ∧
      RR wr (fun k => X k ∨ w.heap.size ≤ k) g s1 ∧ (s1.2 = 0 → R = Cm.listA each (N - k) s1 acc ∧ acc.length + s1.1.length ≤ s.1.length) ∧ (s1.2 ≠ 0 → R = ([], s1))
theorem num_zero (s : Cm.RS) (m : Nat) (h : (Cm.numS s m).2.2 ≠ 0) : (Cm.numS s m).1 = 0 := by
  unfold Cm.numS at h ⊢
  split
  · rfl
  · rename_i h1
    rw [if_neg h1] at h
    split
    · rfl
    · rename_i h2
      rw [if_neg h2] at h
      split
      · rfl
      · rename_i h3
        rw [if_neg h3] at h
        exact absurd rfl h

set_option maxRecDepth 100000 in
set_option maxHeartbeats 800000 in
theorem rlist_main (w : World) (X : Nat → Prop) (g : Nat) (s : Cm.RS) (h : RR w X g s) (most each : Int) (hhi : most ≤ 9223372036854775807) (hlo2 : -9223372036854775808 ≤ each) (hhi2 : each ≤ 9223372036854775807) (hl : s.1.length ≤ 549755813888)
    (M : Nat) (hM : M = most.toNat) (hmax : (0 ≤ most ∧ most = (M : Int)) ∨ (most < 0 ∧ M = 0)) :
    Calls Try.prog 39 #[P_ g, .int .i64 most, .int .i64 each] w fun e w' => RListed w X g (Cm.listS s most each) e w' := by
  have hl2 := Cm.numS_len s M
  have hnle := Cm.numS_le s M
  have hgl := h.lt
  have hR : Cm.listS s most each = Cm.listA each (Cm.numS s M).1 (Cm.numS s M).2 [] := by rw [Cm.listS, hM]
  have hz0 := num_zero s M
  have hnum : (Cm.numS s M).1 ≤ 9223372036854775807 := by omega
  rw [hR]
  generalize hRR : Cm.listA each (Cm.numS s M).1 (Cm.numS s M).2 [] = R
  have HRR := Lib.hid hRR
  obtain ⟨i0, hi0, hzz0, hzz1, hzz2⟩ := info_parts info_sl
  have HLO2 := Lib.hid hlo2
  have HHI2 := Lib.hid hhi2
  have hrn := rnum_any w _ g s (h.old (Nat.le_refl _)) M
  generalize hN : Cm.numS s M = p at *
  obtain ⟨N, s0⟩ := p
  simp only at hl2 hnle hnum hz0
  have HN := Lib.hid hN
  have HRN := Lib.hid hrn
  have HZ := Lib.hid hz0
  have hM63 : M ≤ 9223372036854775807 := by omega
  have start : ∀ w1, w.grownBy w1 (some g) → RR w1 (fun k => X k ∨ w.heap.size ≤ k) g s0 → RRel w X g s N R each (.slice none 0 0) (.int .u64 ((0 : Nat) : Int)) w1 := by
    intro w1 hg1 hc1
    refine ⟨0, s0, [], [], rfl, Nat.zero_le _, World.ownsRow_nil _ _ _ _, Els.nil _ _ _, hg1, hc1, fun _ => ⟨by rw [← HRR.out]; rfl, by simpa using hl2⟩, fun he => ?_⟩
    have := HZ.out he
    rw [← HRR.out]
    simp only [this]
    rfl
  have HS := Lib.hid start
  clear start hR hRR hz0 hN hrn hlo2 hhi2 hhi hM hnle
  rcases hmax with ⟨hm0, rfl⟩ | ⟨hm0, rfl⟩
  all_goals
    go_enter Try.func39, Try.ntmps39
    go_wp2_with (go_at_call 36; refine HRN.out.mono ?_; rintro e w1 ⟨rfl, hg1, hc1⟩)
    go_loopw [8, 9] (fun v i wr => RRel w X g s N R each v i wr) (fun _ i _ => N - (intOf i).toNat)
    case atStart => exact HS.out w1 hg1 hc1
    case round =>
      obtain ⟨k, s1, acc, vals, rfl, hkN, hown, hels, hgr, hcr, hok, herr⟩ := hrel
      have hcr' := hcr
      obtain ⟨A1, n1, c1, hb1, -⟩ := hcr'
      have hE := hb1.cell 1
      simp only [List.getElem?_toArray, List.getElem?_cons_zero, List.getElem?_cons_succ] at hE
      have HOK := Lib.hid hok
      have HERR := Lib.hid herr
      clear hok herr hb1
      have hsz := hgr.size
      by_cases he : s1.2 = 0
      · rw [he] at hE
        obtain ⟨hR1, hle⟩ := HOK.out he
        have HR1 := Lib.hid hR1
        have HE := Lib.hid he
        have hlb := Cm.bytesS_len s1 each
        clear hR1 he
        by_cases hk : k < N
        · go_wp2_with (first
            | (go_at_call 38; refine (rbytes_any _ _ g s1 hcr each HLO2.out HHI2.out (by omega)).mono ?_; rintro e w2 ⟨u, rfl, hownu, hg2, hc2⟩; obtain ⟨A3, c3, rfl⟩ := own_shape hownu)
            | (at_builtin; refine wpList_append_sl _ rfl (.tmp 27) (.tmp 31) _ rfl w.heap.size 22 i0 _ 1 24 Try.underlying24 hi0 hzz0 hzz1 hzz2 rfl (by omega) u8 acc.length vals rfl ((hown.kept hg2 (by have := hown.lt; cases hv : u8.ownBlock <;> simp; rename_i kk; have := (this kk hv).1; omega)).alloc _) (fun _ => False) _ 1 [.slice A3 (Cm.bytesS s1 each).1.length c3] rfl (one_newv w2 _ _ _ (fun h => h)) (by simp [Value.oneCell']) (by simp only [maxLen]; omega) (by omega) (by have := hg2.size; simp; omega) ?_; intro v4 w4 happ))
          go_roundw
          case rel =>
            have R1 := rlist_round hgr hgl hown hels hownu hg2 hc2 happ
            have hst := HR1.out
            rw [show N - k = (N - (k + 1)) + 1 from by omega, Cm.listA] at hst
            refine ⟨k + 1, _, _, _, by go_num, by omega, R1.1, R1.2.1, R1.2.2.1, R1.2.2.2, fun h0 => ?_, fun h0 => ?_⟩
            · rw [if_neg (by simp [h0])] at hst
              have hlt := Cm.bytesS_ok h0
              exact ⟨hst, by simp only [List.length_append, List.length_singleton]; omega⟩
            · rw [if_pos h0] at hst
              exact hst
          case measure => simp [intOf]; omega
        · have hst := HR1.out
          rw [show N - k = 0 from by omega, Cm.listA] at hst
          have HST := Lib.hid hst
          clear hst
          go_wp2
          go_ret
          refine ⟨_, rfl, ?_, hgr, ?_⟩
          · rw [HST.out]
            refine ⟨vals, Sl.of_own hown (fun b hb _ hX => by omega), fun i hi => ?_⟩
            obtain ⟨u, hu, h3⟩ := hels.2 i hi
            exact ⟨u, hu, h3.weaken fun b _ hy => .inl hy⟩
          · rw [HST.out]
            exact hcr.weaken fun b _ hy => .inl hy
      · have hst := HERR.out he
        have he1 : (s1.2 == 0) = false := by rw [beq_eq_false_iff_ne]; exact he
        have he2 : (s1.2 != 0) = true := by rw [bne_iff_ne]; exact he
        have HST := Lib.hid hst
        clear hst he
        by_cases hk : k < N
        all_goals
          go_wp2
          go_ret
          refine ⟨_, rfl, ?_, hgr, ?_⟩
          · rw [HST.out]
            exact ⟨[], Sl.nil _ _ _, fun i hi => absurd hi (by simp)⟩
          · rw [HST.out]
            exact hcr.weaken fun b _ hy => .inl hy

theorem rlist_any (w : World) (X : Nat → Prop) (g : Nat) (s : Cm.RS) (h : RR w X g s) (most each : Int) (hhi : most ≤ 9223372036854775807) (hlo2 : -9223372036854775808 ≤ each) (hhi2 : each ≤ 9223372036854775807) (hl : s.1.length ≤ 549755813888) :
    Calls Try.prog 39 #[P_ g, .int .i64 most, .int .i64 each] w fun e w' => RListed w X g (Cm.listS s most each) e w' :=
  rlist_main w X g s h most each hhi hlo2 hhi2 hl _ rfl (by omega)

end Go.Proofs.Ytkhncipagdejnaa.Cp

/-
  Contracts of layer 1's reader: Take, Bytes, Left, Done, Read.
-/
import Derived.Test.YtkoedonllfmaaaaGreatVPCg
namespace Go.Proofs.YtkoedonllfmaaaaGreat.Ch
set_option linter.unusedSimpArgs false
set_option linter.unusedVariables false
open Go Go.RowKit Ck Ca Cb Ce Cf Cg

/-- What a reading of bytes leaves. -/
def Taken (w : World) (X : Nat → Prop) (g : Nat) (r : List UInt8 × Cm.RS) (e : Ending) (w' : World) : Prop :=
  ∃ v, e = .returned v ∧ w'.ownsRow w.heap.size 5 1 v r.1.length (BVs r.1) ∧ w.grownBy w' (some g) ∧ CR w' X g r.2
theorem Taken.nil {w w' : World} {X : Nat → Prop} {g : Nat} {s : Cm.RS} (hg : w.grownBy w' (some g)) (hc : CR w' X g s) : Taken w X g ([], s) (.returned (.slice none 0 0)) w' :=
  ⟨_, rfl, World.ownsRow_nil _ _ _ _, hg, hc⟩
theorem take_end {w w1 : World} {X : Nat → Prop} {g : Nat} {A A' : Option Addr} {n c k : Nat} {xs l : List UInt8} {v : Value} (hb : CB w g (.slice A n c) 0) (hsl : Sl w (fun j => j = g ∨ X j) 1 (.slice A n c) n (BVs xs)) (hk : k ≤ n) (hA : ∀ ad, A = some ad → k < n → A' = some (ad.add (k * 1)))
    (hown : w1.ownsRow w.heap.size 5 1 v l.length (BVs l)) (hbel : Below w.heap.size w w1) :
    Taken w X g (l, (xs.drop k, 0)) (.returned v) (w1.setCell ⟨g, 1, none⟩ (.slice A' (n - k) (c - k))) := by
  have R := rest_end (X := X) (hb.below hbel hb.lt) (hsl.after hbel) hk hA
  have hlt : g < w.heap.size := hb.lt
  exact ⟨v, rfl, ownsRow_setCell_below hown (a := ⟨g, 1, none⟩) hlt _, grown_step (grown_of_below hbel (some g)) R.1 (.inl rfl), R.2⟩

set_option maxRecDepth 100000 in
set_option maxHeartbeats 800000 in
theorem take_any (w : World) (X : Nat → Prop) (g : Nat) (s : Cm.RS) (h : CR w X g s) (n : Int) (hl : s.1.length ≤ 140737488355328) :
    Calls Tryz.prog 121 #[P_ g, .int .i64 n] w fun e w' => Taken w X g (Cm.takeS s n) e w' := by
  have hcr := h
  obtain ⟨A, m, c, hb, hsl, hgd⟩ := h
  have hm : m = s.1.length := by obtain ⟨A, c, _, h, _⟩ := hsl; rw [BVs_len] at h; omega
  subst hm
  have hnc : s.1.length ≤ c := by obtain ⟨A, c, hv, _, h, _⟩ := hsl; injection hv with _ _ e3; omega
  have hcm : c ≤ 9223372036854775807 := by obtain ⟨A, c, hv, _, _, h, _⟩ := hsl; injection hv with _ _ e3; simp only [maxLen] at h; omega
  by_cases hs : s.2 = 0
  · have hb0 := hb
    rw [hs] at hb0
    have h1 := hb0.cell 1
    have f1 := hb0.frozen 1
    simp only [List.getElem?_toArray, List.getElem?_cons_zero, List.getElem?_cons_succ] at h1
    have HS := Lib.hid hs
    by_cases hn : n < 0
    · have hf : Cm.takeS s n = ([], Cm.failS s 1) := by rw [Cm.takeS, if_neg (by simp [hs]), if_pos hn, failS_ok hs (by decide)]
      rw [hf]
      clear hs hf
      go_enter Tryz.func121, Tryz.ntmps121
      go_wp2_with (first
        | (go_at_call 73; refine (reads_ok _ g _ hb0).mono ?_; rintro e w1 ⟨rfl, rfl⟩)
        | (go_at_call 99; refine (fail_any _ X g s hcr 1).mono ?_; rintro e w1 ⟨rfl, hg1, hc1⟩))
      go_ret
      exact Taken.nil hg1 hc1
    · obtain ⟨k, rfl⟩ := Int.eq_ofNat_of_zero_le (show 0 ≤ n by omega)
      clear hn
      by_cases hlt : s.1.length < k
      · have hf : Cm.takeS s k = ([], Cm.failS s 10) := by rw [Cm.takeS, if_neg (by simp [hs]), if_neg (by omega), if_pos (by omega), failS_ok hs (by decide)]
        rw [hf]
        clear hs hf
        go_enter Tryz.func121, Tryz.ntmps121
        go_wp2_with (first
          | (go_at_call 73; refine (reads_ok _ g _ hb0).mono ?_; rintro e w1 ⟨rfl, rfl⟩)
          | (go_at_call 99; refine (fail_any _ X g s hcr 10).mono ?_; rintro e w1 ⟨rfl, hg1, hc1⟩))
        go_ret
        exact Taken.nil hg1 hc1
      · have hk : k ≤ s.1.length := by omega
        have hf : Cm.takeS s k = (s.1.take k, (s.1.drop k, 0)) := by rw [Cm.takeS, if_neg (by simp [hs]), if_neg (by omega), if_neg (by omega), Int.toNat_natCast]
        rw [hf]
        obtain ⟨A', hsl1, hA'⟩ := slice_from A s.1.length c k hk hnc
        have hsl2 := slice_upto A s.1.length c k (by omega)
        have hup : Sl w (fun j => j = g ∨ X j) 1 (.slice A k c) k (BVs (s.1.take k)) := by
          have := hsl.upto hk
          rw [show (BVs s.1).take (k * 1) = BVs (s.1.take k) from by simp [BVs, List.map_take]] at this
          exact this
        have HA := Lib.hid hA'
        have hgl : g < w.heap.size := hb0.lt
        clear hs hf hA' hlt
        go_enter Tryz.func121, Tryz.ntmps121
        go_wp2_with (first
          | (go_at_call 73; refine (reads_ok _ g _ hb0).mono ?_; rintro e w1 ⟨rfl, rfl⟩)
          | (go_at_call 68; refine (roomy_any _ _ k (s.1.take k) 0 _ hup (by omega) (by omega)).mono ?_; rintro e w1 ⟨v1, rfl, hown1, hb1⟩; have h11 := (hb1.cell (p := ⟨g, 1, none⟩) hgl).trans h1; have f11 := (hb1.frozen (p := ⟨g, 1, none⟩) hgl).trans f1))
        go_ret
        exact take_end hb0 hsl hk HA.out hown1 hb1
  · have hf : Cm.takeS s n = ([], s) := by rw [Cm.takeS, if_pos hs]
    rw [hf]
    have HS := Lib.hid hs
    clear hs hf
    go_enter Tryz.func121, Tryz.ntmps121
    go_wp2_with (go_at_call 73; refine (reads_no _ g _ _ hb HS.out).mono ?_; rintro e w1 ⟨rfl, rfl⟩)
    go_ret
    exact Taken.nil (World.grownBy.refl _ _) hcr

set_option maxHeartbeats 400000 in
theorem bytes_any (w : World) (X : Nat → Prop) (g : Nat) (s : Cm.RS) (h : CR w X g s) (most : Int) (hlo : -9223372036854775808 ≤ most) (hhi : most ≤ 9223372036854775807) (hl : s.1.length ≤ 140737488355328) :
    Calls Tryz.prog 100 #[P_ g, .int .i64 most] w fun e w' => Taken w X g (Cm.bytesS s most) e w' := by
  have hl2 := Cm.numS_len s most.toNat
  have HLO := Lib.hid hlo
  have HHI := Lib.hid hhi
  clear hlo hhi
  go_enter Tryz.func100, Tryz.ntmps100
  go_wp2_with (first
    | (go_at_call 122; refine (length_any _ X g s h most HLO.out HHI.out).mono ?_; rintro e w1 ⟨rfl, hg1, hc1⟩)
    | (go_at_call 121; refine (take_any _ X g _ hc1 ((Cm.numS s most.toNat).1 : Int) (by omega)).mono ?_; rintro e w2 ⟨v2, rfl, hown2, hg2, hc2⟩))
  go_ret
  exact ⟨v2, rfl, own_base hown2 hg1.size, hg1.trans hg2, hc2⟩

theorem done_any (w : World) (X : Nat → Prop) (g : Nat) (s : Cm.RS) (h : CR w X g s) :
    Calls Tryz.prog 33 #[P_ g] w fun e w' => e = .returned (.int .i64 (Cm.doneS s)) ∧ w = w' := by
  obtain ⟨A, m, c, hb, hsl, hgd⟩ := h
  have hm : m = s.1.length := by obtain ⟨A, c, _, h, _⟩ := hsl; rw [BVs_len] at h; omega
  subst hm
  by_cases hs : s.2 = 0
  · have hb0 := hb
    rw [hs] at hb0
    have h1 := hb0.cell 1
    simp only [List.getElem?_toArray, List.getElem?_cons_zero, List.getElem?_cons_succ] at h1
    by_cases hz : s.1 = []
    · have hd : Cm.doneS s = 0 := by simp [Cm.doneS, hz, hs]
      rw [hd]
      rw [hz] at h1
      simp only [List.length_nil] at h1
      clear hs hd hz hsl
      go_enter Tryz.func33, Tryz.ntmps33
      go_wp2_with (first
        | (go_at_call 73; refine (reads_ok _ g _ hb0).mono ?_; rintro e w1 ⟨rfl, rfl⟩)
        | (go_at_call 74; refine (err_blk _ g _ 0 hb0).mono ?_; rintro e w1 ⟨rfl, rfl⟩))
      go_ret
      exact ⟨rfl, rfl⟩
    · have hd : Cm.doneS s = 12 := by simp [Cm.doneS, hz, hs]
      rw [hd]
      have hp : 0 < s.1.length := by
        rcases Nat.eq_zero_or_pos s.1.length with h0 | h0
        · exact absurd (List.eq_nil_of_length_eq_zero h0) hz
        · exact h0
      clear hs hd hz
      go_enter Tryz.func33, Tryz.ntmps33
      go_wp2_with (go_at_call 73; refine (reads_ok _ g _ hb0).mono ?_; rintro e w1 ⟨rfl, rfl⟩)
      go_ret
      exact ⟨rfl, rfl⟩
  · have hd : Cm.doneS s = s.2 := by simp [Cm.doneS, hs]
    rw [hd]
    have HS := Lib.hid hs
    clear hs hd
    go_enter Tryz.func33, Tryz.ntmps33
    go_wp2_with (first
      | (go_at_call 73; refine (reads_no _ g _ _ hb HS.out).mono ?_; rintro e w1 ⟨rfl, rfl⟩)
      | (go_at_call 74; refine (err_blk _ g _ _ hb).mono ?_; rintro e w1 ⟨rfl, rfl⟩))
    go_ret
    exact ⟨rfl, rfl⟩

/-- A new reader. -/
theorem read_any (w : World) (X : Nat → Prop) (v : Value) (n : Nat) (b : List UInt8) (hv : Sl w X 1 v n (BVs b)) (hn : n ≤ 140737488355328) :
    Calls Tryz.prog 31 #[v] w fun e w' => ∃ g, e = .returned (P_ g) ∧ CR w' (fun k => k < w.heap.size) g (b, 0) ∧ w.heap.size ≤ g ∧ Below w.heap.size w w' := by
  have hnl : n = b.length := by obtain ⟨A, c, _, h, _⟩ := hv; rw [BVs_len] at h; omega
  subst hnl
  go_enter Tryz.func31, Tryz.ntmps31
  go_wp2_with (go_at_call 68; refine (roomy_any _ v b.length b 0 _ hv (by omega) (by omega)).mono ?_; rintro e w1 ⟨v1, rfl, hown1, hb1⟩; obtain ⟨A1, c1, rfl⟩ := own_shape hown1)
  go_ret
  refine ⟨w1.heap.size, rfl, ⟨A1, b.length, c1, Blk.new _ _ _, ?_, fun h => absurd rfl h⟩, hb1.size, hb1.alloc hb1.size _⟩
  refine (Sl.of_own' hown1 fun k hk hX => ?_).alloc _
  have := hown1.lt k hk
  rcases hX with hX | hX <;> omega

end Go.Proofs.YtkoedonllfmaaaaGreat.Ch

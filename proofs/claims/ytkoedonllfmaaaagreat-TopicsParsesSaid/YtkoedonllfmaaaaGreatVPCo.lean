/-
  Contracts of the document's own reader of layer 1: Num, Take, Bytes, List.
-/
import Derived.Test.YtkoedonllfmaaaaGreatVPCn
namespace Go.Proofs.YtkoedonllfmaaaaGreat.Co
set_option linter.unusedSimpArgs false
set_option linter.unusedVariables false
open Go Go.RowKit Ck Ca Cb Ce Cf Cg Ch Ci Cj Cn

set_option maxHeartbeats 400000 in
theorem rnum_err (w : World) (X : Nat → Prop) (g : Nat) (s : Cm.RS) (h : RR w X g s) (hs : s.2 ≠ 0) (most : Nat) :
    Calls Tryz.prog 35 #[P_ g, .int .u64 most] w fun e w' => RNumed w X g (Cm.numS s most) e w' := by
  have hcr := h
  obtain ⟨A, n, c, hb, hsl, hgd⟩ := h
  have hn : n = s.1.length := by obtain ⟨A, c, _, h, _⟩ := hsl; rw [BVs_len] at h; omega
  have hz := hgd hs
  rw [hz] at hn
  simp only [List.length_nil] at hn
  subst hn
  have hf : Cm.numS s most = (0, s) := by rw [Cm.numS, if_pos hs]
  have hff : Cm.failS s 10 = s := by rw [Cm.failS, if_pos hs]
  have h0 := hb.cell 0
  have h1 := hb.cell 1
  simp only [List.getElem?_toArray, List.getElem?_cons_zero, List.getElem?_cons_succ] at h0 h1
  have he2 : (s.2 != 0) = true := by rw [bne_iff_ne]; exact hs
  have HF := Lib.hid hf
  have HFF := Lib.hid hff
  clear hf hff hs hz
  go_enter Tryz.func35, Tryz.ntmps35
  go_wp2
  refine wp_loop_rounds 1 ?_
  rw [rounds_succ]
  go_wp2_with (go_at_call 75; refine (rfail_any _ X g s hcr 10).mono ?_; rintro e w1 ⟨rfl, hg1, hc1⟩; rw [HFF.out] at hc1; have hc1' := hc1; obtain ⟨A1, n1, c1, hb1, -⟩ := hc1'; have h11 := hb1.cell 1; simp only [List.getElem?_toArray, List.getElem?_cons_zero, List.getElem?_cons_succ] at h11)
  go_ret
  exact ⟨by rw [HF.out]; rfl, hg1, by rw [HF.out]; exact hc1⟩

theorem rnum_any (w : World) (X : Nat → Prop) (g : Nat) (s : Cm.RS) (h : RR w X g s) (most : Nat) :
    Calls Tryz.prog 35 #[P_ g, .int .u64 most] w fun e w' => RNumed w X g (Cm.numS s most) e w' := by
  by_cases hs : s.2 = 0
  · exact rnum_ok w X g s h hs most
  · exact rnum_err w X g s h hs most

/-- What a reading of bytes leaves. -/
def RTaken (w : World) (X : Nat → Prop) (g : Nat) (r : List UInt8 × Cm.RS) (e : Ending) (w' : World) : Prop :=
  ∃ v, e = .returned v ∧ w'.ownsRow w.heap.size 5 1 v r.1.length (BVs r.1) ∧ w.grownBy w' (some g) ∧ RR w' X g r.2
theorem RTaken.nil {w w' : World} {X : Nat → Prop} {g : Nat} {s : Cm.RS} (hg : w.grownBy w' (some g)) (hc : RR w' X g s) : RTaken w X g ([], s) (.returned (.slice none 0 0)) w' :=
  ⟨_, rfl, World.ownsRow_nil _ _ _ _, hg, hc⟩

set_option maxRecDepth 100000 in
set_option maxHeartbeats 800000 in
theorem rtake_any (w : World) (X : Nat → Prop) (g : Nat) (s : Cm.RS) (h : RR w X g s) (n : Int) (hl : s.1.length ≤ 140737488355328) :
    Calls Tryz.prog 104 #[P_ g, .int .i64 n] w fun e w' => RTaken w X g (Cm.takeS s n) e w' := by
  have hcr := h
  obtain ⟨A, m, c, hb, hsl, hgd⟩ := h
  have hm : m = s.1.length := by obtain ⟨A, c, _, h, _⟩ := hsl; rw [BVs_len] at h; omega
  subst hm
  have hnc : s.1.length ≤ c := by obtain ⟨A, c, hv, _, h, _⟩ := hsl; injection hv with _ _ e3; omega
  have hcm : c ≤ 9223372036854775807 := by obtain ⟨A, c, hv, _, _, h, _⟩ := hsl; injection hv with _ _ e3; simp only [maxLen] at h; omega
  have h0 := hb.cell 0
  have h1 := hb.cell 1
  have f0 := hb.frozen 0
  simp only [List.getElem?_toArray, List.getElem?_cons_zero, List.getElem?_cons_succ] at h0 h1
  by_cases hs : s.2 = 0
  · have hb0 := hb
    rw [hs] at hb0 h1
    have HS := Lib.hid hs
    by_cases hn : n < 0
    · have hf : Cm.takeS s n = ([], Cm.failS s 1) := by rw [Cm.takeS, if_neg (by simp [hs]), if_pos hn, failS_ok hs (by decide)]
      rw [hf, failS_ok hs (by decide)]
      clear hs hf
      go_enter Tryz.func104, Tryz.ntmps104
      go_wp2_with (go_at_call 75; refine (rfail_any _ X g s hcr 1).mono ?_; rintro e w1 ⟨rfl, hg1, hc1⟩; rw [failS_ok HS.out (by decide)] at hc1; have hc1' := hc1; obtain ⟨A1, n1, c1, hb1, -⟩ := hc1'; have h11 := hb1.cell 1; simp only [List.getElem?_toArray, List.getElem?_cons_zero, List.getElem?_cons_succ] at h11)
      go_ret
      exact RTaken.nil hg1 hc1
    · obtain ⟨k, rfl⟩ := Int.eq_ofNat_of_zero_le (show 0 ≤ n by omega)
      clear hn
      by_cases hlt : s.1.length < k
      · have hf : Cm.takeS s k = ([], ([], 10)) := by rw [Cm.takeS, if_neg (by simp [hs]), if_neg (by omega), if_pos (by omega)]
        rw [hf]
        clear hs hf
        go_enter Tryz.func104, Tryz.ntmps104
        go_wp2_with (go_at_call 75; refine (rfail_any _ X g s hcr 10).mono ?_; rintro e w1 ⟨rfl, hg1, hc1⟩; rw [failS_ok HS.out (by decide)] at hc1; have hc1' := hc1; obtain ⟨A1, n1, c1, hb1, -⟩ := hc1'; have h11 := hb1.cell 1; simp only [List.getElem?_toArray, List.getElem?_cons_zero, List.getElem?_cons_succ] at h11)
        go_ret
        exact RTaken.nil hg1 hc1
      · have hk : k ≤ s.1.length := by omega
        have hf : Cm.takeS s k = (s.1.take k, (s.1.drop k, 0)) := by rw [Cm.takeS, if_neg (by simp [hs]), if_neg (by omega), if_neg (by omega), Int.toNat_natCast]
        rw [hf]
        obtain ⟨i0, hi0, hz0, hz1, hz2⟩ := info_parts info_u8
        obtain ⟨A', hsl1, hA'⟩ := slice_from A s.1.length c k hk hnc
        have hsl2 := slice_upto A s.1.length c k (by omega)
        have hup : Sl w (fun j => j = g ∨ X j) 1 (.slice A k c) k (BVs (s.1.take k)) := by
          have := hsl.upto hk
          rw [show (BVs s.1).take (k * 1) = BVs (s.1.take k) from by simp [BVs, List.map_take]] at this
          exact this
        have HA := Lib.hid hA'
        have hgl : g < w.heap.size := hb0.lt
        have hkl : (s.1.take k).length = k := by rw [List.length_take]; omega
        have HKL := Lib.hid hkl
        clear hs hf hA' hlt hkl
        go_enter Tryz.func104, Tryz.ntmps104
        go_wp2_with (at_builtin; refine wpList_append_sl _ rfl (.tmp 31) (.tmp 37) _ rfl w.heap.size 5 i0 _ 1 1 Tryz.underlying49 hi0 hz0 hz1 hz2 rfl (by omega) (.slice none 0 0) 0 [] rfl (World.ownsRow_nil _ _ _ _) _ _ k (BVs (s.1.take k)) rfl hup (BVs_one _) (by simp only [maxLen]; omega) (by omega) (Nat.le_refl _) ?_; intro v1 w1 happ; have hb1 : Below w.heap.size w w1 := below_of_grown happ.2.1 (by simp [Value.ownBlock]); have h00 := (hb1.cell (p := ⟨g, 0, none⟩) hgl).trans h0; have f00 := (hb1.frozen (p := ⟨g, 0, none⟩) hgl).trans f0)
        go_ret
        have R := rrest_end (X := X) (hb0.below hb1 hb0.lt) (hsl.after hb1) hk HA.out
        refine ⟨v1, rfl, ownsRow_setCell_below (a := ⟨g, 0, none⟩) ?_ hgl _, grown_step (grown_of_below hb1 (some g)) R.1 (.inl rfl), R.2⟩
        have := happ.1
        rw [HKL.out]
        simpa using this
  · have hf : Cm.takeS s n = ([], s) := by rw [Cm.takeS, if_pos hs]
    have hff : Cm.failS s 1 = s := by rw [Cm.failS, if_pos hs]
    rw [hf]
    have he1 : (s.2 == 0) = false := by rw [beq_eq_false_iff_ne]; exact hs
    have he2 : (s.2 != 0) = true := by rw [bne_iff_ne]; exact hs
    have HFF := Lib.hid hff
    clear hs hf hff
    by_cases hn : n < 0
    · go_enter Tryz.func104, Tryz.ntmps104
      go_wp2_with (go_at_call 75; refine (rfail_any _ X g s hcr 1).mono ?_; rintro e w1 ⟨rfl, hg1, hc1⟩; rw [HFF.out] at hc1; have hc1' := hc1; obtain ⟨A1, n1, c1, hb1, -⟩ := hc1'; have h11 := hb1.cell 1; simp only [List.getElem?_toArray, List.getElem?_cons_zero, List.getElem?_cons_succ] at h11)
      go_ret
      exact RTaken.nil hg1 hc1
    · go_enter Tryz.func104, Tryz.ntmps104
      go_wp2
      go_ret
      exact RTaken.nil (World.grownBy.refl _ _) hcr

set_option maxRecDepth 100000 in
set_option maxHeartbeats 4000000 in
theorem rbytes_any (w : World) (X : Nat → Prop) (g : Nat) (s : Cm.RS) (h : RR w X g s) (most : Int) (hlo : -9223372036854775808 ≤ most) (hhi : most ≤ 9223372036854775807) (hl : s.1.length ≤ 140737488355328) :
    Calls Tryz.prog 76 #[P_ g, .int .i64 most] w fun e w' => RTaken w X g (Cm.bytesS s most) e w' := by
  have hl2 := Cm.numS_len s most.toNat
  have hle := Cm.numS_le s most.toNat
  by_cases hm : 0 ≤ most
  · obtain ⟨m, rfl⟩ := Int.eq_ofNat_of_zero_le hm
    rw [Int.toNat_natCast] at hle hl2
    have hbs : Cm.bytesS s m = Cm.takeS (Cm.numS s m).2 ((Cm.numS s m).1 : Int) := by rw [Cm.bytesS, Int.toNat_natCast]
    rw [hbs]
    clear hm hlo hbs
    go_enter Tryz.func76, Tryz.ntmps76
    go_wp2_with (first
      | (go_at_call 35; refine (rnum_any _ X g s h m).mono ?_; rintro e w1 ⟨rfl, hg1, hc1⟩)
      | (go_at_call 104; refine (rtake_any _ X g _ hc1 ((Cm.numS s m).1 : Int) (by omega)).mono ?_; rintro e w2 ⟨v2, rfl, hown2, hg2, hc2⟩))
    go_ret
    exact ⟨v2, rfl, own_base hown2 hg1.size, hg1.trans hg2, hc2⟩
  · have hz : most.toNat = 0 := by omega
    have hbs : Cm.bytesS s most = Cm.takeS (Cm.numS s 0).2 ((Cm.numS s 0).1 : Int) := by rw [Cm.bytesS, hz]
    rw [hbs]
    rw [hz] at hle hl2
    have hm2 : most < 0 := by omega
    clear hz hm hbs
    go_enter Tryz.func76, Tryz.ntmps76
    go_wp2_with (first
      | (go_at_call 35; refine (rnum_any _ X g s h 0).mono ?_; rintro e w1 ⟨rfl, hg1, hc1⟩)
      | (go_at_call 104; refine (rtake_any _ X g _ hc1 ((Cm.numS s 0).1 : Int) (by omega)).mono ?_; rintro e w2 ⟨v2, rfl, hown2, hg2, hc2⟩))
    go_ret
    exact ⟨v2, rfl, own_base hown2 hg1.size, hg1.trans hg2, hc2⟩

end Go.Proofs.YtkoedonllfmaaaaGreat.Co

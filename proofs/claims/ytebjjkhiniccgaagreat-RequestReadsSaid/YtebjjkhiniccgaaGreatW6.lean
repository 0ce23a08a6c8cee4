import Derived.Test.YtebjjkhiniccgaaGreatCj
/-
  Contract of the document's own reader of layer 1: Num.
-/
namespace Go.Proofs.YtebjjkhiniccgaaGreat.Cn
set_option linter.unusedSimpArgs false
set_option linter.unusedVariables false
open Go Go.RowKit Ck Ca Cb Ce Cf Cg Ch Cj

theorem wrap_u64 (n : Nat) (hn : n < 18446744073709551616) : IntKind.u64.wrap (n : Int) = (n : Int) := by
  simp [IntKind.wrap, IntKind.bits, IntKind.signed]
  omega
theorem wrap_step (k acc x q : Nat) (hq : q = 128 ^ k) (hacc : acc < 128 ^ k) (hk : k ≤ 9) (h9 : k = 9 → x % 128 ≤ 1) :
    IntKind.u64.wrap ((acc : Int) + IntKind.u64.wrap ((x : Int) % 128 * (q : Int))) = ((acc + x % 128 * 128 ^ k : Nat) : Int) := by
  subst hq
  have hp := Cm.pow_le k hk
  have hb : x % 128 * 128 ^ k ≤ 9223372036854775808 := by
    by_cases hk9 : k = 9
    · have := h9 hk9
      have : x % 128 * 128 ^ k ≤ 1 * 128 ^ k := Nat.mul_le_mul_right _ this
      omega
    · have h8 : 128 ^ k ≤ 72057594037927936 := by
        have : k = 0 ∨ k = 1 ∨ k = 2 ∨ k = 3 ∨ k = 4 ∨ k = 5 ∨ k = 6 ∨ k = 7 ∨ k = 8 := by omega
        rcases this with rfl | rfl | rfl | rfl | rfl | rfl | rfl | rfl | rfl <;> decide
      have : x % 128 * 128 ^ k ≤ 127 * 128 ^ k := Nat.mul_le_mul_right _ (by omega)
      omega
  have e1 : ((x : Int) % 128 * ((128 ^ k : Nat) : Int)) = ((x % 128 * 128 ^ k : Nat) : Int) := by
    rw [Int.natCast_mul]; rfl
  rw [e1, wrap_u64 _ (by omega), ← Int.natCast_add, wrap_u64 _ (by omega)]
theorem wrap_by (k q : Nat) (hq : q = 128 ^ k) (hk : k < 9) : IntKind.u64.wrap ((q : Int) * 128) = ((128 ^ (k + 1) : Nat) : Int) := by
  subst hq
  have hp := Cm.pow_le (k + 1) (by omega)
  have e : (((128 ^ k : Nat) : Int) * 128) = ((128 ^ (k + 1) : Nat) : Int) := by
    rw [Nat.pow_succ, Int.natCast_mul]; rfl
  rw [e, wrap_u64 _ (by omega)]

theorem rrest_end {w : World} {X : Nat → Prop} {g : Nat} {A A' : Option Addr} {n c k : Nat} {xs : List UInt8} (hb : DB w g (.slice A n c) 0) (hsl : Sl w (fun j => j = g ∨ X j) 1 (.slice A n c) n (BVs xs)) (hk : k ≤ n) (hA : ∀ ad, A = some ad → k < n → A' = some (ad.add (k * 1))) :
    w.grownBy (w.setCell ⟨g, 0, none⟩ (.slice A' (n - k) (c - k))) (some g) ∧ RR (w.setCell ⟨g, 0, none⟩ (.slice A' (n - k) (c - k))) X g (xs.drop k, 0) := by
  have h1 := Blk.set_ hb 0 (.slice A' (n - k) (c - k))
  have g1 := grown_setCell (World.grownBy.refl w (some g)) (p := ⟨g, 0, none⟩) (.inl rfl) (.slice A' (n - k) (c - k))
  refine ⟨g1, A', n - k, c - k, h1, ?_, fun h => absurd rfl h⟩
  have h2 := (hsl.cut hk A' hA).setCell (p := ⟨g, 0, none⟩) (fun _ => .inl rfl) (.slice A' (n - k) (c - k))
  have h3 : (BVs xs).drop (k * 1) = BVs (xs.drop k) := by simp [BVs, List.map_drop]
  rw [h3] at h2
  exact h2
theorem rslice {w : World} {X : Nat → Prop} {g : Nat} {A : Option Addr} {n c k : Nat} {xs : List UInt8} (hb : DB w g (.slice A n c) 0) (hsl : Sl w (fun j => j = g ∨ X j) 1 (.slice A n c) n (BVs xs)) (hk : k ≤ n) (hc : n ≤ c) :
    ∃ A' N C, (∀ W : World, (Instr.slice 22 (.slice A n c) (some (.int .i64 (k : Int))) none none).run Tryz.prog W = .ok (.slice A' N C) W) ∧
      w.grownBy (w.setCell ⟨g, 0, none⟩ (.slice A' N C)) (some g) ∧ RR (w.setCell ⟨g, 0, none⟩ (.slice A' N C)) X g (xs.drop k, 0) := by
  obtain ⟨A', h1, h2⟩ := slice_from A n c k hk hc
  exact ⟨A', n - k, c - k, h1, rrest_end hb hsl hk h2⟩

/-- What a number's reading leaves. -/
def RNumed (w : World) (X : Nat → Prop) (g : Nat) (r : Nat × Cm.RS) (e : Ending) (w' : World) : Prop := e = .returned (.int .u64 (r.1 : Int)) ∧ w.grownBy w' (some g) ∧ RR w' X g r.2

set_option maxRecDepth 100000 in
set_option maxHeartbeats 800000 in
theorem rnum_ok (w : World) (X : Nat → Prop) (g : Nat) (s : Cm.RS) (h : RR w X g s) (hs : s.2 = 0) (most : Nat) :
    Calls Tryz.prog 30 #[P_ g, .int .u64 most] w fun e w' => RNumed w X g (Cm.numS s most) e w' := by
  have hcr := h
  have hcr' := h
  obtain ⟨A, n, c, hb, hsl, hgd⟩ := h
  have hn : n = s.1.length := by obtain ⟨A, c, _, h, _⟩ := hsl; rw [BVs_len] at h; omega
  subst hn
  rw [hs] at hb
  have hbw := hb
  have hcond := err_cond (most := most) hs
  have h0 := hb.cell 0
  have h1 := hb.cell 1
  have f0 := hb.frozen 0
  simp only [List.getElem?_toArray, List.getElem?_cons_zero, List.getElem?_cons_succ] at h0 h1
  have HS := Lib.hid hs
  have HC := Lib.hid hcond
  clear hs hcond
  go_enter Tryz.func30, Tryz.ntmps30
  go_wp2
  go_loop [5, 6, 7] (fun a p i => ∃ k acc q : Nat, k ≤ s.1.length ∧ i = .int .i64 k ∧ a = .int .u64 acc ∧ p = .int .u64 q ∧ Hid (q = 128 ^ k) ∧ Hid (acc < 128 ^ k) ∧ k ≤ 9 ∧ Hid (Cm.pn s.1 0 0 = Cm.pn (s.1.drop k) k acc))
    (fun _ _ i => s.1.length - (intOf i).toNat)
  case atStart => exact ⟨0, 0, 1, Nat.zero_le _, rfl, rfl, rfl, rfl, (by decide : 0 < 128 ^ 0), by omega, by simp [Hid]⟩
  case round =>
    obtain ⟨k, acc, q, hk, rfl, rfl, rfl, hq, hacc, hk9, hpn⟩ := hrel
    have hq63 : q ≤ 9223372036854775808 := by have := Cm.pow_le k hk9; have := hq.out; omega
    by_cases hlt : k < s.1.length
    · obtain ⟨ad, rfl, hcell⟩ := Sl_at hsl hlt
      have hb := s.1[k].toNat_lt
      have hat := pn_at hlt acc
      generalize hx : s.1[k].toNat = x at *
      have HAT := Lib.hid hat
      clear hat
      have HX := Lib.hid hx
      clear hx
      have hc9 : 9 ≤ k → w.cell? ⟨ad.block, ad.off + 9, none⟩ = some (.int .u8 (x : Int)) := by
        intro h
        obtain rfl : k = 9 := by omega
        simpa [Addr.add] using hcell
      have HC9 := Lib.hid hc9
      clear hc9
      by_cases h9 : k = 9 ∧ 1 < x
      · have e := HAT.out
        rw [if_pos h9, ← hpn.out] at e
        have hf := HC.out
        rw [e] at hf
        have HF := Lib.hid hf
        have hk9a : 9 ≤ k := by omega
        have hx1 : 1 < x := h9.2
        have hcell9 := HC9.out hk9a
        clear h9 e hf
        go_wp2_with (go_at_call 40; refine (rfail_any _ X g s hcr 11).mono ?_; rintro e w1 ⟨rfl, hg1, hc1⟩; rw [failS_ok HS.out (by decide)] at hc1; have hc1' := hc1; obtain ⟨A1, n1, c1, hb1, -⟩ := hc1'; have h11 := hb1.cell 1; simp only [List.getElem?_toArray, List.getElem?_cons_zero, List.getElem?_cons_succ] at h11)
        go_ret
        exact ⟨by rw [HF.out]; rfl, hg1, by rw [HF.out]; exact hc1⟩
      · by_cases hbig : 128 ≤ x
        · have hkn : k < 9 := by omega
          have e := HAT.out
          rw [if_neg h9, if_pos hbig, ← hpn.out] at e
          have HE := Lib.hid e
          clear h9 e
          go_wp2
          go_round
          case rel => exact ⟨k + 1, acc + x % 128 * 128 ^ k, 128 ^ (k + 1), by omega, by go_num, by rw [wrap_step k acc x q hq.out hacc.out (by omega) (by omega)], by rw [wrap_by k q hq.out hkn], rfl, pow_step hacc.out, by omega, HE.out⟩
          case measure => simp [intOf]; omega
        · have hsm : x < 128 := by omega
          have e := HAT.out
          rw [if_neg h9, if_neg hbig, ← hpn.out] at e
          have hv := wrap_step k acc x q hq.out hacc.out hk9 (by omega)
          rw [Nat.mod_eq_of_lt hsm] at hv
          by_cases hz : x = 0 ∧ 0 < k
          · rw [if_pos hz] at e
            have hf := HC.out
            rw [e] at hf
            have hf2 : Cm.numS s most = (0, ([], 11)) := hf
            have HF := Lib.hid hf2
            have HV := Lib.hid hv
            have hz2 : 0 < k := hz.2
            have hzx := hz.1
            clear hz e hbig hv hf hf2 HAT HX hsm
            subst hzx
            by_cases hk8 : k < 9
            · clear h9
              go_wp2_with (go_at_call 40; refine (rfail_any _ X g s hcr 11).mono ?_; rintro e w1 ⟨rfl, hg1, hc1⟩; rw [failS_ok HS.out (by decide)] at hc1; have hc1' := hc1; obtain ⟨A1, n1, c1, hb1, -⟩ := hc1'; have h11 := hb1.cell 1; simp only [List.getElem?_toArray, List.getElem?_cons_zero, List.getElem?_cons_succ] at h11)
              go_ret
              exact ⟨by rw [HF.out]; rfl, hg1, by rw [HF.out]; exact hc1⟩
            · have hk9a : 9 ≤ k := by omega
              have hcell9 := HC9.out hk9a
              clear h9 hk8
              go_wp2_with (go_at_call 40; refine (rfail_any _ X g s hcr 11).mono ?_; rintro e w1 ⟨rfl, hg1, hc1⟩; rw [failS_ok HS.out (by decide)] at hc1; have hc1' := hc1; obtain ⟨A1, n1, c1, hb1, -⟩ := hc1'; have h11 := hb1.cell 1; simp only [List.getElem?_toArray, List.getElem?_cons_zero, List.getElem?_cons_succ] at h11)
              go_ret
              exact ⟨by rw [HF.out]; rfl, hg1, by rw [HF.out]; exact hc1⟩
          · rw [if_neg hz] at e
            have hnc : s.1.length ≤ c := by obtain ⟨A, c, hv, _, h, _⟩ := hsl; injection hv with _ _ e3; omega
            have hcm : c ≤ 9223372036854775807 := by obtain ⟨A, c, hv, _, _, h, _⟩ := hsl; injection hv with _ _ e3; simp only [maxLen] at h; omega
            obtain ⟨A', N, C, hsl1, hR⟩ := rslice hbw hsl (k := k + 1) (by omega) hnc
            have HR := Lib.hid hR
            have hv2 := wrap_step k acc x q hq.out hacc.out hk9 (by omega)
            rw [Nat.mod_eq_of_lt hsm] at hv2
            have hv3 : IntKind.u64.wrap ((acc : Int) + IntKind.u64.wrap ((x : Int) * (q : Int))) = ((acc + x * 128 ^ k : Nat) : Int) := by
              rw [← hv2, show (x : Int) % 128 = (x : Int) from by omega]
            have hf := HC.out
            rw [e] at hf
            generalize acc + x * 128 ^ k = v at *
            have HE := Lib.hid hf
            clear hR e hf hbig hv HAT HX hcr' hbw
            by_cases hk8 : k < 9
            · have hsl2 : ∀ W : World, (Instr.slice 22 (.slice (some ad) s.1.length c) (some (.int .i64 ((k : Int) + 1))) none none).run Tryz.prog W = .ok (.slice A' N C) W := fun W => hsl1 W
              clear h9 hsl1
              rcases (show 1 ≤ x ∨ (x = 0 ∧ k = 0) from by omega) with hx1 | ⟨hx0, hk0⟩
              · clear hz
                by_cases hm : most < v
                · have hf2 : Cm.numS s most = (0, ([], 11)) := by have := HE.out; rw [if_neg (by simp), if_pos hm] at this; exact this
                  have HF := Lib.hid hf2
                  clear hf2
                  go_wp2_with (go_at_call 40; refine (rfail_any _ X g s hcr 11).mono ?_; rintro e w1 ⟨rfl, hg1, hc1⟩; rw [failS_ok HS.out (by decide)] at hc1; have hc1' := hc1; obtain ⟨A1, n1, c1, hb1, -⟩ := hc1'; have h11 := hb1.cell 1; simp only [List.getElem?_toArray, List.getElem?_cons_zero, List.getElem?_cons_succ] at h11)
                  all_goals go_ret
                  all_goals exact ⟨by rw [HF.out]; rfl, hg1, by rw [HF.out]; exact hc1⟩
                · have hf2 : Cm.numS s most = (v, (s.1.drop (k + 1), 0)) := by have := HE.out; rw [if_neg (by simp), if_neg hm] at this; exact this
                  have HF := Lib.hid hf2
                  clear hf2
                  go_wp2
                  all_goals go_ret
                  all_goals exact ⟨by rw [HF.out]; rfl, HR.out.1, by rw [HF.out]; exact HR.out.2⟩
              · have hk0' : ¬ 0 < k := by omega
                have hx0' : x ≤ 0 := by omega
                clear hz hx0 hk0
                by_cases hm : most < v
                · have hf2 : Cm.numS s most = (0, ([], 11)) := by have := HE.out; rw [if_neg (by simp), if_pos hm] at this; exact this
                  have HF := Lib.hid hf2
                  clear hf2
                  go_wp2_with (go_at_call 40; refine (rfail_any _ X g s hcr 11).mono ?_; rintro e w1 ⟨rfl, hg1, hc1⟩; rw [failS_ok HS.out (by decide)] at hc1; have hc1' := hc1; obtain ⟨A1, n1, c1, hb1, -⟩ := hc1'; have h11 := hb1.cell 1; simp only [List.getElem?_toArray, List.getElem?_cons_zero, List.getElem?_cons_succ] at h11)
                  all_goals go_ret
                  all_goals exact ⟨by rw [HF.out]; rfl, hg1, by rw [HF.out]; exact hc1⟩
                · have hf2 : Cm.numS s most = (v, (s.1.drop (k + 1), 0)) := by have := HE.out; rw [if_neg (by simp), if_neg hm] at this; exact this
                  have HF := Lib.hid hf2
                  clear hf2
                  go_wp2
                  all_goals go_ret
                  all_goals exact ⟨by rw [HF.out]; rfl, HR.out.1, by rw [HF.out]; exact HR.out.2⟩
            · have hk9a : 9 ≤ k := by omega
              have hcell9 := HC9.out hk9a
              have hsl2 : ∀ W : World, (Instr.slice 22 (.slice (some ad) s.1.length c) (some (.int .i64 10)) none none).run Tryz.prog W = .ok (.slice A' N C) W := fun W => by
                have h := hsl1 W
                rw [show ((k + 1 : Nat) : Int) = 10 from by omega] at h
                exact h
              have hx1 : x ≤ 1 := by omega
              have hx2 : 1 ≤ x := by omega
              clear h9 hsl1 hk8 hz
              by_cases hm : most < v
              · have hf2 : Cm.numS s most = (0, ([], 11)) := by have := HE.out; rw [if_neg (by simp), if_pos hm] at this; exact this
                have HF := Lib.hid hf2
                clear hf2
                go_wp2_with (go_at_call 40; refine (rfail_any _ X g s hcr 11).mono ?_; rintro e w1 ⟨rfl, hg1, hc1⟩; rw [failS_ok HS.out (by decide)] at hc1; have hc1' := hc1; obtain ⟨A1, n1, c1, hb1, -⟩ := hc1'; have h11 := hb1.cell 1; simp only [List.getElem?_toArray, List.getElem?_cons_zero, List.getElem?_cons_succ] at h11)
                all_goals go_ret
                all_goals exact ⟨by rw [HF.out]; rfl, hg1, by rw [HF.out]; exact hc1⟩
              · have hf2 : Cm.numS s most = (v, (s.1.drop (k + 1), 0)) := by have := HE.out; rw [if_neg (by simp), if_neg hm] at this; exact this
                have HF := Lib.hid hf2
                clear hf2
                go_wp2
                all_goals go_ret
                all_goals exact ⟨by rw [HF.out]; rfl, HR.out.1, by rw [HF.out]; exact HR.out.2⟩
    · have hke : s.1.length ≤ k := by omega
      have e := hpn.out
      rw [List.drop_eq_nil_of_le hke] at e
      have hf := HC.out
      rw [e] at hf
      have hf2 : Cm.numS s most = (0, ([], 10)) := hf
      have HF := Lib.hid hf2
      have hkk : ((k : Int) == (s.1.length : Int)) = true := by rw [beq_iff_eq]; omega
      clear e hf hf2 
      go_wp2_with (go_at_call 40; refine (rfail_any _ X g s hcr 10).mono ?_; rintro e w1 ⟨rfl, hg1, hc1⟩; rw [failS_ok HS.out (by decide)] at hc1; have hc1' := hc1; obtain ⟨A1, n1, c1, hb1, -⟩ := hc1'; have h11 := hb1.cell 1; simp only [List.getElem?_toArray, List.getElem?_cons_zero, List.getElem?_cons_succ] at h11)
      go_ret
      exact ⟨by rw [HF.out]; rfl, hg1, by rw [HF.out]; exact hc1⟩

end Go.Proofs.YtebjjkhiniccgaaGreat.Cn

/-
  Contracts of the document's own reader of layer 1: Num, Take, Bytes, List.
-/
namespace Go.Proofs.YtebjjkhiniccgaaGreat.Co
set_option linter.unusedSimpArgs false
set_option linter.unusedVariables false
open Go Go.RowKit Ck Ca Cb Ce Cf Cg Ch Ci Cj Cn

set_option maxHeartbeats 400000 in
theorem rnum_err (w : World) (X : Nat → Prop) (g : Nat) (s : Cm.RS) (h : RR w X g s) (hs : s.2 ≠ 0) (most : Nat) :
    Calls Tryz.prog 30 #[P_ g, .int .u64 most] w fun e w' => RNumed w X g (Cm.numS s most) e w' := by
  have hcr := h
  obtain ⟨A, n, c, hb, hsl, hgd⟩ := h
  have hn : n = s.1.length := by obtain ⟨A, c, _, h, _⟩ := hsl; rw [BVs_len] at h; omega
  have hz := hgd hs
  rw [hz] at hn
  simp only [List.length_nil] at hn
  subst hn
  have hf : Cm.numS s most = (0, s) := by rw [Cm.numS, if_pos hs]
  have hff : Cm.failS s 10 = s := by rw [Cm.failS, if_pos hs]
  have h0 := hb.cell 0
  have h1 := hb.cell 1
  simp only [List.getElem?_toArray, List.getElem?_cons_zero, List.getElem?_cons_succ] at h0 h1
  have he2 : (s.2 != 0) = true := by rw [bne_iff_ne]; exact hs
  have HF := Lib.hid hf
  have HFF := Lib.hid hff
  clear hf hff hs hz
  go_enter Tryz.func30, Tryz.ntmps30
  go_wp2
  refine wp_loop_rounds 1 ?_
  rw [rounds_succ]
  go_wp2_with (go_at_call 40; refine (rfail_any _ X g s hcr 10).mono ?_; rintro e w1 ⟨rfl, hg1, hc1⟩; rw [HFF.out] at hc1; have hc1' := hc1; obtain ⟨A1, n1, c1, hb1, -⟩ := hc1'; have h11 := hb1.cell 1; simp only [List.getElem?_toArray, List.getElem?_cons_zero, List.getElem?_cons_succ] at h11)
  go_ret
  exact ⟨by rw [HF.out]; rfl, hg1, by rw [HF.out]; exact hc1⟩

theorem rnum_any (w : World) (X : Nat → Prop) (g : Nat) (s : Cm.RS) (h : RR w X g s) (most : Nat) :
    Calls Tryz.prog 30 #[P_ g, .int .u64 most] w fun e w' => RNumed w X g (Cm.numS s most) e w' := by
  by_cases hs : s.2 = 0
  · exact rnum_ok w X g s h hs most
  · exact rnum_err w X g s h hs most

/-- What a reading of bytes leaves. -/
def RTaken (w : World) (X : Nat → Prop) (g : Nat) (r : List UInt8 × Cm.RS) (e : Ending) (w' : World) : Prop :=
  ∃ v, e = .returned v ∧ w'.ownsRow w.heap.size 5 1 v r.1.length (BVs r.1) ∧ w.grownBy w' (some g) ∧ RR w' X g r.2
theorem RTaken.nil {w w' : World} {X : Nat → Prop} {g : Nat} {s : Cm.RS} (hg : w.grownBy w' (some g)) (hc : RR w' X g s) : RTaken w X g ([], s) (.returned (.slice none 0 0)) w' :=
  ⟨_, rfl, World.ownsRow_nil _ _ _ _, hg, hc⟩

set_option maxRecDepth 100000 in
set_option maxHeartbeats 800000 in
theorem rtake_any (w : World) (X : Nat → Prop) (g : Nat) (s : Cm.RS) (h : RR w X g s) (n : Int) (hl : s.1.length ≤ 140737488355328) :
    Calls Tryz.prog 69 #[P_ g, .int .i64 n] w fun e w' => RTaken w X g (Cm.takeS s n) e w' := by
  have hcr := h
  obtain ⟨A, m, c, hb, hsl, hgd⟩ := h
  have hm : m = s.1.length := by obtain ⟨A, c, _, h, _⟩ := hsl; rw [BVs_len] at h; omega
  subst hm
  have hnc : s.1.length ≤ c := by obtain ⟨A, c, hv, _, h, _⟩ := hsl; injection hv with _ _ e3; omega
  have hcm : c ≤ 9223372036854775807 := by obtain ⟨A, c, hv, _, _, h, _⟩ := hsl; injection hv with _ _ e3; simp only [maxLen] at h; omega
  have h0 := hb.cell 0
  have h1 := hb.cell 1
  have f0 := hb.frozen 0
  simp only [List.getElem?_toArray, List.getElem?_cons_zero, List.getElem?_cons_succ] at h0 h1
  by_cases hs : s.2 = 0
  · have hb0 := hb
    rw [hs] at hb0 h1
    have HS := Lib.hid hs
    by_cases hn : n < 0
    · have hf : Cm.takeS s n = ([], Cm.failS s 1) := by rw [Cm.takeS, if_neg (by simp [hs]), if_pos hn, failS_ok hs (by decide)]
      rw [hf, failS_ok hs (by decide)]
      clear hs hf
      go_enter Tryz.func69, Tryz.ntmps69
      go_wp2_with (go_at_call 40; refine (rfail_any _ X g s hcr 1).mono ?_; rintro e w1 ⟨rfl, hg1, hc1⟩; rw [failS_ok HS.out (by decide)] at hc1; have hc1' := hc1; obtain ⟨A1, n1, c1, hb1, -⟩ := hc1'; have h11 := hb1.cell 1; simp only [List.getElem?_toArray, List.getElem?_cons_zero, List.getElem?_cons_succ] at h11)
      go_ret
      exact RTaken.nil hg1 hc1
    · obtain ⟨k, rfl⟩ := Int.eq_ofNat_of_zero_le (show 0 ≤ n by omega)
      clear hn
      by_cases hlt : s.1.length < k
      · have hf : Cm.takeS s k = ([], ([], 10)) := by rw [Cm.takeS, if_neg (by simp [hs]), if_neg (by omega), if_pos (by omega)]
        rw [hf]
        clear hs hf
        go_enter Tryz.func69, Tryz.ntmps69
        go_wp2_with (go_at_call 40; refine (rfail_any _ X g s hcr 10).mono ?_; rintro e w1 ⟨rfl, hg1, hc1⟩; rw [failS_ok HS.out (by decide)] at hc1; have hc1' := hc1; obtain ⟨A1, n1, c1, hb1, -⟩ := hc1'; have h11 := hb1.cell 1; simp only [List.getElem?_toArray, List.getElem?_cons_zero, List.getElem?_cons_succ] at h11)
        go_ret
        exact RTaken.nil hg1 hc1
      · have hk : k ≤ s.1.length := by omega
        have hf : Cm.takeS s k = (s.1.take k, (s.1.drop k, 0)) := by rw [Cm.takeS, if_neg (by simp [hs]), if_neg (by omega), if_neg (by omega), Int.toNat_natCast]
        rw [hf]
        obtain ⟨i0, hi0, hz0, hz1, hz2⟩ := info_parts info_u8
        obtain ⟨A', hsl1, hA'⟩ := slice_from A s.1.length c k hk hnc
        have hsl2 := slice_upto A s.1.length c k (by omega)
        have hup : Sl w (fun j => j = g ∨ X j) 1 (.slice A k c) k (BVs (s.1.take k)) := by
          have := hsl.upto hk
          rw [show (BVs s.1).take (k * 1) = BVs (s.1.take k) from by simp [BVs, List.map_take]] at this
          exact this
        have HA := Lib.hid hA'
        have hgl : g < w.heap.size := hb0.lt
        have hkl : (s.1.take k).length = k := by rw [List.length_take]; omega
        have HKL := Lib.hid hkl
        clear hs hf hA' hlt hkl
        go_enter Tryz.func69, Tryz.ntmps69
        go_wp2_with (at_builtin; refine wpList_append_sl _ rfl (.tmp 31) (.tmp 37) _ rfl w.heap.size 5 i0 _ 1 1 Tryz.underlying22 hi0 hz0 hz1 hz2 rfl (by omega) (.slice none 0 0) 0 [] rfl (World.ownsRow_nil _ _ _ _) _ _ k (BVs (s.1.take k)) rfl hup (BVs_one _) (by simp only [maxLen]; omega) (by omega) (Nat.le_refl _) ?_; intro v1 w1 happ; have hb1 : Below w.heap.size w w1 := below_of_grown happ.2.1 (by simp [Value.ownBlock]); have h00 := (hb1.cell (p := ⟨g, 0, none⟩) hgl).trans h0; have f00 := (hb1.frozen (p := ⟨g, 0, none⟩) hgl).trans f0)
        go_ret
        have R := rrest_end (X := X) (hb0.below hb1 hb0.lt) (hsl.after hb1) hk HA.out
        refine ⟨v1, rfl, ownsRow_setCell_below (a := ⟨g, 0, none⟩) ?_ hgl _, grown_step (grown_of_below hb1 (some g)) R.1 (.inl rfl), R.2⟩
        have := happ.1
        rw [HKL.out]
        simpa using this
  · have hf : Cm.takeS s n = ([], s) := by rw [Cm.takeS, if_pos hs]
    have hff : Cm.failS s 1 = s := by rw [Cm.failS, if_pos hs]
    rw [hf]
    have he1 : (s.2 == 0) = false := by rw [beq_eq_false_iff_ne]; exact hs
    have he2 : (s.2 != 0) = true := by rw [bne_iff_ne]; exact hs
    have HFF := Lib.hid hff
    clear hs hf hff
    by_cases hn : n < 0
    · go_enter Tryz.func69, Tryz.ntmps69
      go_wp2_with (go_at_call 40; refine (rfail_any _ X g s hcr 1).mono ?_; rintro e w1 ⟨rfl, hg1, hc1⟩; rw [HFF.out] at hc1; have hc1' := hc1; obtain ⟨A1, n1, c1, hb1, -⟩ := hc1'; have h11 := hb1.cell 1; simp only [List.getElem?_toArray, List.getElem?_cons_zero, List.getElem?_cons_succ] at h11)
      go_ret
      exact RTaken.nil hg1 hc1
    · go_enter Tryz.func69, Tryz.ntmps69
      go_wp2
      go_ret
      exact RTaken.nil (World.grownBy.refl _ _) hcr

set_option maxRecDepth 100000 in
set_option maxHeartbeats 400000 in
theorem rbytes_any (w : World) (X : Nat → Prop) (g : Nat) (s : Cm.RS) (h : RR w X g s) (most : Int) (hlo : -9223372036854775808 ≤ most) (hhi : most ≤ 9223372036854775807) (hl : s.1.length ≤ 140737488355328) :
    Calls Tryz.prog 39 #[P_ g, .int .i64 most] w fun e w' => RTaken w X g (Cm.bytesS s most) e w' := by
  have hl2 := Cm.numS_len s most.toNat
  have hle := Cm.numS_le s most.toNat
  by_cases hm : 0 ≤ most
  · obtain ⟨m, rfl⟩ := Int.eq_ofNat_of_zero_le hm
    rw [Int.toNat_natCast] at hle hl2
    have hbs : Cm.bytesS s m = Cm.takeS (Cm.numS s m).2 ((Cm.numS s m).1 : Int) := by rw [Cm.bytesS, Int.toNat_natCast]
    rw [hbs]
    clear hm hlo hbs
    go_enter Tryz.func39, Tryz.ntmps39
    go_wp2_with (first
      | (go_at_call 30; refine (rnum_any _ X g s h m).mono ?_; rintro e w1 ⟨rfl, hg1, hc1⟩)
      | (go_at_call 69; refine (rtake_any _ X g _ hc1 ((Cm.numS s m).1 : Int) (by omega)).mono ?_; rintro e w2 ⟨v2, rfl, hown2, hg2, hc2⟩))
    go_ret
    exact ⟨v2, rfl, own_base hown2 hg1.size, hg1.trans hg2, hc2⟩
  · have hz : most.toNat = 0 := by omega
    have hbs : Cm.bytesS s most = Cm.takeS (Cm.numS s 0).2 ((Cm.numS s 0).1 : Int) := by rw [Cm.bytesS, hz]
    rw [hbs]
    rw [hz] at hle hl2
    have hm2 : most < 0 := by omega
    clear hz hm hbs
    go_enter Tryz.func39, Tryz.ntmps39
    go_wp2_with (first
      | (go_at_call 30; refine (rnum_any _ X g s h 0).mono ?_; rintro e w1 ⟨rfl, hg1, hc1⟩)
      | (go_at_call 69; refine (rtake_any _ X g _ hc1 ((Cm.numS s 0).1 : Int) (by omega)).mono ?_; rintro e w2 ⟨v2, rfl, hown2, hg2, hc2⟩))
    go_ret
    exact ⟨v2, rfl, own_base hown2 hg1.size, hg1.trans hg2, hc2⟩

end Go.Proofs.YtebjjkhiniccgaaGreat.Co

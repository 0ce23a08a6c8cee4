/-
  Contract of the document's own reader of layer 1: Num.
-/
import Derived.Test.YtkoedonllfmaaaaGreatVPCj
namespace Go.Proofs.YtkoedonllfmaaaaGreat.Cn
set_option linter.unusedSimpArgs false
set_option linter.unusedVariables false
open Go Go.RowKit Ck Ca Cb Ce Cf Cg Ch Cj

theorem wrap_u64 (n : Nat) (hn : n < 18446744073709551616) : IntKind.u64.wrap (n : Int) = (n : Int) := by
  simp [IntKind.wrap, IntKind.bits, IntKind.signed]
  omega
theorem wrap_step (k acc x q : Nat) (hq : q = 128 ^ k) (hacc : acc < 128 ^ k) (hk : k ≤ 9) (h9 : k = 9 → x % 128 ≤ 1) :
    IntKind.u64.wrap ((acc : Int) + IntKind.u64.wrap ((x : Int) % 128 * (q : Int))) = ((acc + x % 128 * 128 ^ k : Nat) : Int) := by
  subst hq
  have hp := Cm.pow_le k hk
  have hb : x % 128 * 128 ^ k ≤ 9223372036854775808 := by
    by_cases hk9 : k = 9
    · have := h9 hk9
      have : x % 128 * 128 ^ k ≤ 1 * 128 ^ k := Nat.mul_le_mul_right _ this
      omega
    · have h8 : 128 ^ k ≤ 72057594037927936 := by
        have : k = 0 ∨ k = 1 ∨ k = 2 ∨ k = 3 ∨ k = 4 ∨ k = 5 ∨ k = 6 ∨ k = 7 ∨ k = 8 := by omega
        rcases this with rfl | rfl | rfl | rfl | rfl | rfl | rfl | rfl | rfl <;> decide
      have : x % 128 * 128 ^ k ≤ 127 * 128 ^ k := Nat.mul_le_mul_right _ (by omega)
      omega
  have e1 : ((x : Int) % 128 * ((128 ^ k : Nat) : Int)) = ((x % 128 * 128 ^ k : Nat) : Int) := by
    rw [Int.natCast_mul]; rfl
  rw [e1, wrap_u64 _ (by omega), ← Int.natCast_add, wrap_u64 _ (by omega)]
theorem wrap_by (k q : Nat) (hq : q = 128 ^ k) (hk : k < 9) : IntKind.u64.wrap ((q : Int) * 128) = ((128 ^ (k + 1) : Nat) : Int) := by
  subst hq
  have hp := Cm.pow_le (k + 1) (by omega)
  have e : (((128 ^ k : Nat) : Int) * 128) = ((128 ^ (k + 1) : Nat) : Int) := by
    rw [Nat.pow_succ, Int.natCast_mul]; rfl
  rw [e, wrap_u64 _ (by omega)]

theorem rrest_end {w : World} {X : Nat → Prop} {g : Nat} {A A' : Option Addr} {n c k : Nat} {xs : List UInt8} (hb : DB w g (.slice A n c) 0) (hsl : Sl w (fun j => j = g ∨ X j) 1 (.slice A n c) n (BVs xs)) (hk : k ≤ n) (hA : ∀ ad, A = some ad → k < n → A' = some (ad.add (k * 1))) :
    w.grownBy (w.setCell ⟨g, 0, none⟩ (.slice A' (n - k) (c - k))) (some g) ∧ RR (w.setCell ⟨g, 0, none⟩ (.slice A' (n - k) (c - k))) X g (xs.drop k, 0) := by
  have h1 := Blk.set_ hb 0 (.slice A' (n - k) (c - k))
  have g1 := grown_setCell (World.grownBy.refl w (some g)) (p := ⟨g, 0, none⟩) (.inl rfl) (.slice A' (n - k) (c - k))
  refine ⟨g1, A', n - k, c - k, h1, ?_, fun h => absurd rfl h⟩
  have h2 := (hsl.cut hk A' hA).setCell (p := ⟨g, 0, none⟩) (fun _ => .inl rfl) (.slice A' (n - k) (c - k))
  have h3 : (BVs xs).drop (k * 1) = BVs (xs.drop k) := by simp [BVs, List.map_drop]
  rw [h3] at h2
  exact h2
theorem rslice {w : World} {X : Nat → Prop} {g : Nat} {A : Option Addr} {n c k : Nat} {xs : List UInt8} (hb : DB w g (.slice A n c) 0) (hsl : Sl w (fun j => j = g ∨ X j) 1 (.slice A n c) n (BVs xs)) (hk : k ≤ n) (hc : n ≤ c) :
    ∃ A' N C, (∀ W : World, (Instr.slice 49 (.slice A n c) (some (.int .i64 (k : Int))) none none).run Tryz.prog W = .ok (.slice A' N C) W) ∧
      w.grownBy (w.setCell ⟨g, 0, none⟩ (.slice A' N C)) (some g) ∧ RR (w.setCell ⟨g, 0, none⟩ (.slice A' N C)) X g (xs.drop k, 0) := by
  obtain ⟨A', h1, h2⟩ := slice_from A n c k hk hc
  exact ⟨A', n - k, c - k, h1, rrest_end hb hsl hk h2⟩

/-- What a number's reading leaves. -/
def RNumed (w : World) (X : Nat → Prop) (g : Nat) (r : Nat × Cm.RS) (e : Ending) (w' : World) : Prop := e = .returned (.int .u64 (r.1 : Int)) ∧ w.grownBy w' (some g) ∧ RR w' X g r.2

set_option maxRecDepth 100000 in
set_option maxHeartbeats 800000 in
theorem rnum_ok (w : World) (X : Nat → Prop) (g : Nat) (s : Cm.RS) (h : RR w X g s) (hs : s.2 = 0) (most : Nat) :
    Calls Tryz.prog 35 #[P_ g, .int .u64 most] w fun e w' => RNumed w X g (Cm.numS s most) e w' := by
  have hcr := h
  have hcr' := h
  obtain ⟨A, n, c, hb, hsl, hgd⟩ := h
  have hn : n = s.1.length := by obtain ⟨A, c, _, h, _⟩ := hsl; rw [BVs_len] at h; omega
  subst hn
  rw [hs] at hb
  have hbw := hb
  have hcond := err_cond (most := most) hs
  have h0 := hb.cell 0
  have h1 := hb.cell 1
  have f0 := hb.frozen 0
  simp only [List.getElem?_toArray, List.getElem?_cons_zero, List.getElem?_cons_succ] at h0 h1
  have HS := Lib.hid hs
  have HC := Lib.hid hcond
  clear hs hcond
  go_enter Tryz.func35, Tryz.ntmps35
  go_wp2
  go_loop [5, 6, 7] (fun a p i => ∃ k acc q : Nat, k ≤ s.1.length ∧ i = .int .i64 k ∧ a = .int .u64 acc ∧ p = .int .u64 q ∧ Hid (q = 128 ^ k) ∧ Hid (acc < 128 ^ k) ∧ k ≤ 9 ∧ Hid (Cm.pn s.1 0 0 = Cm.pn (s.1.drop k) k acc))
    (fun _ _ i => s.1.length - (intOf i).toNat)
  case atStart => exact ⟨0, 0, 1, Nat.zero_le _, rfl, rfl, rfl, rfl, (by decide : 0 < 128 ^ 0), by omega, by simp [Hid]⟩
  case round =>
    obtain ⟨k, acc, q, hk, rfl, rfl, rfl, hq, hacc, hk9, hpn⟩ := hrel
    have hq63 : q ≤ 9223372036854775808 := by have := Cm.pow_le k hk9; have := hq.out; omega
    by_cases hlt : k < s.1.length
    · obtain ⟨ad, rfl, hcell⟩ := Sl_at hsl hlt
      have hb := s.1[k].toNat_lt
      have hat := pn_at hlt acc
      generalize hx : s.1[k].toNat = x at *
      have HAT := Lib.hid hat
      clear hat
      have HX := Lib.hid hx
      clear hx
      have hc9 : 9 ≤ k → w.cell? ⟨ad.block, ad.off + 9, none⟩ = some (.int .u8 (x : Int)) := by
        intro h
        obtain rfl : k = 9 := by omega
        simpa [Addr.add] using hcell
      have HC9 := Lib.hid hc9
      clear hc9
      by_cases h9 : k = 9 ∧ 1 < x
      · have e := HAT.out
        rw [if_pos h9, ← hpn.out] at e
        have hf := HC.out
        rw [e] at hf
        have HF := Lib.hid hf
        have hk9a : 9 ≤ k := by omega
        have hx1 : 1 < x := h9.2
        have hcell9 := HC9.out hk9a
        clear h9 e hf
        go_wp2_with (go_at_call 75; refine (rfail_any _ X g s hcr 11).mono ?_; rintro e w1 ⟨rfl, hg1, hc1⟩; rw [failS_ok HS.out (by decide)] at hc1; have hc1' := hc1; obtain ⟨A1, n1, c1, hb1, -⟩ := hc1'; have h11 := hb1.cell 1; simp only [List.getElem?_toArray, List.getElem?_cons_zero, List.getElem?_cons_succ] at h11)
        go_ret
        exact ⟨by rw [HF.out]; rfl, hg1, by rw [HF.out]; exact hc1⟩
      · by_cases hbig : 128 ≤ x
        · have hkn : k < 9 := by omega
          have e := HAT.out
          rw [if_neg h9, if_pos hbig, ← hpn.out] at e
          have HE := Lib.hid e
          clear h9 e
          go_wp2
          go_round
          case rel => exact ⟨k + 1, acc + x % 128 * 128 ^ k, 128 ^ (k + 1), by omega, by go_num, by rw [wrap_step k acc x q hq.out hacc.out (by omega) (by omega)], by rw [wrap_by k q hq.out hkn], rfl, pow_step hacc.out, by omega, HE.out⟩
          case measure => simp [intOf]; omega
        · have hsm : x < 128 := by omega
          have e := HAT.out
          rw [if_neg h9, if_neg hbig, ← hpn.out] at e
          have hv := wrap_step k acc x q hq.out hacc.out hk9 (by omega)
          rw [Nat.mod_eq_of_lt hsm] at hv
          by_cases hz : x = 0 ∧ 0 < k
          · rw [if_pos hz] at e
            have hf := HC.out
            rw [e] at hf
            have hf2 : Cm.numS s most = (0, ([], 11)) := hf
            have HF := Lib.hid hf2
            have HV := Lib.hid hv
            have hz2 : 0 < k := hz.2
            have hzx := hz.1
            clear hz e hbig hv hf hf2 HAT HX hsm
            subst hzx
            by_cases hk8 : k < 9
            · clear h9
              go_wp2_with (go_at_call 75; refine (rfail_any _ X g s hcr 11).mono ?_; rintro e w1 ⟨rfl, hg1, hc1⟩; rw [failS_ok HS.out (by decide)] at hc1; have hc1' := hc1; obtain ⟨A1, n1, c1, hb1, -⟩ := hc1'; have h11 := hb1.cell 1; simp only [List.getElem?_toArray, List.getElem?_cons_zero, List.getElem?_cons_succ] at h11)
              go_ret
              exact ⟨by rw [HF.out]; rfl, hg1, by rw [HF.out]; exact hc1⟩
            · have hk9a : 9 ≤ k := by omega
              have hcell9 := HC9.out hk9a
              clear h9 hk8
              go_wp2_with (go_at_call 75; refine (rfail_any _ X g s hcr 11).mono ?_; rintro e w1 ⟨rfl, hg1, hc1⟩; rw [failS_ok HS.out (by decide)] at hc1; have hc1' := hc1; obtain ⟨A1, n1, c1, hb1, -⟩ := hc1'; have h11 := hb1.cell 1; simp only [List.getElem?_toArray, List.getElem?_cons_zero, List.getElem?_cons_succ] at h11)
              go_ret
              exact ⟨by rw [HF.out]; rfl, hg1, by rw [HF.out]; exact hc1⟩
          · rw [if_neg hz] at e
            have hnc : s.1.length ≤ c := by obtain ⟨A, c, hv, _, h, _⟩ := hsl; injection hv with _ _ e3; omega
            have hcm : c ≤ 9223372036854775807 := by obtain ⟨A, c, hv, _, _, h, _⟩ := hsl; injection hv with _ _ e3; simp only [maxLen] at h; omega
            obtain ⟨A', N, C, hsl1, hR⟩ := rslice hbw hsl (k := k + 1) (by omega) hnc
            have HR := Lib.hid hR
            have hv2 := wrap_step k acc x q hq.out hacc.out hk9 (by omega)
            rw [Nat.mod_eq_of_lt hsm] at hv2
            have hv3 : IntKind.u64.wrap ((acc : Int) + IntKind.u64.wrap ((x : Int) * (q : Int))) = ((acc + x * 128 ^ k : Nat) : Int) := by
              rw [← hv2, show (x : Int) % 128 = (x : Int) from by omega]
            have hf := HC.out
            rw [e] at hf
            generalize acc + x * 128 ^ k = v at *
            have HE := Lib.hid hf
            clear hR e hf hbig hv HAT HX hcr' hbw
            by_cases hk8 : k < 9
            · have hsl2 : ∀ W : World, (Instr.slice 49 (.slice (some ad) s.1.length c) (some (.int .i64 ((k : Int) + 1))) none none).run Tryz.prog W = .ok (.slice A' N C) W := fun W => hsl1 W
              clear h9 hsl1
              rcases (show 1 ≤ x ∨ (x = 0 ∧ k = 0) from by omega) with hx1 | ⟨hx0, hk0⟩
              · clear hz
                by_cases hm : most < v
                · have hf2 : Cm.numS s most = (0, ([], 11)) := by have := HE.out; rw [if_neg (by simp), if_pos hm] at this; exact this
                  have HF := Lib.hid hf2
                  clear hf2
                  go_wp2_with (go_at_call 75; refine (rfail_any _ X g s hcr 11).mono ?_; rintro e w1 ⟨rfl, hg1, hc1⟩; rw [failS_ok HS.out (by decide)] at hc1; have hc1' := hc1; obtain ⟨A1, n1, c1, hb1, -⟩ := hc1'; have h11 := hb1.cell 1; simp only [List.getElem?_toArray, List.getElem?_cons_zero, List.getElem?_cons_succ] at h11)
                  all_goals go_ret
                  all_goals exact ⟨by rw [HF.out]; rfl, hg1, by rw [HF.out]; exact hc1⟩
                · have hf2 : Cm.numS s most = (v, (s.1.drop (k + 1), 0)) := by have := HE.out; rw [if_neg (by simp), if_neg hm] at this; exact this
                  have HF := Lib.hid hf2
                  clear hf2
                  go_wp2
                  all_goals go_ret
                  all_goals exact ⟨by rw [HF.out]; rfl, HR.out.1, by rw [HF.out]; exact HR.out.2⟩
              · have hk0' : ¬ 0 < k := by omega
                have hx0' : x ≤ 0 := by omega
                clear hz hx0 hk0
                by_cases hm : most < v
                · have hf2 : Cm.numS s most = (0, ([], 11)) := by have := HE.out; rw [if_neg (by simp), if_pos hm] at this; exact this
                  have HF := Lib.hid hf2
                  clear hf2
                  go_wp2_with (go_at_call 75; refine (rfail_any _ X g s hcr 11).mono ?_; rintro e w1 ⟨rfl, hg1, hc1⟩; rw [failS_ok HS.out (by decide)] at hc1; have hc1' := hc1; obtain ⟨A1, n1, c1, hb1, -⟩ := hc1'; have h11 := hb1.cell 1; simp only [List.getElem?_toArray, List.getElem?_cons_zero, List.getElem?_cons_succ] at h11)
                  all_goals go_ret
                  all_goals exact ⟨by rw [HF.out]; rfl, hg1, by rw [HF.out]; exact hc1⟩
                · have hf2 : Cm.numS s most = (v, (s.1.drop (k + 1), 0)) := by have := HE.out; rw [if_neg (by simp), if_neg hm] at this; exact this
                  have HF := Lib.hid hf2
                  clear hf2
                  go_wp2
                  all_goals go_ret
                  all_goals exact ⟨by rw [HF.out]; rfl, HR.out.1, by rw [HF.out]; exact HR.out.2⟩
            · have hk9a : 9 ≤ k := by omega
              have hcell9 := HC9.out hk9a
              have hsl2 : ∀ W : World, (Instr.slice 49 (.slice (some ad) s.1.length c) (some (.int .i64 10)) none none).run Tryz.prog W = .ok (.slice A' N C) W := fun W => by
                have h := hsl1 W
                rw [show ((k + 1 : Nat) : Int) = 10 from by omega] at h
                exact h
              have hx1 : x ≤ 1 := by omega
              have hx2 : 1 ≤ x := by omega
              clear h9 hsl1 hk8 hz
              by_cases hm : most < v
              · have hf2 : Cm.numS s most = (0, ([], 11)) := by have := HE.out; rw [if_neg (by simp), if_pos hm] at this; exact this
                have HF := Lib.hid hf2
                clear hf2
                go_wp2_with (go_at_call 75; refine (rfail_any _ X g s hcr 11).mono ?_; rintro e w1 ⟨rfl, hg1, hc1⟩; rw [failS_ok HS.out (by decide)] at hc1; have hc1' := hc1; obtain ⟨A1, n1, c1, hb1, -⟩ := hc1'; have h11 := hb1.cell 1; simp only [List.getElem?_toArray, List.getElem?_cons_zero, List.getElem?_cons_succ] at h11)
                all_goals go_ret
                all_goals exact ⟨by rw [HF.out]; rfl, hg1, by rw [HF.out]; exact hc1⟩
              · have hf2 : Cm.numS s most = (v, (s.1.drop (k + 1), 0)) := by have := HE.out; rw [if_neg (by simp), if_neg hm] at this; exact this
                have HF := Lib.hid hf2
                clear hf2
                go_wp2
                all_goals go_ret
                all_goals exact ⟨by rw [HF.out]; rfl, HR.out.1, by rw [HF.out]; exact HR.out.2⟩
    · have hke : s.1.length ≤ k := by omega
      have e := hpn.out
      rw [List.drop_eq_nil_of_le hke] at e
      have hf := HC.out
      rw [e] at hf
      have hf2 : Cm.numS s most = (0, ([], 10)) := hf
      have HF := Lib.hid hf2
      have hkk : ((k : Int) == (s.1.length : Int)) = true := by rw [beq_iff_eq]; omega
      clear e hf hf2 
      go_wp2_with (go_at_call 75; refine (rfail_any _ X g s hcr 10).mono ?_; rintro e w1 ⟨rfl, hg1, hc1⟩; rw [failS_ok HS.out (by decide)] at hc1; have hc1' := hc1; obtain ⟨A1, n1, c1, hb1, -⟩ := hc1'; have h11 := hb1.cell 1; simp only [List.getElem?_toArray, List.getElem?_cons_zero, List.getElem?_cons_succ] at h11)
      go_ret
      exact ⟨by rw [HF.out]; rfl, hg1, by rw [HF.out]; exact hc1⟩

end Go.Proofs.YtkoedonllfmaaaaGreat.Cn

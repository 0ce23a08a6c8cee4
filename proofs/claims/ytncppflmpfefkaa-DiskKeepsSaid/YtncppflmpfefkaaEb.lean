/-
  The walk of the statement DiskDoes: whatever is done to a disk of any room.
-/
import Derived.Test.YtncppflmpfefkaaEa
import Derived.Test.YtncppflmpfefkaaDv
namespace Go.Proofs.Ytncppflmpfefkaa.Eb
open Go Go.RowKit Go.Maps Ck Kw Ga Dm Dw Da Db Dc Dd De Df Dg Dh Di Dj Ra Rb Rc Rd Re Rf Rg Rh Ri Rj Pw Dl Dq Ds Dt Du Ea Dv
attribute [local go_sem ↓] Go.wp_at_zero Go.wp_at_succ
set_option linter.unusedVariables false

/-- The operations, as they were handed in, lie in world w. -/
def Ops (w : World) (A : Option Addr) (os : List On) : Prop :=
  ∀ i (h : i < os.length), ∃ ad B c, A = some ad ∧ (ad.add (i * 5)).block < w.heap.size ∧ w.cell? (ad.add (i * 5)) = some (.int .i64 os[i].z) ∧ w.cell? ⟨(ad.add (i * 5)).block, (ad.add (i * 5)).off + 1, none⟩ = some (.string ⟨os[i].n.toArray⟩)
    ∧ w.cell? ⟨(ad.add (i * 5)).block, (ad.add (i * 5)).off + 2, none⟩ = some (.string ⟨os[i].t.toArray⟩) ∧ w.cell? ⟨(ad.add (i * 5)).block, (ad.add (i * 5)).off + 3, none⟩ = some (.int .i64 os[i].a)
    ∧ w.cell? ⟨(ad.add (i * 5)).block, (ad.add (i * 5)).off + 4, none⟩ = some (.slice B os[i].b.length c) ∧ Sl w (fun k => w.heap.size ≤ k) 1 (.slice B os[i].b.length c) os[i].b.length (BVs os[i].b) ∧ wfO os[i]

/-- A disk that was let go is changed, its clone stays. -/
theorem both_clone {K S T : Nat → Prop} {w1 w2 w3 w6 : World} {p' q room : Nat} {L : List Fl} {off : Bool} (hK : ∀ k, K k → k < w1.heap.size) (hR : Rk w1 T q L room off) (hS : Own K w1 S) (hT : Own K w1 T) (hd : ∀ k, S k → T k → False)
    (h12 : w1.heap.size ≤ w2.heap.size) (hb : Below w1.heap.size w1 w3) (hC : Dk w3 (New w2 w3) p' L room off) (c : Ch (fun k => S k ∨ w3.heap.size ≤ k) w3 w6) : Both K w6 p' q L L room off off := by
  have h1 := hb.size
  have h6 := c.size
  refine ⟨fun k hk => by have := hK k hk; omega, New w2 w3, T, ?_, ?_, ?_, ?_, ?_⟩
  · exact Dk.ch hC c (fun k hk h => by
      rcases h with h | h
      · have := (hS k h).2; have := hk.1; omega
      · have := hk.2; omega)
  · exact Rk.ch (hR.later hb) c (fun k hk h => by
      rcases h with h | h
      · exact hd k h hk
      · have := (hT k hk).2; omega)
  · exact fun k hk => ⟨fun h => by have := hK k h; have := hk.1; omega, by have := hk.2; omega⟩
  · exact fun k hk => ⟨(hT k hk).1, by have := (hT k hk).2; omega⟩
  · exact fun k hk h => by have := (hT k h).2; have := hk.1; omega

set_option maxRecDepth 100000 in
set_option maxHeartbeats 8000000 in
theorem does_ok (w : World) (room : Nat) (hroom : room ≤ 4194304) (A : Option Addr) (c : Nat) (os : List On) (ho : Ops w A os) (hl : os.length ≤ 9007199254740992) :
    Calls Try.prog 3 #[.int .i64 (room : Int), .slice A os.length c] w fun e w' => e = .returned (.bool true) ∧ Below w.heap.size w w' := by
  have HO := Lib.hid ho
  clear ho
  go_enter Try.func3, Try.ntmps3
  go_wp2_with fail
  refine (live_any _).mono ?_
  rintro e w1 ⟨rfl, hb1⟩
  go_wp2_with fail
  refine (new_ok w1 room hroom).mono ?_
  rintro e w2 ⟨p0, rfl, hD2, hb2⟩
  go_wp2_with fail
  refine (rnew_ok w2 room hroom).mono ?_
  rintro e w3 ⟨q, rfl, hR3, hb3⟩
  have s1 := hb1.size
  have s2 := hb2.size
  have s3 := hb3.size
  have hB3 : Below w.heap.size w w3 := (hb1.trans (hb2.mono s1)).trans (hb3.mono (by omega))
  have hT3 : Both (fun k => k < w.heap.size) w3 p0 q [] [] room false false :=
    ⟨fun k hk => by omega, New w1 w2, New w2 w3, Dk.later hD2 hb3, hR3, fun k hk => ⟨by have := hk.1; omega, by have := hk.2; omega⟩, fun k hk => ⟨by have := hk.1; omega, hk.2⟩, fun k hk h => by have := hk.2; have := h.1; omega⟩
  have HT3 := Lib.hid hT3
  have HB3 := Lib.hid hB3
  clear hD2 hR3 hb1 hb2 hb3 s1 s2 s3 hB3 hT3
  go_wp2_with fail
  go_loopw [5, 38] (fun d i wr => ∃ (k p : Nat) (L : List Fl) (off : Bool), k ≤ os.length ∧ i = .int .i64 k ∧ d = .pointer (some ⟨p, 0, none⟩) ∧ Both (fun k => k < w.heap.size) wr p q L L room off off ∧ Rises L ∧ Below w.heap.size w wr)
    (fun _ i _ => os.length - (intOf i).toNat)
  case atStart => exact ⟨0, p0, [], false, Nat.zero_le _, rfl, rfl, HT3.out, rises_nil, HB3.out⟩
  case round =>
    obtain ⟨k, p, L, off, hk, rfl, rfl, hT, hri, hB⟩ := hrel
    clear HT3 HB3
    have HT := Lib.hid hT
    have HRI := Lib.hid hri
    have HB := Lib.hid hB
    by_cases hlt : k < os.length
    · obtain ⟨ad, B, cB, rfl, hadl, a0, a1, a2, a3, a4, hsl, hwf⟩ := HO.out k hlt
      have a0 := (hB.cell hadl).trans a0
      have a1 := (hB.cell (p := ⟨(ad.add (k * 5)).block, (ad.add (k * 5)).off + 1, none⟩) hadl).trans a1
      have a2 := (hB.cell (p := ⟨(ad.add (k * 5)).block, (ad.add (k * 5)).off + 2, none⟩) hadl).trans a2
      have a3 := (hB.cell (p := ⟨(ad.add (k * 5)).block, (ad.add (k * 5)).off + 3, none⟩) hadl).trans a3
      have a4 := (hB.cell (p := ⟨(ad.add (k * 5)).block, (ad.add (k * 5)).off + 4, none⟩) hadl).trans a4
      have HSL := Lib.hid hsl
      have HWF := Lib.hid hwf
      clear hT hri hB hadl hsl hwf
      generalize os[k] = o at *
      obtain ⟨z, n, t, a, b⟩ := o
      simp only at a0 a1 a2 a3 a4 HSL HWF
      have ba : Below wr.heap.size wr (wr.alloc (.cells #[.int .i64 z, .string ⟨n.toArray⟩, .string ⟨t.toArray⟩, .int .i64 a, .slice B b.length cB] 33)) := (Below.refl _ _).alloc (Nat.le_refl _) _
      have hm : Blk (wr.alloc (.cells #[.int .i64 z, .string ⟨n.toArray⟩, .string ⟨t.toArray⟩, .int .i64 a, .slice B b.length cB] 33)) wr.heap.size 33 #[.int .i64 z, .string ⟨n.toArray⟩, .string ⟨t.toArray⟩, .int .i64 a, .slice B b.length cB] := Blk.new _ _ _
      have hsl : Sl (wr.alloc (.cells #[.int .i64 z, .string ⟨n.toArray⟩, .string ⟨t.toArray⟩, .int .i64 a, .slice B b.length cB] 33)) (fun k => ¬ And1 (fun k => k < w.heap.size) wr.heap.size k) 1 (.slice B b.length cB) b.length (BVs b) :=
        (((HSL.out.below HB.out (fun k _ h => h)) : Sl wr (fun k => w.heap.size ≤ k) _ _ _ _).weaken (fun k _ h => Nat.le_of_not_lt (fun hk => h (.inl hk)))).alloc _
      have HDO := Lib.hid (does_any (And1 (fun k => k < w.heap.size) wr.heap.size) (wr.alloc (.cells #[.int .i64 z, .string ⟨n.toArray⟩, .string ⟨t.toArray⟩, .int .i64 a, .slice B b.length cB] 33)) p q L room off ⟨z, n, t, a, b⟩ B cB HWF.out hsl (both_more HT.out ba (Nat.le_refl _) (by simp)))
      have HM := Lib.hid hm
      have HBA := Lib.hid (HB.out.trans (ba.mono HB.out.size))
      have HN := Lib.hid (show n.length ≤ 140737488355328 from HWF.out.1)
      obtain ⟨L1, hL1⟩ : ∃ x, x = (Dq.step room ⟨z, n, t, a, b⟩ (L, off)).1 := ⟨_, rfl⟩
      obtain ⟨off1, hoff1⟩ : ∃ x, x = (Dq.step room ⟨z, n, t, a, b⟩ (L, off)).2 := ⟨_, rfl⟩
      have HR1 : Hid (Rises L1) := Lib.hid (by rw [hL1]; exact step_rises _ HRI.out)
      rw [← hL1, ← hoff1] at HDO
      clear ba hm hsl hL1 hoff1
      go_wp2_with fail
      refine HDO.out.mono ?_
      rintro e w1 ⟨rfl, hb1, hc1⟩
      have hk1 := HM.out.ch hc1 (fun h => h (.inr rfl))
      have hB1 : Below w.heap.size w w1 := HBA.out.trans (hc1.below (fun k hk h => h (.inl hk)) HBA.out.size)
      have m0 := hk1.cell 0
      have m1 := hk1.cell 1
      simp only [List.getElem?_toArray, List.getElem?_cons_zero, List.getElem?_cons_succ] at m0 m1
      obtain ⟨hKK, S, T, hDk, hRk, hS, hTo, hd⟩ := hb1
      have hDk : Dk w1 S p L1 room off1 := hDk
      have hRk : Rk w1 T q L1 room off1 := hRk
      have HS1 := Lib.hid (same_any w1 S T p q L1 room off1 n HN.out HR1.out hDk hRk)
      have HK1 := Lib.hid (And.intro hk1 (And.intro hB1 (And.intro hKK (And.intro hDk (And.intro hRk (And.intro hS (And.intro hTo hd)))))))
      clear hk1 hB1 hKK hDk hRk hS hTo hd hc1 HDO HM HBA
      go_wp2_with fail
      refine HS1.out.mono ?_
      rintro e w2 ⟨rfl, hb2⟩
      have m0 := (hb2.cell (World.block_lt_of_cell? _ _ m0)).trans m0
      have m1 := (hb2.cell (World.block_lt_of_cell? _ _ m1)).trans m1
      have HB2 := Lib.hid hb2
      clear hb2 HS1
      by_cases hz : z = 9
      · subst hz
        have HC := Lib.hid (clone_on w2 S p L1 room off1 (HK1.out.2.2.2.1.later HB2.out))
        go_wp2_with fail
        refine HC.out.mono ?_
        rintro e w3 ⟨p', rfl, hC3, hb3⟩
        have m1 := (hb3.cell (World.block_lt_of_cell? _ _ m1)).trans m1
        have HK3 := Lib.hid (And.intro hC3 hb3)
        have HCR := Lib.hid (create_on w3 S p L1 room off1 [111, 116, 104, 101, 114] (by simp) ((HK1.out.2.2.2.1.later HB2.out).later hb3))
        clear hC3 hb3 HC
        go_wp2_with fail
        refine HCR.out.mono ?_
        rintro e w4 ⟨rfl, hD4, hc4⟩
        have m1 := hc4.cell m1 (fun hs => (HK1.out.2.2.2.2.2.1 _ hs).1 (.inr rfl))
        have HK4 := Lib.hid (And.intro hD4 hc4)
        clear hD4 hc4 HCR
        go_wp2_with fail
        have hlow : ∀ k, Up S w3 w4 k → New w w4 k := fun k hk => by
          have g1 := HK1.out.2.1.size
          have g2 := HB2.out.size
          have g3 := HK3.out.2.size
          have g4 := HK4.out.2.size
          rcases hk with hk | hk
          · have h1 := HK1.out.2.2.2.2.2.1 k hk
            have h2 : w.heap.size ≤ k := Nat.le_of_not_lt (fun h => h1.1 (.inl h))
            exact ⟨h2, by have := h1.2; omega⟩
          · exact ⟨by have := hk.1; omega, hk.2⟩
        refine (append_on _ (Up S w3 w4) (Up S w3 w4) p _ room off1 n HN.out (HK4.out.1.later ((Below.refl _ w4).alloc (Nat.le_refl _) _)) [9] _ _ ((sl_lit w4 [9] #[.int .u8 9] _ 1 rfl rfl (by omega) w).weaken (fun k _ hk => hlow k hk)) (fun _ h => h) (by simp)).mono ?_
        rintro e w5 ⟨rfl, hD5, hc5⟩
        have ba : Below w4.heap.size w4 (w4.alloc (.cells #[.int .u8 9] 5)) := (Below.refl _ w4).alloc (Nat.le_refl _) _
        have m1 := hc5.cell ((ba.cell (World.block_lt_of_cell? _ _ m1)).trans m1) (fun hs => by
          rcases hs with hs | hs
          · exact (HK1.out.2.2.2.2.2.1 _ hs).1 (.inr rfl)
          · have g1 := HK1.out.1.lt
            have g2 := HB2.out.size
            have g3 := HK3.out.2.size
            have := hs.1
            simp only at this
            omega)
        have HK5 := Lib.hid (And.intro hD5 hc5)
        have HRM := Lib.hid (remove_on w5 _ p _ room off1 n HN.out hD5)
        clear hD5 hc5 ba hlow
        go_wp2_with fail
        refine HRM.out.mono ?_
        rintro e w6 ⟨rfl, hD6, hc6⟩
        have g1 := HK1.out.2.1.size
        have g2 := HB2.out.size
        have g3 := HK3.out.2.size
        have g4 := HK4.out.2.size
        have g5 := HK5.out.2.size
        have g6 : (w4.alloc (.cells #[.int .u8 9] 5)).heap.size = w4.heap.size + 1 := by simp
        have hE : Ch (fun k => S k ∨ w3.heap.size ≤ k) w3 w6 :=
          (((HK4.out.2.mono (T := fun k => S k ∨ w3.heap.size ≤ k) (fun k _ h => .inl h)).alloc (.cells #[.int .u8 9] 5)).trans HK5.out.2 (fun k _ h => h.imp id (fun h => h.1))).trans hc6 (fun k _ h => by
            rcases h with (h | h) | h
            · exact .inl h
            · exact .inr h.1
            · exact .inr (by have := h.1; omega))
        have hb3 : Below w1.heap.size w1 w3 := HB2.out.trans (HK3.out.2.mono g2)
        have hbo := both_clone HK1.out.2.2.1 HK1.out.2.2.2.2.1 HK1.out.2.2.2.2.2.1 HK1.out.2.2.2.2.2.2.1 HK1.out.2.2.2.2.2.2.2 g2 hb3 HK3.out.1 hE
        have hB6 : Below w.heap.size w w6 := (HK1.out.2.1.trans (hb3.mono g1)).trans (hE.below (fun k hk h => by
          rcases h with h | h
          · exact (HK1.out.2.2.2.2.2.1 k h).1 (.inl hk)
          · omega) (by omega))
        have HF := Lib.hid (And.intro hbo hB6)
        clear hD6 hc6 hE hb3 hbo hB6 g1 g2 g3 g4 g5 g6 HRM
        go_wp2_with fail
        go_roundw
        case rel => exact ⟨k + 1, p', L1, off1, by omega, by go_num, rfl, both_less HF.out.1 (fun k hk => .inl hk), HR1.out, HF.out.2⟩
        case measure => simp [intOf]; omega
      · have hz9 : (z == 9) = false := by rw [beq_eq_false_iff_ne]; exact hz
        clear hz
        go_wp2_with fail
        go_roundw
        case rel =>
          have hbo : Both (And1 (fun k => k < w.heap.size) wr.heap.size) w1 p q L1 L1 room off1 off1 := ⟨HK1.out.2.2.1, S, T, HK1.out.2.2.2.1, HK1.out.2.2.2.2.1, HK1.out.2.2.2.2.2.1, HK1.out.2.2.2.2.2.2.1, HK1.out.2.2.2.2.2.2.2⟩
          exact ⟨k + 1, p, L1, off1, by omega, by go_num, rfl, both_less (both_later hbo HB2.out) (fun k hk => .inl hk), HR1.out, HK1.out.2.1.trans (HB2.out.mono HK1.out.2.1.size)⟩
        case measure => simp [intOf]; omega
    · have hke : k = os.length := by omega
      subst hke
      clear hT hri hB
      obtain ⟨hKK, S, T, hDk, hRk, hS, hTo, hd⟩ := HT.out
      have HS1 := Lib.hid (same_any wr S T p q L room off [97] (by simp) HRI.out hDk hRk)
      clear hKK hDk hRk hS hTo hd hlt
      go_wp2_with fail
      refine HS1.out.mono ?_
      rintro e w2 ⟨rfl, hb2⟩
      have HB2 := Lib.hid hb2
      clear hb2 HS1
      go_wp2_with fail
      go_ret
      exact ⟨rfl, HB.out.trans (HB2.out.mono HB.out.size)⟩

set_option maxRecDepth 100000 in
set_option maxHeartbeats 1000000 in
theorem does_bad (w : World) (z : Int) (hz : z < 0 ∨ 4194304 < z) (v : Value) :
    Calls Try.prog 3 #[.int .i64 z, v] w fun e w' => e = .returned (.bool true) ∧ Below w.heap.size w w' := by
  have HZ := Lib.hid hz
  clear hz
  go_enter Try.func3, Try.ntmps3
  go_wp2_with fail
  refine (live_any _).mono ?_
  rintro e w1 ⟨rfl, hb1⟩
  have HB1 := Lib.hid hb1
  clear hb1
  go_wp2_with fail
  refine (new_bad w1 z HZ.out).mono ?_
  rintro e w2 ⟨rfl, rfl⟩
  go_wp2_with fail
  refine (rnew_bad w1 z HZ.out).mono ?_
  rintro e w2 ⟨rfl, rfl⟩
  go_wp2_with fail
  go_ret
  exact ⟨rfl, HB1.out⟩

end Go.Proofs.Ytncppflmpfefkaa.Eb

/-
  The walk of the statement DiskRefuses: what is refused changes nothing, and no disk holds more than its room.
-/
import Derived.Test.YtncppflmpfefkaaEd
import Derived.Test.YtncppflmpfefkaaEb
namespace Go.Proofs.Ytncppflmpfefkaa.Ee
open Go Go.RowKit Go.Maps Ck Kw Ga Dm Dw Da Db Dc Dd De Df Dg Dh Di Dj Ra Rb Rc Rd Re Rf Rg Rh Ri Rj Pw Dl Dq Ds Dt Du Ea Dv Eb Ec Ed
attribute [local go_sem ↓] Go.wp_at_zero Go.wp_at_succ
set_option linter.unusedVariables false

/-- What is new since is nobody's of the two. -/
theorem both_ext {K : Nat → Prop} {w w' : World} {p q room : Nat} {L L' : List Fl} {off off' : Bool} (h : Both K w p q L L' room off off') (b : Below w.heap.size w w') :
    Both (fun k => K k ∨ (w.heap.size ≤ k ∧ k < w'.heap.size)) w' p q L L' room off off' := by
  obtain ⟨hK, S, T, h1, h2, h3, h4, h5⟩ := h
  have hs := b.size
  refine ⟨fun k hk => ?_, S, T, Dk.later h1 b, Rk.later h2 b, fun k hk => ⟨fun h => ?_, by have := (h3 k hk).2; omega⟩, fun k hk => ⟨fun h => ?_, by have := (h4 k hk).2; omega⟩, h5⟩
  · rcases hk with hk | hk
    · have := hK k hk; omega
    · exact hk.2
  · rcases h with h | h
    · exact (h3 k hk).1 h
    · have := (h3 k hk).2; omega
  · rcases h with h | h
    · exact (h4 k hk).1 h
    · have := (h4 k hk).2; omega

set_option maxRecDepth 100000 in
set_option maxHeartbeats 8000000 in
theorem refuses_any (w : World) (room : Nat) (hroom : room ≤ 255) (A : Option Addr) (c : Nat) (os : List On) (ho : Ops w A os) (hl : os.length ≤ 9007199254740992) :
    Calls Try.prog 5 #[.int .u8 (room : Int), .slice A os.length c] w fun e w' => e = .returned (.bool true) ∧ Below w.heap.size w w' := by
  have HO := Lib.hid ho
  have hwr : IntKind.i64.wrap (room : Int) = (room : Int) := wrap64 (by omega) (by omega)
  clear ho
  go_enter Try.func5, Try.ntmps5
  go_wp2_with fail
  refine (live_any _).mono ?_
  rintro e w1 ⟨rfl, hb1⟩
  go_wp2_with fail
  refine (new_ok w1 room (by omega)).mono ?_
  rintro e w2 ⟨p, rfl, hD2, hb2⟩
  go_wp2_with fail
  refine (rnew_ok w2 room (by omega)).mono ?_
  rintro e w3 ⟨q, rfl, hR3, hb3⟩
  have s1 := hb1.size
  have s2 := hb2.size
  have s3 := hb3.size
  have hB3 : Below w.heap.size w w3 := (hb1.trans (hb2.mono s1)).trans (hb3.mono (by omega))
  have hT3 : Both (fun k => k < w.heap.size) w3 p q [] [] room false false :=
    ⟨fun k hk => by omega, New w1 w2, New w2 w3, Dk.later hD2 hb3, hR3, fun k hk => ⟨by have := hk.1; omega, by have := hk.2; omega⟩, fun k hk => ⟨by have := hk.1; omega, hk.2⟩, fun k hk h => by have := hk.2; have := h.1; omega⟩
  have HT3 := Lib.hid hT3
  have HB3 := Lib.hid hB3
  clear hD2 hR3 hb1 hb2 hb3 s1 s2 s3 hB3 hT3
  go_wp2_with fail
  go_loopw [35] (fun i wr => ∃ (k : Nat) (L : List Fl) (off : Bool), k ≤ os.length ∧ i = .int .i64 k ∧ Both (fun k => k < w.heap.size) wr p q L L room off off ∧ Rises L ∧ Below w.heap.size w wr)
    (fun i _ => os.length - (intOf i).toNat)
  case atStart => exact ⟨0, [], false, Nat.zero_le _, rfl, HT3.out, rises_nil, HB3.out⟩
  case round =>
    obtain ⟨k, L, off, hk, rfl, hT, hri, hB⟩ := hrel
    clear HT3 HB3
    have HT := Lib.hid hT
    have HRI := Lib.hid hri
    have HB := Lib.hid hB
    by_cases hlt : k < os.length
    · obtain ⟨ad, B, cB, rfl, hadl, a0, a1, a2, a3, a4, hsl, hwf⟩ := HO.out k hlt
      have a0 := (hB.cell hadl).trans a0
      have a1 := (hB.cell (p := ⟨(ad.add (k * 5)).block, (ad.add (k * 5)).off + 1, none⟩) hadl).trans a1
      have a2 := (hB.cell (p := ⟨(ad.add (k * 5)).block, (ad.add (k * 5)).off + 2, none⟩) hadl).trans a2
      have a3 := (hB.cell (p := ⟨(ad.add (k * 5)).block, (ad.add (k * 5)).off + 3, none⟩) hadl).trans a3
      have a4 := (hB.cell (p := ⟨(ad.add (k * 5)).block, (ad.add (k * 5)).off + 4, none⟩) hadl).trans a4
      have HSL := Lib.hid hsl
      have HWF := Lib.hid hwf
      clear hT hri hB hadl hsl hwf
      generalize os[k] = o at *
      obtain ⟨z, n, t, a, b⟩ := o
      simp only at a0 a1 a2 a3 a4 HSL HWF
      have HN := Lib.hid (show n.length ≤ 140737488355328 from HWF.out.1)
      go_wp2_with fail
      have ba : Below wr.heap.size wr (wr.alloc (.cells #[.int .i64 z, .string ⟨n.toArray⟩, .string ⟨t.toArray⟩, .int .i64 a, .slice B b.length cB] 33)) := (Below.refl _ _).alloc (Nat.le_refl _) _
      have hm : Blk (wr.alloc (.cells #[.int .i64 z, .string ⟨n.toArray⟩, .string ⟨t.toArray⟩, .int .i64 a, .slice B b.length cB] 33)) wr.heap.size 33 #[.int .i64 z, .string ⟨n.toArray⟩, .string ⟨t.toArray⟩, .int .i64 a, .slice B b.length cB] := Blk.new _ _ _
      obtain ⟨hKK, S0, T0, hD0, hR0, -, -, -⟩ := HT.out
      refine (rclone_any _ T0 q L room off (Rk.later hR0 ba)).mono ?_
      rintro e w1 ⟨qc, rfl, hRc, hb1⟩
      have hm1 := hm.below hb1 hm.lt
      have hb01 : Below wr.heap.size wr w1 := ba.trans (hb1.mono (by simp))
      have hbo := both_ext HT.out hb01
      have hsl1 : Sl w1 (fun j => ¬ (j < w.heap.size ∨ (wr.heap.size ≤ j ∧ j < w1.heap.size))) 1 (.slice B b.length cB) b.length (BVs b) :=
        (((HSL.out.below (HB.out.trans (hb01.mono HB.out.size)) (fun k _ h => h)) : Sl w1 (fun k => w.heap.size ≤ k) _ _ _ _).weaken (fun k _ h => Nat.le_of_not_lt (fun hk => h (.inl hk))))
      have hRc' : Rk w1 (fun j => wr.heap.size < j ∧ j < w1.heap.size) qc L room off := Rk.weaken hRc (fun j hj => ⟨by have := hj.1; simp at this; omega, hj.2⟩)
      obtain ⟨L1, hL1⟩ : ∃ x, x = (Dq.step room ⟨z, n, t, a, b⟩ (L, off)).1 := ⟨_, rfl⟩
      obtain ⟨off1, hoff1⟩ : ∃ x, x = (Dq.step room ⟨z, n, t, a, b⟩ (L, off)).2 := ⟨_, rfl⟩
      have HR1 : Hid (Rises L1) := Lib.hid (by rw [hL1]; exact step_rises _ HRI.out)
      have HDO := does_any (fun j => j < w.heap.size ∨ (wr.heap.size ≤ j ∧ j < w1.heap.size)) w1 p q L room off ⟨z, n, t, a, b⟩ B cB HWF.out hsl1 hbo
      rw [← hL1, ← hoff1] at HDO
      have HDO := Lib.hid HDO
      have HSTEP := Lib.hid (And.intro hL1 hoff1)
      have HX1 := Lib.hid (And.intro hm1 (And.intro hb01 hRc'))
      have m0 := hm1.cell 0
      have m1 := hm1.cell 1
      have m2 := hm1.cell 2
      have m3 := hm1.cell 3
      have m4 := hm1.cell 4
      simp only [List.getElem?_toArray, List.getElem?_cons_zero, List.getElem?_cons_succ] at m0 m1 m2 m3 m4
      clear ba hm hKK hD0 hR0 hRc hb1 hm1 hb01 hbo hsl1 hRc' hL1 hoff1
      go_wp2_with fail
      refine HDO.out.mono ?_
      rintro e w2 ⟨rfl, hb2, hc2⟩
      have hgl : wr.heap.size < w1.heap.size := HX1.out.1.lt
      have hm2 := HX1.out.1.ch hc2 (fun h => h (.inr ⟨Nat.le_refl _, hgl⟩))
      have hRc2 : Rk w2 (fun j => wr.heap.size < j ∧ j < w1.heap.size) qc L room off := Rk.ch HX1.out.2.2 hc2 (fun j hj h => h (.inr ⟨by omega, hj.2⟩))
      have hB2 : Below w.heap.size w w2 := (HB.out.trans (HX1.out.2.1.mono HB.out.size)).trans (hc2.below (fun j hj h => h (.inl hj)) (by have := HB.out.size; omega))
      obtain ⟨S, hDk, hSo⟩ := Two.left hb2
      have hDk : Dk w2 S p L1 room off1 := hDk
      have hfit := hDk.good.fits
      have hug : ¬ ((room : Int) < (used L1 : Int)) := by omega
      have HU := Lib.hid (used_on w2 S p L1 room off1 hDk)
      have HX2 := Lib.hid (And.intro hm2 (And.intro hRc2 (And.intro hB2 (And.intro hDk hb2))))
      clear hgl hm2 hRc2 hB2 hDk hSo hb2 hc2 hfit HX1 HDO
      go_wp2_with fail
      refine HU.out.mono ?_
      rintro e w3 ⟨rfl, hb3⟩
      have HC := Lib.hid (rclone_any w3 _ qc L room off (HX2.out.2.1.later hb3))
      have HB23 := Lib.hid hb3
      clear hb3 HU
      go_wp2_with fail
      refine HC.out.mono ?_
      rintro e w4 ⟨qx, rfl, hRx, hb4⟩
      have hb24 : Below w2.heap.size w2 w4 := HB23.out.trans (hb4.mono HB23.out.size)
      have hm4 := HX2.out.1.below hb24 HX2.out.1.lt
      have m0 := hm4.cell 0
      have m1 := hm4.cell 1
      have m2 := hm4.cell 2
      have m3 := hm4.cell 3
      have m4 := hm4.cell 4
      simp only [List.getElem?_toArray, List.getElem?_cons_zero, List.getElem?_cons_succ] at m0 m1 m2 m3 m4
      have hsl4 : Sl w4 (fun k => w.heap.size ≤ k) 1 (.slice B b.length cB) b.length (BVs b) := HSL.out.below (HX2.out.2.2.1.trans (hb24.mono HX2.out.2.2.1.size)) (fun k _ h => h)
      have HRF := Lib.hid (refused_any w4 (New w3 w4) _ qx L room off ⟨z, n, t, a, b⟩ B cB HWF.out hsl4 hRx)
      have HX4 := Lib.hid (And.intro hm4 hb24)
      clear hRx hb4 hb24 hm4 hsl4 HC
      go_wp2_with fail
      refine HRF.out.mono ?_
      rintro e w5 ⟨rfl, hc5⟩
      have hb45 : Below w2.heap.size w4 w5 := hc5.below (fun j hj h => by have := h.1; have := HB23.out.size; omega) HX4.out.2.size
      have hb25 : Below w2.heap.size w2 w5 := HX4.out.2.trans hb45
      have hm5 := HX2.out.1.below hb25 HX2.out.1.lt
      have m1 := hm5.cell 1
      simp only [List.getElem?_toArray, List.getElem?_cons_zero, List.getElem?_cons_succ] at m1
      have HB25 := Lib.hid hb25
      clear hc5 hb45 hb25 hm5 HRF HX4
      cases hbad : bad room ⟨z, n, t, a, b⟩ (L, off)
      · go_wp2_with fail
        go_roundw
        case rel => exact ⟨k + 1, L1, off1, by omega, by go_num, both_less (both_later HX2.out.2.2.2.2 HB25.out) (fun k hk => .inl hk), HR1.out, HX2.out.2.2.1.trans (HB25.out.mono HX2.out.2.2.1.size)⟩
        case measure => simp [intOf]; omega
      · have hk := bad_keeps hbad
        obtain ⟨rfl, rfl⟩ : L1 = L ∧ off1 = off := ⟨by rw [HSTEP.out.1, hk], by rw [HSTEP.out.2, hk]⟩
        have HSM := Lib.hid (same_any w5 S _ p qc L1 room off1 n HN.out HR1.out (HX2.out.2.2.2.1.later HB25.out) (HX2.out.2.1.later HB25.out))
        clear hbad hk
        go_wp2_with fail
        refine HSM.out.mono ?_
        rintro e w6 ⟨rfl, hb6⟩
        have HB26 := Lib.hid (HB25.out.trans (hb6.mono HB25.out.size))
        clear hb6 HSM
        go_wp2_with fail
        go_roundw
        case rel => exact ⟨k + 1, L1, off1, by omega, by go_num, both_less (both_later HX2.out.2.2.2.2 HB26.out) (fun k hk => .inl hk), HR1.out, HX2.out.2.2.1.trans (HB26.out.mono HX2.out.2.2.1.size)⟩
        case measure => simp [intOf]; omega
    · have hke : k = os.length := by omega
      subst hke
      clear hT hri hB hlt
      go_wp2_with fail
      go_ret
      exact ⟨rfl, HB.out⟩

end Go.Proofs.Ytncppflmpfefkaa.Ee

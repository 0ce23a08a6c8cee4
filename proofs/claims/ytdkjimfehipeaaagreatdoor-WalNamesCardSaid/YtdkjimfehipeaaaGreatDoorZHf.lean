import Derived.Test.YtdkjimfehipeaaaGreatDoorZHe
/-
  The document's Open on an empty disk, at any name of 1 to 16 bytes.
-/
namespace Go.Proofs.YtdkjimfehipeaaaGreatDoor.Hf
open Go Go.RowKit Ck Kw Ga Dm Dw Da Db Dc Dd De Df Dg Dh Di Dj Ra Rb Rc Rd Re Rf Rg Wc Wf Wa Wb Wd Wn We Kx Wg Wq Vr Vs Ha Hc Hd He
attribute [local go_sem ↓] Go.wp_at_zero Go.wp_at_succ
set_option linter.unusedVariables false

/-- What the document's Open answers. -/
def ROpened (S : Nat → Prop) (q room : Nat) (name : Tx) (w : World) (e : Ending) (w' : World) : Prop :=
  (okName name = false ∧ e = .returned (.tuple #[.pointer none, .int .i64 1]) ∧ w = w') ∨
  (okName name = true ∧ ∃ g T, e = .returned (.tuple #[.pointer (some ⟨g, 0, none⟩), .int .i64 0]) ∧ Rk w' T q [⟨nm name 1, head 1, (head 1).length⟩] room false ∧ Ch S w w')

set_option maxRecDepth 100000 in
set_option maxHeartbeats 4000000 in
theorem ropen_any (w : World) (S : Nat → Prop) (q room : Nat) (name : Tx) (most : Int) (hk : Rk w S q [] room false) (hS : ∀ k, S k → k < w.heap.size) (hr : 15 ≤ room) (h1 : 1 ≤ name.length) (h2 : name.length ≤ 16) (h3 : 64 ≤ most) (h4 : most ≤ 4194304) :
    Calls Tryz.prog 38 #[.pointer (some ⟨q, 0, none⟩), .string ⟨name.toArray⟩, .int .i64 most] w (ROpened S q room name w) := by
  have b2 : w.cell? ⟨q, 2, none⟩ = some (.bool false) := by
    obtain ⟨l, lv, _, hP⟩ := hk
    exact hP.blk.cell 2
  have hsz : (ByteArray.mk name.toArray).size = name.length := by show name.toArray.size = _; simp
  have H := Lib.hid (And.intro hk hS)
  have i1 : ¬ (name.length : Int) < 1 := by omega
  have i2 : ¬ (16 : Int) < (name.length : Int) := by omega
  have i3 : ¬ most < 64 := by omega
  have i4 : ¬ 4194304 < most := by omega
  clear hk hS
  go_enter Tryz.func38, Tryz.ntmps38
  go_wp2_with fail
  go_loopw [8] (fun i wr => ∃ k : Nat, k ≤ name.length ∧ i = .int .i64 (k : Int) ∧ (name.take k).all okC = true ∧ wr = w) (fun i _ => name.length - (intOf i).toNat)
  case atStart => exact ⟨0, Nat.zero_le _, rfl, rfl, rfl⟩
  case round =>
    obtain ⟨k, hk, rfl, hall, rfl⟩ := hrel
    have HA := Lib.hid hall
    clear hall
    by_cases hlt : k < name.length
    · have HT := Lib.hid (List.take_succ_eq_append_getElem hlt)
      have hk0 : (0 : Int) ≤ (k : Int) := by omega
      have hk1 : (k : Int) < (name.length : Int) := by omega
      have hkz : k < (ByteArray.mk name.toArray).size := by rw [hsz]; exact hlt
      have hel : (ByteArray.mk name.toArray)[k]'hkz = name[k] := rfl
      by_cases hc : okC name[k] = true
      · have hc2 := hc
        simp only [okC, Bool.and_eq_true, decide_eq_true_eq] at hc2
        obtain ⟨c1, c2⟩ := hc2
        have HC := Lib.hid hc
        have d1 : ¬ (((ByteArray.mk name.toArray)[k]'hkz).toNat : Int) < 97 := by rw [hel]; omega
        have d2 : ¬ 122 < (((ByteArray.mk name.toArray)[k]'hkz).toNat : Int) := by rw [hel]; omega
        clear hc hel
        go_wp2_with fail
        go_roundw
        case rel => exact ⟨k + 1, by omega, by go_num, by rw [HT.out, List.all_append, HA.out]; simpa using HC.out, trivial⟩
        case measure => simp [intOf]; omega
      · have hno : okName name = false := by
          cases h : okName name with
          | false => rfl
          | true =>
            rw [okName_of] at h
            simp only [Bool.and_eq_true, List.all_eq_true] at h
            exact absurd (h.1.1 _ (List.getElem_mem hlt)) hc
        have HNO := Lib.hid hno
        have hc2 : okC name[k] = false := by simpa using hc
        simp only [okC, Bool.and_eq_false_iff, decide_eq_false_iff_not] at hc2
        clear hc hno
        by_cases d1 : (((ByteArray.mk name.toArray)[k]'hkz).toNat : Int) < 97
        · clear hel hc2
          go_wp2_with fail
          go_ret2
          exact .inl ⟨HNO.out, rfl, rfl⟩
        · have d2 : 122 < (((ByteArray.mk name.toArray)[k]'hkz).toNat : Int) := by rw [hel] at d1 ⊢; omega
          clear hel hc2
          go_wp2_with fail
          go_ret2
          exact .inl ⟨HNO.out, rfl, rfl⟩
    · have hke : k = name.length := by omega
      subst hke
      have hok : okName name = true := by
        have h := HA.out
        rw [List.take_of_length_le (Nat.le_refl _)] at h
        rw [okName_of, h]
        simp
        omega
      have HOK := Lib.hid hok
      clear hok hlt hk
      have kL := Blk.new wr 117 #[.pointer (some ⟨q, 0, none⟩), .string ⟨name.toArray⟩, .int .i64 most, .slice none 0 0, .int .i64 0]
      have hbl : Below wr.heap.size wr (wr.alloc (.cells #[.pointer (some ⟨q, 0, none⟩), .string ⟨name.toArray⟩, .int .i64 most, .slice none 0 0, .int .i64 0] 117)) := (Below.refl _ wr).alloc (Nat.le_refl _) _
      go_wp2_with fail
      generalize (wr.alloc (.cells #[.pointer (some ⟨q, 0, none⟩), .string ⟨name.toArray⟩, .int .i64 most, .slice none 0 0, .int .i64 0] 117)) = w2 at kL hbl ⊢
      have HKL := Lib.hid kL
      have HBL := Lib.hid hbl
      have HNU := Lib.hid (rnumbers_none w2 S q wr.heap.size room _ kL rfl (H.out.1.later hbl))
      clear kL hbl
      refine HNU.out.mono ?_
      rintro e w3 ⟨rfl, hb3⟩
      have HB3 := Lib.hid hb3
      have HBE := Lib.hid (rbegins_one w3 S q wr.heap.size room name most (HKL.out.below hb3 HKL.out.lt) ((H.out.1.later HBL.out).later hb3) (fun k hk => by have := H.out.2 k hk; have := HBL.out.size; have := hb3.size; omega) (fun h => by have := H.out.2 _ h; omega) h2 hr)
      clear hb3 HNU
      go_wp2_with fail
      refine HBE.out.mono ?_
      rintro e w4 ⟨rfl, hT, hC⟩
      have HT4 := Lib.hid hT
      have HC4 := Lib.hid hC
      clear hT hC HBE
      go_wp2_with fail
      go_ret2
      obtain ⟨T, hR⟩ := HT4.out
      have hb : Below wr.heap.size wr w3 := HBL.out.trans (HB3.out.mono HBL.out.size)
      refine .inr ⟨HOK.out, _, T, rfl, hR, (Ch.of_below (S := S) hb (Nat.le_refl _)).trans HC4.out (fun k hk h => ?_)⟩
      rcases h with h | h
      · exact h
      · omega

end Go.Proofs.YtdkjimfehipeaaaGreatDoor.Hf

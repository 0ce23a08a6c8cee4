/-
  Contracts of bytes.Equal and of the document's table: Same, SameAll, Look, Open, Sum.
-/
import Derived.Test.YtepdajhgfdjklaaIe
namespace Go.Proofs.Ytepdajhgfdjklaa.Ih
open Go Go.RowKit Ck Im Ik Ia Ib Ic Ig Ie

theorem equal_any (w : World) (X Y : Nat → Prop) (va vb : Value) (n m : Nat) (l k : List UInt8) (ha : Sl w X 1 va n (BVs l)) (hb : Sl w Y 1 vb m (BVs k)) :
    Calls Try.prog 28 #[va, vb] w fun e w' => e = .returned (.bool (l == k)) ∧ w = w' := by
  have hn : n = l.length := by obtain ⟨A, c, _, h, _⟩ := ha; rw [BVs_len] at h; omega
  have hm : m = k.length := by obtain ⟨A, c, _, h, _⟩ := hb; rw [BVs_len] at h; omega
  subst hn; subst hm
  have ha' := ha
  have hb' := hb
  obtain ⟨A, c, rfl, -⟩ := ha'
  obtain ⟨B, d, rfl, -⟩ := hb'
  have c1 := run_convert_sl (P := Try.prog) w X 41 9 5 A c l Try.underlying41 Try.underlying5 Try.underlying9 ha
  have c2 := run_convert_sl (P := Try.prog) w Y 41 9 5 B d k Try.underlying41 Try.underlying5 Try.underlying9 hb
  clear ha hb
  go_enter Try.func28, Try.ntmps28
  go_wp2
  go_ret
  exact ⟨rfl, rfl⟩
theorem same_any (w : World) (X Y : Nat → Prop) (va vb : Value) (n m : Nat) (l k : List UInt8) (ha : Sl w X 1 va n (BVs l)) (hb : Sl w Y 1 vb m (BVs k)) :
    Calls Try.prog 54 #[va, vb] w fun e w' => e = .returned (.bool (l == k)) ∧ w = w' := by
  have hn : n = l.length := by obtain ⟨A, c, _, h, _⟩ := ha; rw [BVs_len] at h; omega
  have hm : m = k.length := by obtain ⟨A, c, _, h, _⟩ := hb; rw [BVs_len] at h; omega
  subst hn; subst hm
  have ha' := ha
  have hb' := hb
  obtain ⟨A, c, rfl, -⟩ := ha'
  obtain ⟨B, d, rfl, -⟩ := hb'
  have c1 := run_convert_sl (P := Try.prog) w X 41 9 5 A c l Try.underlying41 Try.underlying5 Try.underlying9 ha
  have c2 := run_convert_sl (P := Try.prog) w Y 41 9 5 B d k Try.underlying41 Try.underlying5 Try.underlying9 hb
  clear ha hb
  go_enter Try.func54, Try.ntmps54
  go_wp2
  go_ret
  exact ⟨rfl, rfl⟩

theorem Ls.shape {w : World} {X : Nat → Prop} {v : Value} {ls : List (List UInt8)} (h : Ls w X v ls) : ∃ A c, v = .slice A ls.length c := by
  obtain ⟨vals, ⟨A, c, hv, _⟩, _⟩ := h
  exact ⟨A, c, hv⟩

set_option maxHeartbeats 400000 in
theorem rlook_any (w : World) (S X : Nat → Prop) (p : Nat) (L : List Tx) (v : Value) (n : Nat) (b : Tx) (h : Rf w S p L) (hb : Sl w X 1 v n (BVs b)) :
    Calls Try.prog 48 #[.pointer (some ⟨p, 0, none⟩), v] w fun e w' => e = .returned (.tuple #[.int .i64 (num L b : Int), .bool (isIn L b)]) ∧ w = w' := by
  obtain ⟨lv, h1, hp, hls, hall, hL⟩ := h
  obtain ⟨A, c, rfl⟩ := Ls.shape hls
  have c0 : w.cell? ⟨p, 0, none⟩ = some (.slice A L.length c) := h1.cell 0
  have hL2 : L.length ≤ 2000000 := by omega
  clear h1 hp hall hL
  go_enter Try.func48, Try.ntmps48
  go_wp2
  go_loop [6] (fun i => ∃ k : Nat, k ≤ L.length ∧ i = .int .i64 k ∧ num (L.take k) b = 0) (fun i => L.length - (intOf i).toNat)
  case atStart => exact ⟨0, Nat.zero_le _, rfl, rfl⟩
  case round =>
    obtain ⟨k, hk, rfl, hz⟩ := hrel
    have HZ := Lib.hid hz
    clear hz
    by_cases hlt : k < L.length
    · obtain ⟨ad, B, d, rfl, hcell, hx⟩ := hls.at_ hlt
      have hsn := num_snoc (L.take k) L[k] b
      rw [HZ.out, ← List.take_succ_eq_append_getElem hlt, if_neg (by simp)] at hsn
      by_cases heq : L[k] = b
      · have hbq : (L[k] == b) = true := by rw [heq]; exact beq_self_eq_true _
        rw [if_pos heq, List.length_take, Nat.min_eq_left hk] at hsn
        have hn := num_left (L.take (k + 1)) (L.drop (k + 1)) b (by omega)
        rw [List.take_append_drop, hsn] at hn
        have HN := Lib.hid hn
        have HQ := Lib.hid hbq
        have HX := Lib.hid hx
        clear hsn hn heq hx hbq
        go_wp2_with (go_at_call 54; refine (same_any _ _ X _ _ _ _ L[k] b HX.out hb).mono ?_; rintro e w' ⟨he, rfl⟩; rw [HQ.out] at he; subst he)
        go_ret2
        rw [HN.out, isIn_true (by rw [HN.out]; omega)]
        exact ⟨rfl, rfl⟩
      · have hbq : (L[k] == b) = false := by rw [beq_eq_false_iff_ne]; exact heq
        rw [if_neg heq] at hsn
        have HN := Lib.hid hsn
        have HQ := Lib.hid hbq
        have HX := Lib.hid hx
        clear hsn heq hx hbq
        go_wp2_with (go_at_call 54; refine (same_any _ _ X _ _ _ _ L[k] b HX.out hb).mono ?_; rintro e w' ⟨he, rfl⟩; rw [HQ.out] at he; subst he)
        go_round
        case rel => exact ⟨k + 1, by omega, by go_num, HN.out⟩
        case measure => simp [intOf]; omega
    · have hke : k = L.length := by omega
      have hz : num L b = 0 := by have := HZ.out; rw [hke, List.take_length] at this; exact this
      have H0 := Lib.hid hz
      clear hz
      go_wp2
      go_ret2
      rw [H0.out, isIn_false H0.out]
      exact ⟨rfl, rfl⟩

end Go.Proofs.Ytepdajhgfdjklaa.Ih

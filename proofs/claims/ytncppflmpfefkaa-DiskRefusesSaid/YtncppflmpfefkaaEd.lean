/-
  Contract of refused: whether the document's disk refuses an operation; a refused operation changes no file.
-/
import Derived.Test.YtncppflmpfefkaaEc
namespace Go.Proofs.Ytncppflmpfefkaa.Ed
open Go Go.RowKit Go.Maps Ck Kw Ga Dm Dw Da Db Dc Dd De Df Dg Dh Di Dj Ra Rb Rc Rd Re Rf Rg Rh Ri Rj Pw Dq Ea
attribute [local go_sem ↓] Go.wp_at_zero Go.wp_at_succ
set_option linter.unusedVariables false

/-- Whether it is refused. -/
def bad (room : Nat) (o : On) (st : List Fl × Bool) : Bool :=
  if o.z = 0 then !(((createS st.1 st.2 o.n).2 : Int) == 0) else if o.z = 1 then !(((appS st.1 room st.2 o.n o.b).2 : Int) == 0) else if o.z = 2 then !(((writeS st.1 room st.2 o.n o.a o.b).2 : Int) == 0)
  else if o.z = 4 then !(((renS st.1 st.2 o.n o.t).2 : Int) == 0) else if o.z = 5 then !(((truncS st.1 st.2 o.n o.a).2 : Int) == 0) else false

set_option maxRecDepth 100000 in
set_option maxHeartbeats 2000000 in
theorem refused_Create (w : World) (T X : Nat → Prop) (q : Nat) (L : List Fl) (room : Nat) (off : Bool) (n t : Tx) (a : Int) (b : Tx) (B : Option Addr) (c : Nat) (ho : wfO ⟨0, n, t, a, b⟩) (hb : Sl w X 1 (.slice B b.length c) b.length (BVs b)) (h : Rk w T q L room off) :
    Calls Try.prog 26 #[.pointer (some ⟨q, 0, none⟩), .agg #[.int .i64 0, .string ⟨n.toArray⟩, .string ⟨t.toArray⟩, .int .i64 a, .slice B b.length c]] w fun e w' => e = .returned (.bool (!(((createS L off n).2 : Int) == 0))) ∧ Ch T w w' := by
  obtain ⟨o1, o2, o3, o4, o5⟩ := ho
  simp only at o1 o2 o3 o4 o5
  have HW := Lib.hid (show Below w.heap.size w (w.alloc (.cells #[.int .i64 0, .string ⟨n.toArray⟩, .string ⟨t.toArray⟩, .int .i64 a, .slice B b.length c] 33)) from (Below.refl _ w).alloc (Nat.le_refl _) _)
  have HK := Lib.hid (h.later HW.out)
  have HS := Lib.hid (hb.alloc (.cells #[.int .i64 0, .string ⟨n.toArray⟩, .string ⟨t.toArray⟩, .int .i64 a, .slice B b.length c] 33))
  have hm0 : Blk (w.alloc (.cells #[.int .i64 0, .string ⟨n.toArray⟩, .string ⟨t.toArray⟩, .int .i64 a, .slice B b.length c] 33)) w.heap.size 33 #[.int .i64 0, .string ⟨n.toArray⟩, .string ⟨t.toArray⟩, .int .i64 a, .slice B b.length c] := Blk.new _ _ _
  clear h hb
  go_enter Try.func26, Try.ntmps26
  go_wp2_with fail
  refine (rcreate_any _ T q L room off n o1 HK.out).mono ?_
  rintro e w1 ⟨rfl, hk1, hc1⟩
  have HC := Lib.hid hc1
  clear hk1 hc1
  go_wp2_with fail
  go_ret
  exact ⟨by first | rfl | simp, (Ch.of_below HW.out (Nat.le_refl _)).trans HC.out (fun _ _ h => h)⟩

set_option maxRecDepth 100000 in
set_option maxHeartbeats 2000000 in
theorem refused_Append (w : World) (T X : Nat → Prop) (q : Nat) (L : List Fl) (room : Nat) (off : Bool) (n t : Tx) (a : Int) (b : Tx) (B : Option Addr) (c : Nat) (ho : wfO ⟨1, n, t, a, b⟩) (hb : Sl w X 1 (.slice B b.length c) b.length (BVs b)) (h : Rk w T q L room off) :
    Calls Try.prog 26 #[.pointer (some ⟨q, 0, none⟩), .agg #[.int .i64 1, .string ⟨n.toArray⟩, .string ⟨t.toArray⟩, .int .i64 a, .slice B b.length c]] w fun e w' => e = .returned (.bool (!(((appS L room off n b).2 : Int) == 0))) ∧ Ch T w w' := by
  obtain ⟨o1, o2, o3, o4, o5⟩ := ho
  simp only at o1 o2 o3 o4 o5
  have HW := Lib.hid (show Below w.heap.size w (w.alloc (.cells #[.int .i64 1, .string ⟨n.toArray⟩, .string ⟨t.toArray⟩, .int .i64 a, .slice B b.length c] 33)) from (Below.refl _ w).alloc (Nat.le_refl _) _)
  have HK := Lib.hid (h.later HW.out)
  have HS := Lib.hid (hb.alloc (.cells #[.int .i64 1, .string ⟨n.toArray⟩, .string ⟨t.toArray⟩, .int .i64 a, .slice B b.length c] 33))
  have hm0 : Blk (w.alloc (.cells #[.int .i64 1, .string ⟨n.toArray⟩, .string ⟨t.toArray⟩, .int .i64 a, .slice B b.length c] 33)) w.heap.size 33 #[.int .i64 1, .string ⟨n.toArray⟩, .string ⟨t.toArray⟩, .int .i64 a, .slice B b.length c] := Blk.new _ _ _
  clear h hb
  go_enter Try.func26, Try.ntmps26
  go_wp2_with fail
  refine (rappend_any _ T X q L room off n HK.out b B c HS.out o3).mono ?_
  rintro e w1 ⟨rfl, hk1, hc1⟩
  have HC := Lib.hid hc1
  clear hk1 hc1
  go_wp2_with fail
  go_ret
  exact ⟨by first | rfl | simp, (Ch.of_below HW.out (Nat.le_refl _)).trans HC.out (fun _ _ h => h)⟩

set_option maxRecDepth 100000 in
set_option maxHeartbeats 2000000 in
theorem refused_Write (w : World) (T X : Nat → Prop) (q : Nat) (L : List Fl) (room : Nat) (off : Bool) (n t : Tx) (a : Int) (b : Tx) (B : Option Addr) (c : Nat) (ho : wfO ⟨2, n, t, a, b⟩) (hb : Sl w X 1 (.slice B b.length c) b.length (BVs b)) (h : Rk w T q L room off) :
    Calls Try.prog 26 #[.pointer (some ⟨q, 0, none⟩), .agg #[.int .i64 2, .string ⟨n.toArray⟩, .string ⟨t.toArray⟩, .int .i64 a, .slice B b.length c]] w fun e w' => e = .returned (.bool (!(((writeS L room off n a b).2 : Int) == 0))) ∧ Ch T w w' := by
  obtain ⟨o1, o2, o3, o4, o5⟩ := ho
  simp only at o1 o2 o3 o4 o5
  have HW := Lib.hid (show Below w.heap.size w (w.alloc (.cells #[.int .i64 2, .string ⟨n.toArray⟩, .string ⟨t.toArray⟩, .int .i64 a, .slice B b.length c] 33)) from (Below.refl _ w).alloc (Nat.le_refl _) _)
  have HK := Lib.hid (h.later HW.out)
  have HS := Lib.hid (hb.alloc (.cells #[.int .i64 2, .string ⟨n.toArray⟩, .string ⟨t.toArray⟩, .int .i64 a, .slice B b.length c] 33))
  have hm0 : Blk (w.alloc (.cells #[.int .i64 2, .string ⟨n.toArray⟩, .string ⟨t.toArray⟩, .int .i64 a, .slice B b.length c] 33)) w.heap.size 33 #[.int .i64 2, .string ⟨n.toArray⟩, .string ⟨t.toArray⟩, .int .i64 a, .slice B b.length c] := Blk.new _ _ _
  clear h hb
  go_enter Try.func26, Try.ntmps26
  go_wp2_with fail
  refine (rwrite_any _ T X q L room off n HK.out a b B c HS.out o3).mono ?_
  rintro e w1 ⟨rfl, hk1, hc1⟩
  have HC := Lib.hid hc1
  clear hk1 hc1
  go_wp2_with fail
  go_ret
  exact ⟨by first | rfl | simp, (Ch.of_below HW.out (Nat.le_refl _)).trans HC.out (fun _ _ h => h)⟩

set_option maxRecDepth 100000 in
set_option maxHeartbeats 2000000 in
theorem refused_Rename (w : World) (T X : Nat → Prop) (q : Nat) (L : List Fl) (room : Nat) (off : Bool) (n t : Tx) (a : Int) (b : Tx) (B : Option Addr) (c : Nat) (ho : wfO ⟨4, n, t, a, b⟩) (hb : Sl w X 1 (.slice B b.length c) b.length (BVs b)) (h : Rk w T q L room off) :
    Calls Try.prog 26 #[.pointer (some ⟨q, 0, none⟩), .agg #[.int .i64 4, .string ⟨n.toArray⟩, .string ⟨t.toArray⟩, .int .i64 a, .slice B b.length c]] w fun e w' => e = .returned (.bool (!(((renS L off n t).2 : Int) == 0))) ∧ Ch T w w' := by
  obtain ⟨o1, o2, o3, o4, o5⟩ := ho
  simp only at o1 o2 o3 o4 o5
  have HW := Lib.hid (show Below w.heap.size w (w.alloc (.cells #[.int .i64 4, .string ⟨n.toArray⟩, .string ⟨t.toArray⟩, .int .i64 a, .slice B b.length c] 33)) from (Below.refl _ w).alloc (Nat.le_refl _) _)
  have HK := Lib.hid (h.later HW.out)
  have HS := Lib.hid (hb.alloc (.cells #[.int .i64 4, .string ⟨n.toArray⟩, .string ⟨t.toArray⟩, .int .i64 a, .slice B b.length c] 33))
  have hm0 : Blk (w.alloc (.cells #[.int .i64 4, .string ⟨n.toArray⟩, .string ⟨t.toArray⟩, .int .i64 a, .slice B b.length c] 33)) w.heap.size 33 #[.int .i64 4, .string ⟨n.toArray⟩, .string ⟨t.toArray⟩, .int .i64 a, .slice B b.length c] := Blk.new _ _ _
  clear h hb
  go_enter Try.func26, Try.ntmps26
  go_wp2_with fail
  refine (rrename_any _ T q L room off n t o2 HK.out).mono ?_
  rintro e w1 ⟨rfl, hk1, hc1⟩
  have HC := Lib.hid hc1
  clear hk1 hc1
  go_wp2_with fail
  go_ret
  exact ⟨by first | rfl | simp, (Ch.of_below HW.out (Nat.le_refl _)).trans HC.out (fun _ _ h => h)⟩

set_option maxRecDepth 100000 in
set_option maxHeartbeats 2000000 in
theorem refused_Truncate (w : World) (T X : Nat → Prop) (q : Nat) (L : List Fl) (room : Nat) (off : Bool) (n t : Tx) (a : Int) (b : Tx) (B : Option Addr) (c : Nat) (ho : wfO ⟨5, n, t, a, b⟩) (hb : Sl w X 1 (.slice B b.length c) b.length (BVs b)) (h : Rk w T q L room off) :
    Calls Try.prog 26 #[.pointer (some ⟨q, 0, none⟩), .agg #[.int .i64 5, .string ⟨n.toArray⟩, .string ⟨t.toArray⟩, .int .i64 a, .slice B b.length c]] w fun e w' => e = .returned (.bool (!(((truncS L off n a).2 : Int) == 0))) ∧ Ch T w w' := by
  obtain ⟨o1, o2, o3, o4, o5⟩ := ho
  simp only at o1 o2 o3 o4 o5
  have HW := Lib.hid (show Below w.heap.size w (w.alloc (.cells #[.int .i64 5, .string ⟨n.toArray⟩, .string ⟨t.toArray⟩, .int .i64 a, .slice B b.length c] 33)) from (Below.refl _ w).alloc (Nat.le_refl _) _)
  have HK := Lib.hid (h.later HW.out)
  have HS := Lib.hid (hb.alloc (.cells #[.int .i64 5, .string ⟨n.toArray⟩, .string ⟨t.toArray⟩, .int .i64 a, .slice B b.length c] 33))
  have hm0 : Blk (w.alloc (.cells #[.int .i64 5, .string ⟨n.toArray⟩, .string ⟨t.toArray⟩, .int .i64 a, .slice B b.length c] 33)) w.heap.size 33 #[.int .i64 5, .string ⟨n.toArray⟩, .string ⟨t.toArray⟩, .int .i64 a, .slice B b.length c] := Blk.new _ _ _
  clear h hb
  go_enter Try.func26, Try.ntmps26
  go_wp2_with fail
  refine (rtrunc_any _ T q L room off n HK.out a).mono ?_
  rintro e w1 ⟨rfl, hk1, hc1⟩
  have HC := Lib.hid hc1
  clear hk1 hc1
  go_wp2_with fail
  go_ret
  exact ⟨by first | rfl | simp, (Ch.of_below HW.out (Nat.le_refl _)).trans HC.out (fun _ _ h => h)⟩

set_option maxRecDepth 100000 in
set_option maxHeartbeats 2000000 in
theorem refused_other (w : World) (T : Nat → Prop) (q : Nat) (z : Int) (n t : Tx) (a : Int) (b : Tx) (B : Option Addr) (c : Nat) (h0 : z ≠ 0) (h1 : z ≠ 1) (h2 : z ≠ 2) (h4 : z ≠ 4) (h5 : z ≠ 5) :
    Calls Try.prog 26 #[.pointer (some ⟨q, 0, none⟩), .agg #[.int .i64 z, .string ⟨n.toArray⟩, .string ⟨t.toArray⟩, .int .i64 a, .slice B b.length c]] w fun e w' => e = .returned (.bool false) ∧ Ch T w w' := by
  have HW := Lib.hid (show Below w.heap.size w (w.alloc (.cells #[.int .i64 z, .string ⟨n.toArray⟩, .string ⟨t.toArray⟩, .int .i64 a, .slice B b.length c] 33)) from (Below.refl _ w).alloc (Nat.le_refl _) _)
  have z0 : (z == 0) = false := by rw [beq_eq_false_iff_ne]; exact h0
  have z1 : (z == 1) = false := by rw [beq_eq_false_iff_ne]; exact h1
  have z2 : (z == 2) = false := by rw [beq_eq_false_iff_ne]; exact h2
  have z4 : (z == 4) = false := by rw [beq_eq_false_iff_ne]; exact h4
  have z5 : (z == 5) = false := by rw [beq_eq_false_iff_ne]; exact h5
  clear h0 h1 h2 h4 h5
  go_enter Try.func26, Try.ntmps26
  go_wp2_with fail
  go_ret
  exact ⟨rfl, Ch.of_below HW.out (Nat.le_refl _)⟩

theorem refused_any (w : World) (T X : Nat → Prop) (q : Nat) (L : List Fl) (room : Nat) (off : Bool) (o : On) (B : Option Addr) (c : Nat) (ho : wfO o) (hb : Sl w X 1 (.slice B o.b.length c) o.b.length (BVs o.b)) (h : Rk w T q L room off) :
    Calls Try.prog 26 #[.pointer (some ⟨q, 0, none⟩), OV o B c] w fun e w' => e = .returned (.bool (bad room o (L, off))) ∧ Ch T w w' := by
  obtain ⟨z, n, t, a, b⟩ := o
  by_cases h0 : z = 0
  · subst h0; exact refused_Create w T X q L room off n t a b B c ho hb h
  by_cases h1 : z = 1
  · subst h1; exact refused_Append w T X q L room off n t a b B c ho hb h
  by_cases h2 : z = 2
  · subst h2; exact refused_Write w T X q L room off n t a b B c ho hb h
  by_cases h4 : z = 4
  · subst h4; exact refused_Rename w T X q L room off n t a b B c ho hb h
  by_cases h5 : z = 5
  · subst h5; exact refused_Truncate w T X q L room off n t a b B c ho hb h
  have e : bad room ⟨z, n, t, a, b⟩ (L, off) = false := by simp only [bad, h0, h1, h2, h4, h5, if_false]
  rw [e]
  exact refused_other w T q z n t a b B c h0 h1 h2 h4 h5

theorem put_bad {L : List Fl} {room : Nat} {f : Fl} {k : Nat} {x : Tx} (h : (putS L room f k x).2 ≠ 0) : (putS L room f k x).1 = L := by
  unfold putS at *
  split at h <;> simp_all
/-- What is refused changes nothing. -/
theorem bad_keeps {room : Nat} {o : On} {L : List Fl} {off : Bool} (h : bad room o (L, off) = true) : Dq.step room o (L, off) = (L, off) := by
  obtain ⟨z, n, t, a, b⟩ := o
  unfold bad at h
  unfold Dq.step
  simp only at h ⊢
  split at h
  · rename_i hz
    rw [if_pos hz]
    have h' : (createS L off n).2 ≠ 0 := by simpa using h
    have : (createS L off n).1 = L := by
      unfold createS at *
      repeat' split at h'
      all_goals simp_all
    rw [this]
  split at h
  · rename_i h0 hz
    rw [if_neg h0, if_pos hz]
    have h' : (appS L room off n b).2 ≠ 0 := by simpa using h
    have : (appS L room off n b).1 = L := by
      cases off with
      | true => rfl
      | false =>
        cases hf : find L n with
        | none => simp [appS, hf]
        | some f =>
          have e : appS L room false n b = putS L room f f.b.length b := by simp [appS, hf]
          rw [e] at h' ⊢
          exact put_bad h'
    rw [this]
  split at h
  · rename_i h0 h1 hz
    rw [if_neg h0, if_neg h1, if_pos hz]
    have h' : (writeS L room off n a b).2 ≠ 0 := by simpa using h
    have : (writeS L room off n a b).1 = L := by
      cases off with
      | true => rfl
      | false =>
        cases hf : find L n with
        | none => simp [writeS, hf]
        | some f =>
          by_cases hr : a < 0 ∨ (f.b.length : Int) < a
          · simp only [writeS, hf, hr, if_true, if_false, Bool.false_eq_true]
          · have e : writeS L room false n a b = putS L room f a.toNat b := by simp only [writeS, hf, hr, if_false, Bool.false_eq_true]
            rw [e] at h' ⊢
            exact put_bad h'
    rw [this]
  split at h
  · rename_i h0 h1 h2 hz
    have h3 : z ≠ 3 := by omega
    rw [if_neg h0, if_neg h1, if_neg h2, if_neg h3, if_pos hz]
    have h' : (renS L off n t).2 ≠ 0 := by simpa using h
    have : (renS L off n t).1 = L := by
      unfold renS at *
      repeat' split at h'
      all_goals simp_all
    rw [this]
  split at h
  · rename_i h0 h1 h2 h4 hz
    have h3 : z ≠ 3 := by omega
    rw [if_neg h0, if_neg h1, if_neg h2, if_neg h3, if_neg h4, if_pos hz]
    have h' : (truncS L off n a).2 ≠ 0 := by simpa using h
    have : (truncS L off n a).1 = L := by
      unfold truncS at *
      repeat' split at h'
      all_goals simp_all
    rw [this]
  · cases h

end Go.Proofs.Ytncppflmpfefkaa.Ed

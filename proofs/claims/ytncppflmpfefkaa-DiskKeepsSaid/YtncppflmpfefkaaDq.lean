/-
  Contract of does: an operation is done with both disks, and both answer the same.
-/
import Derived.Test.YtncppflmpfefkaaRi
import Derived.Test.YtncppflmpfefkaaRj
import Derived.Test.YtncppflmpfefkaaPw
namespace Go.Proofs.Ytncppflmpfefkaa.Dq
open Go Go.RowKit Go.Maps Ck Kw Ga Dm Dw Da Db Dc Dd De Df Dg Dh Di Dj Ra Rb Rc Rd Re Rf Rg Rh Ri Rj Pw
attribute [local go_sem ↓] Go.wp_at_zero Go.wp_at_succ
set_option linter.unusedVariables false

def DP (p : Nat) (L : List Fl) (room : Nat) (off : Bool) : World → (Nat → Prop) → Prop := fun w S => Dk w S p L room off
def RP (q : Nat) (L : List Fl) (room : Nat) (off : Bool) : World → (Nat → Prop) → Prop := fun w S => Rk w S q L room off
theorem dp_stable (p : Nat) (L : List Fl) (room : Nat) (off : Bool) : Stable (DP p L room off) := fun _ _ _ _ h c hd => Dk.ch h c hd
theorem rp_stable (q : Nat) (L : List Fl) (room : Nat) (off : Bool) : Stable (RP q L room off) := fun _ _ _ _ h c hd => Rk.ch h c hd
/-- Both disks. -/
def Both (K : Nat → Prop) (w : World) (p q : Nat) (L L' : List Fl) (room : Nat) (off off' : Bool) : Prop := Two K w (DP p L room off) (RP q L' room off')
theorem both_left {K : Nat → Prop} {w : World} {p q room : Nat} {L L' : List Fl} {off off' off2 : Bool} {r : List Fl × Nat} {f : FuncId} {args : Array Value} (h : Both K w p q L L' room off off')
    (hc : ∀ S, Dk w S p L room off → (∀ k, S k → ¬ K k) → Calls Try.prog f args w (Did S p r room off2 w)) :
    Calls Try.prog f args w fun e w' => e = .returned (.int .i64 (r.2 : Int)) ∧ Both K w' p q r.1 L' room off2 off' ∧ Ch (fun k => ¬ K k) w w' := by
  obtain ⟨hK, S, T, h1, h2, h3, h4, h5⟩ := h
  refine (hc S h1 (fun k hk => (h3 k hk).1)).mono fun e w' ⟨he, hP, c⟩ => ⟨he, ⟨fun k hk => Nat.lt_of_lt_of_le (hK k hk) c.size, Up S w w', T, hP, rp_stable _ _ _ _ _ _ _ _ h2 c (fun k a b => h5 k b a), h3.up c.size hK, h4.later c.size, up_apart h5 h4⟩, ch_own c h3⟩
theorem both_right {K : Nat → Prop} {w : World} {p q room : Nat} {L L' : List Fl} {off off' off2 : Bool} {r : List Fl × Nat} {f : FuncId} {args : Array Value} (h : Both K w p q L L' room off off')
    (hc : ∀ S, Rk w S q L' room off' → (∀ k, S k → ¬ K k) → Calls Try.prog f args w (RDid S q r room off2 w)) :
    Calls Try.prog f args w fun e w' => e = .returned (.int .i64 (r.2 : Int)) ∧ Both K w' p q L r.1 room off off2 ∧ Ch (fun k => ¬ K k) w w' := by
  obtain ⟨hK, S, T, h1, h2, h3, h4, h5⟩ := h
  refine (hc T h2 (fun k hk => (h4 k hk).1)).mono fun e w' ⟨he, hP, c⟩ => ⟨he, ⟨fun k hk => Nat.lt_of_lt_of_le (hK k hk) c.size, S, Up T w w', dp_stable _ _ _ _ _ _ _ _ h1 c (fun k a b => h5 k a b), hP, h3.later c.size, h4.up c.size hK, fun k a b => up_apart (fun k x y => h5 k y x) h3 k b a⟩, ch_own c h4⟩

/-- An operation, as it was handed in. -/
structure On where
  z : Int
  n : Tx
  t : Tx
  a : Int
  b : Tx
/-- What an operation makes of a disk's files, and whether it is off then. -/
def step (room : Nat) (o : On) (st : List Fl × Bool) : List Fl × Bool :=
  if o.z = 0 then ((createS st.1 st.2 o.n).1, st.2) else if o.z = 1 then ((appS st.1 room st.2 o.n o.b).1, st.2) else if o.z = 2 then ((writeS st.1 room st.2 o.n o.a o.b).1, st.2)
  else if o.z = 3 then ((syncS st.1 st.2 o.n).1, st.2) else if o.z = 4 then ((renS st.1 st.2 o.n o.t).1, st.2) else if o.z = 5 then ((truncS st.1 st.2 o.n o.a).1, st.2)
  else if o.z = 6 then ((remS st.1 st.2 o.n).1, st.2) else if o.z = 7 then ((crashS st.1 st.2 o.a).1, true) else if o.z = 8 then (st.1, false) else st
/-- It may be: its texts are such as can be read, its number is one. -/
def wfO (o : On) : Prop := o.n.length ≤ 140737488355328 ∧ o.t.length ≤ 140737488355328 ∧ o.b.length ≤ 140737488355328 ∧ -9223372036854775808 ≤ o.a ∧ o.a ≤ 9223372036854775807
theorem both_lt {K : Nat → Prop} {w : World} {p q room : Nat} {L L' : List Fl} {off off' : Bool} (h : Both K w p q L L' room off off') : ∀ k, K k → k < w.heap.size := h.1
theorem both_more {K : Nat → Prop} {w w' : World} {p q room : Nat} {L L' : List Fl} {off off' : Bool} (h : Both K w p q L L' room off off') (b : Below w.heap.size w w') {g : Nat} (hg : w.heap.size ≤ g) (hg' : g < w'.heap.size) : Both (And1 K g) w' p q L L' room off off' :=
  Two.more h (dp_stable _ _ _ _) (rp_stable _ _ _ _) b hg hg'
theorem both_later {K : Nat → Prop} {w w' : World} {p q room : Nat} {L L' : List Fl} {off off' : Bool} (h : Both K w p q L L' room off off') (b : Below w.heap.size w w') : Both K w' p q L L' room off off' :=
  Two.later h (dp_stable _ _ _ _) (rp_stable _ _ _ _) b
theorem both_less {K K' : Nat → Prop} {w : World} {p q room : Nat} {L L' : List Fl} {off off' : Bool} (h : Both K w p q L L' room off off') (hK : ∀ k, K' k → K k) : Both K' w p q L L' room off off' := Two.less h hK
theorem restart_did (w : World) (S : Nat → Prop) (p : Nat) (L : List Fl) (room : Nat) (off : Bool) (h : Dk w S p L room off) :
    Calls Try.prog 21 #[.pointer (some ⟨p, 0, none⟩)] w (Did S p (L, if off then 0 else 1) room false w) :=
  (restart_on w S p L room off h).mono fun e w' ⟨h1, h2, h3⟩ => ⟨by rw [h1]; cases off <;> rfl, h2.weaken (fun k hk => .inl hk), h3⟩

set_option maxRecDepth 100000 in
set_option maxHeartbeats 2000000 in
theorem does_Create (K : Nat → Prop) (w : World) (p q : Nat) (L : List Fl) (room : Nat) (off : Bool) (n t : Tx) (a : Int) (b : Tx) (B : Option Addr) (c : Nat) (ho : wfO ⟨0, n, t, a, b⟩) (hb : Sl w (fun k => ¬ K k) 1 (.slice B b.length c) b.length (BVs b)) (h : Both K w p q L L room off off) :
    Calls Try.prog 10 #[.pointer (some ⟨p, 0, none⟩), .pointer (some ⟨q, 0, none⟩), .agg #[.int .i64 0, .string ⟨n.toArray⟩, .string ⟨t.toArray⟩, .int .i64 a, .slice B b.length c]] w fun e w' => e = .returned (.bool true) ∧ Both K w' p q (createS L off n).1 (createS L off n).1 room off off ∧ Ch (fun k => ¬ K k) w w' := by
  obtain ⟨o1, o2, o3, o4, o5⟩ := ho
  simp only at o1 o2 o3 o4 o5
  have hw0 : Below w.heap.size w (w.alloc (.cells #[.int .i64 0, .string ⟨n.toArray⟩, .string ⟨t.toArray⟩, .int .i64 a, .slice B b.length c] 33)) := (Below.refl _ w).alloc (Nat.le_refl _) _
  have hm0 : Blk (w.alloc (.cells #[.int .i64 0, .string ⟨n.toArray⟩, .string ⟨t.toArray⟩, .int .i64 a, .slice B b.length c] 33)) w.heap.size 33 #[.int .i64 0, .string ⟨n.toArray⟩, .string ⟨t.toArray⟩, .int .i64 a, .slice B b.length c] := Blk.new _ _ _
  have hB0 := both_more h hw0 (g := w.heap.size) (Nat.le_refl _) (by simp)
  have hS0 : Sl (w.alloc (.cells #[.int .i64 0, .string ⟨n.toArray⟩, .string ⟨t.toArray⟩, .int .i64 a, .slice B b.length c] 33)) (fun k => ¬ And1 K w.heap.size k) 1 (.slice B b.length c) b.length (BVs b) := (hb.weaken (fun k _ hk h => hk (.inl h))).alloc _
  have hK := both_lt h
  have HKK := Lib.hid hK
  clear h hb hK
  go_enter Try.func10, Try.ntmps10
  go_wp2_with fail
  generalize w.alloc (.cells #[.int .i64 0, .string ⟨n.toArray⟩, .string ⟨t.toArray⟩, .int .i64 a, .slice B b.length c] 33) = w0 at hw0 hm0 hB0 hS0 ⊢
  have m0 := hm0.cell 0
  have m1 := hm0.cell 1
  have m2 := hm0.cell 2
  have m3 := hm0.cell 3
  have m4 := hm0.cell 4
  simp only [List.getElem?_toArray, List.getElem?_cons_zero, List.getElem?_cons_succ] at m0 m1 m2 m3 m4
  have HM0 := Lib.hid hm0
  have HW0 := Lib.hid hw0
  have HC1 := Lib.hid (both_left (K := And1 K w.heap.size) (w := w0.drew) (r := (createS L off n)) (off2 := off) (f := 13) (args := #[.pointer (some ⟨p, 0, none⟩), .string ⟨n.toArray⟩]) (both_later hB0 (below_drewN (Below.refl _ w0) 1)) (fun S hD hX => create_on _ S p L room off n o1 hD))
  have HC2 : Hid (∀ w1, Both (And1 K w.heap.size) w1 p q (createS L off n).1 L room off off → Ch (fun k => ¬ And1 K w.heap.size k) w0.drew w1 → Calls Try.prog 34 #[.pointer (some ⟨q, 0, none⟩), .string ⟨n.toArray⟩] w1 fun e w' => e = .returned (.int .i64 ((createS L off n).2 : Int)) ∧ Both (And1 K w.heap.size) w' p q (createS L off n).1 (createS L off n).1 room off off ∧ Ch (fun k => ¬ And1 K w.heap.size k) w1 w') := Lib.hid fun w1 hb1 hc1 => both_right (r := (createS L off n)) (off2 := off) hb1 (fun S hD hX => rcreate_any _ S q L room off n o1 hD)
  have HS0 := Lib.hid hS0
  clear hm0 hw0 hB0 hS0
  go_region_held3 (fun w' => w'.cell? ⟨w.heap.size, 1, none⟩ = some (.string ⟨n.toArray⟩) ∧ w'.cell? ⟨w.heap.size, 2, none⟩ = some (.string ⟨t.toArray⟩) ∧ w'.cell? ⟨w.heap.size, 3, none⟩ = some (.int .i64 a) ∧ w'.cell? ⟨w.heap.size, 4, none⟩ = some (.slice B b.length c)) (first | exact ⟨m1, m2, m3, m4⟩ | exact ⟨k1, k2, k3, k4⟩ | exact ⟨j1, j2, j3, j4⟩)
    (first
    | (go_at_call 13; refine HC1.out.mono ?_; rintro e w1 ⟨rfl, hb1, hc1⟩; have hk1 := (show Blk w0.drew _ _ _ from HM0.out).ch hc1 (fun h => h (.inr rfl)); have k1 := hk1.cell 1; have k2 := hk1.cell 2; have k3 := hk1.cell 3; have k4 := hk1.cell 4; simp only [List.getElem?_toArray, List.getElem?_cons_zero, List.getElem?_cons_succ] at k1 k2 k3 k4; have HK1 := Lib.hid hk1; have HB1 := Lib.hid hb1; have HX1 := Lib.hid hc1; clear hk1 hb1 hc1)
    | (go_at_call 34; refine (HC2.out _ HB1.out HX1.out).mono ?_; rintro e w2 ⟨rfl, hb2, hc2⟩; have hj1 := HK1.out.ch hc2 (fun h => h (.inr rfl)); have j1 := hj1.cell 1; have j2 := hj1.cell 2; have j3 := hj1.cell 3; have j4 := hj1.cell 4; simp only [List.getElem?_toArray, List.getElem?_cons_zero, List.getElem?_cons_succ] at j1 j2 j3 j4; have HB2 := Lib.hid hb2; have HX2 := Lib.hid hc2; clear hj1 hb2 hc2))
  all_goals
    go_wp2_with fail
    go_ret
    refine ⟨by first | rfl | simp, both_less HB2.out (fun k hk => .inl hk), ?_⟩
    have hch := ch_of_drew (HX1.out.trans HX2.out (fun _ _ h => h))
    exact (Ch.of_below HW0.out (Nat.le_refl _)).trans (hch.mono (T := fun k => ¬ K k) (fun k _ hk h => hk (.inl h))) (fun _ _ h => h)

set_option maxRecDepth 100000 in
set_option maxHeartbeats 2000000 in
theorem does_Append (K : Nat → Prop) (w : World) (p q : Nat) (L : List Fl) (room : Nat) (off : Bool) (n t : Tx) (a : Int) (b : Tx) (B : Option Addr) (c : Nat) (ho : wfO ⟨1, n, t, a, b⟩) (hb : Sl w (fun k => ¬ K k) 1 (.slice B b.length c) b.length (BVs b)) (h : Both K w p q L L room off off) :
    Calls Try.prog 10 #[.pointer (some ⟨p, 0, none⟩), .pointer (some ⟨q, 0, none⟩), .agg #[.int .i64 1, .string ⟨n.toArray⟩, .string ⟨t.toArray⟩, .int .i64 a, .slice B b.length c]] w fun e w' => e = .returned (.bool true) ∧ Both K w' p q (appS L room off n b).1 (appS L room off n b).1 room off off ∧ Ch (fun k => ¬ K k) w w' := by
  obtain ⟨o1, o2, o3, o4, o5⟩ := ho
  simp only at o1 o2 o3 o4 o5
  have hw0 : Below w.heap.size w (w.alloc (.cells #[.int .i64 1, .string ⟨n.toArray⟩, .string ⟨t.toArray⟩, .int .i64 a, .slice B b.length c] 33)) := (Below.refl _ w).alloc (Nat.le_refl _) _
  have hm0 : Blk (w.alloc (.cells #[.int .i64 1, .string ⟨n.toArray⟩, .string ⟨t.toArray⟩, .int .i64 a, .slice B b.length c] 33)) w.heap.size 33 #[.int .i64 1, .string ⟨n.toArray⟩, .string ⟨t.toArray⟩, .int .i64 a, .slice B b.length c] := Blk.new _ _ _
  have hB0 := both_more h hw0 (g := w.heap.size) (Nat.le_refl _) (by simp)
  have hS0 : Sl (w.alloc (.cells #[.int .i64 1, .string ⟨n.toArray⟩, .string ⟨t.toArray⟩, .int .i64 a, .slice B b.length c] 33)) (fun k => ¬ And1 K w.heap.size k) 1 (.slice B b.length c) b.length (BVs b) := (hb.weaken (fun k _ hk h => hk (.inl h))).alloc _
  have hK := both_lt h
  have HKK := Lib.hid hK
  clear h hb hK
  go_enter Try.func10, Try.ntmps10
  go_wp2_with fail
  generalize w.alloc (.cells #[.int .i64 1, .string ⟨n.toArray⟩, .string ⟨t.toArray⟩, .int .i64 a, .slice B b.length c] 33) = w0 at hw0 hm0 hB0 hS0 ⊢
  have m0 := hm0.cell 0
  have m1 := hm0.cell 1
  have m2 := hm0.cell 2
  have m3 := hm0.cell 3
  have m4 := hm0.cell 4
  simp only [List.getElem?_toArray, List.getElem?_cons_zero, List.getElem?_cons_succ] at m0 m1 m2 m3 m4
  have HM0 := Lib.hid hm0
  have HW0 := Lib.hid hw0
  have HC1 := Lib.hid (both_left (K := And1 K w.heap.size) (w := w0.drew) (r := (appS L room off n b)) (off2 := off) (f := 14) (args := #[.pointer (some ⟨p, 0, none⟩), .string ⟨n.toArray⟩, .slice B b.length c]) (both_later hB0 (below_drewN (Below.refl _ w0) 1)) (fun S hD hX => append_on _ S _ p L room off n o1 hD b B c hS0.drew hX o3))
  have HC2 : Hid (∀ w1, Both (And1 K w.heap.size) w1 p q (appS L room off n b).1 L room off off → Ch (fun k => ¬ And1 K w.heap.size k) w0.drew w1 → Calls Try.prog 35 #[.pointer (some ⟨q, 0, none⟩), .string ⟨n.toArray⟩, .slice B b.length c] w1 fun e w' => e = .returned (.int .i64 ((appS L room off n b).2 : Int)) ∧ Both (And1 K w.heap.size) w' p q (appS L room off n b).1 (appS L room off n b).1 room off off ∧ Ch (fun k => ¬ And1 K w.heap.size k) w1 w') := Lib.hid fun w1 hb1 hc1 => both_right (r := (appS L room off n b)) (off2 := off) hb1 (fun S hD hX => rappend_any _ S _ q L room off n hD b B c (hS0.drew.ch hc1 (fun _ _ h => h)) o3)
  have HS0 := Lib.hid hS0
  clear hm0 hw0 hB0 hS0
  go_region_held3 (fun w' => w'.cell? ⟨w.heap.size, 1, none⟩ = some (.string ⟨n.toArray⟩) ∧ w'.cell? ⟨w.heap.size, 2, none⟩ = some (.string ⟨t.toArray⟩) ∧ w'.cell? ⟨w.heap.size, 3, none⟩ = some (.int .i64 a) ∧ w'.cell? ⟨w.heap.size, 4, none⟩ = some (.slice B b.length c)) (first | exact ⟨m1, m2, m3, m4⟩ | exact ⟨k1, k2, k3, k4⟩ | exact ⟨j1, j2, j3, j4⟩)
    (first
    | (go_at_call 14; refine HC1.out.mono ?_; rintro e w1 ⟨rfl, hb1, hc1⟩; have hk1 := (show Blk w0.drew _ _ _ from HM0.out).ch hc1 (fun h => h (.inr rfl)); have k1 := hk1.cell 1; have k2 := hk1.cell 2; have k3 := hk1.cell 3; have k4 := hk1.cell 4; simp only [List.getElem?_toArray, List.getElem?_cons_zero, List.getElem?_cons_succ] at k1 k2 k3 k4; have HK1 := Lib.hid hk1; have HB1 := Lib.hid hb1; have HX1 := Lib.hid hc1; clear hk1 hb1 hc1)
    | (go_at_call 35; refine (HC2.out _ HB1.out HX1.out).mono ?_; rintro e w2 ⟨rfl, hb2, hc2⟩; have hj1 := HK1.out.ch hc2 (fun h => h (.inr rfl)); have j1 := hj1.cell 1; have j2 := hj1.cell 2; have j3 := hj1.cell 3; have j4 := hj1.cell 4; simp only [List.getElem?_toArray, List.getElem?_cons_zero, List.getElem?_cons_succ] at j1 j2 j3 j4; have HB2 := Lib.hid hb2; have HX2 := Lib.hid hc2; clear hj1 hb2 hc2))
  all_goals
    go_wp2_with fail
    go_ret
    refine ⟨by first | rfl | simp, both_less HB2.out (fun k hk => .inl hk), ?_⟩
    have hch := ch_of_drew (HX1.out.trans HX2.out (fun _ _ h => h))
    exact (Ch.of_below HW0.out (Nat.le_refl _)).trans (hch.mono (T := fun k => ¬ K k) (fun k _ hk h => hk (.inl h))) (fun _ _ h => h)

set_option maxRecDepth 100000 in
set_option maxHeartbeats 2000000 in
theorem does_Write (K : Nat → Prop) (w : World) (p q : Nat) (L : List Fl) (room : Nat) (off : Bool) (n t : Tx) (a : Int) (b : Tx) (B : Option Addr) (c : Nat) (ho : wfO ⟨2, n, t, a, b⟩) (hb : Sl w (fun k => ¬ K k) 1 (.slice B b.length c) b.length (BVs b)) (h : Both K w p q L L room off off) :
    Calls Try.prog 10 #[.pointer (some ⟨p, 0, none⟩), .pointer (some ⟨q, 0, none⟩), .agg #[.int .i64 2, .string ⟨n.toArray⟩, .string ⟨t.toArray⟩, .int .i64 a, .slice B b.length c]] w fun e w' => e = .returned (.bool true) ∧ Both K w' p q (writeS L room off n a b).1 (writeS L room off n a b).1 room off off ∧ Ch (fun k => ¬ K k) w w' := by
  obtain ⟨o1, o2, o3, o4, o5⟩ := ho
  simp only at o1 o2 o3 o4 o5
  have hw0 : Below w.heap.size w (w.alloc (.cells #[.int .i64 2, .string ⟨n.toArray⟩, .string ⟨t.toArray⟩, .int .i64 a, .slice B b.length c] 33)) := (Below.refl _ w).alloc (Nat.le_refl _) _
  have hm0 : Blk (w.alloc (.cells #[.int .i64 2, .string ⟨n.toArray⟩, .string ⟨t.toArray⟩, .int .i64 a, .slice B b.length c] 33)) w.heap.size 33 #[.int .i64 2, .string ⟨n.toArray⟩, .string ⟨t.toArray⟩, .int .i64 a, .slice B b.length c] := Blk.new _ _ _
  have hB0 := both_more h hw0 (g := w.heap.size) (Nat.le_refl _) (by simp)
  have hS0 : Sl (w.alloc (.cells #[.int .i64 2, .string ⟨n.toArray⟩, .string ⟨t.toArray⟩, .int .i64 a, .slice B b.length c] 33)) (fun k => ¬ And1 K w.heap.size k) 1 (.slice B b.length c) b.length (BVs b) := (hb.weaken (fun k _ hk h => hk (.inl h))).alloc _
  have hK := both_lt h
  have HKK := Lib.hid hK
  clear h hb hK
  go_enter Try.func10, Try.ntmps10
  go_wp2_with fail
  generalize w.alloc (.cells #[.int .i64 2, .string ⟨n.toArray⟩, .string ⟨t.toArray⟩, .int .i64 a, .slice B b.length c] 33) = w0 at hw0 hm0 hB0 hS0 ⊢
  have m0 := hm0.cell 0
  have m1 := hm0.cell 1
  have m2 := hm0.cell 2
  have m3 := hm0.cell 3
  have m4 := hm0.cell 4
  simp only [List.getElem?_toArray, List.getElem?_cons_zero, List.getElem?_cons_succ] at m0 m1 m2 m3 m4
  have HM0 := Lib.hid hm0
  have HW0 := Lib.hid hw0
  have HC1 := Lib.hid (both_left (K := And1 K w.heap.size) (w := w0.drew) (r := (writeS L room off n a b)) (off2 := off) (f := 27) (args := #[.pointer (some ⟨p, 0, none⟩), .string ⟨n.toArray⟩, .int .i64 a, .slice B b.length c]) (both_later hB0 (below_drewN (Below.refl _ w0) 1)) (fun S hD hX => write_on _ S _ p L room off n o1 hD a b B c hS0.drew hX o3))
  have HC2 : Hid (∀ w1, Both (And1 K w.heap.size) w1 p q (writeS L room off n a b).1 L room off off → Ch (fun k => ¬ And1 K w.heap.size k) w0.drew w1 → Calls Try.prog 36 #[.pointer (some ⟨q, 0, none⟩), .string ⟨n.toArray⟩, .int .i64 a, .slice B b.length c] w1 fun e w' => e = .returned (.int .i64 ((writeS L room off n a b).2 : Int)) ∧ Both (And1 K w.heap.size) w' p q (writeS L room off n a b).1 (writeS L room off n a b).1 room off off ∧ Ch (fun k => ¬ And1 K w.heap.size k) w1 w') := Lib.hid fun w1 hb1 hc1 => both_right (r := (writeS L room off n a b)) (off2 := off) hb1 (fun S hD hX => rwrite_any _ S _ q L room off n hD a b B c (hS0.drew.ch hc1 (fun _ _ h => h)) o3)
  have HS0 := Lib.hid hS0
  clear hm0 hw0 hB0 hS0
  go_region_held3 (fun w' => w'.cell? ⟨w.heap.size, 1, none⟩ = some (.string ⟨n.toArray⟩) ∧ w'.cell? ⟨w.heap.size, 2, none⟩ = some (.string ⟨t.toArray⟩) ∧ w'.cell? ⟨w.heap.size, 3, none⟩ = some (.int .i64 a) ∧ w'.cell? ⟨w.heap.size, 4, none⟩ = some (.slice B b.length c)) (first | exact ⟨m1, m2, m3, m4⟩ | exact ⟨k1, k2, k3, k4⟩ | exact ⟨j1, j2, j3, j4⟩)
    (first
    | (go_at_call 27; refine HC1.out.mono ?_; rintro e w1 ⟨rfl, hb1, hc1⟩; have hk1 := (show Blk w0.drew _ _ _ from HM0.out).ch hc1 (fun h => h (.inr rfl)); have k1 := hk1.cell 1; have k2 := hk1.cell 2; have k3 := hk1.cell 3; have k4 := hk1.cell 4; simp only [List.getElem?_toArray, List.getElem?_cons_zero, List.getElem?_cons_succ] at k1 k2 k3 k4; have HK1 := Lib.hid hk1; have HB1 := Lib.hid hb1; have HX1 := Lib.hid hc1; clear hk1 hb1 hc1)
    | (go_at_call 36; refine (HC2.out _ HB1.out HX1.out).mono ?_; rintro e w2 ⟨rfl, hb2, hc2⟩; have hj1 := HK1.out.ch hc2 (fun h => h (.inr rfl)); have j1 := hj1.cell 1; have j2 := hj1.cell 2; have j3 := hj1.cell 3; have j4 := hj1.cell 4; simp only [List.getElem?_toArray, List.getElem?_cons_zero, List.getElem?_cons_succ] at j1 j2 j3 j4; have HB2 := Lib.hid hb2; have HX2 := Lib.hid hc2; clear hj1 hb2 hc2))
  all_goals
    go_wp2_with fail
    go_ret
    refine ⟨by first | rfl | simp, both_less HB2.out (fun k hk => .inl hk), ?_⟩
    have hch := ch_of_drew (HX1.out.trans HX2.out (fun _ _ h => h))
    exact (Ch.of_below HW0.out (Nat.le_refl _)).trans (hch.mono (T := fun k => ¬ K k) (fun k _ hk h => hk (.inl h))) (fun _ _ h => h)

set_option maxRecDepth 100000 in
set_option maxHeartbeats 2000000 in
theorem does_Sync (K : Nat → Prop) (w : World) (p q : Nat) (L : List Fl) (room : Nat) (off : Bool) (n t : Tx) (a : Int) (b : Tx) (B : Option Addr) (c : Nat) (ho : wfO ⟨3, n, t, a, b⟩) (hb : Sl w (fun k => ¬ K k) 1 (.slice B b.length c) b.length (BVs b)) (h : Both K w p q L L room off off) :
    Calls Try.prog 10 #[.pointer (some ⟨p, 0, none⟩), .pointer (some ⟨q, 0, none⟩), .agg #[.int .i64 3, .string ⟨n.toArray⟩, .string ⟨t.toArray⟩, .int .i64 a, .slice B b.length c]] w fun e w' => e = .returned (.bool true) ∧ Both K w' p q (syncS L off n).1 (syncS L off n).1 room off off ∧ Ch (fun k => ¬ K k) w w' := by
  obtain ⟨o1, o2, o3, o4, o5⟩ := ho
  simp only at o1 o2 o3 o4 o5
  have hw0 : Below w.heap.size w (w.alloc (.cells #[.int .i64 3, .string ⟨n.toArray⟩, .string ⟨t.toArray⟩, .int .i64 a, .slice B b.length c] 33)) := (Below.refl _ w).alloc (Nat.le_refl _) _
  have hm0 : Blk (w.alloc (.cells #[.int .i64 3, .string ⟨n.toArray⟩, .string ⟨t.toArray⟩, .int .i64 a, .slice B b.length c] 33)) w.heap.size 33 #[.int .i64 3, .string ⟨n.toArray⟩, .string ⟨t.toArray⟩, .int .i64 a, .slice B b.length c] := Blk.new _ _ _
  have hB0 := both_more h hw0 (g := w.heap.size) (Nat.le_refl _) (by simp)
  have hS0 : Sl (w.alloc (.cells #[.int .i64 3, .string ⟨n.toArray⟩, .string ⟨t.toArray⟩, .int .i64 a, .slice B b.length c] 33)) (fun k => ¬ And1 K w.heap.size k) 1 (.slice B b.length c) b.length (BVs b) := (hb.weaken (fun k _ hk h => hk (.inl h))).alloc _
  have hK := both_lt h
  have HKK := Lib.hid hK
  clear h hb hK
  go_enter Try.func10, Try.ntmps10
  go_wp2_with fail
  generalize w.alloc (.cells #[.int .i64 3, .string ⟨n.toArray⟩, .string ⟨t.toArray⟩, .int .i64 a, .slice B b.length c] 33) = w0 at hw0 hm0 hB0 hS0 ⊢
  have m0 := hm0.cell 0
  have m1 := hm0.cell 1
  have m2 := hm0.cell 2
  have m3 := hm0.cell 3
  have m4 := hm0.cell 4
  simp only [List.getElem?_toArray, List.getElem?_cons_zero, List.getElem?_cons_succ] at m0 m1 m2 m3 m4
  have HM0 := Lib.hid hm0
  have HW0 := Lib.hid hw0
  have HC1 := Lib.hid (both_left (K := And1 K w.heap.size) (w := w0.drew) (r := (syncS L off n)) (off2 := off) (f := 28) (args := #[.pointer (some ⟨p, 0, none⟩), .string ⟨n.toArray⟩]) (both_later hB0 (below_drewN (Below.refl _ w0) 1)) (fun S hD hX => sync_on _ S p L room off n o1 hD))
  have HC2 : Hid (∀ w1, Both (And1 K w.heap.size) w1 p q (syncS L off n).1 L room off off → Ch (fun k => ¬ And1 K w.heap.size k) w0.drew w1 → Calls Try.prog 37 #[.pointer (some ⟨q, 0, none⟩), .string ⟨n.toArray⟩] w1 fun e w' => e = .returned (.int .i64 ((syncS L off n).2 : Int)) ∧ Both (And1 K w.heap.size) w' p q (syncS L off n).1 (syncS L off n).1 room off off ∧ Ch (fun k => ¬ And1 K w.heap.size k) w1 w') := Lib.hid fun w1 hb1 hc1 => both_right (r := (syncS L off n)) (off2 := off) hb1 (fun S hD hX => rsync_any _ S q L room off n hD)
  have HS0 := Lib.hid hS0
  clear hm0 hw0 hB0 hS0
  go_region_held3 (fun w' => w'.cell? ⟨w.heap.size, 1, none⟩ = some (.string ⟨n.toArray⟩) ∧ w'.cell? ⟨w.heap.size, 2, none⟩ = some (.string ⟨t.toArray⟩) ∧ w'.cell? ⟨w.heap.size, 3, none⟩ = some (.int .i64 a) ∧ w'.cell? ⟨w.heap.size, 4, none⟩ = some (.slice B b.length c)) (first | exact ⟨m1, m2, m3, m4⟩ | exact ⟨k1, k2, k3, k4⟩ | exact ⟨j1, j2, j3, j4⟩)
    (first
    | (go_at_call 28; refine HC1.out.mono ?_; rintro e w1 ⟨rfl, hb1, hc1⟩; have hk1 := (show Blk w0.drew _ _ _ from HM0.out).ch hc1 (fun h => h (.inr rfl)); have k1 := hk1.cell 1; have k2 := hk1.cell 2; have k3 := hk1.cell 3; have k4 := hk1.cell 4; simp only [List.getElem?_toArray, List.getElem?_cons_zero, List.getElem?_cons_succ] at k1 k2 k3 k4; have HK1 := Lib.hid hk1; have HB1 := Lib.hid hb1; have HX1 := Lib.hid hc1; clear hk1 hb1 hc1)
    | (go_at_call 37; refine (HC2.out _ HB1.out HX1.out).mono ?_; rintro e w2 ⟨rfl, hb2, hc2⟩; have hj1 := HK1.out.ch hc2 (fun h => h (.inr rfl)); have j1 := hj1.cell 1; have j2 := hj1.cell 2; have j3 := hj1.cell 3; have j4 := hj1.cell 4; simp only [List.getElem?_toArray, List.getElem?_cons_zero, List.getElem?_cons_succ] at j1 j2 j3 j4; have HB2 := Lib.hid hb2; have HX2 := Lib.hid hc2; clear hj1 hb2 hc2))
  all_goals
    go_wp2_with fail
    go_ret
    refine ⟨by first | rfl | simp, both_less HB2.out (fun k hk => .inl hk), ?_⟩
    have hch := ch_of_drew (HX1.out.trans HX2.out (fun _ _ h => h))
    exact (Ch.of_below HW0.out (Nat.le_refl _)).trans (hch.mono (T := fun k => ¬ K k) (fun k _ hk h => hk (.inl h))) (fun _ _ h => h)

set_option maxRecDepth 100000 in
set_option maxHeartbeats 2000000 in
theorem does_Rename (K : Nat → Prop) (w : World) (p q : Nat) (L : List Fl) (room : Nat) (off : Bool) (n t : Tx) (a : Int) (b : Tx) (B : Option Addr) (c : Nat) (ho : wfO ⟨4, n, t, a, b⟩) (hb : Sl w (fun k => ¬ K k) 1 (.slice B b.length c) b.length (BVs b)) (h : Both K w p q L L room off off) :
    Calls Try.prog 10 #[.pointer (some ⟨p, 0, none⟩), .pointer (some ⟨q, 0, none⟩), .agg #[.int .i64 4, .string ⟨n.toArray⟩, .string ⟨t.toArray⟩, .int .i64 a, .slice B b.length c]] w fun e w' => e = .returned (.bool true) ∧ Both K w' p q (renS L off n t).1 (renS L off n t).1 room off off ∧ Ch (fun k => ¬ K k) w w' := by
  obtain ⟨o1, o2, o3, o4, o5⟩ := ho
  simp only at o1 o2 o3 o4 o5
  have hw0 : Below w.heap.size w (w.alloc (.cells #[.int .i64 4, .string ⟨n.toArray⟩, .string ⟨t.toArray⟩, .int .i64 a, .slice B b.length c] 33)) := (Below.refl _ w).alloc (Nat.le_refl _) _
  have hm0 : Blk (w.alloc (.cells #[.int .i64 4, .string ⟨n.toArray⟩, .string ⟨t.toArray⟩, .int .i64 a, .slice B b.length c] 33)) w.heap.size 33 #[.int .i64 4, .string ⟨n.toArray⟩, .string ⟨t.toArray⟩, .int .i64 a, .slice B b.length c] := Blk.new _ _ _
  have hB0 := both_more h hw0 (g := w.heap.size) (Nat.le_refl _) (by simp)
  have hS0 : Sl (w.alloc (.cells #[.int .i64 4, .string ⟨n.toArray⟩, .string ⟨t.toArray⟩, .int .i64 a, .slice B b.length c] 33)) (fun k => ¬ And1 K w.heap.size k) 1 (.slice B b.length c) b.length (BVs b) := (hb.weaken (fun k _ hk h => hk (.inl h))).alloc _
  have hK := both_lt h
  have HKK := Lib.hid hK
  clear h hb hK
  go_enter Try.func10, Try.ntmps10
  go_wp2_with fail
  generalize w.alloc (.cells #[.int .i64 4, .string ⟨n.toArray⟩, .string ⟨t.toArray⟩, .int .i64 a, .slice B b.length c] 33) = w0 at hw0 hm0 hB0 hS0 ⊢
  have m0 := hm0.cell 0
  have m1 := hm0.cell 1
  have m2 := hm0.cell 2
  have m3 := hm0.cell 3
  have m4 := hm0.cell 4
  simp only [List.getElem?_toArray, List.getElem?_cons_zero, List.getElem?_cons_succ] at m0 m1 m2 m3 m4
  have HM0 := Lib.hid hm0
  have HW0 := Lib.hid hw0
  have HC1 := Lib.hid (both_left (K := And1 K w.heap.size) (w := w0.drew) (r := (renS L off n t)) (off2 := off) (f := 29) (args := #[.pointer (some ⟨p, 0, none⟩), .string ⟨n.toArray⟩, .string ⟨t.toArray⟩]) (both_later hB0 (below_drewN (Below.refl _ w0) 1)) (fun S hD hX => rename_on _ S p L room off n t o1 o2 hD))
  have HC2 : Hid (∀ w1, Both (And1 K w.heap.size) w1 p q (renS L off n t).1 L room off off → Ch (fun k => ¬ And1 K w.heap.size k) w0.drew w1 → Calls Try.prog 38 #[.pointer (some ⟨q, 0, none⟩), .string ⟨n.toArray⟩, .string ⟨t.toArray⟩] w1 fun e w' => e = .returned (.int .i64 ((renS L off n t).2 : Int)) ∧ Both (And1 K w.heap.size) w' p q (renS L off n t).1 (renS L off n t).1 room off off ∧ Ch (fun k => ¬ And1 K w.heap.size k) w1 w') := Lib.hid fun w1 hb1 hc1 => both_right (r := (renS L off n t)) (off2 := off) hb1 (fun S hD hX => rrename_any _ S q L room off n t o2 hD)
  have HS0 := Lib.hid hS0
  clear hm0 hw0 hB0 hS0
  go_region_held3 (fun w' => w'.cell? ⟨w.heap.size, 1, none⟩ = some (.string ⟨n.toArray⟩) ∧ w'.cell? ⟨w.heap.size, 2, none⟩ = some (.string ⟨t.toArray⟩) ∧ w'.cell? ⟨w.heap.size, 3, none⟩ = some (.int .i64 a) ∧ w'.cell? ⟨w.heap.size, 4, none⟩ = some (.slice B b.length c)) (first | exact ⟨m1, m2, m3, m4⟩ | exact ⟨k1, k2, k3, k4⟩ | exact ⟨j1, j2, j3, j4⟩)
    (first
    | (go_at_call 29; refine HC1.out.mono ?_; rintro e w1 ⟨rfl, hb1, hc1⟩; have hk1 := (show Blk w0.drew _ _ _ from HM0.out).ch hc1 (fun h => h (.inr rfl)); have k1 := hk1.cell 1; have k2 := hk1.cell 2; have k3 := hk1.cell 3; have k4 := hk1.cell 4; simp only [List.getElem?_toArray, List.getElem?_cons_zero, List.getElem?_cons_succ] at k1 k2 k3 k4; have HK1 := Lib.hid hk1; have HB1 := Lib.hid hb1; have HX1 := Lib.hid hc1; clear hk1 hb1 hc1)
    | (go_at_call 38; refine (HC2.out _ HB1.out HX1.out).mono ?_; rintro e w2 ⟨rfl, hb2, hc2⟩; have hj1 := HK1.out.ch hc2 (fun h => h (.inr rfl)); have j1 := hj1.cell 1; have j2 := hj1.cell 2; have j3 := hj1.cell 3; have j4 := hj1.cell 4; simp only [List.getElem?_toArray, List.getElem?_cons_zero, List.getElem?_cons_succ] at j1 j2 j3 j4; have HB2 := Lib.hid hb2; have HX2 := Lib.hid hc2; clear hj1 hb2 hc2))
  all_goals
    go_wp2_with fail
    go_ret
    refine ⟨by first | rfl | simp, both_less HB2.out (fun k hk => .inl hk), ?_⟩
    have hch := ch_of_drew (HX1.out.trans HX2.out (fun _ _ h => h))
    exact (Ch.of_below HW0.out (Nat.le_refl _)).trans (hch.mono (T := fun k => ¬ K k) (fun k _ hk h => hk (.inl h))) (fun _ _ h => h)

set_option maxRecDepth 100000 in
set_option maxHeartbeats 2000000 in
theorem does_Truncate (K : Nat → Prop) (w : World) (p q : Nat) (L : List Fl) (room : Nat) (off : Bool) (n t : Tx) (a : Int) (b : Tx) (B : Option Addr) (c : Nat) (ho : wfO ⟨5, n, t, a, b⟩) (hb : Sl w (fun k => ¬ K k) 1 (.slice B b.length c) b.length (BVs b)) (h : Both K w p q L L room off off) :
    Calls Try.prog 10 #[.pointer (some ⟨p, 0, none⟩), .pointer (some ⟨q, 0, none⟩), .agg #[.int .i64 5, .string ⟨n.toArray⟩, .string ⟨t.toArray⟩, .int .i64 a, .slice B b.length c]] w fun e w' => e = .returned (.bool true) ∧ Both K w' p q (truncS L off n a).1 (truncS L off n a).1 room off off ∧ Ch (fun k => ¬ K k) w w' := by
  obtain ⟨o1, o2, o3, o4, o5⟩ := ho
  simp only at o1 o2 o3 o4 o5
  have hw0 : Below w.heap.size w (w.alloc (.cells #[.int .i64 5, .string ⟨n.toArray⟩, .string ⟨t.toArray⟩, .int .i64 a, .slice B b.length c] 33)) := (Below.refl _ w).alloc (Nat.le_refl _) _
  have hm0 : Blk (w.alloc (.cells #[.int .i64 5, .string ⟨n.toArray⟩, .string ⟨t.toArray⟩, .int .i64 a, .slice B b.length c] 33)) w.heap.size 33 #[.int .i64 5, .string ⟨n.toArray⟩, .string ⟨t.toArray⟩, .int .i64 a, .slice B b.length c] := Blk.new _ _ _
  have hB0 := both_more h hw0 (g := w.heap.size) (Nat.le_refl _) (by simp)
  have hS0 : Sl (w.alloc (.cells #[.int .i64 5, .string ⟨n.toArray⟩, .string ⟨t.toArray⟩, .int .i64 a, .slice B b.length c] 33)) (fun k => ¬ And1 K w.heap.size k) 1 (.slice B b.length c) b.length (BVs b) := (hb.weaken (fun k _ hk h => hk (.inl h))).alloc _
  have hK := both_lt h
  have HKK := Lib.hid hK
  clear h hb hK
  go_enter Try.func10, Try.ntmps10
  go_wp2_with fail
  generalize w.alloc (.cells #[.int .i64 5, .string ⟨n.toArray⟩, .string ⟨t.toArray⟩, .int .i64 a, .slice B b.length c] 33) = w0 at hw0 hm0 hB0 hS0 ⊢
  have m0 := hm0.cell 0
  have m1 := hm0.cell 1
  have m2 := hm0.cell 2
  have m3 := hm0.cell 3
  have m4 := hm0.cell 4
  simp only [List.getElem?_toArray, List.getElem?_cons_zero, List.getElem?_cons_succ] at m0 m1 m2 m3 m4
  have HM0 := Lib.hid hm0
  have HW0 := Lib.hid hw0
  have HC1 := Lib.hid (both_left (K := And1 K w.heap.size) (w := w0.drew) (r := (truncS L off n a)) (off2 := off) (f := 30) (args := #[.pointer (some ⟨p, 0, none⟩), .string ⟨n.toArray⟩, .int .i64 a]) (both_later hB0 (below_drewN (Below.refl _ w0) 1)) (fun S hD hX => trunc_on _ S p L room off n o1 hD a))
  have HC2 : Hid (∀ w1, Both (And1 K w.heap.size) w1 p q (truncS L off n a).1 L room off off → Ch (fun k => ¬ And1 K w.heap.size k) w0.drew w1 → Calls Try.prog 39 #[.pointer (some ⟨q, 0, none⟩), .string ⟨n.toArray⟩, .int .i64 a] w1 fun e w' => e = .returned (.int .i64 ((truncS L off n a).2 : Int)) ∧ Both (And1 K w.heap.size) w' p q (truncS L off n a).1 (truncS L off n a).1 room off off ∧ Ch (fun k => ¬ And1 K w.heap.size k) w1 w') := Lib.hid fun w1 hb1 hc1 => both_right (r := (truncS L off n a)) (off2 := off) hb1 (fun S hD hX => rtrunc_any _ S q L room off n hD a)
  have HS0 := Lib.hid hS0
  clear hm0 hw0 hB0 hS0
  go_region_held3 (fun w' => w'.cell? ⟨w.heap.size, 1, none⟩ = some (.string ⟨n.toArray⟩) ∧ w'.cell? ⟨w.heap.size, 2, none⟩ = some (.string ⟨t.toArray⟩) ∧ w'.cell? ⟨w.heap.size, 3, none⟩ = some (.int .i64 a) ∧ w'.cell? ⟨w.heap.size, 4, none⟩ = some (.slice B b.length c)) (first | exact ⟨m1, m2, m3, m4⟩ | exact ⟨k1, k2, k3, k4⟩ | exact ⟨j1, j2, j3, j4⟩)
    (first
    | (go_at_call 30; refine HC1.out.mono ?_; rintro e w1 ⟨rfl, hb1, hc1⟩; have hk1 := (show Blk w0.drew _ _ _ from HM0.out).ch hc1 (fun h => h (.inr rfl)); have k1 := hk1.cell 1; have k2 := hk1.cell 2; have k3 := hk1.cell 3; have k4 := hk1.cell 4; simp only [List.getElem?_toArray, List.getElem?_cons_zero, List.getElem?_cons_succ] at k1 k2 k3 k4; have HK1 := Lib.hid hk1; have HB1 := Lib.hid hb1; have HX1 := Lib.hid hc1; clear hk1 hb1 hc1)
    | (go_at_call 39; refine (HC2.out _ HB1.out HX1.out).mono ?_; rintro e w2 ⟨rfl, hb2, hc2⟩; have hj1 := HK1.out.ch hc2 (fun h => h (.inr rfl)); have j1 := hj1.cell 1; have j2 := hj1.cell 2; have j3 := hj1.cell 3; have j4 := hj1.cell 4; simp only [List.getElem?_toArray, List.getElem?_cons_zero, List.getElem?_cons_succ] at j1 j2 j3 j4; have HB2 := Lib.hid hb2; have HX2 := Lib.hid hc2; clear hj1 hb2 hc2))
  all_goals
    go_wp2_with fail
    go_ret
    refine ⟨by first | rfl | simp, both_less HB2.out (fun k hk => .inl hk), ?_⟩
    have hch := ch_of_drew (HX1.out.trans HX2.out (fun _ _ h => h))
    exact (Ch.of_below HW0.out (Nat.le_refl _)).trans (hch.mono (T := fun k => ¬ K k) (fun k _ hk h => hk (.inl h))) (fun _ _ h => h)

set_option maxRecDepth 100000 in
set_option maxHeartbeats 2000000 in
theorem does_Remove (K : Nat → Prop) (w : World) (p q : Nat) (L : List Fl) (room : Nat) (off : Bool) (n t : Tx) (a : Int) (b : Tx) (B : Option Addr) (c : Nat) (ho : wfO ⟨6, n, t, a, b⟩) (hb : Sl w (fun k => ¬ K k) 1 (.slice B b.length c) b.length (BVs b)) (h : Both K w p q L L room off off) :
    Calls Try.prog 10 #[.pointer (some ⟨p, 0, none⟩), .pointer (some ⟨q, 0, none⟩), .agg #[.int .i64 6, .string ⟨n.toArray⟩, .string ⟨t.toArray⟩, .int .i64 a, .slice B b.length c]] w fun e w' => e = .returned (.bool true) ∧ Both K w' p q (remS L off n).1 (remS L off n).1 room off off ∧ Ch (fun k => ¬ K k) w w' := by
  obtain ⟨o1, o2, o3, o4, o5⟩ := ho
  simp only at o1 o2 o3 o4 o5
  have hw0 : Below w.heap.size w (w.alloc (.cells #[.int .i64 6, .string ⟨n.toArray⟩, .string ⟨t.toArray⟩, .int .i64 a, .slice B b.length c] 33)) := (Below.refl _ w).alloc (Nat.le_refl _) _
  have hm0 : Blk (w.alloc (.cells #[.int .i64 6, .string ⟨n.toArray⟩, .string ⟨t.toArray⟩, .int .i64 a, .slice B b.length c] 33)) w.heap.size 33 #[.int .i64 6, .string ⟨n.toArray⟩, .string ⟨t.toArray⟩, .int .i64 a, .slice B b.length c] := Blk.new _ _ _
  have hB0 := both_more h hw0 (g := w.heap.size) (Nat.le_refl _) (by simp)
  have hS0 : Sl (w.alloc (.cells #[.int .i64 6, .string ⟨n.toArray⟩, .string ⟨t.toArray⟩, .int .i64 a, .slice B b.length c] 33)) (fun k => ¬ And1 K w.heap.size k) 1 (.slice B b.length c) b.length (BVs b) := (hb.weaken (fun k _ hk h => hk (.inl h))).alloc _
  have hK := both_lt h
  have HKK := Lib.hid hK
  clear h hb hK
  go_enter Try.func10, Try.ntmps10
  go_wp2_with fail
  generalize w.alloc (.cells #[.int .i64 6, .string ⟨n.toArray⟩, .string ⟨t.toArray⟩, .int .i64 a, .slice B b.length c] 33) = w0 at hw0 hm0 hB0 hS0 ⊢
  have m0 := hm0.cell 0
  have m1 := hm0.cell 1
  have m2 := hm0.cell 2
  have m3 := hm0.cell 3
  have m4 := hm0.cell 4
  simp only [List.getElem?_toArray, List.getElem?_cons_zero, List.getElem?_cons_succ] at m0 m1 m2 m3 m4
  have HM0 := Lib.hid hm0
  have HW0 := Lib.hid hw0
  have HC1 := Lib.hid (both_left (K := And1 K w.heap.size) (w := w0.drew) (r := (remS L off n)) (off2 := off) (f := 15) (args := #[.pointer (some ⟨p, 0, none⟩), .string ⟨n.toArray⟩]) (both_later hB0 (below_drewN (Below.refl _ w0) 1)) (fun S hD hX => remove_on _ S p L room off n o1 hD))
  have HC2 : Hid (∀ w1, Both (And1 K w.heap.size) w1 p q (remS L off n).1 L room off off → Ch (fun k => ¬ And1 K w.heap.size k) w0.drew w1 → Calls Try.prog 40 #[.pointer (some ⟨q, 0, none⟩), .string ⟨n.toArray⟩] w1 fun e w' => e = .returned (.int .i64 ((remS L off n).2 : Int)) ∧ Both (And1 K w.heap.size) w' p q (remS L off n).1 (remS L off n).1 room off off ∧ Ch (fun k => ¬ And1 K w.heap.size k) w1 w') := Lib.hid fun w1 hb1 hc1 => both_right (r := (remS L off n)) (off2 := off) hb1 (fun S hD hX => rremove_any _ S q L room off n hD)
  have HS0 := Lib.hid hS0
  clear hm0 hw0 hB0 hS0
  go_region_held3 (fun w' => w'.cell? ⟨w.heap.size, 1, none⟩ = some (.string ⟨n.toArray⟩) ∧ w'.cell? ⟨w.heap.size, 2, none⟩ = some (.string ⟨t.toArray⟩) ∧ w'.cell? ⟨w.heap.size, 3, none⟩ = some (.int .i64 a) ∧ w'.cell? ⟨w.heap.size, 4, none⟩ = some (.slice B b.length c)) (first | exact ⟨m1, m2, m3, m4⟩ | exact ⟨k1, k2, k3, k4⟩ | exact ⟨j1, j2, j3, j4⟩)
    (first
    | (go_at_call 15; refine HC1.out.mono ?_; rintro e w1 ⟨rfl, hb1, hc1⟩; have hk1 := (show Blk w0.drew _ _ _ from HM0.out).ch hc1 (fun h => h (.inr rfl)); have k1 := hk1.cell 1; have k2 := hk1.cell 2; have k3 := hk1.cell 3; have k4 := hk1.cell 4; simp only [List.getElem?_toArray, List.getElem?_cons_zero, List.getElem?_cons_succ] at k1 k2 k3 k4; have HK1 := Lib.hid hk1; have HB1 := Lib.hid hb1; have HX1 := Lib.hid hc1; clear hk1 hb1 hc1)
    | (go_at_call 40; refine (HC2.out _ HB1.out HX1.out).mono ?_; rintro e w2 ⟨rfl, hb2, hc2⟩; have hj1 := HK1.out.ch hc2 (fun h => h (.inr rfl)); have j1 := hj1.cell 1; have j2 := hj1.cell 2; have j3 := hj1.cell 3; have j4 := hj1.cell 4; simp only [List.getElem?_toArray, List.getElem?_cons_zero, List.getElem?_cons_succ] at j1 j2 j3 j4; have HB2 := Lib.hid hb2; have HX2 := Lib.hid hc2; clear hj1 hb2 hc2))
  all_goals
    go_wp2_with fail
    go_ret
    refine ⟨by first | rfl | simp, both_less HB2.out (fun k hk => .inl hk), ?_⟩
    have hch := ch_of_drew (HX1.out.trans HX2.out (fun _ _ h => h))
    exact (Ch.of_below HW0.out (Nat.le_refl _)).trans (hch.mono (T := fun k => ¬ K k) (fun k _ hk h => hk (.inl h))) (fun _ _ h => h)

set_option maxRecDepth 100000 in
set_option maxHeartbeats 2000000 in
theorem does_Crash (K : Nat → Prop) (w : World) (p q : Nat) (L : List Fl) (room : Nat) (off : Bool) (n t : Tx) (a : Int) (b : Tx) (B : Option Addr) (c : Nat) (ho : wfO ⟨7, n, t, a, b⟩) (hb : Sl w (fun k => ¬ K k) 1 (.slice B b.length c) b.length (BVs b)) (h : Both K w p q L L room off off) :
    Calls Try.prog 10 #[.pointer (some ⟨p, 0, none⟩), .pointer (some ⟨q, 0, none⟩), .agg #[.int .i64 7, .string ⟨n.toArray⟩, .string ⟨t.toArray⟩, .int .i64 a, .slice B b.length c]] w fun e w' => e = .returned (.bool true) ∧ Both K w' p q (crashS L off a).1 (crashS L off a).1 room true true ∧ Ch (fun k => ¬ K k) w w' := by
  obtain ⟨o1, o2, o3, o4, o5⟩ := ho
  simp only at o1 o2 o3 o4 o5
  have hw0 : Below w.heap.size w (w.alloc (.cells #[.int .i64 7, .string ⟨n.toArray⟩, .string ⟨t.toArray⟩, .int .i64 a, .slice B b.length c] 33)) := (Below.refl _ w).alloc (Nat.le_refl _) _
  have hm0 : Blk (w.alloc (.cells #[.int .i64 7, .string ⟨n.toArray⟩, .string ⟨t.toArray⟩, .int .i64 a, .slice B b.length c] 33)) w.heap.size 33 #[.int .i64 7, .string ⟨n.toArray⟩, .string ⟨t.toArray⟩, .int .i64 a, .slice B b.length c] := Blk.new _ _ _
  have hB0 := both_more h hw0 (g := w.heap.size) (Nat.le_refl _) (by simp)
  have hS0 : Sl (w.alloc (.cells #[.int .i64 7, .string ⟨n.toArray⟩, .string ⟨t.toArray⟩, .int .i64 a, .slice B b.length c] 33)) (fun k => ¬ And1 K w.heap.size k) 1 (.slice B b.length c) b.length (BVs b) := (hb.weaken (fun k _ hk h => hk (.inl h))).alloc _
  have hK := both_lt h
  have HKK := Lib.hid hK
  clear h hb hK
  go_enter Try.func10, Try.ntmps10
  go_wp2_with fail
  generalize w.alloc (.cells #[.int .i64 7, .string ⟨n.toArray⟩, .string ⟨t.toArray⟩, .int .i64 a, .slice B b.length c] 33) = w0 at hw0 hm0 hB0 hS0 ⊢
  have m0 := hm0.cell 0
  have m1 := hm0.cell 1
  have m2 := hm0.cell 2
  have m3 := hm0.cell 3
  have m4 := hm0.cell 4
  simp only [List.getElem?_toArray, List.getElem?_cons_zero, List.getElem?_cons_succ] at m0 m1 m2 m3 m4
  have HM0 := Lib.hid hm0
  have HW0 := Lib.hid hw0
  have HC1 := Lib.hid (both_left (K := And1 K w.heap.size) (w := w0.drew) (r := (crashS L off a)) (off2 := true) (f := 20) (args := #[.pointer (some ⟨p, 0, none⟩), .int .i64 a]) (both_later hB0 (below_drewN (Below.refl _ w0) 1)) (fun S hD hX => crash_on _ S p L room off a o4 o5 hD))
  have HC2 : Hid (∀ w1, Both (And1 K w.heap.size) w1 p q (crashS L off a).1 L room true off → Ch (fun k => ¬ And1 K w.heap.size k) w0.drew w1 → Calls Try.prog 41 #[.pointer (some ⟨q, 0, none⟩), .int .i64 a] w1 fun e w' => e = .returned (.int .i64 ((crashS L off a).2 : Int)) ∧ Both (And1 K w.heap.size) w' p q (crashS L off a).1 (crashS L off a).1 room true true ∧ Ch (fun k => ¬ And1 K w.heap.size k) w1 w') := Lib.hid fun w1 hb1 hc1 => both_right (r := (crashS L off a)) (off2 := true) hb1 (fun S hD hX => rcrash_any _ S q L room off a o4 o5 hD)
  have HS0 := Lib.hid hS0
  clear hm0 hw0 hB0 hS0
  go_region_held3 (fun w' => w'.cell? ⟨w.heap.size, 1, none⟩ = some (.string ⟨n.toArray⟩) ∧ w'.cell? ⟨w.heap.size, 2, none⟩ = some (.string ⟨t.toArray⟩) ∧ w'.cell? ⟨w.heap.size, 3, none⟩ = some (.int .i64 a) ∧ w'.cell? ⟨w.heap.size, 4, none⟩ = some (.slice B b.length c)) (first | exact ⟨m1, m2, m3, m4⟩ | exact ⟨k1, k2, k3, k4⟩ | exact ⟨j1, j2, j3, j4⟩)
    (first
    | (go_at_call 20; refine HC1.out.mono ?_; rintro e w1 ⟨rfl, hb1, hc1⟩; have hk1 := (show Blk w0.drew _ _ _ from HM0.out).ch hc1 (fun h => h (.inr rfl)); have k1 := hk1.cell 1; have k2 := hk1.cell 2; have k3 := hk1.cell 3; have k4 := hk1.cell 4; simp only [List.getElem?_toArray, List.getElem?_cons_zero, List.getElem?_cons_succ] at k1 k2 k3 k4; have HK1 := Lib.hid hk1; have HB1 := Lib.hid hb1; have HX1 := Lib.hid hc1; clear hk1 hb1 hc1)
    | (go_at_call 41; refine (HC2.out _ HB1.out HX1.out).mono ?_; rintro e w2 ⟨rfl, hb2, hc2⟩; have hj1 := HK1.out.ch hc2 (fun h => h (.inr rfl)); have j1 := hj1.cell 1; have j2 := hj1.cell 2; have j3 := hj1.cell 3; have j4 := hj1.cell 4; simp only [List.getElem?_toArray, List.getElem?_cons_zero, List.getElem?_cons_succ] at j1 j2 j3 j4; have HB2 := Lib.hid hb2; have HX2 := Lib.hid hc2; clear hj1 hb2 hc2))
  all_goals
    go_wp2_with fail
    go_ret
    refine ⟨by first | rfl | simp, both_less HB2.out (fun k hk => .inl hk), ?_⟩
    have hch := ch_of_drew (HX1.out.trans HX2.out (fun _ _ h => h))
    exact (Ch.of_below HW0.out (Nat.le_refl _)).trans (hch.mono (T := fun k => ¬ K k) (fun k _ hk h => hk (.inl h))) (fun _ _ h => h)

set_option maxRecDepth 100000 in
set_option maxHeartbeats 2000000 in
theorem does_Restart (K : Nat → Prop) (w : World) (p q : Nat) (L : List Fl) (room : Nat) (off : Bool) (n t : Tx) (a : Int) (b : Tx) (B : Option Addr) (c : Nat) (ho : wfO ⟨8, n, t, a, b⟩) (hb : Sl w (fun k => ¬ K k) 1 (.slice B b.length c) b.length (BVs b)) (h : Both K w p q L L room off off) :
    Calls Try.prog 10 #[.pointer (some ⟨p, 0, none⟩), .pointer (some ⟨q, 0, none⟩), .agg #[.int .i64 8, .string ⟨n.toArray⟩, .string ⟨t.toArray⟩, .int .i64 a, .slice B b.length c]] w fun e w' => e = .returned (.bool true) ∧ Both K w' p q ((L, if off then 0 else 1) : List Fl × Nat).1 ((L, if off then 0 else 1) : List Fl × Nat).1 room false false ∧ Ch (fun k => ¬ K k) w w' := by
  obtain ⟨o1, o2, o3, o4, o5⟩ := ho
  simp only at o1 o2 o3 o4 o5
  have hw0 : Below w.heap.size w (w.alloc (.cells #[.int .i64 8, .string ⟨n.toArray⟩, .string ⟨t.toArray⟩, .int .i64 a, .slice B b.length c] 33)) := (Below.refl _ w).alloc (Nat.le_refl _) _
  have hm0 : Blk (w.alloc (.cells #[.int .i64 8, .string ⟨n.toArray⟩, .string ⟨t.toArray⟩, .int .i64 a, .slice B b.length c] 33)) w.heap.size 33 #[.int .i64 8, .string ⟨n.toArray⟩, .string ⟨t.toArray⟩, .int .i64 a, .slice B b.length c] := Blk.new _ _ _
  have hB0 := both_more h hw0 (g := w.heap.size) (Nat.le_refl _) (by simp)
  have hS0 : Sl (w.alloc (.cells #[.int .i64 8, .string ⟨n.toArray⟩, .string ⟨t.toArray⟩, .int .i64 a, .slice B b.length c] 33)) (fun k => ¬ And1 K w.heap.size k) 1 (.slice B b.length c) b.length (BVs b) := (hb.weaken (fun k _ hk h => hk (.inl h))).alloc _
  have hK := both_lt h
  have HKK := Lib.hid hK
  clear h hb hK
  go_enter Try.func10, Try.ntmps10
  go_wp2_with fail
  generalize w.alloc (.cells #[.int .i64 8, .string ⟨n.toArray⟩, .string ⟨t.toArray⟩, .int .i64 a, .slice B b.length c] 33) = w0 at hw0 hm0 hB0 hS0 ⊢
  have m0 := hm0.cell 0
  have m1 := hm0.cell 1
  have m2 := hm0.cell 2
  have m3 := hm0.cell 3
  have m4 := hm0.cell 4
  simp only [List.getElem?_toArray, List.getElem?_cons_zero, List.getElem?_cons_succ] at m0 m1 m2 m3 m4
  have HM0 := Lib.hid hm0
  have HW0 := Lib.hid hw0
  have HC1 := Lib.hid (both_left (K := And1 K w.heap.size) (w := w0) (r := ((L, if off then 0 else 1) : List Fl × Nat)) (off2 := false) (f := 21) (args := #[.pointer (some ⟨p, 0, none⟩)]) hB0 (fun S hD hX => restart_did _ S p L room off hD))
  have HC2 : Hid (∀ w1, Both (And1 K w.heap.size) w1 p q ((L, if off then 0 else 1) : List Fl × Nat).1 L room false off → Ch (fun k => ¬ And1 K w.heap.size k) w0 w1 → Calls Try.prog 42 #[.pointer (some ⟨q, 0, none⟩)] w1 fun e w' => e = .returned (.int .i64 (((L, if off then 0 else 1) : List Fl × Nat).2 : Int)) ∧ Both (And1 K w.heap.size) w' p q ((L, if off then 0 else 1) : List Fl × Nat).1 ((L, if off then 0 else 1) : List Fl × Nat).1 room false false ∧ Ch (fun k => ¬ And1 K w.heap.size k) w1 w') := Lib.hid fun w1 hb1 hc1 => both_right (r := ((L, if off then 0 else 1) : List Fl × Nat)) (off2 := false) hb1 (fun S hD hX => rrestart_any _ S q L room off hD)
  have HS0 := Lib.hid hS0
  clear hm0 hw0 hB0 hS0
  go_wp2_with (first
    | (go_at_call 21; refine HC1.out.mono ?_; rintro e w1 ⟨rfl, hb1, hc1⟩; have hk1 := HM0.out.ch hc1 (fun h => h (.inr rfl)); have k1 := hk1.cell 1; have k2 := hk1.cell 2; have k3 := hk1.cell 3; have k4 := hk1.cell 4; simp only [List.getElem?_toArray, List.getElem?_cons_zero, List.getElem?_cons_succ] at k1 k2 k3 k4; have HK1 := Lib.hid hk1; have HB1 := Lib.hid hb1; have HX1 := Lib.hid hc1; clear hk1 hb1 hc1)
    | (go_at_call 42; refine (HC2.out _ HB1.out HX1.out).mono ?_; rintro e w2 ⟨rfl, hb2, hc2⟩; have hj1 := HK1.out.ch hc2 (fun h => h (.inr rfl)); have j1 := hj1.cell 1; have j2 := hj1.cell 2; have j3 := hj1.cell 3; have j4 := hj1.cell 4; simp only [List.getElem?_toArray, List.getElem?_cons_zero, List.getElem?_cons_succ] at j1 j2 j3 j4; have HB2 := Lib.hid hb2; have HX2 := Lib.hid hc2; clear hj1 hb2 hc2))
  all_goals
    go_ret
    refine ⟨by first | rfl | simp, both_less HB2.out (fun k hk => .inl hk), ?_⟩
    have hch := HX1.out.trans HX2.out (fun _ _ h => h)
    exact (Ch.of_below HW0.out (Nat.le_refl _)).trans (hch.mono (T := fun k => ¬ K k) (fun k _ hk h => hk (.inl h))) (fun _ _ h => h)

end Go.Proofs.Ytncppflmpfefkaa.Dq

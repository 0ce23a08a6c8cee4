/-
  Layer 5: the contract of bullalaw05.live.
-/
import Derived.Test.YtepdajhgfdjklaaMl
import Derived.Lib.SlBytesConst
namespace Go.Proofs.Ytepdajhgfdjklaa.Mk
open Go Go.RowKit Ck Im Ik Ia Ib Ic Ig Ih Ij Mm Ma Mb Mc Md Pr Me Mf Mh Mi Mj Ml
attribute [local go_sem ↓] Go.wp_at_zero Go.wp_at_succ
set_option linter.unusedVariables false

theorem root_live (w1 : World) (B p : Nat) (h : TQ B w1.heap.size p [] w1) (hB : B ≤ w1.heap.size) :
    Calls Try.prog 12 #[.pointer (some ⟨p, 0, none⟩), .slice (some ⟨w1.heap.size + 1 + 1 + 1, 0, none⟩) 3 3] (L3 w1)
      fun e w' => e = .returned (.int .i64 5) ∧ TQ B w'.heap.size p tabc w' ∧ Below B w1 w' := by
  have b := l3_below w1
  have hs := b.size
  have := root_tq _ B w1.heap.size p [] (fun k => k < w1.heap.size) _ 3 3 abc rfl (h.after b) (by omega) (by omega) (lits3 w1 _ (fun k hk hx => by omega)) (fun k _ hk => hk) (by omega) (by decide)
  rw [root_abc] at this
  exact this.mono fun _ _ ⟨h1, h2, h3⟩ => ⟨h1, h2, (b.mono hB).trans h3⟩
theorem prove_live (w1 : World) (B q p : Nat) (h : TQ B q p tabc w1) (hB : B ≤ w1.heap.size) (hq : q ≤ w1.heap.size) :
    Calls Try.prog 14 #[.pointer (some ⟨p, 0, none⟩), .int .i64 2, .slice (some ⟨w1.heap.size + 1 + 1 + 1, 0, none⟩) 3 3] (L3 w1)
      fun e w' => ∃ A c, e = .returned (.tuple #[.slice A 1 c, .int .i64 0]) ∧ Sl w' (fun _ => False) 1 (.slice A 1 c) 1 (IVs [3]) ∧ TQ B w'.heap.size p tabc w' ∧ Below B w1 w' := by
  have b := l3_below w1
  have hs := b.size
  have := prove_tq _ B q p tabc (fun k => k < w1.heap.size) _ 3 3 2 abc rfl (h.after b) (by omega) (by omega) (lits3 w1 _ (fun k hk hx => by omega)) (fun k _ hk => by omega) (by omega) (by omega) (by decide)
  rw [prove_abc] at this
  refine this.mono ?_
  rintro e w' ⟨A, c, rfl, hsl, ⟨S, ht, hS, _⟩, hb⟩
  exact ⟨A, c, rfl, hsl.weaken (fun _ _ h => h.elim), ⟨S, ht, hS⟩, (b.mono hB).trans hb⟩
theorem leaf_live (w : World) (B q p : Nat) (x : UInt8) (z : Int) (n : Nat) (hz : z = (x.toNat : Int)) (hs : (sum tabc (leafB [x]), add tabc (leafB [x])) = (n, tabc)) (h : TQ B q p tabc w) (hB : B ≤ w.heap.size) (hq : q ≤ w.heap.size) :
    Calls Try.prog 18 #[.pointer (some ⟨p, 0, none⟩), .slice (some ⟨w.heap.size, 0, none⟩) 1 1] (w.alloc (Lt z)) fun e w' => e = .returned (.int .i64 (n : Int)) ∧ TQ B w'.heap.size p tabc w' ∧ Below B w w' := by
  have b : Below w.heap.size w (w.alloc (Lt z)) := (Below.refl _ w).alloc (Nat.le_refl _) _
  have hbs := b.size
  have hsl : Sl (w.alloc (Lt z)) (fun _ => False) 1 (.slice (some ⟨w.heap.size, 0, none⟩) 1 1) 1 (BVs [x]) := by
    rw [hz]
    exact lit_new w _ x (fun h => h)
  have := leaf_tq _ B q p tabc (fun _ => False) _ 1 [x] (h.after b) (by omega) (by omega) hsl (by omega)
  obtain ⟨h1, h2⟩ := Prod.mk.inj hs
  rw [h1, h2] at this
  exact this.mono fun _ _ ⟨h1, h2, h3⟩ => ⟨h1, h2, (b.mono hB).trans h3⟩
theorem node_live (w : World) (B q p : Nat) (a b : Int) (n : Nat) (hs : (sum tabc (nodeB a b), add tabc (nodeB a b)) = (n, tabc)) (h : TQ B q p tabc w) (hB : B ≤ w.heap.size) (hq : q ≤ w.heap.size) (ha : a ≤ 10) (hb : b ≤ 10) :
    Calls Try.prog 20 #[.pointer (some ⟨p, 0, none⟩), .int .i64 a, .int .i64 b] w fun e w' => e = .returned (.int .i64 (n : Int)) ∧ TQ B w'.heap.size p tabc w' ∧ Below B w w' := by
  have := node_tq w B q p tabc a b h hB hq (by omega) (by omega)
  obtain ⟨h1, h2⟩ := Prod.mk.inj hs
  rw [h1, h2] at this
  exact this

theorem conv1 (W : World) (z : Int) : (convert 41 41 (.slice (some ⟨W.heap.size, 0, none⟩) 1 1)).run Try.prog (W.alloc (.cells #[.int .u8 z] 5)) = .ok (.slice (some ⟨W.heap.size, 0, none⟩) 1 1) (W.alloc (Lt z)) :=
  Lib.run_convert_bytes_const W 41 5 #[.int .u8 z] 1 1 Try.underlying41 Try.underlying5
theorem conv2 (W : World) (o : Obj) (z : Int) : (convert 41 41 (.slice (some ⟨W.heap.size + 1, 0, none⟩) 1 1)).run Try.prog ((W.alloc o).alloc (.cells #[.int .u8 z] 5)) = .ok (.slice (some ⟨W.heap.size + 1, 0, none⟩) 1 1) ((W.alloc o).alloc (Lt z)) := by
  have := conv1 (W.alloc o) z
  simpa using this
theorem conv3 (W : World) (o o' : Obj) (z : Int) : (convert 41 41 (.slice (some ⟨W.heap.size + 1 + 1, 0, none⟩) 1 1)).run Try.prog (((W.alloc o).alloc o').alloc (.cells #[.int .u8 z] 5)) = .ok (.slice (some ⟨W.heap.size + 1 + 1, 0, none⟩) 1 1) (((W.alloc o).alloc o').alloc (Lt z)) := by
  have := conv1 ((W.alloc o).alloc o') z
  simpa using this
set_option maxRecDepth 100000 in
set_option maxHeartbeats 4000000 in
theorem live_any (w : World) : Calls Try.prog 10 #[] w fun e w' => e = .returned (.bool true) ∧ Below w.heap.size w w' := by
  have hcv := conv1
  have hcv2 := conv2
  have hcv3 := conv3
  go_enter Try.func10, Try.ntmps10
  go_wp2_with fail
  refine (newtable_any w).mono ?_
  rintro e w1 ⟨p, rfl, ht1, hb1⟩
  have HT1 : Hid (TQ w.heap.size w1.heap.size p [] w1) := Lib.hid ⟨_, ht1, fun k hk => hk⟩
  have HB1 := Lib.hid hb1
  clear ht1 hb1
  go_wp2_with fail
  refine (root_live w1 w.heap.size p HT1.out HB1.out.size).mono ?_
  rintro e w2 ⟨rfl, ht2, hb2⟩
  have HT2 := Lib.hid ht2
  have HB2 := Lib.hid (HB1.out.trans hb2)
  clear ht2 hb2
  go_wp2_with fail
  refine (leaf_live w2 _ _ p 97 97 1 rfl sums_abc.1 HT2.out HB2.out.size (Nat.le_refl _)).mono ?_
  rintro e w3 ⟨rfl, ht, hb⟩
  have HT3 := Lib.hid ht
  have HB3 := Lib.hid (HB2.out.trans hb)
  clear ht hb
  go_wp2_with fail
  refine (leaf_live w3 _ _ p 98 98 2 rfl sums_abc.2.1 HT3.out HB3.out.size (Nat.le_refl _)).mono ?_
  rintro e w4 ⟨rfl, ht, hb⟩
  have HT4 := Lib.hid ht
  have HB4 := Lib.hid (HB3.out.trans hb)
  clear ht hb
  go_wp2_with fail
  refine (node_live w4 _ _ p 1 2 3 sums_abc.2.2.1 HT4.out HB4.out.size (Nat.le_refl _) (by omega) (by omega)).mono ?_
  rintro e w5 ⟨rfl, ht, hb⟩
  have HT5 := Lib.hid ht
  have HB5 := Lib.hid (HB4.out.trans hb)
  clear ht hb
  go_wp2_with fail
  refine (leaf_live w5 _ _ p 99 99 4 rfl sums_abc.2.2.2.1 HT5.out HB5.out.size (Nat.le_refl _)).mono ?_
  rintro e w6 ⟨rfl, ht, hb⟩
  have HT6 := Lib.hid ht
  have HB6 := Lib.hid (HB5.out.trans hb)
  clear ht hb
  go_wp2_with fail
  refine (node_live w6 _ _ p 3 4 5 sums_abc.2.2.2.2 HT6.out HB6.out.size (Nat.le_refl _) (by omega) (by omega)).mono ?_
  rintro e w7 ⟨rfl, ht, hb⟩
  have HT7 := Lib.hid ht
  have HB7 := Lib.hid (HB6.out.trans hb)
  clear ht hb
  go_wp2_with fail
  refine (prove_live w7 _ _ p HT7.out HB7.out.size (Nat.le_refl _)).mono ?_
  rintro e w8 ⟨A8, c8, rfl, hsl, ht, hb⟩
  have HT8 := Lib.hid ht
  have HB8 := Lib.hid (HB7.out.trans hb)
  have b8 : Below w8.heap.size w8 (w8.alloc (Lt 99)) := (Below.refl _ w8).alloc (Nat.le_refl _) _
  have hv := verify_tq (w8.alloc (Lt 99)) _ _ p tabc (fun _ => False) (fun _ => False) 5 2 3 A8 c8 1 [3] (.slice (some ⟨w8.heap.size, 0, none⟩) 1 1) [99] rfl (ht.after b8) (by omega) (hsl.after b8) (by decide)
    (lit_new w8 _ 99 (fun h => h)) (by decide) (by omega)
  rw [verify_abc] at hv
  have HV := Lib.hid hv
  have HB9 := Lib.hid (HB8.out.trans (b8.mono HB8.out.size))
  clear ht hb hsl b8 hv
  have HS : Hid (∀ W : World, Calls Try.prog 22 #[.int .i64 5] W fun e w' => e = .returned (.int .i64 4) ∧ W = w') := Lib.hid fun W => by
    have := split_any W 5 (by omega)
    rw [show split (5 : Int).toNat = 4 from by decide +kernel] at this
    exact this
  go_wp2_with fail
  refine HV.out.mono ?_
  rintro e w9 ⟨rfl, ht, hb⟩
  have HB10 := Lib.hid (HB9.out.trans (hb.mono HB9.out.size))
  clear ht hb
  go_wp2_with fail
  refine (HS.out _).mono ?_
  rintro e w10 ⟨rfl, rfl⟩
  go_wp2_with fail
  go_ret
  exact ⟨rfl, HB10.out⟩

end Go.Proofs.Ytepdajhgfdjklaa.Mk

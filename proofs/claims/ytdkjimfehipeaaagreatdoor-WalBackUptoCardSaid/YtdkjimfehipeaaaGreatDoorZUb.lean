import Derived.Test.YtdkjimfehipeaaaGreatDoorT14
import Derived.Test.YtdkjimfehipeaaaGreatDoorZDn
/-
  Contracts of layer 4: a log that no call made.
-/
namespace Go.Proofs.YtdkjimfehipeaaaGreatDoor.Ub
open Go Go.RowKit Ck Kw Ga Dm Dw Da Db Dc Dd De Df Dg Dh Wc Wf Wa Wb Wd
attribute [local go_sem ↓] Go.wp_at_zero Go.wp_at_succ
set_option linter.unusedVariables false

/-- A log that no call made: no pointer, or a pointer to nothing but zeros. -/
def UnL (w : World) (v : Value) : Prop := v = .pointer none ∨ ∃ g s, v = .pointer (some ⟨g, 0, none⟩) ∧ Blk w g 64 #[.pointer none, .string s, .int .i64 0, .slice none 0 0, .int .i64 0]
theorem UnL.later {w w' : World} {v : Value} (h : UnL w v) (b : Below w.heap.size w w') : UnL w' v := by
  rcases h with h | ⟨g, s, h1, h2⟩
  · exact .inl h
  · exact .inr ⟨g, s, h1, h2.below b h2.lt⟩
theorem madeL_un (w : World) (v : Value) (h : UnL w v) : Calls Tryz.prog 53 #[v] w fun e w' => e = .returned (.bool false) ∧ w = w' := by
  rcases h with rfl | ⟨g, s, rfl, hb⟩
  · go_enter Tryz.func53, Tryz.ntmps53
    go_wp2
    go_ret
    exact ⟨rfl, rfl⟩
  · have c0 := hb.cell 0
    simp only [List.getElem?_toArray, List.getElem?_cons_zero] at c0
    clear hb
    go_enter Tryz.func53, Tryz.ntmps53
    go_wp2
    go_ret
    exact ⟨rfl, rfl⟩
theorem append_un (w : World) (v x : Value) (h : UnL w v) : Calls Tryz.prog 18 #[v, x] w fun e w' => e = .returned (.tuple #[.int .i64 0, .int .i64 2]) ∧ w = w' := by
  have HM := Lib.hid (madeL_un w v h)
  clear h
  go_enter Tryz.func18, Tryz.ntmps18
  go_wp2_with (go_at_call 53; refine HM.out.mono ?_; rintro e w1 ⟨rfl, rfl⟩)
  go_ret2
  exact ⟨rfl, rfl⟩
theorem get_un (w : World) (v x : Value) (h : UnL w v) : Calls Tryz.prog 35 #[v, x] w fun e w' => e = .returned (.tuple #[.slice none 0 0, .int .i64 2]) ∧ w = w' := by
  have HM := Lib.hid (madeL_un w v h)
  clear h
  go_enter Tryz.func35, Tryz.ntmps35
  go_wp2_with (go_at_call 53; refine HM.out.mono ?_; rintro e w1 ⟨rfl, rfl⟩)
  go_ret2
  exact ⟨rfl, rfl⟩
theorem syncL_un (w : World) (v : Value) (h : UnL w v) : Calls Tryz.prog 20 #[v] w fun e w' => e = .returned (.int .i64 2) ∧ w = w' := by
  have HM := Lib.hid (madeL_un w v h)
  clear h
  go_enter Tryz.func20, Tryz.ntmps20
  go_wp2_with (go_at_call 53; refine HM.out.mono ?_; rintro e w1 ⟨rfl, rfl⟩)
  go_ret
  exact ⟨rfl, rfl⟩
theorem rollL_un (w : World) (v : Value) (h : UnL w v) : Calls Tryz.prog 21 #[v] w fun e w' => e = .returned (.int .i64 2) ∧ w = w' := by
  have HM := Lib.hid (syncL_un w v h)
  clear h
  go_enter Tryz.func21, Tryz.ntmps21
  go_wp2_with (go_at_call 20; refine HM.out.mono ?_; rintro e w1 ⟨rfl, rfl⟩)
  go_ret
  exact ⟨rfl, rfl⟩
theorem pruneL_un (w : World) (v x : Value) (h : UnL w v) : Calls Tryz.prog 22 #[v, x] w fun e w' => e = .returned (.int .i64 2) ∧ w = w' := by
  have HM := Lib.hid (madeL_un w v h)
  clear h
  go_enter Tryz.func22, Tryz.ntmps22
  go_wp2_with (go_at_call 53; refine HM.out.mono ?_; rintro e w1 ⟨rfl, rfl⟩)
  go_ret
  exact ⟨rfl, rfl⟩
theorem firstL_un (w : World) (v : Value) (h : UnL w v) : Calls Tryz.prog 25 #[v] w fun e w' => e = .returned (.int .i64 0) ∧ w = w' := by
  have HM := Lib.hid (madeL_un w v h)
  clear h
  go_enter Tryz.func25, Tryz.ntmps25
  go_wp2_with (go_at_call 53; refine HM.out.mono ?_; rintro e w1 ⟨rfl, rfl⟩)
  go_ret
  exact ⟨rfl, rfl⟩
theorem lastL_un (w : World) (v : Value) (h : UnL w v) : Calls Tryz.prog 24 #[v] w fun e w' => e = .returned (.int .i64 0) ∧ w = w' := by
  have HM := Lib.hid (madeL_un w v h)
  clear h
  go_enter Tryz.func24, Tryz.ntmps24
  go_wp2_with (go_at_call 53; refine HM.out.mono ?_; rintro e w1 ⟨rfl, rfl⟩)
  go_ret
  exact ⟨rfl, rfl⟩
theorem syncedL_un (w : World) (v : Value) (h : UnL w v) : Calls Tryz.prog 23 #[v] w fun e w' => e = .returned (.int .i64 0) ∧ w = w' := by
  have HM := Lib.hid (madeL_un w v h)
  clear h
  go_enter Tryz.func23, Tryz.ntmps23
  go_wp2_with (go_at_call 53; refine HM.out.mono ?_; rintro e w1 ⟨rfl, rfl⟩)
  go_ret
  exact ⟨rfl, rfl⟩

theorem segmentsL_un (w : World) (v : Value) (h : UnL w v) : Calls Tryz.prog 36 #[v] w fun e w' => e = .returned (.int .i64 0) ∧ w = w' := by
  have HM := Lib.hid (madeL_un w v h)
  clear h
  go_enter Tryz.func36, Tryz.ntmps36
  go_wp2_with (go_at_call 53; refine HM.out.mono ?_; rintro e w1 ⟨rfl, rfl⟩)
  go_ret
  exact ⟨rfl, rfl⟩
theorem readyL_un (w : World) (v : Value) (h : Un w v) : Calls Tryz.prog 48 #[v] w fun e w' => e = .returned (.int .i64 2) ∧ w = w' := by
  have HC := Lib.hid (Dn.synced_un w v ⟨#[]⟩ h)
  clear h
  go_enter Tryz.func48, Tryz.ntmps48
  go_wp2_with (go_at_call 88; refine HC.out.mono ?_; rintro e w2 ⟨rfl, rfl⟩)
  go_ret
  exact ⟨rfl, rfl⟩
theorem openL_un (w : World) (v x y : Value) (h : Un w v) : Calls Tryz.prog 17 #[v, x, y] w fun e w' => e = .returned (.tuple #[.pointer none, .int .i64 2]) ∧ w = w' := by
  have HC := Lib.hid (readyL_un w v h)
  clear h
  go_enter Tryz.func17, Tryz.ntmps17
  go_wp2_with (go_at_call 48; refine HC.out.mono ?_; rintro e w2 ⟨rfl, rfl⟩)
  go_ret2
  exact ⟨rfl, rfl⟩
theorem allL_un (w : World) (v : Value) (h : UnL w v) : Calls Tryz.prog 29 #[v] w fun e w' => e = .returned (.func (.func 66) #[] #[.pointer (some ⟨w.heap.size, 0, none⟩)]) ∧ w' = w.alloc (.cells #[.slice none 0 0] 62) := by
  have HM := Lib.hid (madeL_un (w.alloc (.cells #[.slice none 0 0] 62)) v (h.later ((Below.refl _ w).alloc (Nat.le_refl _) _)))
  clear h
  go_enter Tryz.func29, Tryz.ntmps29
  go_wp2_with (go_at_call 53; refine HM.out.mono ?_; rintro e w1 ⟨rfl, rfl⟩)
  go_ret
  exact ⟨rfl, rfl⟩

end Go.Proofs.YtdkjimfehipeaaaGreatDoor.Ub

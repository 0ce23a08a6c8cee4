import Derived.Test.YtdkjimfehipeaaaGreatDoorT14
/-
  The program's Open at a name or size that may not be.
-/
namespace Go.Proofs.YtdkjimfehipeaaaGreatDoor.Hg
open Go Go.RowKit Ck Kw Ga Dm Dw Da Db Dc Dd De Df Dg Dh Wc Wf Wa Wb Wd Wn We Kx Wg Wh Wl Wj Wk Wo Wq Wr Ws Wt Wu Wv Ww Wx Wy Wz Va
attribute [local go_sem ↓] Go.wp_at_zero Go.wp_at_succ
set_option linter.unusedVariables false

set_option maxRecDepth 100000 in
set_option maxHeartbeats 2000000 in
theorem open_bad (w : World) (S : Nat → Prop) (p room : Nat) (name : Tx) (most : Int) (h : Dk w S p [] room false) (hl : name.length ≤ 140737488351232) (hn : okName name = false ∨ most < 64 ∨ 4194304 < most) :
    Calls Tryz.prog 17 #[.pointer (some ⟨p, 0, none⟩), .string ⟨name.toArray⟩, .int .i64 most] w fun e w' => e = .returned (.tuple #[.pointer none, .int .i64 1]) ∧ Below w.heap.size w w' := by
  have HRD := Lib.hid (ready_on_ w S p [] room h rfl)
  have HIS := Lib.hid (isname_any w name hl)
  have HN := Lib.hid hn
  clear h hn
  by_cases ho : okName name = true
  · by_cases m1 : most < 64
    · go_enter Tryz.func17, Tryz.ntmps17
      go_wp2_with fail
      refine HRD.out.mono ?_
      rintro e w1 ⟨rfl, rfl⟩
      go_wp2_with fail
      refine HIS.out.mono ?_
      rintro e w1 ⟨rfl, hb1⟩
      rw [ho]
      have HB1 := Lib.hid hb1
      clear hb1
      go_wp2_with fail
      go_ret2
      exact ⟨rfl, HB1.out⟩
    · have m2 : 4194304 < most := by
        rcases HN.out with h | h | h
        · rw [h] at ho; cases ho
        · exact absurd h m1
        · exact h
      go_enter Tryz.func17, Tryz.ntmps17
      go_wp2_with fail
      refine HRD.out.mono ?_
      rintro e w1 ⟨rfl, rfl⟩
      go_wp2_with fail
      refine HIS.out.mono ?_
      rintro e w1 ⟨rfl, hb1⟩
      rw [ho]
      have HB1 := Lib.hid hb1
      clear hb1
      go_wp2_with fail
      go_ret2
      exact ⟨rfl, HB1.out⟩
  · have ho : okName name = false := by simpa using ho
    go_enter Tryz.func17, Tryz.ntmps17
    go_wp2_with fail
    refine HRD.out.mono ?_
    rintro e w1 ⟨rfl, rfl⟩
    go_wp2_with fail
    refine HIS.out.mono ?_
    rintro e w1 ⟨rfl, hb1⟩
    rw [ho]
    have HB1 := Lib.hid hb1
    clear hb1
    go_wp2_with fail
    go_ret2
    exact ⟨rfl, HB1.out⟩

end Go.Proofs.YtdkjimfehipeaaaGreatDoor.Hg

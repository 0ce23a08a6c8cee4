import Derived.Test.YtdkjimfehipeaaaGreatDoorT14
import Derived.Test.YtdkjimfehipeaaaGreatDoorZVu
/-
  WalFrames: the walk.
-/
namespace Go.Proofs.YtdkjimfehipeaaaGreatDoor.Yf
open Go Go.RowKit Ck Kw Ga Wc Wf Wa Wb Wd We Vr Vs Vt Vu
attribute [local go_sem ↓] Go.wp_at_zero Go.wp_at_succ
set_option linter.unusedVariables false

def frameS (b : Bs) : Bs × Nat := if b.length ≤ 524288 then (frame b, 0) else ([], 3)
/-- What Frame answers. -/
def FrameP (w : World) (r : Bs × Nat) (e : Ending) (w' : World) : Prop :=
  ∃ A c, e = .returned (.tuple #[.slice A r.1.length c, .int .i64 (r.2 : Int)]) ∧ w'.ownsRow w.heap.size 5 1 (.slice A r.1.length c) r.1.length (BVs r.1) ∧ Below w.heap.size w w'
theorem frame_p (w : World) (X : Nat → Prop) (A : Option Addr) (c : Nat) (b : Bs) (h : Sl w X 1 (.slice A b.length c) b.length (BVs b)) : Calls Tryz.prog 8 #[.slice A b.length c] w (FrameP w (frameS b)) := by
  unfold frameS
  by_cases hb : b.length ≤ 524288
  · rw [if_pos hb]
    exact frame_any w X A c b h hb
  · rw [if_neg hb]
    refine (frame_long w A b.length c (by omega)).mono ?_
    rintro e w' ⟨rfl, rfl⟩
    exact ⟨none, 0, rfl, World.ownsRow_nil _ _ _ _, Below.refl _ _⟩
theorem rframe_p (w : World) (X : Nat → Prop) (A : Option Addr) (c : Nat) (b : Bs) (h : Sl w X 1 (.slice A b.length c) b.length (BVs b)) : Calls Tryz.prog 9 #[.slice A b.length c] w (FrameP w (frameS b)) := by
  unfold frameS
  by_cases hb : b.length ≤ 524288
  · rw [if_pos hb]
    exact rframe_any w X A c b h hb
  · rw [if_neg hb]
    refine (rframe_long w A b.length c (by omega)).mono ?_
    rintro e w' ⟨rfl, rfl⟩
    exact ⟨none, 0, rfl, World.ownsRow_nil _ _ _ _, Below.refl _ _⟩
/-- What Unframe answers: with a record, or with none. -/
def UnP (w : World) (r : Bs × Nat × Bool) (e : Ending) (w' : World) : Prop :=
  ∃ A c, e = .returned (.tuple #[.slice A r.1.length c, .int .i64 (r.2.1 : Int), .bool r.2.2]) ∧ w'.ownsRow w.heap.size 5 1 (.slice A r.1.length c) r.1.length (BVs r.1) ∧ Below w.heap.size w w'
theorem un_p (b : Bs) (hb : b.length ≤ 140737488355328) : ∃ r : Bs × Nat × Bool, (∀ (w : World) (X : Nat → Prop) (A : Option Addr) (c : Nat), Sl w X 1 (.slice A b.length c) b.length (BVs b) → Calls Tryz.prog 10 #[.slice A b.length c] w (UnP w r)) ∧
    (∀ (w : World) (X : Nat → Prop) (A : Option Addr) (c : Nat), Sl w X 1 (.slice A b.length c) b.length (BVs b) → Calls Tryz.prog 11 #[.slice A b.length c] w (UnP w r)) := by
  by_cases hf : ∃ x r, Fr b x r
  · obtain ⟨x, r, hf⟩ := hf
    exact ⟨(x, (frame x).length, true), fun w X A c h => unframe_yes w X A c b x r h hb hf, fun w X A c h => runframe_yes w X A c b x r h hb hf⟩
  · have hf : ∀ x r, ¬ Fr b x r := fun x r h => hf ⟨x, r, h⟩
    refine ⟨([], 0, false), fun w X A c h => (unframe_no w X A c b h hb hf).mono ?_, fun w X A c h => (runframe_no w X A c b h hb hf).mono ?_⟩
    · rintro e w' ⟨rfl, hb⟩
      exact ⟨none, 0, rfl, World.ownsRow_nil _ _ _ _, hb⟩
    · rintro e w' ⟨rfl, hb⟩
      exact ⟨none, 0, rfl, World.ownsRow_nil _ _ _ _, hb⟩

set_option maxRecDepth 100000 in
set_option maxHeartbeats 8000000 in
theorem frames_law (w : World) (X Y : Nat → Prop) (A B : Option Addr) (c d : Nat) (b x : Bs) (hT : Tab w) (h : Sl w X 1 (.slice A b.length c) b.length (BVs b)) (k : Sl w Y 1 (.slice B x.length d) x.length (BVs x)) (hx : x.length ≤ 140737488355328) :
    Calls Tryz.prog 3 #[.slice A b.length c, .slice B x.length d] w fun e w' => e = .returned (.bool true) ∧ Below w.heap.size w w' := by
  obtain ⟨⟨u, n, is⟩, hu1, hu2⟩ := un_p x hx
  have HT := Lib.hid hT
  have H := Lib.hid h
  have K := Lib.hid k
  have HU1 := Lib.hid hu1
  have HU2 := Lib.hid hu2
  obtain ⟨⟨fb, fc⟩, hfr⟩ : ∃ r, r = frameS b := ⟨_, rfl⟩
  have HF1 := Lib.hid (frame_p w X A c b h)
  rw [← hfr] at HF1
  have HF2 : Hid (∀ W, Below w.heap.size w W → Calls Tryz.prog 9 #[.slice A b.length c] W (FrameP W (fb, fc))) := Lib.hid fun W hb => by rw [hfr]; exact rframe_p W X A c b (h.after hb)
  clear hT h k hu1 hu2 hfr hx
  go_enter Tryz.func3, Tryz.ntmps3
  go_wp2_with fail
  refine HF1.out.mono ?_
  rintro e w1 ⟨A1, c1, rfl, ho1, hb1⟩
  have HO1 := Lib.hid ho1
  have HB1 := Lib.hid hb1
  have HF2 := Lib.hid (HF2.out w1 hb1)
  clear ho1 hb1 HF1
  go_wp2_with fail
  refine HF2.out.mono ?_
  rintro e w2 ⟨A2, c2, rfl, ho2, hb2⟩
  have HO2 := Lib.hid ho2
  have HB12 := Lib.hid hb2
  have HB2 := Lib.hid (HB1.out.trans (hb2.mono HB1.out.size))
  have HU1 := Lib.hid (HU1.out w2 Y B d (K.out.after HB2.out))
  clear ho2 hb2 HF2
  go_wp2_with fail
  refine HU1.out.mono ?_
  rintro e w3 ⟨A3, c3, rfl, ho3, hb3⟩
  have HO3 := Lib.hid ho3
  have HB23 := Lib.hid hb3
  have HB3 := Lib.hid (HB2.out.trans (hb3.mono HB2.out.size))
  have HU2 := Lib.hid (HU2.out w3 Y B d (K.out.after HB3.out))
  clear ho3 hb3 HU1
  go_wp2_with fail
  refine HU2.out.mono ?_
  rintro e w4 ⟨A4, c4, rfl, ho4, hb4⟩
  have HO4 := Lib.hid ho4
  have HB34 := Lib.hid hb4
  have HB4 := Lib.hid (HB3.out.trans (hb4.mono HB3.out.size))
  have HBG := Lib.hid (Vd.begun_any w4 (HT.out.after HB4.out))
  clear ho4 hb4 HU2
  go_wp2_with fail
  refine HBG.out.mono ?_
  rintro e w5 ⟨rfl, hb5⟩
  have HB45 := Lib.hid hb5
  have HB5 := Lib.hid (HB4.out.trans (hb5.mono HB4.out.size))
  have HS1 := Lib.hid (sum_any w5 X A c b (H.out.after HB5.out))
  have HS2 := Lib.hid (rsum_any w5 X A c b (H.out.after HB5.out))
  have q1 : Sl w5 (fun _ => False) 1 (.slice A1 fb.length c1) fb.length (BVs fb) := Sl.of_own (own_below (own_below (own_below (own_below HO1.out HB12.out) HB23.out) HB34.out) HB45.out) (fun _ _ _ h => h)
  have q2 : Sl w5 (fun _ => False) 1 (.slice A2 fb.length c2) fb.length (BVs fb) := Sl.of_own (own_below (own_below (own_below HO2.out HB23.out) HB34.out) HB45.out) (fun _ _ _ h => h)
  have q3 : Sl w5 (fun _ => False) 1 (.slice A3 u.length c3) u.length (BVs u) := Sl.of_own (own_below (own_below HO3.out HB34.out) HB45.out) (fun _ _ _ h => h)
  have q4 : Sl w5 (fun _ => False) 1 (.slice A4 u.length c4) u.length (BVs u) := Sl.of_own (own_below HO4.out HB45.out) (fun _ _ _ h => h)
  have HE1 := Lib.hid (equal_any w5 _ _ _ _ _ _ fb fb q1 q2)
  have HE2 := Lib.hid (equal_any w5 _ _ _ _ _ _ u u q3 q4)
  have e1 : (fb == fb) = true := beq_self_eq_true _
  have e2 : (u == u) = true := beq_self_eq_true _
  rw [e1] at HE1
  rw [e2] at HE2
  obtain ⟨su, hsu⟩ : ∃ su, su = sum b := ⟨_, rfl⟩
  rw [← hsu] at HS1 HS2
  clear hb5 HBG q1 q2 q3 q4 e1 e2 hsu
  dsimp only
  go_wp2_with fail
  refine HS1.out.mono ?_
  rintro e w6 ⟨rfl, rfl⟩
  go_wp2_with fail
  refine HS2.out.mono ?_
  rintro e w6 ⟨rfl, rfl⟩
  go_wp2_with fail
  refine HE1.out.mono ?_
  rintro e w6 ⟨rfl, rfl⟩
  go_wp2_with fail
  refine HE2.out.mono ?_
  rintro e w6 ⟨rfl, rfl⟩
  go_wp2_with fail
  go_ret
  exact ⟨by simp, HB5.out⟩

end Go.Proofs.YtdkjimfehipeaaaGreatDoor.Yf

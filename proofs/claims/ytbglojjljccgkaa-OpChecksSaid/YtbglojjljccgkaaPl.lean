/-
  Layer 6 (op): the contract of bullalaw06.begun; the walk of the statement OpNames.
-/
import Derived.Test.YtbglojjljccgkaaPk
namespace Go.Proofs.Ytbglojjljccgkaa.Pl
open Go Go.RowKit Ck Kw Ca Cb Cc Ci Pm Pa Pb Pc Pd Pe Pf Pg Ph Ppi Kx Pk
set_option linter.unusedVariables false

/-- The operation that begun asks about. -/
def o0 : O := ⟨2, [116], [], 0, [[9]]⟩
theorem form0 : form o0 = [2, 1, 116, 1, 1, 9] := by decide +kernel
theorem check0 : check o0 = 0 := by decide +kernel
def W0 (w : World) : World := (w.alloc (.cells #[.int .u8 9] 5)).alloc (.cells #[.slice (some ⟨w.heap.size, 0, none⟩) 1 1] 33)
theorem w0_below (w : World) : Below w.heap.size w (W0 w) := ((Below.refl _ w).alloc (Nat.le_refl _) _).alloc (by simp) _
theorem oi0 (w : World) : OI (W0 w) (fun _ => False) (OV o0 (some ⟨w.heap.size + 1, 0, none⟩) 1) o0 := by
  refine ⟨_, _, rfl, [.slice (some ⟨w.heap.size, 0, none⟩) 1 1], ?_, fun i hi => ?_⟩
  · have h := one_newv (w.alloc (.cells #[.int .u8 9] 5)) (fun _ => False) 33 (.slice (some ⟨w.heap.size, 0, none⟩) 1 1) (fun h => h)
    have h2 : Sl (W0 w) (fun _ => False) 1 (.slice (some ⟨w.heap.size + 1, 0, none⟩) 1 1) 1 [.slice (some ⟨w.heap.size, 0, none⟩) 1 1] := by simpa [W0] using h
    exact h2
  · have hi0 : i = 0 := by simp [o0] at hi; omega
    subst hi0
    refine ⟨_, rfl, ?_⟩
    have h := Sl_lit w (fun _ => False) 5 [9] (cs := #[.int .u8 9]) (n := 1) rfl rfl (by omega) (fun h => h)
    exact h.alloc _
theorem six_new (w : World) : Sl (w.alloc (.cells #[.int .u8 2, .int .u8 1, .int .u8 116, .int .u8 1, .int .u8 1, .int .u8 9] 5)) (fun _ => False) 1 (.slice (some ⟨w.heap.size, 0, none⟩) 6 6) 6 (BVs [2, 1, 116, 1, 1, 9]) :=
  Sl_lit w (fun _ => False) 5 [2, 1, 116, 1, 1, 9] rfl rfl (by omega) (fun h => h)

set_option maxRecDepth 100000 in
set_option maxHeartbeats 2000000 in
theorem begun_any (w : World) : Calls Try.prog 9 #[] w fun e w' => e = .returned (.bool true) ∧ Below w.heap.size w w' := by
  have HB := Lib.hid (bytes_any o0 _ _ _ (oi0 w) (by decide))
  have H0 := Lib.hid (w0_below w)
  unfold OV o0 W0 at HB
  simp only at HB
  go_enter Try.func9, Try.ntmps9
  go_wp2_with fail
  refine HB.out.mono ?_
  rintro e w2 ⟨v2, he, hown2, hb2⟩
  have hc0 := check0
  have hf0 := form0
  unfold o0 at hc0 hf0
  rw [hc0] at he
  subst he
  rw [hf0] at hown2
  have HB2 : Hid (Below w.heap.size w w2) := Lib.hid (H0.out.trans (hb2.mono H0.out.size))
  have HO2 := Lib.hid hown2
  clear hown2 hb2 hc0 hf0
  go_wp2_with fail
  refine (equal_any _ (fun _ => False) (fun _ => False) v2 _ _ _ [2, 1, 116, 1, 1, 9] [2, 1, 116, 1, 1, 9] ((Sl.of_own HO2.out (fun _ _ _ h => h)).alloc _) (six_new w2)).mono ?_
  rintro e w3 ⟨he, rfl⟩
  have he : e = .returned (.bool true) := he
  subst he
  have HB3 : Hid (Below w.heap.size w (w2.alloc (.cells #[.int .u8 2, .int .u8 1, .int .u8 116, .int .u8 1, .int .u8 1, .int .u8 9] 5))) := Lib.hid (HB2.out.alloc HB2.out.size _)
  go_wp2_with fail
  refine (runes_any [103, 114, 195, 182, 195, 159, 101] _).mono ?_
  rintro e w4 ⟨he, hb4⟩
  have hr : runes [103, 114, 195, 182, 195, 159, 101] = 5 := by decide +kernel
  rw [hr] at he
  subst he
  have HB4 := Lib.hid (HB3.out.trans (hb4.mono HB3.out.size))
  clear hb4 hr
  go_wp2_with fail
  refine (name_any [97, 32, 98] _).mono ?_
  rintro e w5 ⟨he, hb5⟩
  have hn : name [97, 32, 98] = false := by decide +kernel
  rw [hn] at he
  subst he
  have HB5 := Lib.hid (HB4.out.trans (hb5.mono HB4.out.size))
  clear hb5 hn
  go_wp2_with fail
  go_ret
  exact ⟨rfl, HB5.out⟩

set_option maxHeartbeats 1000000 in
theorem opnames_any (w : World) (l : Tx) : Calls Try.prog 3 #[.string ⟨l.toArray⟩] w fun e w' => e = .returned (.bool true) ∧ Below w.heap.size w w' := by
  have e1 : ∀ b : Bool, (b == b) = true := fun b => by cases b <;> rfl
  go_enter Try.func3, Try.ntmps3
  go_wp2_with fail
  refine (begun_any w).mono ?_
  rintro e w1 ⟨rfl, hb1⟩
  have HB1 := Lib.hid hb1
  clear hb1
  go_wp2_with fail
  refine (name_any l _).mono ?_
  rintro e w2 ⟨rfl, hb2⟩
  have HB2 := Lib.hid (HB1.out.trans (hb2.mono HB1.out.size))
  clear hb2
  go_wp2_with fail
  refine (rname_any l _).mono ?_
  rintro e w3 ⟨rfl, hb3⟩
  have HB3 := Lib.hid (HB2.out.trans (hb3.mono HB2.out.size))
  clear hb3
  generalize name l = q at *
  have hq := e1 q
  go_wp2_with fail
  refine (runes_any l _).mono ?_
  rintro e w4 ⟨rfl, hb4⟩
  have HB4 := Lib.hid (HB3.out.trans (hb4.mono HB3.out.size))
  clear hb4
  go_wp2_with fail
  refine (rrunes_any l _).mono ?_
  rintro e w5 ⟨rfl, hb5⟩
  have HB5 := Lib.hid (HB4.out.trans (hb5.mono HB4.out.size))
  clear hb5
  generalize runes l = r at *
  go_wp2_with fail
  go_ret
  exact ⟨by simp, HB5.out⟩

end Go.Proofs.Ytbglojjljccgkaa.Pl

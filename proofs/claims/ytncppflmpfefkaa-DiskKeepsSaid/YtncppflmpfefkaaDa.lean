/-
  Contracts of the program's file: sync, cut, tear, clone.
-/
import Derived.Test.YtncppflmpfefkaaGa
import Derived.Test.YtncppflmpfefkaaDw
namespace Go.Proofs.Ytncppflmpfefkaa.Da
open Go Go.RowKit Ck Kw Ga Dm Dw
attribute [local go_sem ↓] Go.wp_at_zero Go.wp_at_succ
set_option linter.unusedVariables false

theorem fsync_any (w : World) (T : Nat → Prop) (g d : Nat) (b : Tx) (h : Fw w T g b d) :
    Calls Try.prog 56 #[.pointer (some ⟨g, 0, none⟩)] w fun e w' => e = .returned (.tuple #[]) ∧ Fw w' T g b b.length ∧ Ch T w w' := by
  obtain ⟨v, h1, h2, h3, h4, h5, h6⟩ := h
  obtain ⟨A, c, rfl⟩ := own_shape h2
  have c0 : w.cell? ⟨g, 0, none⟩ = some (.slice A b.length c) := h1.cell 0
  have c1 : w.cell? ⟨g, 1, none⟩ = some (.int .i64 (d : Int)) := h1.cell 1
  have f1 : w.frozen? ⟨g, 1, none⟩ = false := h1.frozen 1
  have HH := Lib.hid (And.intro h1 (And.intro h2 (And.intro h3 (And.intro h4 h5))))
  have hff := own_far h2 h1 (by decide)
  have HF := Lib.hid hff
  clear h1 h2 h3 h4 h5 h6 hff
  go_enter Try.func56, Try.ntmps56
  go_wp2
  go_end0
  obtain ⟨h1, h2, h3, h4, h5⟩ := HH.out
  refine ⟨rfl, ⟨_, (h1.set_ 1 _), ?_, h3, h4, h5, Nat.le_refl _⟩, (Ch.refl T w).setCell (fun _ => h3) _⟩
  exact own_ch h2 ((Ch.refl (fun k => k = g) w).setCell (fun _ => rfl) _) (fun k hk e => HF.out (by rw [hk, e]))

theorem BVs_take (b : List UInt8) (k : Nat) : BVs (b.take k) = (BVs b).take (k * 1) := by simp [BVs]
theorem BVs_drop (b : List UInt8) (k : Nat) : BVs (b.drop k) = (BVs b).drop (k * 1) := by simp [BVs]
theorem min_int (x y : Nat) : min (x : Int) (y : Int) = ((min x y : Nat) : Int) := by omega

set_option maxHeartbeats 400000 in
theorem fcut_any (w : World) (T : Nat → Prop) (g d : Nat) (b : Tx) (k : Nat) (hk : k ≤ b.length) (h : Fw w T g b d) :
    Calls Try.prog 57 #[.pointer (some ⟨g, 0, none⟩), .int .i64 (k : Int)] w fun e w' => e = .returned (.tuple #[]) ∧ Fw w' (Up T w w') g (b.take k) (min d k) ∧ Ch T w w' := by
  obtain ⟨v, h1, h2, h3, h4, h5, h6⟩ := h
  obtain ⟨A, c, rfl⟩ := own_shape h2
  have c0 : w.cell? ⟨g, 0, none⟩ = some (.slice A b.length c) := h1.cell 0
  have hsl : Sl w (fun _ => False) 1 (.slice A b.length c) b.length (BVs b) := Sl.of_own h2 (fun _ _ _ h => h)
  have hcc : b.length ≤ c := by
    obtain ⟨A0, c0, hv, _, hc, _⟩ := hsl
    injection hv with _ _ e
    omega
  have hs := fun W => slice_upto A b.length c k (by omega) W
  have hut : Sl w (fun _ => False) 1 (.slice A k c) k (BVs (b.take k)) := by rw [BVs_take]; exact hsl.upto hk
  have HU := Lib.hid hut
  have HH := Lib.hid (And.intro h1 (And.intro h2 (And.intro h3 (And.intro h4 (And.intro h5 h6)))))
  clear h1 h2 h3 h4 h5 h6 hsl hcc hut
  go_enter Try.func57, Try.ntmps57
  go_wp2_with (go_at_call 32; refine (clone_sh (fun _ => False) _ k (b.take k) _ HU.out (by have := HH.out.2.2.2.2.1; omega)).mono ?_; rintro e w2 ⟨A2, c2, rfl, ho2, hb2⟩; have k1 := HH.out.1.below hb2 HH.out.1.lt; have c2' := k1.cell 0; have c1 := k1.cell 1; have f0 := k1.frozen 0; have f1 := k1.frozen 1; simp only [List.getElem?_toArray, List.getElem?_cons_zero, List.getElem?_cons_succ] at c1 c2')
  rw [min_int]
  go_end0
  obtain ⟨h1, h2, h3, h4, h5, h6⟩ := HH.out
  have hlen : (b.take k).length = k := by rw [List.length_take]; omega
  have hg2 := own_far ho2 k1 (by decide)
  have ho3 : w2.ownsRow 0 5 1 (.slice A2 k c2) (b.take k).length (BVs (b.take k)) := by
    have := own_base (b' := 0) ho2 (Nat.zero_le _)
    rw [hlen] at this ⊢
    exact this
  rw [hlen] at ho2 hg2
  have hc : Ch (fun k => k = g) w2 ((w2.setCell ⟨g, 0, none⟩ (.slice A2 k c2)).setCell ⟨g, 1, none⟩ (.int .i64 ((min d k : Nat) : Int))) := ((Ch.refl (fun k => k = g) w2).setCell (p := ⟨g, 0, none⟩) (fun _ => rfl) _).setCell (p := ⟨g, 1, none⟩) (fun _ => rfl) _
  have hsz := hb2.size
  refine ⟨rfl, ⟨_, (k1.set_ 0 _).set_ 1 _, own_ch ho3 hc (fun j hj e => hg2 (by rw [hj, e])), .inl h3, fun j hj => .inr ?_, by omega, by omega⟩, ((Ch.of_below hb2 (Nat.le_refl _)).setCell (fun _ => h3) _).setCell (fun _ => h3) _⟩
  have := ho2.lt j hj
  exact ⟨by omega, Nat.lt_of_lt_of_le this.2 hc.size⟩

set_option maxHeartbeats 400000 in
theorem fclone_any (w : World) (T : Nat → Prop) (g d : Nat) (b : Tx) (h : Fw w T g b d) :
    Calls Try.prog 48 #[.pointer (some ⟨g, 0, none⟩)] w fun e w' => ∃ g', e = .returned (.pointer (some ⟨g', 0, none⟩)) ∧ Fw w' (New w w') g' b d ∧ Below w.heap.size w w' := by
  obtain ⟨v, h1, h2, h3, h4, h5, h6⟩ := h
  obtain ⟨A, c, rfl⟩ := own_shape h2
  have c0 : w.cell? ⟨g, 0, none⟩ = some (.slice A b.length c) := h1.cell 0
  have c1 : w.cell? ⟨g, 1, none⟩ = some (.int .i64 (d : Int)) := h1.cell 1
  have hsl : Sl w.drew (fun _ => False) 1 (.slice A b.length c) b.length (BVs b) := (Sl.of_own h2 (fun _ _ _ h => h)).drew
  have HU := Lib.hid hsl
  have HH := Lib.hid (And.intro h1 (And.intro h5 h6))
  clear h1 h2 h3 h4 h5 h6 hsl
  go_enter Try.func48, Try.ntmps48
  go_wp2_with fail
  go_region_held3 (fun w' => w'.cell? ⟨g, 0, none⟩ = some (.slice A b.length c) ∧ w'.cell? ⟨g, 1, none⟩ = some (.int .i64 (d : Int))) (first | exact ⟨c0, c1⟩ | exact ⟨j0, j1⟩ | go_keep)
   (first
    | (go_at_call 32; refine (clone_sh (fun _ => False) _ b.length b _ HU.out (by have := HH.out.2.1; omega)).mono ?_; rintro e w2 ⟨A2, c2, rfl, ho2, hb2⟩; have k1 := (show Blk w.drew _ _ _ from HH.out.1).below hb2 HH.out.1.lt; have j0 := k1.cell 0; have j1 := k1.cell 1; simp only [List.getElem?_toArray, List.getElem?_cons_zero, List.getElem?_cons_succ] at j0 j1))
  go_wp2
  go_ret
  obtain ⟨h1, h5, h6⟩ := HH.out
  have hsz : w.heap.size ≤ w2.heap.size := hb2.size
  refine ⟨_, rfl, ⟨_, Blk.new _ _ _, own_base (ho2.alloc _) (Nat.zero_le _), ⟨hsz, by simp⟩, fun j hj => ?_, h5, h6⟩, (below_of_drew hb2 : Below w.heap.size w w2).alloc hsz _⟩
  have := ho2.lt j hj
  exact ⟨this.1, by simp; omega⟩

theorem tear_nat (k d n : Nat) (h : d ≤ n) : (d : Int) + Int.tmod (k : Int) (((n : Int) - (d : Int)) + 1) = ((d + k % (n - d + 1) : Nat) : Int) := by
  have e : ((n : Int) - (d : Int)) + 1 = ((n - d + 1 : Nat) : Int) := by omega
  rw [e]
  rw [Int.tmod_eq_emod_of_nonneg (by omega), ← Int.natCast_emod, ← Int.natCast_add]

set_option maxHeartbeats 4000000 in
theorem ftear_any (w : World) (T : Nat → Prop) (g d : Nat) (b : Tx) (k : Nat) (h : Fw w T g b d) :
    Calls Try.prog 54 #[.pointer (some ⟨g, 0, none⟩), .int .i64 (k : Int)] w fun e w' => e = .returned (.tuple #[]) ∧ Fw w' (Up T w w') g (b.take (d + k % (b.length - d + 1))) (d + k % (b.length - d + 1)) ∧ Ch T w w' := by
  have HF := Lib.hid h
  obtain ⟨v, h1, h2, h3, h4, h5, h6⟩ := h
  obtain ⟨A, c, rfl⟩ := own_shape h2
  have c0 : w.cell? ⟨g, 0, none⟩ = some (.slice A b.length c) := h1.cell 0
  have c1 : w.cell? ⟨g, 1, none⟩ = some (.int .i64 (d : Int)) := h1.cell 1
  have hm := Nat.mod_lt k (show 0 < b.length - d + 1 by omega)
  have hle : d + k % (b.length - d + 1) ≤ b.length := by omega
  have e3 := tear_nat k d b.length h6
  obtain ⟨z, hz⟩ : ∃ z, z = Int.tmod (k : Int) (((b.length : Int) - (d : Int)) + 1) := ⟨_, rfl⟩
  rw [← hz] at e3
  have hz0 : 0 ≤ z := by omega
  have hz1 : z ≤ 4194304 := by omega
  have HZ := Lib.hid hz
  have HE := Lib.hid e3
  have HL := Lib.hid hle
  have HH := Lib.hid (And.intro h1 (And.intro h2 (And.intro h3 h4)))
  clear h1 h2 h3 h4 hm hle e3 hz
  go_enter Try.func54, Try.ntmps54
  go_wp2_with fail
  go_quiet (fail)
  go_wp2_with fail
  generalize hy : ((b.length : Int) - (d : Int)) = y at *
  have hy0 : 0 ≤ y := by omega
  have hy1 : y ≤ 4194304 := by omega
  clear hy
  have hne1 : ((y + 1) == 0) = false := by rw [beq_eq_false_iff_ne]; omega
  have hne2 : ¬ (y + 1 = 0) := by omega
  have hzz := HZ.out.symm
  have HD := Lib.hid (show Fw (w.drewN nq).drew T g b d from HF.out)
  have hw1 : IntKind.i64.wrap (y + 1) = y + 1 := wrap64 (by omega) (by omega)
  have hw2 : IntKind.i64.wrap ((d : Int) + z) = (d : Int) + z := wrap64 (by omega) (by omega)
  go_region_with (go_at_call 57; rw [HE.out]; refine (fcut_any _ T g d b _ HL.out HD.out).mono ?_; rintro e w2 ⟨rfl, hF2, hC2⟩)
  all_goals
    go_wp2_with (go_at_call 56; refine (fsync_any _ _ g _ _ hF2).mono ?_; rintro e w3 ⟨rfl, hF3, hC3⟩)
    go_end0
    have hlen : (b.take (d + k % (b.length - d + 1))).length = d + k % (b.length - d + 1) := by rw [List.length_take]; have := HL.out; omega
    rw [hlen] at hF3
    have hC2 := ch_of_drewN hC2
    exact ⟨rfl, hF3.weaken (fun k hk => up_mono (a := w) (b := w2) hC3.size hk), ch_two hC2 hC3⟩

end Go.Proofs.Ytncppflmpfefkaa.Da

/-
  Contracts of the program's table: Clone, Plain, From.
-/
import Derived.Test.YtepdajhgfdjklaaIc
import Derived.Deep.RegionWith
import Derived.Deep.RegionHeld3
import Derived.Deep.DrawnRows
namespace Go.Proofs.Ytepdajhgfdjklaa.Ig
open Go Go.RowKit Ck Im Ik Ia Ib Ic
attribute [local go_sem ↓] Go.wp_at_zero Go.wp_at_succ

theorem tclone_end {w w2 : World} {L : List Tx} {D : DataW Unit} {es : Array MapEntry} {clock : Nat} {tv : Value} (hN : Nums D L) (hF : WideElems.Fit Try.prog 9 (plainElem (H := Unit) Try.prog 28) es clock) (hsz : es.size ≤ L.length)
    (hD : D = .map ((es.toList.map (WideElems.rg Try.prog 9 (plainElem Try.prog 28))).foldr DataW.insert [])) (hall : ∀ l ∈ L, l.length ≤ 140737488355328) (hL : L.length ≤ 1048576)
    (ho : w2.ownsRow (w.alloc (.map es clock)).drew.heap.size 9 1 tv L.length (L.map SV)) (hb : Below (w.alloc (.map es clock)).drew.heap.size (w.alloc (.map es clock)).drew w2) :
    Tb (w2.alloc (.cells #[.map (some w.heap.size), tv] 64)) (New w (w2.alloc (.cells #[.map (some w.heap.size), tv] 64))) w2.heap.size L ∧ Below w.heap.size w (w2.alloc (.cells #[.map (some w.heap.size), tv] 64)) := by
  have b1 : Below w.heap.size w (w.alloc (.map es clock)).drew := below_drewN ((Below.refl _ w).alloc (Nat.le_refl _) _) 1
  have hs : (w.alloc (.map es clock)).drew.heap.size = w.heap.size + 1 := by simp
  rw [hs] at ho hb
  have hs2 := hb.size
  rw [hs] at hs2
  have b2 : Below w.heap.size w w2 := b1.trans (hb.mono (by omega))
  have hm : w2.heap[w.heap.size]? = some (.map es clock) := (hb.block w.heap.size (by omega)).trans (heap_alloc_new w _)
  refine ⟨⟨w.heap.size, tv, D, Blk.new _ _ _, ?_, hN, own_base (ho.alloc _) (Nat.zero_le _), ⟨by omega, by simp⟩, ⟨by omega, by simp; omega⟩, fun g hg => ?_, hall, hL⟩, b2.alloc b2.size _⟩
  · exact ⟨es, clock, (Below.heap_alloc w2 _ _ (by omega)).trans hm, hF, hsz, hD⟩
  · have := ho.lt g hg
    exact ⟨by omega, by simp; omega⟩

set_option maxHeartbeats 1000000 in
theorem tclone_any (w : World) (S : Nat → Prop) (p : Nat) (L : List Tx) (h : Tb w S p L) :
    Calls Try.prog 49 #[.pointer (some ⟨p, 0, none⟩)] w fun e w' => ∃ p', e = .returned (.pointer (some ⟨p', 0, none⟩)) ∧ Tb w' (New w w') p' L ∧ Below w.heap.size w w' := by
  have HM := Lib.hid (made_yes w S p L h)
  obtain ⟨m, tv, D, h1, hmap, hN, hown, hp, hm, hg, hall, hL⟩ := h
  obtain ⟨es, clock, hb, hF, hsz, hD⟩ := hmap
  obtain ⟨A', c', rfl⟩ := own_shape hown
  have c0 : w.cell? ⟨p, 0, none⟩ = some (.map (some m)) := h1.cell 0
  have c1 : w.cell? ⟨p, 1, none⟩ = some (.slice A' L.length c') := h1.cell 1
  have HB := Lib.hid hb
  have HO := Lib.hid hown
  have H1 := Lib.hid h1
  have HR := Lib.hid (And.intro hN (And.intro hF (And.intro hsz (And.intro hD hall))))
  have HL := Lib.hid hL
  clear h1 hb hF hsz hD hown hp hm hg hN hall hL
  go_enter Try.func49, Try.ntmps49
  go_wp2_with (go_at_call 37; refine HM.out.mono ?_; rintro e w' ⟨rfl, rfl⟩)
  have HS : Hid (Sl (w.drew.alloc (.map es clock)) (fun _ => False) 1 (.slice A' L.length c') L.length (L.map SV)) := Lib.hid ((show Sl w.drew _ _ _ _ _ from Sl.of_own HO.out (fun _ _ _ h => h)).alloc _)
  have k0 : (w.drew.alloc (.map es clock)).cell? ⟨p, 0, none⟩ = some (.map (some m)) := (show Blk w.drew _ _ _ from H1.out).alloc _ |>.cell 0
  have k1 : (w.drew.alloc (.map es clock)).cell? ⟨p, 1, none⟩ = some (.slice A' L.length c') := (show Blk w.drew _ _ _ from H1.out).alloc _ |>.cell 1
  go_region_held3 (fun w' => w'.cell? ⟨p, 0, none⟩ = some (.map (some m)) ∧ w'.cell? ⟨p, 1, none⟩ = some (.slice A' L.length c')) (first | exact ⟨c0, c1⟩ | exact ⟨k0, k1⟩ | exact ⟨j0, j1⟩ | go_keep)
   (first
    | (go_at_call 55; refine (mclone_strs _ m es clock (by exact HB.out)).mono ?_; rintro e w1 ⟨rfl, rfl⟩)
    | (go_at_call 56; refine (clone_strs (fun _ => False) _ L.length (L.map SV) _ (by exact HS.out) (svs_one L) (by have := HL.out; omega)).mono ?_; rintro e w2 ⟨A2, c2, rfl, ho2, hb2⟩; have j0 := (hb2.cell (World.block_lt_of_cell? _ _ k0)).trans k0; have j1 := (hb2.cell (World.block_lt_of_cell? _ _ k1)).trans k1))
  go_wp2
  go_ret
  exact ⟨_, rfl, tclone_end HR.out.1 HR.out.2.1 HR.out.2.2.1 HR.out.2.2.2.1 HR.out.2.2.2.2 HL.out ho2 hb2⟩

theorem tclone_nil (w : World) : Calls Try.prog 49 #[.pointer none] w fun e w' => e = .returned (.pointer none) ∧ w = w' := by
  go_enter Try.func49, Try.ntmps49
  go_wp2_with (go_at_call 37; refine (made_nil _).mono ?_; rintro e w' ⟨rfl, rfl⟩)
  go_ret
  exact ⟨rfl, rfl⟩
theorem tclone_no (w : World) (p : Nat) (tv : Value) (h : Blk w p 64 #[.map none, tv]) : Calls Try.prog 49 #[.pointer (some ⟨p, 0, none⟩)] w fun e w' => e = .returned (.pointer none) ∧ w = w' := by
  have HH := Lib.hid h
  clear h
  go_enter Try.func49, Try.ntmps49
  go_wp2_with (go_at_call 37; refine (made_no _ _ _ HH.out).mono ?_; rintro e w' ⟨rfl, rfl⟩)
  go_ret
  exact ⟨rfl, rfl⟩
theorem sum_nil (w : World) (v : Value) : Calls Try.prog 31 #[.pointer none, v] w fun e w' => e = .returned (.int .i64 0) ∧ w = w' := by
  go_enter Try.func31, Try.ntmps31
  go_wp2_with (first
    | (go_at_call 45; refine (look_nil _ _).mono ?_; rintro e w' ⟨rfl, rfl⟩)
    | (go_at_call 37; refine (made_nil _).mono ?_; rintro e w' ⟨rfl, rfl⟩))
  go_ret
  exact ⟨rfl, rfl⟩
theorem sum_no (w : World) (p : Nat) (tv v : Value) (h : Blk w p 64 #[.map none, tv]) : Calls Try.prog 31 #[.pointer (some ⟨p, 0, none⟩), v] w fun e w' => e = .returned (.int .i64 0) ∧ w = w' := by
  have HH := Lib.hid h
  clear h
  go_enter Try.func31, Try.ntmps31
  go_wp2_with (first
    | (go_at_call 45; refine (look_no _ _ _ _ HH.out).mono ?_; rintro e w' ⟨rfl, rfl⟩)
    | (go_at_call 37; refine (made_no _ _ _ HH.out).mono ?_; rintro e w' ⟨rfl, rfl⟩))
  go_ret
  exact ⟨rfl, rfl⟩
end Go.Proofs.Ytepdajhgfdjklaa.Ig

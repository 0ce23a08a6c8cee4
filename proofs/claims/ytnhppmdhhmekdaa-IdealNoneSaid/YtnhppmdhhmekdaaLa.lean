/-
  Contracts of the program's ledger: made, NewLedger, Len, Signs, Clone, Signed.
-/
import Derived.Test.YtnhppmdhhmekdaaLk
import Derived.Test.YtnhppmdhhmekdaaIg
namespace Go.Proofs.Ytnhppmdhhmekdaa.La
open Go Go.RowKit Ck Im Ik Ia Ib Ic Lk
attribute [local go_sem ↓] Go.wp_at_zero Go.wp_at_succ

theorem made_yes (w : World) (S : Nat → Prop) (p : Nat) (L : List Sg) (h : Lg w S p L) :
    Calls Try.prog 38 #[.pointer (some ⟨p, 0, none⟩)] w fun e w' => e = .returned (.bool true) ∧ w = w' := by
  obtain ⟨m, tv, D, h1, -⟩ := h
  have c0 : w.cell? ⟨p, 0, none⟩ = some (.map (some m)) := h1.cell 0
  have hq := fun W => run_neq_map_nil (P := Try.prog) W 67 50 76 (some m) Try.underlying67
  clear h1
  go_enter Try.func38, Try.ntmps38
  go_wp2
  go_ret
  exact ⟨rfl, rfl⟩
theorem made_nil (w : World) : Calls Try.prog 38 #[.pointer none] w fun e w' => e = .returned (.bool false) ∧ w = w' := by
  go_enter Try.func38, Try.ntmps38
  go_wp2
  go_ret
  exact ⟨rfl, rfl⟩
theorem made_no (w : World) (p : Nat) (tv : Value) (h : Blk w p 69 #[.map none, tv]) : Calls Try.prog 38 #[.pointer (some ⟨p, 0, none⟩)] w fun e w' => e = .returned (.bool false) ∧ w = w' := by
  have c0 : w.cell? ⟨p, 0, none⟩ = some (.map none) := h.cell 0
  have hq := fun W => run_neq_map_nil (P := Try.prog) W 67 50 76 none Try.underlying67
  clear h
  go_enter Try.func38, Try.ntmps38
  go_wp2
  go_ret
  exact ⟨rfl, rfl⟩

/-- A ledger that no call made. -/
def Bare (w : World) (a : Option Addr) : Prop := a = none ∨ ∃ p tv, a = some ⟨p, 0, none⟩ ∧ Blk w p 69 #[.map none, tv]
theorem made_bare (w : World) (a : Option Addr) (h : Bare w a) : Calls Try.prog 38 #[.pointer a] w fun e w' => e = .returned (.bool false) ∧ w = w' := by
  rcases h with rfl | ⟨p, tv, rfl, h⟩
  · exact made_nil w
  · exact made_no w p tv h

theorem len_yes (w : World) (S : Nat → Prop) (p : Nat) (L : List Sg) (h : Lg w S p L) :
    Calls Try.prog 32 #[.pointer (some ⟨p, 0, none⟩)] w fun e w' => e = .returned (.int .i64 L.length) ∧ w = w' := by
  have hm := made_yes w S p L h
  obtain ⟨m, tv, D, h1, -, -, hown, -⟩ := h
  obtain ⟨A, c, rfl⟩ := own_shape hown
  have c1 : w.cell? ⟨p, 1, none⟩ = some (.slice A L.length c) := h1.cell 1
  have HM := Lib.hid hm
  clear h1 hm hown
  go_enter Try.func32, Try.ntmps32
  go_wp2_with (go_at_call 38; refine HM.out.mono ?_; rintro e w' ⟨rfl, rfl⟩)
  go_ret
  exact ⟨rfl, rfl⟩
theorem len_bare (w : World) (a : Option Addr) (h : Bare w a) : Calls Try.prog 32 #[.pointer a] w fun e w' => e = .returned (.int .i64 0) ∧ w = w' := by
  have HH := Lib.hid h
  clear h
  go_enter Try.func32, Try.ntmps32
  go_wp2_with (go_at_call 38; refine (made_bare _ _ HH.out).mono ?_; rintro e w' ⟨rfl, rfl⟩)
  go_ret
  exact ⟨rfl, rfl⟩
theorem signs_bare (w : World) (a : Option Addr) (h : Bare w a) : Calls Try.prog 31 #[.pointer a] w fun e w' => e = .returned (.slice none 0 0) ∧ w = w' := by
  have HH := Lib.hid h
  clear h
  go_enter Try.func31, Try.ntmps31
  go_wp2_with (go_at_call 38; refine (made_bare _ _ HH.out).mono ?_; rintro e w' ⟨rfl, rfl⟩)
  go_ret
  exact ⟨rfl, rfl⟩
theorem lclone_bare (w : World) (a : Option Addr) (h : Bare w a) : Calls Try.prog 25 #[.pointer a] w fun e w' => e = .returned (.pointer none) ∧ w = w' := by
  have HH := Lib.hid h
  clear h
  go_enter Try.func25, Try.ntmps25
  go_wp2_with (go_at_call 38; refine (made_bare _ _ HH.out).mono ?_; rintro e w' ⟨rfl, rfl⟩)
  go_ret
  exact ⟨rfl, rfl⟩
theorem signed_bare (w : World) (a : Option Addr) (s : Sg) (h : Bare w a) : Calls Try.prog 28 #[.pointer a, GV s] w fun e w' => e = .returned (.bool false) ∧ Below w.heap.size w w' := by
  have HH : Hid (∀ o, Bare (w.alloc o) a) := Lib.hid fun o => by
    rcases h with h | ⟨p, tv, h, hb⟩
    · exact .inl h
    · exact .inr ⟨p, tv, h, hb.alloc o⟩
  clear h
  unfold GV
  go_enter Try.func28, Try.ntmps28
  go_wp2_with (go_at_call 38; refine (made_bare _ _ (HH.out _)).mono ?_; rintro e w' ⟨rfl, rfl⟩)
  go_ret
  exact ⟨rfl, (Below.refl _ _).alloc (Nat.le_refl _) _⟩

theorem newledger_any (w : World) :
    Calls Try.prog 24 #[] w fun e w' => ∃ p, e = .returned (.pointer (some ⟨p, 0, none⟩)) ∧ Lg w' (New w w') p [] ∧ Below w.heap.size w w' := by
  have hmm := @run_makeMap Try.prog
  go_enter Try.func24, Try.ntmps24
  go_wp2
  go_ret
  refine ⟨_, rfl, ⟨w.heap.size, .slice none 0 0, .map [], ?_, ?_, Known.empty, World.ownsRow_nil _ _ _ _, ⟨by simp, by simp⟩, ⟨by simp, by simp; omega⟩, by simp [Value.ownBlock]⟩, ((Below.refl _ w).alloc (Nat.le_refl _) _).alloc (by simp) _⟩
  · exact Blk.new_at (by simp) rfl
  · exact (World.ownsMap_made _ _ _ _).alloc _

theorem signs_yes (w : World) (S : Nat → Prop) (p : Nat) (L : List Sg) (h : Lg w S p L) (hL : L.length * 16 ≤ 140737488355328) :
    Calls Try.prog 31 #[.pointer (some ⟨p, 0, none⟩)] w fun e w' => ∃ A c, e = .returned (.slice A L.length c) ∧ w'.ownsRow w.heap.size 50 2 (.slice A L.length c) L.length (GVs L) ∧ Below w.heap.size w w' := by
  have HM := Lib.hid (made_yes w S p L h)
  obtain ⟨m, tv, D, h1, -, -, hown, -⟩ := h
  obtain ⟨A, c, rfl⟩ := own_shape hown
  have c1 : w.cell? ⟨p, 1, none⟩ = some (.slice A L.length c) := h1.cell 1
  have HC := Lib.hid (clone_signs (fun _ => False) (.slice A L.length c) L.length (GVs L) w (Sl.of_own hown (fun _ _ _ h => h)) (GVs_one L) hL)
  clear h1 hown
  go_enter Try.func31, Try.ntmps31
  go_wp2_with (first
    | (go_at_call 38; refine HM.out.mono ?_; rintro e w' ⟨rfl, rfl⟩)
    | (go_at_call 40; refine HC.out.mono ?_; rintro e w' ⟨A2, c2, rfl, ho, hb⟩))
  go_ret
  exact ⟨A2, c2, rfl, ho, hb⟩

theorem lclone_end {w w2 : World} {L : List Sg} {D : DataW Unit} {es : Array MapEntry} {clock : Nat} {tv : Value} (hN : Known D L) (hF : WideElems.Fit Try.prog 50 (unitElem (H := Unit)) es clock) (hsz : es.size ≤ L.length)
    (hD : D = .map ((es.toList.map (WideElems.rg Try.prog 50 unitElem)).foldr DataW.insert []))
    (ho : w2.ownsRow (w.alloc (.map es clock)).drew.heap.size 50 2 tv L.length (GVs L)) (hb : Below (w.alloc (.map es clock)).drew.heap.size (w.alloc (.map es clock)).drew w2) :
    Lg (w2.alloc (.cells #[.map (some w.heap.size), tv] 69)) (New w (w2.alloc (.cells #[.map (some w.heap.size), tv] 69))) w2.heap.size L ∧ Below w.heap.size w (w2.alloc (.cells #[.map (some w.heap.size), tv] 69)) := by
  have b1 : Below w.heap.size w (w.alloc (.map es clock)).drew := below_drewN ((Below.refl _ w).alloc (Nat.le_refl _) _) 1
  have hs : (w.alloc (.map es clock)).drew.heap.size = w.heap.size + 1 := by simp
  rw [hs] at ho hb
  have hs2 := hb.size
  rw [hs] at hs2
  have b2 : Below w.heap.size w w2 := b1.trans (hb.mono (by omega))
  have hm : w2.heap[w.heap.size]? = some (.map es clock) := (hb.block w.heap.size (by omega)).trans (heap_alloc_new w _)
  refine ⟨⟨w.heap.size, tv, D, Blk.new _ _ _, ?_, hN, own_base (ho.alloc _) (Nat.zero_le _), ⟨by omega, by simp⟩, ⟨by omega, by simp; omega⟩, fun g hg => ?_⟩, b2.alloc b2.size _⟩
  · exact ⟨es, clock, (Below.heap_alloc w2 _ _ (by omega)).trans hm, hF, hsz, hD⟩
  · have := ho.lt g hg
    exact ⟨by omega, by simp; omega⟩

set_option maxHeartbeats 1000000 in
theorem lclone_any (w : World) (S : Nat → Prop) (p : Nat) (L : List Sg) (h : Lg w S p L) (hL : L.length * 16 ≤ 140737488355328) :
    Calls Try.prog 25 #[.pointer (some ⟨p, 0, none⟩)] w fun e w' => ∃ p', e = .returned (.pointer (some ⟨p', 0, none⟩)) ∧ Lg w' (New w w') p' L ∧ Below w.heap.size w w' := by
  have HM := Lib.hid (made_yes w S p L h)
  obtain ⟨m, tv, D, h1, hmap, hN, hown, hp, hm, hg⟩ := h
  obtain ⟨es, clock, hb, hF, hsz, hD⟩ := hmap
  obtain ⟨A', c', rfl⟩ := own_shape hown
  have c0 : w.cell? ⟨p, 0, none⟩ = some (.map (some m)) := h1.cell 0
  have c1 : w.cell? ⟨p, 1, none⟩ = some (.slice A' L.length c') := h1.cell 1
  have HB := Lib.hid hb
  have HO := Lib.hid hown
  have H1 := Lib.hid h1
  have HR := Lib.hid (And.intro hN (And.intro hF (And.intro hsz hD)))
  have HL := Lib.hid hL
  clear h1 hb hF hsz hD hown hp hm hg hN hL
  have HS : Hid (Sl (w.drew.alloc (.map es clock)) (fun _ => False) 2 (.slice A' L.length c') L.length (GVs L)) := Lib.hid ((show Sl w.drew _ _ _ _ _ from Sl.of_own HO.out (fun _ _ _ h => h)).alloc _)
  have k0 : (w.drew.alloc (.map es clock)).cell? ⟨p, 0, none⟩ = some (.map (some m)) := (show Blk w.drew _ _ _ from H1.out).alloc _ |>.cell 0
  have k1 : (w.drew.alloc (.map es clock)).cell? ⟨p, 1, none⟩ = some (.slice A' L.length c') := (show Blk w.drew _ _ _ from H1.out).alloc _ |>.cell 1
  go_enter Try.func25, Try.ntmps25
  go_wp2_with (go_at_call 38; refine HM.out.mono ?_; rintro e w' ⟨rfl, rfl⟩)
  go_region_held3 (fun w' => w'.cell? ⟨p, 0, none⟩ = some (.map (some m)) ∧ w'.cell? ⟨p, 1, none⟩ = some (.slice A' L.length c')) (first | exact ⟨c0, c1⟩ | exact ⟨k0, k1⟩ | exact ⟨j0, j1⟩ | go_keep)
   (first
    | (go_at_call 39; refine (mclone_signs _ m es clock (by exact HB.out)).mono ?_; rintro e w1 ⟨rfl, rfl⟩)
    | (go_at_call 40; refine (clone_signs (fun _ => False) _ L.length (GVs L) _ (by exact HS.out) (GVs_one L) HL.out).mono ?_; rintro e w2 ⟨A2, c2, rfl, ho2, hb2⟩; have j0 := (hb2.cell (World.block_lt_of_cell? _ _ k0)).trans k0; have j1 := (hb2.cell (World.block_lt_of_cell? _ _ k1)).trans k1))
  go_wp2
  go_ret
  exact ⟨_, rfl, lclone_end HR.out.1 HR.out.2.1 HR.out.2.2.1 HR.out.2.2.2 ho2 hb2⟩

end Go.Proofs.Ytnhppmdhhmekdaa.La

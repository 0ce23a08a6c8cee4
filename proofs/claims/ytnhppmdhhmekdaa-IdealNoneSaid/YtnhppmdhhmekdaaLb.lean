/-
  Contracts of the program's ledger: Signed, Sign.
-/
import Derived.Test.YtnhppmdhhmekdaaLa
namespace Go.Proofs.Ytnhppmdhhmekdaa.Lb
open Go Go.RowKit Ck Im Ik Ia Ib Ic Lk La
attribute [local go_sem ↓] Go.wp_at_zero Go.wp_at_succ

theorem zero_unit (w : World) : (zeroValue 76).run Try.prog w = .ok (.agg #[]) w := by kernel_rfl
/-- The map's look-up. -/
theorem run_known {w : World} {m n : Nat} {D : DataW Unit} {L : List Sg} (h : w.ownsMap Try.prog 50 unitElem m n D) (hN : Known D L) (s : Sg) (hs : wfS s) :
    (Instr.lookup 67 (.map (some m)) (GV s) true).run Try.prog w = .ok (.tuple #[.agg #[], .bool (isS L s)]) w := by
  obtain ⟨v, ps, hrun, hv⟩ := h.look_ok law_sign Try.underlying67 (zero_unit w) (zd := .agg []) (zp := []) unitElem_mk (key_sign s hs)
  obtain ⟨rfl, _⟩ := unitElem_inv hv
  rw [hrun, hN s hs]

set_option maxHeartbeats 1000000 in
theorem signed_yes (w : World) (S : Nat → Prop) (p : Nat) (L : List Sg) (s : Sg) (hs : wfS s) (h : Lg w S p L) :
    Calls Try.prog 28 #[.pointer (some ⟨p, 0, none⟩), GV s] w fun e w' => e = .returned (.bool (isS L s)) ∧ Below w.heap.size w w' := by
  have HM : Hid (∀ o, Calls Try.prog 38 #[.pointer (some ⟨p, 0, none⟩)] (w.alloc o) fun e w' => e = .returned (.bool true) ∧ w.alloc o = w') :=
    Lib.hid fun o => made_yes _ S p L (h.ch (Ch.of_below (S := fun _ => False) ((Below.refl _ w).alloc (Nat.le_refl _) o) (Nat.le_refl _)) (fun _ _ h => h))
  obtain ⟨m, tv, D, h1, hmap, hN, -⟩ := h
  have c0 : ∀ o, (w.alloc o).cell? ⟨p, 0, none⟩ = some (.map (some m)) := fun o => (h1.alloc o).cell 0
  have c0' : ∀ o o', ((w.alloc o).alloc o').cell? ⟨p, 0, none⟩ = some (.map (some m)) := fun o o' => ((h1.alloc o).alloc o').cell 0
  have e2 : ∀ W : World, W.heap[m]? = w.heap[m]? → (Instr.lookup 67 (.map (some m)) (GV s) true).run Try.prog W = .ok (.tuple #[.agg #[], .bool (isS L s)]) W := fun W hW => by
    obtain ⟨es, clock, hb, r⟩ := hmap
    exact run_known (w := W) (n := L.length) (D := D) ⟨es, clock, hW.trans hb, r⟩ hN s hs
  have hml := hmap.lt
  have HE := Lib.hid e2
  have hpl := h1.lt
  clear h1 hmap hN e2
  unfold GV at HE ⊢
  go_enter Try.func28, Try.ntmps28
  go_wp2_with (go_at_call 38; refine (HM.out _).mono ?_; rintro e w' ⟨rfl, rfl⟩)
  have d0 := c0 (.cells #[.int .i64 s.1, .int .i64 s.2] 50)
  have db : Blk (w.alloc (.cells #[.int .i64 s.1, .int .i64 s.2] 50)) w.heap.size 50 #[.int .i64 s.1, .int .i64 s.2] := Blk.new _ _ _
  have d1 := db.cell 0
  have d2 := db.cell 1
  have dm : (w.alloc (.cells #[.int .i64 s.1, .int .i64 s.2] 50)).heap[m]? = w.heap[m]? := Below.heap_alloc w _ m hml
  have f0 := c0' (.cells #[.int .i64 s.1, .int .i64 s.2] 50) (.cells #[] 76)
  have f1 := (db.alloc (.cells #[] 76)).cell 0
  have f2 := (db.alloc (.cells #[] 76)).cell 1
  have fm : ((w.alloc (.cells #[.int .i64 s.1, .int .i64 s.2] 50)).alloc (.cells #[] 76)).heap[m]? = w.heap[m]? := (Below.heap_alloc _ _ m (by simp; omega)).trans dm
  simp only [List.getElem?_toArray, List.getElem?_cons_zero, List.getElem?_cons_succ] at d1 d2 f1 f2
  go_region_held3 (fun w' => w'.cell? ⟨p, 0, none⟩ = some (.map (some m)) ∧ w'.cell? ⟨w.heap.size, 0, none⟩ = some (.int .i64 s.1) ∧ w'.cell? ⟨w.heap.size, 1, none⟩ = some (.int .i64 s.2) ∧
      (Instr.lookup 67 (.map (some m)) (.agg #[.int .i64 s.1, .int .i64 s.2]) true).run Try.prog w' = .ok (.tuple #[.agg #[], .bool (isS L s)]) w')
    (first | exact ⟨d0, d1, d2, HE.out _ dm⟩ | exact ⟨f0, f1, f2, HE.out _ fm⟩) (fail)
  all_goals
    clear c0 c0' d0 d1 d2 dm f0 f1 f2 fm
    go_wp2
    go_ret
    exact ⟨rfl, below_drewN (((Below.refl _ w).alloc (Nat.le_refl _) _).alloc (by simp) _) 1⟩

end Go.Proofs.Ytnhppmdhhmekdaa.Lb

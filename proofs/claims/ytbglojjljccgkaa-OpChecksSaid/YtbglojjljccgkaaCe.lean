/-
  Contracts of layer 1's reader.
-/
import Derived.Test.YtbglojjljccgkaaCd
namespace Go.Proofs.Ytbglojjljccgkaa.Ce
open Go Go.RowKit Ck Ca Cb

/-- The reader's block. -/
abbrev CB (w : World) (g : Nat) (v : Value) (err : Int) : Prop := Blk w g 83 #[.bool true, v, .int .i64 err]
abbrev P_ (g : Nat) : Value := .pointer (some ⟨g, 0, none⟩)

theorem err_blk (w : World) (g : Nat) (v : Value) (err : Int) (h : CB w g v err) :
    Calls Try.prog 33 #[P_ g] w fun e w' => e = .returned (.int .i64 err) ∧ w = w' := by
  have h0 := h.cell 0
  have h2 := h.cell 2
  simp only [List.getElem?_toArray, List.getElem?_cons_zero, List.getElem?_cons_succ] at h0 h2
  clear h
  go_enter Try.func33, Try.ntmps33
  go_wp2
  go_ret
  exact ⟨rfl, rfl⟩
theorem reads_ok (w : World) (g : Nat) (v : Value) (h : CB w g v 0) :
    Calls Try.prog 65 #[P_ g] w fun e w' => e = .returned (.bool true) ∧ w = w' := by
  go_enter Try.func65, Try.ntmps65
  go_wp2_with (go_at_call 33; refine (err_blk _ g v 0 h).mono ?_; rintro e w1 ⟨rfl, rfl⟩)
  go_ret
  exact ⟨rfl, rfl⟩
theorem reads_no (w : World) (g : Nat) (v : Value) (err : Int) (h : CB w g v err) (he : err ≠ 0) :
    Calls Try.prog 65 #[P_ g] w fun e w' => e = .returned (.bool false) ∧ w = w' := by
  have he1 : (err == 0) = false := by rw [beq_eq_false_iff_ne]; exact he
  go_enter Try.func65, Try.ntmps65
  go_wp2_with (go_at_call 33; refine (err_blk _ g v err h).mono ?_; rintro e w1 ⟨rfl, rfl⟩)
  go_ret
  exact ⟨rfl, rfl⟩

/-- A reader in memory: what is left lies in no block of X. -/
def CR (w : World) (X : Nat → Prop) (g : Nat) (s : Cm.RS) : Prop :=
  ∃ A n c, CB w g (.slice A n c) s.2 ∧ Sl w (fun k => k = g ∨ X k) 1 (.slice A n c) n (BVs s.1) ∧ Cm.Good s
theorem CR.keep {w w' : World} {X : Nat → Prop} {g : Nat} {s : Cm.RS} (h : CR w X g s) (hs : w.heap.size ≤ w'.heap.size) (hk : ∀ b, b < w.heap.size → ¬ X b → w'.heap[b]? = w.heap[b]?) (hg : ¬ X g) : CR w' X g s := by
  obtain ⟨A, n, c, hb, hsl, hgd⟩ := h
  exact ⟨A, n, c, (hk g hb.lt hg).trans hb, hsl.keep hs fun b hb hX => hk b hb fun hx => hX (.inr hx), hgd⟩
theorem CR.weaken {w : World} {X Y : Nat → Prop} {g : Nat} {s : Cm.RS} (h : CR w X g s) (hk : ∀ b, b < w.heap.size → Y b → X b) : CR w Y g s := by
  obtain ⟨A, n, c, hb, hsl, hgd⟩ := h
  exact ⟨A, n, c, hb, hsl.weaken fun b hb hy => by
    rcases hy with hy | hy
    · exact .inl hy
    · exact .inr (hk b hb hy), hgd⟩
theorem CR.grown {w w' : World} {X : Nat → Prop} {g : Nat} {s : Cm.RS} {row : Option Nat} (h : CR w X g s) (hg : w.grownBy w' row) (hne : some g ≠ row) (hr : ∀ k, row = some k → k < w.heap.size → X k) : CR w' X g s := by
  obtain ⟨A, n, c, hb, hsl, hgd⟩ := h
  exact ⟨A, n, c, Blk.grown hb hg hne, hsl.grown hg fun k hk hlt => .inr (hr k hk hlt), hgd⟩
theorem CR.after {w w' : World} {X : Nat → Prop} {g : Nat} {s : Cm.RS} (h : CR w X g s) (hb : Below w.heap.size w w') : CR w' X g s :=
  h.grown (grown_of_below hb none) (by simp) (by simp)
theorem CR.old {w : World} {X : Nat → Prop} {g : Nat} {s : Cm.RS} (h : CR w X g s) {B : Nat} (hB : w.heap.size ≤ B) : CR w (fun k => X k ∨ B ≤ k) g s := by
  obtain ⟨A, n, c, hb, hsl, hgd⟩ := h
  refine ⟨A, n, c, hb, (hsl.old hB).weaken fun b _ hy => ?_, hgd⟩
  rcases hy with hy | hy | hy
  · exact .inl (.inl hy)
  · exact .inl (.inr hy)
  · exact .inr hy
theorem CR.lt {w : World} {X : Nat → Prop} {g : Nat} {s : Cm.RS} (h : CR w X g s) : g < w.heap.size := by
  obtain ⟨A, n, c, hb, _⟩ := h
  exact hb.lt

theorem fail_end {w : World} {g : Nat} {v : Value} {e0 : Int} {X : Nat → Prop} (h : CB w g v 0) :
    w.grownBy ((w.setCell ⟨g, 2, none⟩ (.int .i64 e0)).setCell ⟨g, 1, none⟩ (.slice none 0 0)) (some g) ∧ CR ((w.setCell ⟨g, 2, none⟩ (.int .i64 e0)).setCell ⟨g, 1, none⟩ (.slice none 0 0)) X g ([], e0) := by
  have h1 := Blk.set_ h 2 (.int .i64 e0)
  have h2 := Blk.set_ h1 1 (.slice none 0 0)
  refine ⟨?_, none, 0, 0, h2, Sl.nil _ _ _, fun _ => rfl⟩
  have g1 := grown_setCell (World.grownBy.refl w (some g)) (p := ⟨g, 2, none⟩) (.inl rfl) (.int .i64 e0)
  exact grown_setCell g1 (p := ⟨g, 1, none⟩) (.inl rfl) (.slice none 0 0)

set_option maxHeartbeats 400000 in
theorem fail_any (w : World) (X : Nat → Prop) (g : Nat) (s : Cm.RS) (h : CR w X g s) (e0 : Int) :
    Calls Try.prog 60 #[P_ g, .int .i64 e0] w fun e w' => e = .returned (.tuple #[]) ∧ w.grownBy w' (some g) ∧ CR w' X g (Cm.failS s e0) := by
  have hcr := h
  obtain ⟨A, n, c, hb, hsl, hgd⟩ := h
  by_cases hs : s.2 = 0
  · have hb0 := hb
    rw [hs] at hb0
    by_cases he : e0 = 0
    · have hf : Cm.failS s e0 = s := by simp [Cm.failS, hs, he]
      rw [hf]
      subst he
      have HS := Lib.hid hs
      clear hs hf
      go_enter Try.func60, Try.ntmps60
      go_wp2_with (go_at_call 65; refine (reads_ok _ g _ hb0).mono ?_; rintro e w1 ⟨rfl, rfl⟩)
      go_end0
      exact ⟨rfl, World.grownBy.refl _ _, hcr⟩
    · have hf : Cm.failS s e0 = ([], e0) := by simp [Cm.failS, hs, he]
      rw [hf]
      have he1 : (e0 == 0) = false := by rw [beq_eq_false_iff_ne]; exact he
      have he2 : (e0 != 0) = true := by rw [bne, he1]; rfl
      have h1 := hb0.cell 1
      have h2 := hb0.cell 2
      have f1 := hb0.frozen 1
      have f2 := hb0.frozen 2
      simp only [List.getElem?_toArray, List.getElem?_cons_zero, List.getElem?_cons_succ] at h1 h2
      have HS := Lib.hid hs
      have HE := Lib.hid he
      clear hs hf he
      go_enter Try.func60, Try.ntmps60
      go_wp2_with (go_at_call 65; refine (reads_ok _ g _ hb0).mono ?_; rintro e w1 ⟨rfl, rfl⟩)
      go_end0
      exact ⟨rfl, fail_end hb0⟩
  · have hf : Cm.failS s e0 = s := by simp [Cm.failS, hs]
    rw [hf]
    have HS := Lib.hid hs
    clear hs hf
    go_enter Try.func60, Try.ntmps60
    go_wp2_with (go_at_call 65; refine (reads_no _ g _ _ hb HS.out).mono ?_; rintro e w1 ⟨rfl, rfl⟩)
    go_end0
    exact ⟨rfl, World.grownBy.refl _ _, hcr⟩

end Go.Proofs.Ytbglojjljccgkaa.Ce

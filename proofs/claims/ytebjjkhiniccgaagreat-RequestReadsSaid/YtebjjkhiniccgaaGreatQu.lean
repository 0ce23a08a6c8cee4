/-
  Layer 6 (op): the contracts of the document's own Take, Parse and TakeResult.
-/
import Derived.Test.YtebjjkhiniccgaaGreatQc
import Derived.Test.YtebjjkhiniccgaaGreatQt
namespace Go.Proofs.YtebjjkhiniccgaaGreat.Qu
set_option linter.unusedSimpArgs false
open Go Go.RowKit Ck Kw Ca Cb Ce Cf Cg Ch Ci Cj Cn Co Pm Pa Pe Pf Pg Ph Ppi Pk Pp Qb Qc Qt
set_option linter.unusedVariables false

theorem rtake_any (w : World) (X : Nat → Prop) (g : Nat) (s : Cm.RS) (h : RR w X g s) (hl : s.1.length ≤ 140737488355328) :
    Calls Tryz.prog 31 #[P_ g] w (RReaded w X g (take s)) := by
  have h4 := Cm.numS_le s 4
  have : (Cm.numS s 4).1 = 0 ∨ (Cm.numS s 4).1 = 1 ∨ (Cm.numS s 4).1 = 2 ∨ (Cm.numS s 4).1 = 3 ∨ (Cm.numS s 4).1 = 4 := by omega
  rcases this with hk | hk | hk | hk | hk
  · exact rtake_0 w X g s h hl hk
  · exact rtake_1 w X g s h hl hk
  · exact rtake_2 w X g s h hl hk
  · exact rtake_3 w X g s h hl hk
  · exact rtake_4 w X g s h hl hk

/-- What TakeResult leaves. -/
def RTookR (w : World) (X : Nat → Prop) (g : Nat) (r : (Int × Int) × Cm.RS) (e : Ending) (w' : World) : Prop := e = .returned (.agg #[.int .i64 r.1.1, .int .i64 r.1.2]) ∧ w.grownBy w' (some g) ∧ RR w' X g r.2
theorem rtookr_of {w W : World} {X : Nat → Prop} {g : Nat} {s : Cm.RS} {r : (Int × Int) × Cm.RS} {x y : Int} (hg : w.grownBy W (some g)) (hlt : g < w.heap.size) (hr' : RR W (fun k => X k ∨ w.heap.size ≤ k) g s) (hr : r = ((x, y), s)) :
    RTookR w X g r (.returned (.agg #[.int .i64 x, .int .i64 y])) ((W.setCell ⟨w.heap.size, 0, none⟩ (.int .i64 x)).setCell ⟨w.heap.size, 1, none⟩ (.int .i64 y)) := by
  subst hr
  have cg : W.grownBy ((W.setCell ⟨w.heap.size, 0, none⟩ (.int .i64 x)).setCell ⟨w.heap.size, 1, none⟩ (.int .i64 y)) (some w.heap.size) :=
    grown_setCell (grown_setCell (World.grownBy.refl W (some w.heap.size)) (p := ⟨w.heap.size, 0, none⟩) (.inl rfl) _) (p := ⟨w.heap.size, 1, none⟩) (.inl rfl) _
  exact ⟨rfl, grown_step hg cg (.inr fun q hq => by injection hq with hq; omega), (hr'.grown cg (by simp; omega) (fun q hq _ => by injection hq with hq; exact .inr (by omega))).weaken (fun k _ hk => .inl hk)⟩

end Go.Proofs.YtebjjkhiniccgaaGreat.Qu

/-
  Words for memory, for layer 2 (ideal) and any layer above: a change of some blocks and new ones; a slice of strings; the program's table and the document's; the program's ledger and the document's.
-/
import Derived.Test.YtebjjkhiniccgaaGreatCk
import Derived.Test.YtebjjkhiniccgaaGreatKw
import Derived.Test.YtebjjkhiniccgaaGreatIm
import Derived.Test.YtebjjkhiniccgaaGreatRows
import Derived.Maps.OwnSet
import Derived.Maps.StringElems
namespace Go.Proofs.YtebjjkhiniccgaaGreat.Ik
set_option linter.unusedSimpArgs false
set_option linter.unusedVariables false
set_option maxRecDepth 100000
open Go Go.RowKit Ck Kw Im

/-- The map's datum tells each text's number. -/
def Nums (D : DataW Unit) (L : List Tx) : Prop :=
  ∀ s : Tx, Maps.has D (.string s) = isIn L s ∧ D.atKey (.string s) (.lit (.int .i64 0)) = .lit (.int .i64 (num L s : Int))
theorem Nums.empty : Nums (.map []) [] := fun _ => ⟨rfl, rfl⟩
theorem strKey (s : Tx) : WideAt.IsKeyLit (.string s) := trivial
theorem Nums.put {D : DataW Unit} {L : List Tx} {t : Tx} (h : Nums D L) (hD : Maps.IsMap D) (hk : WideAt.IsKeyLit (.string t)) (h0 : num L t = 0) : Nums (D.put (.string t) (.lit (.int .i64 ((L.length : Int) + 1)))) (L ++ [t]) := by
  intro s
  rw [num_snoc]
  by_cases hs : s = t
  · subst hs
    rw [Maps.has_put_same hD hk, Maps.atKey_put_same hD hk, isIn, num_snoc, h0]
    simp
  · have hne : (Lit.string s) ≠ Lit.string t := fun e => hs (by injection e)
    rw [Maps.has_put_other hne, Maps.atKey_put_other hne, (h s).1, (h s).2]
    have ht : ¬ t = s := fun e => hs e.symm
    rw [isIn, isIn, num_snoc]
    by_cases hn : num L s = 0 <;> simp [hn, ht]

section
/-- Block p is a table of these texts; all its blocks are in S. -/
def Tb (w : World) (S : Nat → Prop) (p : Nat) (L : List Tx) : Prop :=
  ∃ m tv D, Blk w p 120 #[.map (some m), tv] ∧ w.ownsMap Tryz.prog 9 (plainElem Tryz.prog 45) m L.length D ∧ Nums D L ∧ w.ownsRow 0 9 1 tv L.length (L.map SV) ∧
    S p ∧ S m ∧ (∀ g, tv.ownBlock = some g → S g) ∧ (∀ l ∈ L, l.length ≤ 140737488355328) ∧ L.length ≤ 1048576
/-- Block p is the document's table of these texts; all its blocks are in S. -/
def Rf (w : World) (S : Nat → Prop) (p : Nat) (L : List Tx) : Prop :=
  ∃ lv, Blk w p 61 #[lv] ∧ S p ∧ Ls w (fun k => ¬ S k ∨ k = p) lv L ∧ (∀ l ∈ L, l.length ≤ 140737488355328) ∧ L.length ≤ 1048576
theorem Tb.ch {S T : Nat → Prop} {w w' : World} {p : Nat} {L : List Tx} (h : Tb w S p L) (c : Ch T w w') (hd : ∀ k, S k → T k → False) : Tb w' S p L := by
  obtain ⟨m, tv, D, h1, h2, h3, h4, h5, h6, h7, h8⟩ := h
  exact ⟨m, tv, D, h1.ch c (fun ht => hd _ h5 ht), map_ch h2 c (fun ht => hd _ h6 ht), h3, own_ch h4 c (fun g hg ht => hd _ (h7 g hg) ht), h5, h6, h7, h8⟩
theorem Tb.weaken {S T : Nat → Prop} {w : World} {p : Nat} {L : List Tx} (h : Tb w S p L) (hd : ∀ k, S k → T k) : Tb w T p L := by
  obtain ⟨m, tv, D, h1, h2, h3, h4, h5, h6, h7, h8⟩ := h
  exact ⟨m, tv, D, h1, h2, h3, h4, hd _ h5, hd _ h6, fun g hg => hd _ (h7 g hg), h8⟩
theorem Tb.drewN {S : Nat → Prop} {w : World} {p : Nat} {L : List Tx} (h : Tb w S p L) (n : Nat) : Tb (w.drewN n) S p L := h
theorem Rf.ch {S T : Nat → Prop} {w w' : World} {p : Nat} {L : List Tx} (h : Rf w S p L) (c : Ch T w w') (hd : ∀ k, S k → T k → False) : Rf w' S p L := by
  obtain ⟨lv, h1, h2, h3, h4⟩ := h
  exact ⟨lv, h1.ch c (fun ht => hd _ h2 ht), h2, h3.ch c (fun k _ ht => .inl (fun hs => hd _ hs ht)), h4⟩
theorem Rf.drewN {S : Nat → Prop} {w : World} {p : Nat} {L : List Tx} (h : Rf w S p L) (n : Nat) : Rf (w.drewN n) S p L := h
end

end Go.Proofs.YtebjjkhiniccgaaGreat.Ik

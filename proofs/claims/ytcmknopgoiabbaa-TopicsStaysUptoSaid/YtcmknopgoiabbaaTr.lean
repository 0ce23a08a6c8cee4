/-
  The plain mathematics of layer 7 (topics): what was given, record by record.
-/
import Derived.Test.YtcmknopgoiabbaaTo
namespace Go.Proofs.Ytcmknopgoiabbaa.Tr
set_option linter.unusedSimpArgs false
open Cm Pm Pz Tm Tn Tq To
set_option linter.unusedVariables false

theorem placed_name (n : Tx) : ∀ (rs : List Tx) (k : Int), ∀ x ∈ placed n k rs, x.1 = n
  | [], k, x, h => by simp [placed] at h
  | r :: rs, k, x, h => by
    simp only [placed, List.mem_cons] at h
    rcases h with rfl | h
    · rfl
    · exact placed_name n rs (k + 1) x h
theorem placed_length (n : Tx) : ∀ (rs : List Tx) (k : Int), (placed n k rs).length = rs.length
  | [], k => rfl
  | r :: rs, k => by simp [placed, placed_length n rs (k + 1)]
/-- The places of a request's records are its topic's, at most four. -/
theorem does_pl (L : List Tp) (o : O) : (∀ x ∈ (doesS L o).2.1, x.1 = o.topic) ∧ (doesS L o).2.1.length ≤ 4 := by
  unfold doesS
  split
  · simp
  · rename_i hc
    have hc : check o = 0 := Classical.byContradiction hc
    split
    · simp
    · split
      · split
        · simp
        · split <;> simp
      · split
        · simp
        · split
          · rename_i hk
            split
            · simp
            · refine ⟨fun x hx => placed_name _ _ _ x hx, ?_⟩
              simp only [placed_length]
              exact ((check_lens hc).2.2.2 (by rw [hk]; rfl)).2.1
          · split
            · split
              · simp
              · split <;> simp
            · split <;> simp
theorem app_pl (s : St) (c t : Int) (o : O) : (∀ x ∈ (appS s c t o).2.1, x.1 = o.topic) ∧ (appS s c t o).2.1.length ≤ 4 := by
  unfold appS
  split
  · simp
  · simp only
    split
    · simp
    · split
      · simp
      · exact does_pl s.L o
theorem app_stays {s : St} {f : Log} (h : GoodS s) (hl : LogOk s.L f) (c t : Int) (o : O) : Each f (appS s c t o).2.1 ∧ LogOk (appS s c t o).2.2.2.L (note f (appS s c t o).2.1) := by
  unfold appS
  split
  · exact ⟨trivial, hl⟩
  · simp only
    split
    · exact ⟨trivial, hl⟩
    · split
      · exact ⟨trivial, hl⟩
      · exact doesS_stays h.L hl o
theorem note_app : ∀ (p q : List (Tx × Int × Tx)) (f : Log), note f (p ++ q) = note (note f p) q
  | [], q, f => rfl
  | x :: p, q, f => by simp only [List.cons_append, note]; exact note_app p q (note1 f x)
theorem note_take {pl : List (Tx × Int × Tx)} (f : Log) {j : Nat} (hj : j < pl.length) : note f (pl.take (j + 1)) = note1 (note f (pl.take j)) pl[j] := by
  rw [List.take_add_one, List.getElem?_eq_getElem hj, note_app]
  rfl
theorem each_at : ∀ {pl : List (Tx × Int × Tx)} {f : Log}, Each f pl → ∀ (j : Nat) (hj : j < pl.length), pl[j].2.1 = ((note f (pl.take j) pl[j].1).length : Int)
  | [], f, h, j, hj => absurd hj (by simp)
  | x :: pl, f, h, 0, hj => h.1
  | x :: pl, f, h, j + 1, hj => each_at h.2 j (by simpa using hj)
theorem note1_len (f : Log) (x : Tx × Int × Tx) (y : Tx) : (note1 f x y).length ≤ (f y).length + 1 := by
  unfold note1
  split
  · rename_i e; subst e; simp
  · omega
/-- A topic that is there holds what was given, from its base on. -/
theorem held {L : List Tp} {f : Log} (hl : LogOk L f) {s : Tx} {t : Tp} (h : findT L s = some t) : ((f s).length : Int) = t.next ∧ t.recs = (f s).drop t.base.toNat := by
  obtain ⟨ht, rfl⟩ := findT_some h
  exact hl.held t ht
end Go.Proofs.Ytcmknopgoiabbaa.Tr

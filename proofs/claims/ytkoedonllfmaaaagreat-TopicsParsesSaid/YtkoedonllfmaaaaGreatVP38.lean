/-
  Layer 7: the document's Parse.
-/
import Derived.Test.YtkoedonllfmaaaaGreatVP37
import Derived.Test.YtkoedonllfmaaaaGreatVP29
namespace Go.Proofs.YtkoedonllfmaaaaGreat.Xae
set_option linter.unusedSimpArgs false
open Go Go.RowKit Ck Ca Ce Ch Ci Cj Cn Co Kw Ga Kf Km Pm Pe Pz Py Tm Tn Tq Ah Ta Tb Xa Xr Xs Xac Xad Xy
attribute [local go_sem ↓] Go.wp_at_zero Go.wp_at_succ
set_option linter.unusedVariables false
set_option maxRecDepth 100000

def lastT (L : List Tp) : Tx := (L.getLast?.map (·.n)).getD []
theorem lastT_snoc (L : List Tp) (t : Tp) : lastT (L ++ [t]) = t.n := by simp [lastT]
theorem okTs_snoc (t : Tp) : ∀ (L : List Tp) (last : Tx), okTs last (L ++ [t]) = (okTs last L && (okT t && decide ((L.getLast?.map (·.n)).getD last < t.n)))
  | [], last => by simp [okTs]; try rfl
  | x :: L, last => by
    have h : ((x :: L).getLast?.map (·.n)).getD last = (L.getLast?.map (·.n)).getD x.n := by
      rw [List.getLast?_cons]
      cases L.getLast? <;> rfl
    rw [List.cons_append, okTs, okTs, okTs_snoc t L x.n, h]
    simp only [Bool.and_assoc]
    try rfl
/-- The reader in block g, the topics that are being read in block q: all of it new. -/
structure PZ (w : World) (g q : Nat) (l : List Tw) (last : List An) (lv : Value) (s : Cm.RS) (W : World) : Prop where
  below : Below w.heap.size w W
  rr : RR W (fun k => w.heap.size ≤ k) g s
  lg : w.heap.size ≤ g
  tp : TParts W (fun k => w.heap.size ≤ k ∧ k < W.heap.size ∧ k ≠ g) q l last lv
section
variable {w W W1 W2 : World} {g q : Nat} {l : List Tw} {last : List An} {lv v' : Value} {s s1 : Cm.RS} {x : Tw}
theorem PZ.later (h : PZ w g q l last lv s W) (b : Below W.heap.size W W1) : PZ w g q l last lv s W1 :=
  ⟨h.below.trans (b.mono h.below.size), h.rr.after b, h.lg, (h.tp.later b).up (fun k hk => ⟨hk.1, Nat.lt_of_lt_of_le hk.2.1 b.size, hk.2.2⟩)⟩
theorem PZ.read (h : PZ w g q l last lv s W) (c : Kw.Ch (fun k => k = g) W W1) (hr : RR W1 (fun k => w.heap.size ≤ k) g s1) : PZ w g q l last lv s1 W1 :=
  ⟨h.below.trans (c.below (B := w.heap.size) (fun k hk e => by have := h.lg; omega) h.below.size), hr, h.lg, (h.tp.ch c (fun k hk e => hk.2.2 e)).up (fun k hk => ⟨hk.1, Nat.lt_of_lt_of_le hk.2.1 c.size, hk.2.2⟩)⟩
/-- A topic that was read is none of what is there. -/
theorem PZ.fresh (h : PZ w g q l last lv s W) (c : Kw.Ch (fun k => k = g) W W1) (hx : ∀ Y : Nat → Prop, (∀ k, W.heap.size ≤ k → k < W1.heap.size → ¬ Y k) → TwOk W1 Y x) : TwOk W1 (fun k => ¬ (w.heap.size ≤ k ∧ k < W1.heap.size ∧ k ≠ g) ∨ k = q ∨ lv.ownBlock = some k) x := by
  have hg := h.rr.lt
  have hq := h.tp.blk.lt
  have hs := h.below.size
  refine hx _ (fun k h1 h2 hk => ?_)
  rcases hk with hk | hk | hk
  · exact hk ⟨by omega, h2, by omega⟩
  · omega
  · have := (h.tp.slv k hk).2.1; omega
theorem PZ.push (h : PZ w g q l last lv s W) (hx : TwOk W (fun k => ¬ (w.heap.size ≤ k ∧ k < W.heap.size ∧ k ≠ g) ∨ k = q ∨ lv.ownBlock = some k) x) (ha : Appended W 0 74 4 lv (l.length + 1) (TCs l ++ TCs [x]) v' W2) : PZ w g q (l ++ [x]) last v' s (W2.setCell ⟨q, 0, none⟩ v') := by
  have hgl := h.rr.lt
  have hs0 := h.below.size
  have c2 : Kw.Ch (fun k => lv.ownBlock = some k) W W2 := Kw.Ch.of_grown ha.2.1 (fun q hq _ => hq)
  have c3 : Kw.Ch (fun k => k = q) W2 (W2.setCell ⟨q, 0, none⟩ v') := (Kw.Ch.refl (fun k => k = q) W2).setCell (p := ⟨q, 0, none⟩) (fun _ => rfl) _
  have cc : Kw.Ch (fun k => lv.ownBlock = some k ∨ k = q) W (W2.setCell ⟨q, 0, none⟩ v') := (c2.mono (T := fun k => lv.ownBlock = some k ∨ k = q) (fun _ _ h => .inl h)).trans (c3.mono (T := fun k => lv.ownBlock = some k ∨ k = q) (fun _ _ h => .inr h)) (fun _ _ h => h)
  have hsz : (W2.setCell ⟨q, 0, none⟩ v').heap.size = W2.heap.size := by simp
  have hb2 := h.tp.blk.ch c2 (own_far h.tp.row h.tp.blk (by decide))
  have hin : ∀ k, (lv.ownBlock = some k ∨ k = q) → w.heap.size ≤ k ∧ k < W.heap.size ∧ k ≠ g := fun k hk => by
    rcases hk with hk | hk
    · exact h.tp.slv k hk
    · rw [hk]; exact h.tp.sq
  have hv : ∀ k, v'.ownBlock = some k → (lv.ownBlock = some k ∨ k = W.heap.size) ∧ k < W2.heap.size := fun k hk => ⟨by
    rcases ha.2.2 with e | e
    · rw [e] at hk; exact .inl hk
    · rw [e] at hk; injection hk with hk; exact .inr hk.symm, (ha.1.lt k hk).2⟩
  have hmv : ∀ {y : Tw}, TwOk W (fun k => ¬ (w.heap.size ≤ k ∧ k < W.heap.size ∧ k ≠ g) ∨ k = q ∨ lv.ownBlock = some k) y → TwOk (W2.setCell ⟨q, 0, none⟩ v') (fun k => ¬ (w.heap.size ≤ k ∧ k < (W2.setCell ⟨q, 0, none⟩ v').heap.size ∧ k ≠ g) ∨ k = q ∨ v'.ownBlock = some k) y := fun hy => by
    refine hy.move cc (fun k _ hk => ?_) (fun k hkl hk => ?_)
    · rcases hk with hk | hk
      · exact .inr (.inr hk)
      · exact .inr (.inl hk)
    · have h3 := cc.size
      rcases hk with hk | hk | hk
      · exact .inl (fun hh => hk ⟨hh.1, by omega, hh.2.2⟩)
      · exact .inr (.inl hk)
      · rcases (hv k hk).1 with hk | hk
        · exact .inr (.inr hk)
        · omega
  refine ⟨h.below.trans (cc.below (B := w.heap.size) (fun k hlt hk => by have := (hin k hk).1; omega) hs0), rr_ch h.rr cc (fun k _ hk => ⟨(hin k hk).1, (hin k hk).2.2⟩), h.lg, ?_, ?_, ?_, fun k hk => ?_, fun y hy => ?_⟩
  · have := hb2.set_ 0 v'
    simpa using this
  · rw [List.length_append, Xr.TCs_app]
    exact own_ch ha.1 c3 (fun k hk e => own_far ha.1 hb2 (by decide) (by rw [← e]; exact hk))
  · have := h.tp.sq
    exact ⟨this.1, by have := cc.size; omega, this.2.2⟩
  · obtain ⟨h1, h2⟩ := hv k hk
    rcases h1 with h1 | h1
    · have := h.tp.slv k h1
      exact ⟨this.1, by rw [hsz]; exact h2, this.2.2⟩
    · exact ⟨by omega, by rw [hsz]; exact h2, by omega⟩
  · rcases List.mem_append.1 hy with hy | hy
    · exact hmv (h.tp.each y hy)
    · rw [List.mem_singleton] at hy
      subst hy
      exact hmv hx
/-- The same, the topics not laid open. -/
structure PY (w : World) (g q : Nat) (st : St) (s : Cm.RS) (W : World) : Prop where
  below : Below w.heap.size w W
  rr : RR W (fun k => w.heap.size ≤ k) g s
  lg : w.heap.size ≤ g
  tk : Tk W (fun k => w.heap.size ≤ k ∧ k < W.heap.size ∧ k ≠ g) q st
theorem PY.later {st : St} (h : PY w g q st s W) (b : Below W.heap.size W W1) : PY w g q st s W1 :=
  ⟨h.below.trans (b.mono h.below.size), h.rr.after b, h.lg, (h.tk.later b).up (fun k hk => ⟨hk.1, Nat.lt_of_lt_of_le hk.2.1 b.size, hk.2.2⟩)⟩
theorem PY.read {st : St} (h : PY w g q st s W) (hg : W.grownBy W1 (some g)) (hr : RR W1 (fun k => w.heap.size ≤ k) g s1) : PY w g q st s1 W1 := by
  have c : Kw.Ch (fun k => k = g) W W1 := Kw.Ch.of_grown hg (fun q hq _ => by injection hq with hq; exact hq.symm)
  exact ⟨h.below.trans (c.below (B := w.heap.size) (fun k hk e => by have := h.lg; omega) h.below.size), hr, h.lg, (h.tk.ch c (fun k hk e => hk.2.2 e)).up (fun k hk => ⟨hk.1, Nat.lt_of_lt_of_le hk.2.1 c.size, hk.2.2⟩)⟩
/-- A box beside them is turned. -/
theorem PY.box {st : St} (h : PY w g q st s W) {gb : Nat} (c : Kw.Ch (fun k => k = gb) W W1) (h0 : Tk W (fun k => w.heap.size ≤ k ∧ k < W.heap.size ∧ k ≠ g ∧ k ≠ gb) q st) (h1 : w.heap.size ≤ gb) (h2 : gb ≠ g) : PY w g q st s W1 :=
  ⟨h.below.trans (c.below (B := w.heap.size) (fun k hk e => by omega) h.below.size), rr_ch h.rr c (fun k _ e => by rw [e]; exact ⟨h1, h2⟩), h.lg, (h0.ch c (fun k hk e => hk.2.2.2 e)).up (fun k hk => ⟨hk.1, Nat.lt_of_lt_of_le hk.2.1 c.size, hk.2.2.1⟩)⟩
theorem PY.ans {st : St} (h : PY w g q st s W) {i : Nat} (hi : i < st.last.length) (a : An) : PY w g q ⟨st.L, st.last.set i a⟩ s (((W.setCell ⟨q, 1 + i * 3, none⟩ (.int .i64 a.time)).setCell ⟨q, 1 + i * 3 + 1, none⟩ (.int .i64 a.err)).setCell ⟨q, 1 + i * 3 + 2, none⟩ (.int .i64 a.off)) := by
  have c := Al.three_ch W q (1 + i * 3) (1 + i * 3 + 1) (1 + i * 3 + 2) (.int .i64 a.time) (.int .i64 a.err) (.int .i64 a.off)
  obtain ⟨l0, lv0, _, hp⟩ := id h.tk
  have hq := hp.sq
  exact ⟨h.below.trans (c.below (B := w.heap.size) (fun k hk e => by have := hq.1; omega) h.below.size), rr_ch h.rr c (fun k _ e => by rw [e]; exact ⟨hq.1, hq.2.2⟩), h.lg, (tk_last h.tk hi a).up (fun k hk => ⟨hk.1, Nat.lt_of_lt_of_le hk.2.1 c.size, hk.2.2⟩)⟩
end
end Go.Proofs.YtkoedonllfmaaaaGreat.Xae

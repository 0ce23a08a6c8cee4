/-
  Words for layer 4's Append: the last segment, longer by a record.
-/
import Derived.Test.YtjjfhbbaabakmaaGreatDoorWS12
import Derived.Laws.OwnMore
namespace Go.Proofs.YtjjfhbbaabakmaaGreatDoor.Wu
set_option linter.unusedSimpArgs false
open Go Go.RowKit Ck Kw Ga Dm Dw Da Db Dc Dd De Df Dg Dh Wc Wf Wa Wb Wd Wn We Kx Wg Wh Wl Wj Wk Wo Wq Wr Ws Wt
set_option linter.unusedVariables false

theorem cellsS_last {ls : List Sg} {rl : List Value} {s : Sg} {u : Value} (h : rl.length = ls.length) : cellsS (ls ++ [s]) (rl ++ [u]) = cellsS ls rl ++ segCells s u := by rw [cellsS_app h]; rfl
theorem cells_set_size {ls : List Sg} {rl : List Value} {s : Sg} {u : Value} (h : rl.length = ls.length) (z : Nat) : (cellsS (ls ++ [s]) (rl ++ [u])).set (ls.length * 4 + 2) (.int .i64 (z : Int)) = cellsS (ls ++ [⟨s.num, s.first, z, s.recs⟩]) (rl ++ [u]) := by
  rw [cellsS_last h, cellsS_last h, List.set_append_right _ _ (by rw [cellsS_len h]; omega), cellsS_len h, show ls.length * 4 + 2 - ls.length * 4 = 2 by omega]
  rfl
theorem cells_set_recs {ls : List Sg} {rl : List Value} {s : Sg} {u u' : Value} (h : rl.length = ls.length) (r : List Tx) : (cellsS (ls ++ [s]) (rl ++ [u])).set (ls.length * 4 + 3) u' = cellsS (ls ++ [⟨s.num, s.first, s.size, r⟩]) (rl ++ [u']) := by
  rw [cellsS_last h, cellsS_last h, List.set_append_right _ _ (by rw [cellsS_len h]; omega), cellsS_len h, show ls.length * 4 + 3 - ls.length * 4 = 3 by omega]
  rfl
section
variable {w w7 : World} {S : Nat → Prop} {ls : List Sg} {s : Sg} {rl : List Value} {u v' : Value} {gb N cap : Nat}
theorem snoc_at {α : Type} {l : List α} {x : α} {i : Nat} {y : α} (h : (l ++ [x])[i]? = some y) : l[i]? = some y ∨ (i = l.length ∧ y = x) := by
  by_cases hlt : i < l.length
  · rw [List.getElem?_append_left hlt] at h; exact .inl h
  · rw [List.getElem?_append_right (by omega)] at h
    have : i - l.length = 0 := by have := (List.getElem?_eq_some_iff.1 h).1; simp at this; omega
    rw [this] at h
    exact .inr ⟨by omega, by simpa using h.symm⟩
/-- The last segment's size, set. -/
theorem Segs.set_size (h : Segs w S (.slice (some ⟨gb, 0, none⟩) N cap) (ls ++ [s]) (rl ++ [u])) (hN : N = ls.length + 1) (z : Nat) (hg : GoodS ⟨s.num, s.first, z, s.recs⟩) :
    Segs (w.setCell ⟨gb, ls.length * 4 + 2, none⟩ (.int .i64 (z : Int))) S (.slice (some ⟨gb, 0, none⟩) N cap) (ls ++ [⟨s.num, s.first, z, s.recs⟩]) (rl ++ [u]) := by
  have hrl : rl.length = ls.length := by have := h.len; simp at this; exact this
  have c : Ch (fun k => k = gb) w (w.setCell ⟨gb, ls.length * 4 + 2, none⟩ (.int .i64 (z : Int))) := (Ch.refl (fun k => k = gb) w).setCell (p := ⟨gb, ls.length * 4 + 2, none⟩) (fun _ => rfl) _
  have hkeep : ∀ {x : Value} {rs : List Tx}, Rcs w S x rs → Rcs (w.setCell ⟨gb, ls.length * 4 + 2, none⟩ (.int .i64 (z : Int))) S x rs := fun {x rs} hx => by
    refine hx.keep c (fun k hk e => ?_) (fun k b n y A cc hrow hk e => ?_)
    · obtain ⟨vals, h1, _⟩ := hx
      exact row_far h1 h.row (by decide) hk (by rw [e]; rfl)
    · exact row_far hrow h.row (by decide) hk (by rw [e]; rfl)
  have hlen : (ls ++ [s]).length = N := by simp [hN]
  have hlen2 : (ls ++ [(⟨s.num, s.first, z, s.recs⟩ : Sg)]).length = N := by simp [hN]
  refine ⟨by have := h.len; simpa using this, ?_, h.own, fun i hi => ?_, h.apart, fun x hx => ?_⟩
  · have hr := h.row
    rw [hlen] at hr
    have := hr.stored (ls.length * 4 + 2) (.int .i64 (z : Int))
    rw [cells_set_size hrl] at this
    rw [hlen2]
    exact this.1
  · have hi' : i < (ls ++ [s]).length := by simpa using hi
    obtain ⟨x, h1, h2⟩ := h.rcs i hi'
    refine ⟨x, h1, ?_⟩
    by_cases hlt : i < ls.length
    · rw [List.getElem_append_left hlt] at h2 ⊢; exact hkeep h2
    · have e : i = ls.length := by simp at hi; omega
      subst e
      rw [List.getElem_append_right (Nat.le_refl _)] at h2 ⊢
      simp only [Nat.sub_self, List.getElem_cons_zero] at h2 ⊢
      exact hkeep h2
  · rcases List.mem_append.1 hx with hx | hx
    · exact h.good x (List.mem_append_left _ hx)
    · rw [List.mem_singleton.1 hx]; exact hg
/-- The last segment's records, one more. -/
theorem Segs.app_last {x : Tx} {A : Option Addr} {c : Nat} {vals : List Value} (h : Segs w S (.slice (some ⟨gb, 0, none⟩) N cap) (ls ++ [s]) (rl ++ [u])) (hN : N = ls.length + 1) (hg : GoodS ⟨s.num, s.first, s.size, s.recs ++ [x]⟩)
    (hvals : w.ownsRow 0 32 1 u s.recs.length vals) (hx : w.ownsRow 0 5 1 (.slice A x.length c) x.length (BVs x)) (hxS : ∀ k, (Value.slice A x.length c).ownBlock = some k → S k)
    (ha : Appended w 0 32 1 u (s.recs.length + 1) (vals ++ [.slice A x.length c]) v' w7) :
    Segs (w7.setCell ⟨gb, ls.length * 4 + 3, none⟩ v') (Up S w w7) (.slice (some ⟨gb, 0, none⟩) N cap) (ls ++ [⟨s.num, s.first, s.size, s.recs ++ [x]⟩]) (rl ++ [v']) := by
  obtain ⟨ho, hgr, hloc⟩ := ha
  have hrl : rl.length = ls.length := by have := h.len; simp at this; exact this
  have cg : Ch (fun k => u.ownBlock = some k) w w7 := Ch.of_grown hgr (fun g hg _ => hg)
  have hrow7 := own_ch h.row cg (fun k hk e => row_far hvals h.row (by decide) e hk)
  have c : Ch (fun k => k = gb) w7 (w7.setCell ⟨gb, ls.length * 4 + 3, none⟩ v') := (Ch.refl (fun k => k = gb) w7).setCell (p := ⟨gb, ls.length * 4 + 3, none⟩) (fun _ => rfl) _
  have hkeep : ∀ {y : Value} {T : Nat → Prop} {rs : List Tx}, Rcs w7 T y rs → Rcs (w7.setCell ⟨gb, ls.length * 4 + 3, none⟩ v') T y rs := fun {y T rs} hy => by
    refine hy.keep c (fun k hk e => ?_) (fun k b n z A cc hrow hk e => ?_)
    · obtain ⟨vs, h1, _⟩ := hy
      exact row_far h1 hrow7 (by decide) hk (by rw [e]; rfl)
    · exact row_far hrow hrow7 (by decide) hk (by rw [e]; rfl)
  have hlen : (ls ++ [s]).length = N := by simp [hN]
  have hlen2 : (ls ++ [(⟨s.num, s.first, s.size, s.recs ++ [x]⟩ : Sg)]).length = N := by simp [hN]
  have hu : (rl ++ [u])[ls.length]? = some u := by rw [List.getElem?_append_right (by omega), hrl]; simp
  refine ⟨by have := h.len; simpa using this, ?_, fun k hk => .inl (h.own k hk), fun i hi => ?_, fun i j u1 u2 k hij h1 h2 hk => ?_, fun y hy => ?_⟩
  · have hr := hrow7
    rw [hlen] at hr
    have := hr.stored (ls.length * 4 + 3) v'
    rw [cells_set_recs hrl (s.recs ++ [x])] at this
    rw [hlen2]
    exact this.1
  · by_cases hlt : i < ls.length
    · obtain ⟨y, h1, h2⟩ := h.rcs i (by simp; omega)
      rw [List.getElem_append_left hlt] at h2 ⊢
      have hy : rl[i]? = some y := by rwa [List.getElem?_append_left (by omega)] at h1
      refine ⟨y, by rw [List.getElem?_append_left (by omega)]; exact hy, hkeep ((h2.keep cg (fun k hk e => ?_) (fun k b n z A cc hrow hk e => row_far hvals hrow (by decide) e hk)).weaken (fun k hk => .inl hk))⟩
      exact h.apart i ls.length y u k (by omega) h1 hu hk e
    · have e : i = ls.length := by simp at hi; omega
      subst e
      obtain ⟨y, h1, h2⟩ := h.rcs ls.length (by simp)
      rw [List.getElem_append_right (Nat.le_refl _)] at h2 ⊢
      simp only [Nat.sub_self, List.getElem_cons_zero] at h2 ⊢
      have hyu : y = u := by rw [hu] at h1; injection h1 with h1; exact h1.symm
      subst hyu
      exact ⟨v', by rw [List.getElem?_append_right (by omega), hrl]; simp, hkeep (Rcs.push (vals := vals) h2 (fun vs hvs => row_vals hvs hvals) hx hxS ho hgr hloc (fun e => (ho.lt _ e).2))⟩
  · have hnew : ∀ (i : Nat) (y : Value) (k : Nat), i ≠ rl.length → rl[i]? = some y → v'.ownBlock = some k → y.ownBlock ≠ some k := fun i y k hi hy hk hyk => by
      have hyi : (rl ++ [u])[i]? = some y := by rw [List.getElem?_append_left (List.getElem?_eq_some_iff.1 hy).1]; exact hy
      rcases hloc with hb | hb
      · rw [hb] at hk
        exact h.apart i ls.length y u k (by omega) hyi hu hyk hk
      · rw [hb] at hk
        injection hk with hk
        have hil : i < (ls ++ [s]).length := by have := (List.getElem?_eq_some_iff.1 hy).1; simp; omega
        obtain ⟨y', g1, g2⟩ := h.rcs i hil
        rw [hyi] at g1
        injection g1 with g1
        subst g1
        have := (g2.in_ k hyk).2
        omega
    rcases snoc_at h1 with g1 | ⟨g1, rfl⟩ <;> rcases snoc_at h2 with g2 | ⟨g2, rfl⟩
    · exact h.apart i j u1 u2 k hij (by rw [List.getElem?_append_left (List.getElem?_eq_some_iff.1 g1).1]; exact g1) (by rw [List.getElem?_append_left (List.getElem?_eq_some_iff.1 g2).1]; exact g2) hk
    · exact fun e => hnew i u1 k (by omega) g1 e hk
    · exact hnew j u2 k (by omega) g2 hk
    · omega
  · rcases List.mem_append.1 hy with hy | hy
    · exact h.good y (List.mem_append_left _ hy)
    · rw [List.mem_singleton.1 hy]; exact hg
end

end Go.Proofs.YtjjfhbbaabakmaaGreatDoor.Wu

/-
  Contract of layer 4's Append.
-/
namespace Go.Proofs.YtjjfhbbaabakmaaGreatDoor.Wv
set_option linter.unusedSimpArgs false
open Go Go.RowKit Ck Kw Ga Dm Dw Da Db Dc Dd De Df Dg Dh Wc Wf Wa Wb Wd Wn We Kx Wg Wh Wl Wj Wk Wo Wq Wr Ws Wt Wu
attribute [local go_sem ↓] Go.wp_at_zero Go.wp_at_succ
set_option linter.unusedVariables false

/-- Must another segment begin first? -/
def full (s : Sg) (most : Nat) : Bool := decide (0 < s.recs.length) && decide (most ≤ s.size)
/-- What the last part of Append answers and leaves. -/
def Apped (S1 S2 : Nat → Prop) (g p room : Nat) (name : Tx) (most : Nat) (w : World) (L : List Fl) (ls : List Sg) (s : Sg) (synced : Nat) (x : Tx) (e : Ending) (w' : World) : Prop :=
  ((appS L room false (nm name s.num) (frame x)).2 = 0 ∧ e = .returned (.tuple #[.int .i64 ((s.first + s.recs.length : Nat) : Int), .int .i64 0]) ∧
    Wal S1 S2 g p room name most w (appS L room false (nm name s.num) (frame x)).1 (ls ++ [⟨s.num, s.first, s.size + (frame x).length, s.recs ++ [x]⟩]) synced w') ∨
  ((appS L room false (nm name s.num) (frame x)).2 ≠ 0 ∧ e = .returned (.tuple #[.int .i64 0, .int .i64 ((appS L room false (nm name s.num) (frame x)).2 : Int)]) ∧
    Wal S1 S2 g p room name most w (appS L room false (nm name s.num) (frame x)).1 (ls ++ [s]) synced w')
/-- What Append answers and leaves: it rolls first, or not. -/
def AppLog (S1 S2 : Nat → Prop) (g p room : Nat) (name : Tx) (most : Nat) (w : World) (L : List Fl) (ls : List Sg) (s : Sg) (synced : Nat) (f : Fl) (x : Tx) (e : Ending) (w' : World) : Prop :=
  (full s most = false ∧ Apped S1 S2 g p room name most w L ls s synced x e w') ∨
  (full s most = true ∧ (rollS L room name f s).2 = 0 ∧ Apped S1 S2 g p room name most w (rollS L room name f s).1 (ls ++ [s]) ⟨s.num + 1, s.first + s.recs.length, (head (s.first + s.recs.length)).length, []⟩ (s.first + s.recs.length - 1) x e w') ∨
  (full s most = true ∧ (rollS L room name f s).2 ≠ 0 ∧ e = .returned (.tuple #[.int .i64 0, .int .i64 ((rollS L room name f s).2 : Int)]) ∧ Wal S1 S2 g p room name most w (rollS L room name f s).1 (ls ++ [s]) (s.first + s.recs.length - 1) w')

/-- A frame put behind a file that fits: what the file's length may be. -/
theorem app_fits {L : List Fl} {room : Nat} {n : Tx} {f : Fl} {x : Tx} (h : GoodL L room) (hf : find L n = some f) (hc : (appS L room false n x).2 = 0) : f.b.length + x.length ≤ 4194304 := by
  have e : appS L room false n x = putS L room f f.b.length x := by rw [appS, hf]; rfl
  rw [e, putS] at hc
  split at hc
  · simp at hc
  · have := h.room
    have := used_mem (List.mem_of_find?_eq_some hf)
    omega
theorem beg_find {L : List Fl} {room : Nat} {name : Tx} {k first : Nat} (h : (begS L room name k first).2 = 0) : ∃ f, find (begS L room name k first).1 (nm name k) = some f ∧ f.b.length = (head first).length := by
  unfold begS at h ⊢
  split at h
  · simp at h
  · rename_i h1
    rw [if_neg h1]
    split at h
    · simp at h
    · rename_i h2
      rw [if_neg h2]
      split at h
      · simp at h
      · rename_i h3
        rw [if_neg h3]
        split at h
        · simp at h
        · rename_i h4
          rw [if_neg h4]
          split at h
          · simp at h
          · rename_i h5
            rw [if_neg h5]
            have h3 : isIn L (nm name k) = false := by simpa using h3
            have := find_ins (x := ⟨nm name k, head first, (head first).length⟩) h3
            exact ⟨_, this, rfl⟩

/-- A log's last segment, laid open. -/
theorem lds_last {w : World} {S1 S2 : Nat → Prop} {g p room most y : Nat} {L : List Fl} {name : Tx} {ls : List Sg} {s : Sg} (h : LDs w S1 S2 g p L room name most (ls ++ [s]) y) :
    ∃ gb cap rl A c, LgC w g p gb cap name most (ls ++ [s]) y ∧ S1 gb ∧ gb ≠ g ∧ S1 g ∧ rl.length = ls.length ∧ Segs w (fun k => S1 k ∧ k ≠ g) (.slice (some ⟨gb, 0, none⟩) (ls ++ [s]).length cap) (ls ++ [s]) (rl ++ [.slice A s.recs.length c]) := by
  obtain ⟨gb, cap, h1, h2, h3⟩ := h.cells (by simp)
  obtain ⟨v, rv, k1, k2, k3, _⟩ := h.lg
  have e1 := h1.blk.cell 3
  have e2 := k1.cell 3
  simp only [List.getElem?_toArray, List.getElem?_cons_zero, List.getElem?_cons_succ] at e1 e2
  rw [e1] at e2
  injection e2 with e2
  subst e2
  have hl := k3.len
  rcases List.eq_nil_or_concat rv with rfl | ⟨rl, u, rfl⟩
  · simp at hl
  · rw [List.concat_eq_append] at *
    have hl' : rl.length = ls.length := by simpa using hl
    obtain ⟨u', g1, g2⟩ := k3.rcs ls.length (by simp)
    rw [List.getElem?_append_right (by omega), hl'] at g1
    rw [List.getElem_append_right (Nat.le_refl _)] at g2
    simp only [Nat.sub_self, List.getElem?_cons_zero, List.getElem_cons_zero] at g1 g2
    injection g1 with g1
    subst g1
    obtain ⟨A, c, rfl⟩ := g2.shape
    exact ⟨gb, cap, rl, A, c, h1, h2, h3, k2, hl', k3⟩
/-- The last one of a row of segments, read. -/
theorem seg_last {w : World} {S : Nat → Prop} {gb cap : Nat} {ls : List Sg} {s : Sg} {rl : List Value} {u : Value} (h : Segs w S (.slice (some ⟨gb, 0, none⟩) (ls ++ [s]).length cap) (ls ++ [s]) (rl ++ [u])) (hrl : rl.length = ls.length) :
    gb < w.heap.size ∧ w.cell? ⟨gb, ls.length * 4 + 2, none⟩ = some (.int .i64 (s.size : Int)) ∧ w.cell? ⟨gb, ls.length * 4 + 3, none⟩ = some u ∧ (∀ j, w.frozen? ⟨gb, j, none⟩ = false) ∧ Rcs w S u s.recs := by
  obtain ⟨gbx, capx, hvx, -, hgbl, hcapx, hat⟩ := h.at_ (by simp)
  injection hvx with hvx1 hvx2 hvx3
  injection hvx1 with hvx1
  injection hvx1 with hvx1
  subst hvx1
  subst hvx3
  obtain ⟨ux, hux, r0, r1, r2, r3, rf, hrc⟩ := hat ls.length (by simp)
  rw [List.getElem?_append_right (by omega), hrl] at hux
  simp only [List.getElem_append_right (Nat.le_refl _), Nat.sub_self, List.getElem_cons_zero, List.getElem?_cons_zero] at hux r0 r1 r2 r3 hrc
  injection hux with hux
  subst hux
  exact ⟨hgbl, r2, r3, rf, hrc⟩
theorem row_frozen {w : World} {b e sz n m gb cap : Nat} {xs : List Value} (h : w.ownsRow b e sz (.slice (some ⟨gb, 0, none⟩) n cap) m xs) (j : Nat) : w.frozen? ⟨gb, j, none⟩ = false := by
  rcases h.2 with ⟨h0, _⟩ | ⟨g, c, cur, h0, hb, hg, _⟩
  · simp at h0
  · injection h0 with h1 _ _
    injection h1 with h1
    injection h1 with h1
    subst h1
    simp [World.frozen?, hg]
theorem one_lit (w : World) (X : Nat → Prop) (t : TypeId) (u : Value) (hX : ¬ X w.heap.size) : Sl (w.alloc (.cells #[u] t)) X 1 (.slice (some ⟨w.heap.size, 0, none⟩) 1 1) 1 [u] := by
  refine ⟨_, _, rfl, rfl, Nat.le_refl _, by simp only [maxLen]; omega, fun _ => ⟨_, rfl, by simp, hX, fun j x hx => ?_⟩⟩
  have ha : (⟨w.heap.size, 0, none⟩ : Addr).add j = ⟨w.heap.size, j, none⟩ := by unfold Addr.add; split <;> simp_all
  rw [ha, Blk.cell (Blk.new w t _) j]
  simpa using hx
theorem app_cells {wa w9 : World} {u v' y : Value} {n n' N m gb cap j : Nat} {vals xs cs : List Value} (hv : wa.ownsRow 0 32 1 u n vals) (hs : wa.ownsRow 0 76 4 (.slice (some ⟨gb, 0, none⟩) N cap) m cs) (ha : Appended wa 0 32 1 u n' xs v' w9) (hc : wa.cell? ⟨gb, j, none⟩ = some y) :
    w9.cell? ⟨gb, j, none⟩ = some y ∧ w9.frozen? ⟨gb, j, none⟩ = false := by
  have cg : Ch (fun k => u.ownBlock = some k) wa w9 := Ch.of_grown ha.2.1 (fun k hk _ => hk)
  have hne : ¬ u.ownBlock = some gb := fun e => row_far hv hs (by decide) e rfl
  exact ⟨cg.cell hc hne, row_frozen (own_ch hs cg (fun k hk e => by injection hk with hk; subst hk; exact hne e)) j⟩
/-- Where the last part of Append begins. -/
def TailAt (S1 S2 : Nat → Prop) (g p room : Nat) (name : Tx) (most : Nat) (w : World) (L : List Fl) (ls : List Sg) (s : Sg) (synced : Nat) (f : Fl) (x : Tx) (w3 W : World) : Prop :=
  ∃ R1 R2 L' ls' s' y', LDs W R1 R2 g p L' room name most (ls' ++ [s']) y' ∧ Step S1 S2 R1 R2 w3 W ∧ (∃ f', find L' (nm name s'.num) = some f' ∧ f'.b.length = s'.size) ∧ ls'.length ≤ 549755813888 ∧ 1 ≤ s'.first ∧
    ∀ e w', Apped S1 S2 g p room name most w L' ls' s' y' x e w' → AppLog S1 S2 g p room name most w L ls s synced f x e w'

set_option maxRecDepth 100000 in
set_option maxHeartbeats 8000000 in
theorem append_log (w : World) (S1 S2 X : Nat → Prop) (g p : Nat) (L : List Fl) (room : Nat) (name : Tx) (most : Nat) (ls : List Sg) (s : Sg) (synced : Nat) (f : Fl) (h : LDs w S1 S2 g p L room name most (ls ++ [s]) synced) (hl : ls.length ≤ 274877906944) (h1 : 1 ≤ s.first)
    (hf : find L (nm name s.num) = some f) (hsz : f.b.length = s.size) (A : Option Addr) (c : Nat) (x : Tx) (hx : Sl w X 1 (.slice A x.length c) x.length (BVs x)) (hX1 : ∀ k, S1 k → X k) (hX2 : ∀ k, S2 k → X k) (hxl : x.length ≤ 524288) :
    Calls Tryz.prog 8 #[.pointer (some ⟨g, 0, none⟩), .slice A x.length c] w (AppLog S1 S2 g p room name most w L ls s synced f x) := by
  have hfl : 5 ≤ (frame x).length ∧ (frame x).length ≤ 600000 := by
    have := Cm.enc_len x.length
    rw [frame_len]
    have h1 := this.1
    have h2 := this.2
    omega
  have H := Lib.hid h
  have HX := Lib.hid hx
  obtain ⟨gb, cap, hC, hgb, hgn⟩ := h.cells (by simp)
  have HM := Lib.hid (made_log w g p gb cap name most _ synced hC)
  have HFR := Lib.hid (frame_any w X A c x hx hxl)
  have HC := Lib.hid hC
  have HROLL : Hid (∀ W, Below w.heap.size w W → Calls Tryz.prog 11 #[.pointer (some ⟨g, 0, none⟩)] W (Rolled S1 S2 g p room name most W (rollS L room name f s) ls s)) := Lib.hid fun W hb => roll_log W S1 S2 g p L room name most ls s synced f (h.later hb) (by omega) h1 hf
  have HH := Lib.hid (And.intro h1 (And.intro hf (And.intro hsz (And.intro hX1 hX2))))
  clear h hx hC h1 hf hsz hX1 hX2
  go_enter Tryz.func8, Tryz.ntmps8
  go_wp2_with fail
  refine HM.out.mono ?_
  rintro e w1 ⟨rfl, rfl⟩
  go_wp2_with fail
  refine HFR.out.mono ?_
  rintro e w2 ⟨A2, c2, rfl, ho2, hb2⟩
  have HO2 := Lib.hid ho2
  have HB2 := Lib.hid hb2
  have hC2 := HC.out.after hb2
  have HLA := Lib.hid (last_log w2 g p gb cap name most ls s synced hC2 (by omega))
  have HC2 := Lib.hid hC2
  clear ho2 hb2 hC2
  go_wp2_with fail
  refine HLA.out.mono ?_
  rintro e w3 ⟨rfl, hw3⟩
  have hb3 : Below w2.heap.size w2 w3 := by obtain ⟨nn, rfl⟩ := hw3; exact below_drewN (Below.refl _ w2) nn
  have HB3 := Lib.hid (HB2.out.trans (hb3.mono HB2.out.size))
  have hC3 := HC2.out.after hb3
  have HO3 := Lib.hid (own_below HO2.out hb3)
  obtain ⟨A3, c3, q0, q1, q2, q3⟩ := hC3.row ls.length (by simp)
  simp only [List.getElem_append_right (Nat.le_refl _), Nat.sub_self, List.getElem_cons_zero] at q0 q1 q2 q3
  have m2 : w3.cell? ⟨g, 2, none⟩ = some (.int .i64 (most : Int)) := hC3.blk.cell 2
  have HROLL3 := Lib.hid (fun nn => HROLL.out (w3.drewN nn) (below_drewN HB3.out nn))
  have HT0 : Hid (∀ W, Below w3.heap.size w3 W → LDs W S1 S2 g p L room name most (ls ++ [s]) synced) := Lib.hid fun W hb => H.out.later (HB3.out.trans (hb.mono HB3.out.size))
  clear hw3 hb3 hC3 HLA HC2 HO2 HFR HM
  by_cases hfull : full s most = true
  have hfu := hfull
  simp only [full, Bool.and_eq_true, decide_eq_true_eq] at hfu
  have f1 : decide (0 < s.recs.length) = true := by simpa using hfu.1
  have f2 : decide (most ≤ s.size) = true := by simpa using hfu.2
  have HFU := Lib.hid hfull
  clear hfull hfu
  go_wp2_with fail
  go_quiet (fail)
  go_wp2_with fail
  refine (HROLL3.out nq).mono ?_
  rintro e W ⟨rfl, RR1, RR2, hr, hst⟩
  by_cases hc0 : (rollS L room name f s).2 = 0
  have HTA : Hid (TailAt S1 S2 g p room name most w L ls s synced f x w3 W) := Lib.hid (by
    have hr' := hr
    rw [rolled, if_pos hc0] at hr'
    refine ⟨_, _, _, _, _, _, hr', (Step.below (below_drewN (Below.refl _ _) _)).trans hst, beg_find (by unfold rollS at hc0; exact hc0), by simp; omega, by have := HH.out.1; simp only; omega, fun e w' ha => .inr (.inl ⟨HFU.out, hc0, ha⟩)⟩)
  rw [hc0]
  clear hr hst hc0
  go_wp2_with fail
  rotate_left
  · have hq : ((((rollS L room name f s).2 : Nat) : Int) == 0) = false := by rw [beq_eq_false_iff_ne]; omega
    have HR := Lib.hid (And.intro hc0 (And.intro hr hst))
    clear hr hst hc0
    obtain ⟨cc, hcc⟩ : ∃ cc, cc = (rollS L room name f s).2 := ⟨_, rfl⟩
    rw [← hcc] at hq ⊢
    go_wp2_with fail
    go_ret2
    rw [hcc]
    have hr := HR.out.2.1
    rw [rolled, if_neg HR.out.1] at hr
    exact .inr (.inr ⟨HFU.out, HR.out.1, rfl, _, _, hr, ((Step.below HB3.out).trans (Step.below (below_drewN (Below.refl _ _) _))).trans HR.out.2.2⟩)
  have HTA0 : Hid (∀ n, TailAt S1 S2 g p room name most w L ls s synced f x w3 (w3.drewN n)) := Lib.hid fun n =>
      ⟨_, _, _, _, _, _, HT0.out _ (below_drewN (Below.refl _ _) _), Step.below (below_drewN (Below.refl _ _) _), ⟨f, HH.out.2.1, HH.out.2.2.1⟩, by omega, HH.out.1, fun e w' ha => .inl ⟨by simpa using hfull, ha⟩⟩
  by_cases hrec : 0 < s.recs.length
  have f1 : decide (0 < s.recs.length) = true := by simpa using hrec
  have f2 : decide (most ≤ s.size) = false := by
    simp only [full, Bool.and_eq_true, decide_eq_true_eq, not_and] at hfull
    simpa using hfull hrec
  clear hfull hrec
  go_wp2_with fail
  go_quiet (fail)
  go_wp2_with fail
  have HTA := Lib.hid (HTA0.out nq)
  obtain ⟨W, hW⟩ : ∃ W, W = w3.drewN nq := ⟨_, rfl⟩
  rw [← hW] at HTA ⊢
  clear hW
  rotate_left
  have f1 : decide (0 < s.recs.length) = false := by simpa using hrec
  clear hfull hrec
  go_wp2_with fail
  go_quiet (fail)
  go_wp2_with fail
  have HTA := Lib.hid (HTA0.out nq)
  obtain ⟨W, hW⟩ : ∃ W, W = w3.drewN nq := ⟨_, rfl⟩
  rw [← hW] at HTA ⊢
  clear hW
  rotate_left
  all_goals
    clear HROLL3 HROLL HT0 q0 q1 q2 q3 m2 HC f1
    obtain ⟨R1, R2, L', ls', s', y', hT, hS, ⟨f', hf', hfz⟩, hl', h1', hQ⟩ := HTA.out
    have HT := Lib.hid hT
    have HS := Lib.hid hS
    have HF := Lib.hid hf'
    have HFZ := Lib.hid hfz
    have HQ := Lib.hid hQ
    have HG := Lib.hid (hT.good s' (by simp))
    obtain ⟨gb', cap', rl', A', c', hC, hgb', hgn', hg', hrl', hsg⟩ := lds_last hT
    have HC := Lib.hid hC
    have HSG := Lib.hid hsg
    have hnl : (nm name s'.num).length ≤ 140737488355328 := by
      have := nm_len (name := name) (k := s'.num) HG.out.num
      have := hT.name_le
      omega
    have HN16 := Lib.hid hT.name_le
    have HFRM : Hid (∀ W', Below W.heap.size W W' → Sl W' R2 1 (.slice A2 (frame x).length c2) (frame x).length (BVs (frame x))) := Lib.hid fun W' hb => by
      have ho := HO3.out
      have hw3 := HB3.out.size
      have ho' := own_ch ho hS.ch (fun k hk hr => by
        have := (ho.lt k hk).1
        rcases hr with hr | hr
        · have := H.out.b1 k hr; omega
        · have := H.out.b2 k hr; omega)
      refine Sl.of_own' (own_below ho' hb) (fun k hk hr => ?_)
      have h2 := ho.lt k hk
      rcases hS.s2 k hr with hr | hr
      · have := H.out.b2 k hr; omega
      · omega
    have HLA := Lib.hid (last_log W g p gb' cap' name most ls' s' y' hC hl')
    clear hT hS hf' hfz hQ hC hsg HTA
    refine HLA.out.mono ?_
    rintro e w4 ⟨rfl, hw4⟩
    have HB4 : Hid (Below W.heap.size W w4) := Lib.hid (by obtain ⟨nn, rfl⟩ := hw4; exact below_drewN (Below.refl _ W) nn)
    have c0 : w4.cell? ⟨g, 0, none⟩ = some (.pointer (some ⟨p, 0, none⟩)) := (HC.out.after HB4.out).blk.cell 0
    obtain ⟨A'', c'', r0, _⟩ := (HC.out.after HB4.out).row ls'.length (by simp)
    simp only [List.getElem_append_right (Nat.le_refl _), Nat.sub_self, List.getElem_cons_zero] at r0
    have hglt := (HC.out.after HB4.out).blk.lt
    clear hw4 HLA
    go_wp2_with fail
    go_region_held3 (fun w' => w'.cell? ⟨g, 0, none⟩ = some (.pointer (some ⟨p, 0, none⟩))) (first | exact c0 | exact d0 | exact d1)
      (first
      | (go_at_call 36; refine (file_log _ g p name most y' _ (HC.out.after (below_drewN HB4.out 1)).blk HN16.out (HT.out.later (below_drewN HB4.out 1)).tab gb' _ s'.num HG.out.num r0).mono ?_; rintro e w5 ⟨rfl, hb5⟩; have hb5 := below_of_drew hb5; have HB5 : Hid (Below W.heap.size W w5) := Lib.hid (HB4.out.trans (hb5.mono HB4.out.size)); have d0 := (hb5.cell hglt).trans c0; clear hb5)
      | (go_at_call 35; refine (append_on _ R2 R2 p L' room false (nm name s'.num) hnl (HT.out.later HB5.out).dk (frame x) A2 c2 (HFRM.out _ HB5.out) (fun _ h => h) (by omega)).mono ?_; rintro e w6 hd6; have HD6 := Lib.hid ((HT.out.later HB5.out).disk hd6); obtain ⟨rfl, -, hc6⟩ := hd6; have d1 := hc6.cell d0 (fun h2 => HT.out.apart g hg' h2); have HC6 := Lib.hid hc6; clear hc6))
    clear c0 d0 r0 HFRM
    by_cases hc0 : (appS L' room false (nm name s'.num) (frame x)).2 = 0
    · have HC0 := Lib.hid hc0
      rw [hc0]
      have hsz := app_fits (HT.out.dk.elim fun _ h => h.2.2.2) HF.out hc0
      rw [HFZ.out] at hsz
      have HSG6 := Lib.hid ((HSG.out.ch (Ch.of_below (S := fun _ => False) HB5.out (Nat.le_refl _)) (fun _ _ h => h)).ch HC6.out (fun k hk h2 => HT.out.apart k hk.1 h2))
      obtain ⟨hgbl, r2, r3, rf, hrc⟩ := seg_last HSG6.out hrl'
      have hf2 := rf (ls'.length * 4 + 2)
      have hwr : IntKind.i64.wrap ((s'.size : Int) + ((frame x).length : Int)) = ((s'.size + (frame x).length : Nat) : Int) := by rw [wrap64 (by omega) (by omega)]; omega
      clear hrc hc0 rf r3
      go_wp2_with fail
      have HT6 := Lib.hid ((((Step.below HB3.out).trans HS.out).trans (Step.below HB5.out)).trans HD6.out.2)
      have HB6 := Lib.hid ((HC.out.after HB5.out).ch HC6.out (fun h2 => HT.out.apart g hg' h2) (fun h2 => HT.out.apart gb' hgb' h2)).blk
      have hg1 := HG.out.few
      have HGN : Hid (GoodS ⟨s'.num, s'.first, s'.size + (frame x).length, s'.recs⟩ ∧ GoodS ⟨s'.num, s'.first, s'.size + (frame x).length, s'.recs ++ [x]⟩) := Lib.hid ⟨⟨HG.out.num, HG.out.first, hsz, by simp only; omega⟩, ⟨HG.out.num, HG.out.first, hsz, by simp; omega⟩⟩
      have hs7 := Segs.set_size HSG6.out (by simp) (s'.size + (frame x).length) HGN.out.1
      have ch7 : Ch (fun k => k = gb') w6 (w6.setCell ⟨gb', ls'.length * 4 + 2, none⟩ (.int .i64 ((s'.size + (frame x).length : Nat) : Int))) := (Ch.refl (fun k => k = gb') w6).setCell (p := ⟨gb', ls'.length * 4 + 2, none⟩) (fun _ => rfl) _
      have hw7 : (w6.setCell ⟨gb', ls'.length * 4 + 2, none⟩ (.int .i64 ((s'.size + (frame x).length : Nat) : Int))).heap.size = w6.heap.size := by simp [World.setCell]
      rw [Int.natCast_add] at hs7 ch7 hw7
      generalize (w6.setCell ⟨gb', ls'.length * 4 + 2, none⟩ (.int .i64 ((s'.size : Int) + ((frame x).length : Int)))) = w7 at hs7 ch7 hw7 ⊢
      have HC7 := Lib.hid ch7
      have HSG7 : Hid (Segs w7 (fun k => R1 k ∧ k ≠ g) (.slice (some ⟨gb', 0, none⟩) (ls' ++ [(⟨s'.num, s'.first, s'.size + (frame x).length, s'.recs⟩ : Sg)]).length cap') (ls' ++ [⟨s'.num, s'.first, s'.size + (frame x).length, s'.recs⟩]) (rl' ++ [.slice A' s'.recs.length c'])) := Lib.hid (by simpa using hs7)
      clear hs7 r2 hf2 hwr
      obtain ⟨hgbl7, -, r3, rf, hrc⟩ := seg_last HSG7.out hrl'
      obtain ⟨vals, hvals, hrest⟩ := hrc
      have HV7 := Lib.hid hvals
      have HX7 : Hid (Sl w7 X 1 (.slice A x.length c) x.length (BVs x)) := Lib.hid (HX.out.ch (HT6.out.ch.trans ch7 (fun j hj e => by
        subst e
        rcases HT6.out.s1 _ hgb' with h | h
        · exact .inl h
        · omega)) (fun k _ hk => by
        rcases hk with hk | hk
        · exact HH.out.2.2.2.1 k hk
        · exact HH.out.2.2.2.2 k hk))
      obtain ⟨i0, hi0, hz0, hz1, hz2⟩ := info_parts info_recs
      have HCL := Lib.hid (clone_sh X _ x.length x w7.drew (show Sl w7.drew X 1 (.slice A x.length c) x.length (BVs x) from HX7.out) (by omega))
      clear hrest hvals ch7 rf
      go_region_law (first
        | (go_simp; go_at_call 37; refine HCL.out.mono ?_; rintro e w8 ⟨A8, c8, rfl, ho8, hb8⟩; have hb8 : Below w7.heap.size w7 w8 := below_of_drew hb8; have HO8 : Hid (w8.ownsRow w7.heap.size 5 1 (.slice A8 x.length c8) x.length (BVs x)) := Lib.hid ho8; have HB8 := Lib.hid hb8; have r3a := (hb8.cell (p := ⟨gb', ls'.length * 4 + 3, none⟩) hgbl7).trans r3; have r3b := ((hb8.alloc hb8.size (.cells #[.slice A8 x.length c8] 32)).cell (p := ⟨gb', ls'.length * 4 + 3, none⟩) hgbl7).trans r3; clear ho8 hb8)
        | (refine step_append_sh (by rfl) (.tmp 74) (.tmp 77) _ (by rfl) 0 32 i0 _ 1 24 Tryz.underlying47 hi0 hz0 hz1 hz2 rfl (by omega) (.slice A' s'.recs.length c') s'.recs.length vals (by rfl) (show (w8.alloc (.cells #[.slice A8 x.length c8] 32)).ownsRow 0 32 1 (.slice A' s'.recs.length c') s'.recs.length vals from (own_below HV7.out HB8.out).alloc _) (fun _ => False) _ 1 [.slice A8 x.length c8] (by rfl) (show Sl (w8.alloc (.cells #[.slice A8 x.length c8] 32)) (fun _ => False) _ _ _ _ from one_lit w8 (fun _ => False) _ _ (fun h => h)) (by intro v hv; simp at hv; subst hv; rfl) (by simp only [maxLen]; omega) (by omega) (Nat.zero_le _) ?_; intro A9 c9 w9 happ; have HAP : Hid (Appended (w8.alloc (.cells #[.slice A8 x.length c8] 32)) 0 32 1 (.slice A' s'.recs.length c') (s'.recs.length + 1) (vals ++ [.slice A8 x.length c8]) (.slice A9 (s'.recs.length + 1) c9) w9) := Lib.hid happ; obtain ⟨r9, f9⟩ := app_cells ((own_below HV7.out HB8.out).alloc (.cells #[.slice A8 x.length c8] 32)) ((own_below HSG7.out.row HB8.out).alloc _) happ r3b; clear happ))
      all_goals
        clear HCL
        have hal : Below w7.heap.size w7 (w8.alloc (.cells #[.slice A8 x.length c8] 32)) := HB8.out.alloc HB8.out.size _
        have hfin := Segs.app_last (x := x) (A := A8) (c := c8) ((HSG7.out.ch (Ch.of_below (S := fun _ => False) hal (Nat.le_refl _)) (fun _ _ h => h)).weaken (T := fun k => (R1 k ∧ k ≠ g) ∨ w6.heap.size ≤ k) (fun k hk => .inl hk)) (by simp) HGN.out.2 ((own_below HV7.out HB8.out).alloc _) ((own_base HO8.out (Nat.zero_le _)).alloc _) (fun k hk => .inr (by have := (HO8.out.lt k hk).1; omega)) HAP.out
        have hcg : Ch (fun k => (Value.slice A' s'.recs.length c').ownBlock = some k) (w8.alloc (.cells #[.slice A8 x.length c8] 32)) w9 := Ch.of_grown HAP.out.2.1 (fun k hk _ => hk)
        have hur : ∀ k, (Value.slice A' s'.recs.length c').ownBlock = some k → R1 k ∧ k ≠ g := fun k hk => by
          obtain ⟨_, _, _, _, hr⟩ := seg_last HSG7.out hrl'
          exact (hr.in_ k hk).1
        have CF : Ch (fun k => R1 k ∧ k ≠ g) w6 (w9.setCell ⟨gb', ls'.length * 4 + 3, none⟩ (.slice A9 (s'.recs.length + 1) c9)) :=
          (((HC7.out.mono (fun k _ e => by subst e; exact ⟨hgb', hgn'⟩)).trans (Ch.of_below hal (Nat.le_refl _)) (fun _ _ h => h)).trans (hcg.mono (fun k _ hk => hur k hk)) (fun _ _ h => h)).setCell (fun _ => ⟨hgb', hgn'⟩) _
        have hsF : (w9.setCell ⟨gb', ls'.length * 4 + 3, none⟩ (.slice A9 (s'.recs.length + 1) c9)).heap.size = w9.heap.size := by simp [World.setCell]
        have has : w6.heap.size ≤ (w8.alloc (.cells #[.slice A8 x.length c8] 32)).heap.size := by have := hal.size; omega
        generalize (w9.setCell ⟨gb', ls'.length * 4 + 3, none⟩ (.slice A9 (s'.recs.length + 1) c9)) = wF at hfin CF hsF ⊢
        have hlg : Lg wF (Up R1 w6 wF) g p name most (ls' ++ [⟨s'.num, s'.first, s'.size + (frame x).length, s'.recs ++ [x]⟩]) y' := by
          obtain ⟨_, _, _, _, _, hn16, hmost⟩ := HD6.out.1.lg
          refine ⟨_, _, by simpa using HB6.out.ch CF (fun h => h.2 rfl), .inl hg', (hfin.bound).weaken (fun k hk => ?_), hn16, hmost⟩
          have hgl := HB6.out.lt
          obtain ⟨hk, hlt⟩ := hk
          rcases hk with (hk | hk) | hk
          · exact ⟨.inl hk.1, hk.2⟩
          · exact ⟨.inr ⟨hk, hlt⟩, by omega⟩
          · have h1 := hk.1
            exact ⟨.inr ⟨by omega, hlt⟩, by omega⟩
        have hF := HD6.out.1.logw (CF.mono (fun k _ h => h.1)) hlg
        have HFI := Lib.hid hF
        obtain ⟨gbF, capF, hCF, _, _⟩ := hF.1.cells (by simp)
        have HLA := Lib.hid (lastn_log wF g p gbF capF name most ls' ⟨s'.num, s'.first, s'.size + (frame x).length, s'.recs ++ [x]⟩ y' hCF (by omega))
        have hln : lastS ⟨s'.num, s'.first, s'.size + (frame x).length, s'.recs ++ [x]⟩ = ((s'.first + s'.recs.length : Nat) : Int) := by
          rw [lastS_nat (s := ⟨s'.num, s'.first, s'.size + (frame x).length, s'.recs ++ [x]⟩) h1']
          simp
        rw [hln] at HLA
        clear hln hCF hF hlg hfin CF hcg hur hal
        go_wp2_with fail
        refine HLA.out.mono ?_
        rintro e w10 ⟨rfl, hb10⟩
        have HB10 := Lib.hid hb10
        clear hb10
        go_wp2_with fail
        go_ret2
        refine HQ.out _ _ (.inl ⟨HC0.out, rfl, _, _, HFI.out.1.later HB10.out, ?_⟩)
        exact ((HT6.out.trans HFI.out.2)).trans (Step.below HB10.out)
    · have hq : ((((appS L' room false (nm name s'.num) (frame x)).2 : Nat) : Int) == 0) = false := by rw [beq_eq_false_iff_ne]; omega
      have HC0 := Lib.hid hc0
      clear hc0
      obtain ⟨cc, hcc⟩ : ∃ cc, cc = (appS L' room false (nm name s'.num) (frame x)).2 := ⟨_, rfl⟩
      rw [← hcc] at hq ⊢
      go_wp2_with fail
      go_ret2
      rw [hcc]
      exact HQ.out _ _ (.inr ⟨HC0.out, rfl, _, _, HD6.out.1, (((Step.below HB3.out).trans HS.out).trans (Step.below HB5.out)).trans HD6.out.2⟩)

end Go.Proofs.YtjjfhbbaabakmaaGreatDoor.Wv

/-
  Layer 7: the law's own records: what All tells of a topic, in two rows.
-/
import Derived.Test.YtkoedonllfmaaaaGreatVD20
import Derived.Test.YtkoedonllfmaaaaGreatVD11
namespace Go.Proofs.YtkoedonllfmaaaaGreat.Xl
set_option linter.unusedSimpArgs false
open Go Go.RowKit Go.Shelf Ck Kw Ci Ga Kf Km Pm Pz Tm Tn Tq Aa Ab Ac Kr Br Ks Kt Xj Xk
attribute [local go_sem ↓] Go.wp_at_zero Go.wp_at_succ
attribute [local go_sem] Oper.semAt_some
set_option linter.unusedVariables false
set_option maxRecDepth 100000

theorem info_i64 : (Tryz.prog.info? 2).map (fun i => (i.zero, i.size, i.bytes)) = some (some (.int .i64 0), 1, 8) := by kernel_rfl
def OV (l : List (Int × Tx)) : List Value := l.map fun p => .int .i64 p.1
/-- Two rows of a call's own, so far. -/
def RI (B g6 g7 : Nat) (l : List (Int × Tx)) (k : Nat) (W : World) : Prop :=
  ∃ A1 c1 A2 c2 vals, Blk W g6 117 #[.slice A1 k c1] ∧ Blk W g7 36 #[.slice A2 k c2] ∧ W.ownsRow B 2 1 (.slice A1 k c1) k (OV (l.take k)) ∧ W.ownsRow B 55 1 (.slice A2 k c2) k vals ∧
    ∀ i (hi : i < k), ∃ (hl : i < l.length) (u : Value), vals[i]? = some u ∧ W.ownsRow B 5 1 u l[i].2.length (BVs l[i].2)
theorem RI.ch {B g6 g7 k : Nat} {l : List (Int × Tx)} {W W' : World} {X : Nat → Prop} (h : RI B g6 g7 l k W) (c : Ch X W W') (h6 : ¬ X g6) (h7 : ¬ X g7) (hB : ∀ q, X q → q < B) : RI B g6 g7 l k W' := by
  obtain ⟨A1, c1, A2, c2, vals, r1, r2, r3, r4, r5⟩ := h
  refine ⟨A1, c1, A2, c2, vals, r1.ch c h6, r2.ch c h7, own_ch r3 c (fun q hq hX => by have := (r3.lt q hq).1; have := hB q hX; omega), own_ch r4 c (fun q hq hX => by have := (r4.lt q hq).1; have := hB q hX; omega), fun i hi => ?_⟩
  obtain ⟨hl, u, hu, ho⟩ := r5 i hi
  exact ⟨hl, u, hu, own_ch ho c (fun q hq hX => by have := (ho.lt q hq).1; have := hB q hX; omega)⟩
theorem lit_at (w : World) (X : Nat → Prop) (t : TypeId) (u : Value) {B : Nat} (hB : B = w.heap.size) (hX : ¬ X B) : Sl (w.alloc (.cells #[u] t)) X 1 (.slice (some ⟨B, 0, none⟩) 1 1) 1 [u] := by
  subst hB; exact one_newv w X t u hX
theorem rows_far {w : World} {B1 B2 n1 n2 s1 s2 : Nat} {e1 e2 : TypeId} {v1 v2 : Value} {l1 l2 : List Value} (h1 : w.ownsRow B1 e1 s1 v1 n1 l1) (h2 : w.ownsRow B2 e2 s2 v2 n2 l2) (hne : e1 ≠ e2) : ∀ q, v1.ownBlock = some q → v2.ownBlock ≠ some q := by
  intro q hq
  rcases h1.2 with ⟨rfl, _⟩ | ⟨g1, _, _, rfl, _, r1, _⟩
  · simp [Value.ownBlock] at hq
  · simp only [Value.ownBlock, Option.some.injEq] at hq
    subst hq
    exact own_far h2 (show Blk w g1 e1 _ from r1) (fun e => hne e.symm)
section
variable {Wk W w4 : World} {B g6 g7 k : Nat} {l : List (Int × Tx)} {A1 A2 Ay : Option Addr} {c1 c2 cy : Nat} {vals : List Value} {x0 : Int} {x1 : Tx}
/-- What stands while a round's body goes on: the first row may have grown. -/
structure RK (Wk : World) (B g6 g7 k : Nat) (l : List (Int × Tx)) (A1 : Option Addr) (c1 : Nat) (A2 : Option Addr) (c2 : Nat) (vals : List Value) (Ay : Option Addr) (cy : Nat) (x1 : Tx) (W : World) : Prop where
  ch : Ch (fun q => (Value.slice A1 k c1).ownBlock = some q) Wk W
  b6 : Blk W g6 117 #[.slice A1 k c1]
  b7 : Blk W g7 36 #[.slice A2 k c2]
  rowB : W.ownsRow B 55 1 (.slice A2 k c2) k vals
  els : ∀ i (hi : i < k), ∃ (hl : i < l.length) (u : Value), vals[i]? = some u ∧ W.ownsRow B 5 1 u l[i].2.length (BVs l[i].2)
  y : W.ownsRow B 5 1 (.slice Ay x1.length cy) x1.length (BVs x1)
theorem RK.later {W' : World} (h : RK Wk B g6 g7 k l A1 c1 A2 c2 vals Ay cy x1 W) (b : Below W.heap.size W W') : RK Wk B g6 g7 k l A1 c1 A2 c2 vals Ay cy x1 W' :=
  ⟨h.ch.trans (Ch.of_below (S := fun _ => False) b (Nat.le_refl _)) (fun _ _ h => h.elim), h.b6.below b h.b6.lt, h.b7.below b h.b7.lt, own_below h.rowB b, fun i hi => by
    obtain ⟨hl, u, hu, ho⟩ := h.els i hi
    exact ⟨hl, u, hu, own_below ho b⟩, own_below h.y b⟩
theorem RK.app {W' : World} {n : Nat} {xs ys : List Value} {v' : Value} (h : RK Wk B g6 g7 k l A1 c1 A2 c2 vals Ay cy x1 W) (ho : W.ownsRow B 2 1 (.slice A1 k c1) k xs) (happ : Appended W B 2 1 (.slice A1 k c1) n ys v' W') : RK Wk B g6 g7 k l A1 c1 A2 c2 vals Ay cy x1 W' := by
  have c : Ch (fun q => (Value.slice A1 k c1).ownBlock = some q) W W' := Ch.of_grown happ.2.1 (fun q hq _ => hq)
  exact ⟨h.ch.trans c (fun _ _ h => h), h.b6.ch c (own_far ho h.b6 (by decide)), h.b7.ch c (own_far ho h.b7 (by decide)), own_ch h.rowB c (fun q hq e => rows_far ho h.rowB (by decide) q e hq), fun i hi => by
    obtain ⟨hl, u, hu, hou⟩ := h.els i hi
    exact ⟨hl, u, hu, own_ch hou c (fun q hq e => rows_far ho hou (by decide) q e hq)⟩, own_ch h.y c (fun q hq e => rows_far ho h.y (by decide) q e hq)⟩
theorem ov_take {k : Nat} (hk : k < l.length) (hx : l[k] = (x0, x1)) : OV (l.take (k + 1)) = OV (l.take k) ++ [.int .i64 x0] := by
  rw [List.take_succ_eq_append_getElem hk, OV, List.map_append, hx]
  rfl
theorem RK.fin {D : Nat} {v1 v2 : Value} {S : Nat → Prop} (h : RK Wk B g6 g7 k l A1 c1 A2 c2 vals Ay cy x1 W) (h0 : Wk.ownsRow B 2 1 (.slice A1 k c1) k (OV (l.take k))) (hk : k < l.length) (hx : l[k] = (x0, x1)) (hD : D + 6 ≤ B) (hg6 : g6 < D) (hg7 : g7 < D ∧ g7 ≠ g6) (hS : ∀ q, q = g6 ∨ q = g7 ∨ B ≤ q → S q)
    (h1 : W.ownsRow B 2 1 v1 (k + 1) (OV (l.take k) ++ [.int .i64 x0])) (happ : Appended W B 55 1 (.slice A2 k c2) (k + 1) (vals ++ [.slice Ay x1.length cy]) v2 w4) :
    RI B g6 g7 l (k + 1) ((w4.setCell ⟨g6, 0, none⟩ v1).setCell ⟨g7, 0, none⟩ v2) ∧ Ch (fun q => S q ∧ ¬ Bk D q) Wk ((w4.setCell ⟨g6, 0, none⟩ v1).setCell ⟨g7, 0, none⟩ v2) := by
  have c3 : Ch (fun q => (Value.slice A2 k c2).ownBlock = some q) W w4 := Ch.of_grown happ.2.1 (fun q hq _ => hq)
  have c5 : Ch (fun q => q = g6 ∨ q = g7) w4 ((w4.setCell ⟨g6, 0, none⟩ v1).setCell ⟨g7, 0, none⟩ v2) := ((Ch.refl (fun q => q = g6 ∨ q = g7) w4).setCell (p := ⟨g6, 0, none⟩) (fun _ => .inl rfl) _).setCell (p := ⟨g7, 0, none⟩) (fun _ => .inr rfl) _
  have b6 := h.b6.ch c3 (own_far h.rowB h.b6 (by decide))
  have b7 := h.b7.ch c3 (own_far h.rowB h.b7 (by decide))
  have q6 : Blk ((w4.setCell ⟨g6, 0, none⟩ v1).setCell ⟨g7, 0, none⟩ v2) g6 117 #[v1] := by
    have := (b6.set_ 0 v1).far (p := ⟨g7, 0, none⟩) (fun e => hg7.2 e.symm) v2
    simpa using this
  have q7 : Blk ((w4.setCell ⟨g6, 0, none⟩ v1).setCell ⟨g7, 0, none⟩ v2) g7 36 #[v2] := by
    have := (b7.far (p := ⟨g6, 0, none⟩) (fun e => hg7.2 e) v1).set_ 0 v2
    simpa using this
  have big : ∀ {e : TypeId} {n : Nat} {v : Value} {xs : List Value}, w4.ownsRow B e 1 v n xs → ((w4.setCell ⟨g6, 0, none⟩ v1).setCell ⟨g7, 0, none⟩ v2).ownsRow B e 1 v n xs := fun ho => own_ch ho c5 (fun q hq hX => by have := (ho.lt q hq).1; rcases hX with hX | hX <;> omega)
  obtain ⟨A3, c3', rfl⟩ := own_shape h1
  obtain ⟨A4, c4', rfl⟩ := own_shape happ.1
  have hvl : vals.length = k := by have := h.rowB.1; omega
  refine ⟨⟨A3, c3', A4, c4', vals ++ [.slice Ay x1.length cy], q6, q7, ?_, big happ.1, fun i hi => ?_⟩, ?_⟩
  · rw [ov_take hk hx]
    exact big (own_ch h1 c3 (fun q hq e => rows_far h1 h.rowB (by decide) q hq e))
  · by_cases hlt : i < k
    · obtain ⟨hl, u, hu, ho⟩ := h.els i hlt
      exact ⟨hl, u, by rw [List.getElem?_append_left (by omega)]; exact hu, big (own_ch ho c3 (fun q hq e => rows_far ho h.rowB (by decide) q hq e))⟩
    · have e : i = k := by omega
      subst e
      refine ⟨hk, .slice Ay x1.length cy, by rw [List.getElem?_append_right (by omega), hvl]; simp, ?_⟩
      rw [hx]
      exact big (own_ch h.y c3 (fun q hq e => rows_far h.y h.rowB (by decide) q hq e))
  · have k1 : Ch (fun q => S q ∧ ¬ Bk D q) Wk W := h.ch.mono (fun q _ hq => by
      have := (h0.lt q hq).1
      exact ⟨hS q (.inr (.inr this)), fun hb => by rcases hb with hb | hb <;> omega⟩)
    have k2 : Ch (fun q => S q ∧ ¬ Bk D q) Wk w4 := k1.trans c3 (fun q _ hq => by
      have := (h.rowB.lt q hq).1
      exact ⟨hS q (.inr (.inr this)), fun hb => by rcases hb with hb | hb <;> omega⟩)
    exact k2.trans c5 (fun q _ hq => by
      rcases hq with hq | hq
      · exact ⟨hS q (.inl hq), fun hb => by rcases hb with hb | hb <;> omega⟩
      · exact ⟨hS q (.inr (.inl hq)), fun hb => by rcases hb with hb | hb <;> omega⟩)
end
/-- The frame of records, with the loop's variables. -/
def actR (tv nv : Value) (g6 g7 : Nat) (fv : Value) (args : Array Value) : Act :=
  match args with
  | ⟨[x, y]⟩ => { tmps := #[tv, nv, undef, undef, .slice none 0 0, .slice none 0 0, .pointer (some ⟨g6, 0, none⟩), .pointer (some ⟨g7, 0, none⟩), x, y, tv, nv, fv, x, y, undef, undef, undef, undef, undef, undef, undef, undef, undef, undef], defers := [] }
  | _ => { tmps := #[], defers := [] }
/-- What records answers. -/
def RecsGot (w : World) (l : List (Int × Tx)) (e : Ending) (w' : World) : Prop :=
  ∃ A1 c1 A2 c2 vals, e = .returned (.tuple #[.slice A1 l.length c1, .slice A2 l.length c2]) ∧ w'.ownsRow w.heap.size 2 1 (.slice A1 l.length c1) l.length (OV l) ∧ w'.ownsRow w.heap.size 55 1 (.slice A2 l.length c2) l.length vals ∧
    (∀ i (hi : i < l.length), ∃ u, vals[i]? = some u ∧ w'.ownsRow w.heap.size 5 1 u l[i].2.length (BVs l[i].2)) ∧ Below w.heap.size w w'
set_option maxHeartbeats 8000000 in
theorem records_of (w : World) (tv : Value) (x : Tx) (R : Nat → Prop) (t : Tp) (hA : ∀ W, Below w.heap.size w W → Calls Tryz.prog 88 #[tv, .string ⟨x.toArray⟩] W (AllOf W R t)) (hR : ∀ k, R k → k < w.heap.size) (hb0 : 0 ≤ t.base) (hb1 : t.next ≤ maxNum) (hfew : t.recs.length ≤ 64) (h64 : ∀ x ∈ t.recs, x.length ≤ 64) :
    Calls Tryz.prog 56 #[tv, .string ⟨x.toArray⟩] w (RecsGot w (offs t.base t.recs)) := by
  refine (callsIn_wide (n := 8)).1 ?_
  have hb2 : Below w.heap.size w ((w.alloc (.cells #[.slice none 0 0] 117)).alloc (.cells #[.slice none 0 0] 36)) := (op_below w _).trans ((op_below _ _).mono (by simp))
  have hk6 : Blk ((w.alloc (.cells #[.slice none 0 0] 117)).alloc (.cells #[.slice none 0 0] 36)) w.heap.size 117 #[.slice none 0 0] := (Blk.new w _ _).alloc _
  have hk7 : Blk ((w.alloc (.cells #[.slice none 0 0] 117)).alloc (.cells #[.slice none 0 0] 36)) (w.heap.size + 1) 36 #[.slice none 0 0] := Blk.new_at (by simp) rfl
  have HB2 := Lib.hid hb2
  have HK := Lib.hid (And.intro hk6 hk7)
  have HA := Lib.hid (hA _ hb2)
  clear hb2 hk6 hk7 hA
  refine callsIn_of_wp_marks Tryz.func56 rfl trivial ?_ rfl
  simp only [Tryz.ntmps56, List.size_toArray, List.length_cons, List.length_nil, Nat.reduceAdd, Nat.reduceSub, Array.replicate_succ, Array.replicate_zero, List.push_toArray, List.append_toArray, List.nil_append, List.cons_append]
  refine wpIn_wide.2 ?_
  go_wp2_with fail
  generalize (w.alloc (.cells #[.slice none 0 0] 117)).alloc (.cells #[.slice none 0 0] 36) = w2 at *
  refine HA.out.mono ?_
  rintro e w3 ⟨Bn, g, v, mg, T, rfl, hBn, hT, hBl, hTl, hb3⟩
  have h6l := HK.out.1.lt
  have h7l := HK.out.2.lt
  have hs2 := HB2.out.size
  have hs3 := hb3.size
  have hBlt := hBn.lt
  have hk6 := HK.out.1.below hb3 h6l
  have hk7 := HK.out.2.below hb3 h7l
  have hri : RI (w3.heap.size + 6) w.heap.size (w.heap.size + 1) (offs t.base t.recs) 0 w3 := ⟨none, 0, none, 0, [], hk6, hk7, World.ownsRow_nil _ _ _ _, World.ownsRow_nil _ _ _ _, fun i hi => absurd hi (by omega)⟩
  have HSEQ := Lib.hid (all_seq 7 (by omega) (fun q => q = w.heap.size ∨ q = (w.heap.size + 1) ∨ (w3.heap.size ≤ q ∧ q < w3.heap.size + 2) ∨ w3.heap.size + 6 ≤ q) T R w3 Bn g mg t v hBn (fun h => by omega) hT (fun k hk => by
      have := hTl k hk
      refine ⟨fun h => by omega, this.2.1⟩) (fun k hk => by
      have := hR k hk
      refine ⟨fun h => by omega, by omega⟩) hb0 hb1 hfew h64)
  have HB3 : Hid (Below w.heap.size w w3) := Lib.hid (HB2.out.trans (hb3.mono hs2))
  have HLN : Hid ((offs t.base t.recs).length ≤ 64) := Lib.hid (by rw [offs_len]; exact hfew)
  have HL64 : Hid (∀ k (h : k < (offs t.base t.recs).length), ((offs t.base t.recs)[k]).2.length ≤ 64) := Lib.hid (fun k h => by
    have h' : k < t.recs.length := by rw [offs_len] at h; exact h
    rw [offs_get t.base t.recs k h']
    exact h64 _ (List.getElem_mem h'))
  generalize offs t.base t.recs = bs at *
  have hg6' : w.heap.size < w3.heap.size ∧ w.heap.size ≤ w.heap.size := by omega
  have hg7' : (w.heap.size + 1) < w3.heap.size ∧ w.heap.size ≤ (w.heap.size + 1) ∧ (w.heap.size + 1) ≠ w.heap.size := by omega
  clear hBn hT hBl hTl hb3 hk6 hk7 HA HK h6l h7l
  go_wp2_with fail
  refine (wpIn_wide (n := 8)).1 ?_
  refine wpIn_rangeM rfl (by omega) (gf := 111) (lb := #[.pointer (some ⟨Bn, 0, none⟩)]) rfl trivial (enters_of Tryz.func111 (by kernel_rfl) rfl) HSEQ.out (fun k hk h => by rcases h with h | h; exact .inr (.inr (.inl ⟨hk, h⟩)); exact .inr (.inr (.inr (by omega)))) (fun k h1 h2 h => by omega)
    (fun B p args W ⟨_, _, hh, _⟩ => by rw [hh]; rfl) (fun p args Wa Wb hh c => by
      obtain ⟨A, cc, h1, h2⟩ := hh
      exact ⟨A, cc, h1, own_ch h2 c (fun q hq h => by have := (h2.lt q hq).1; rcases h with h | h <;> omega)⟩)
    (fun k Wk => RI (w3.heap.size + 6) w.heap.size (w.heap.size + 1) bs k Wk) (fun _ _ _ => False)
    (fun k Wa Wb hh hs c => hh.ch c (fun h => by have h : w3.heap.size ≤ w.heap.size ∧ w.heap.size < w3.heap.size + 2 + 4 := h; omega) (fun h => by have h : w3.heap.size ≤ (w.heap.size + 1) ∧ (w.heap.size + 1) < w3.heap.size + 2 + 4 := h; omega) (fun q h => by have h : w3.heap.size ≤ q ∧ q < w3.heap.size + 2 + 4 := h; omega)) (fun cc k Wa Wb hh hs c => hh) hri (actR tv (.string ⟨x.toArray⟩) w.heap.size (w.heap.size + 1) (.func (.func 111) #[] #[.pointer (some ⟨Bn, 0, none⟩)])) ?assign ?body ?done ?stop
  case assign =>
    intro l args W K hsz hK
    obtain ⟨x, y, rfl⟩ := Xk.two_of hsz
    gi_wp2_with fail
    exact hK
  case stop => exact fun _ _ _ _ _ h _ => h.elim
  case done =>
    intro Wd hcw hi hd
    obtain ⟨A1, c1, A2, c2, vals, r1, r2, r3, r4, r5⟩ := hi
    rw [List.take_length] at r3
    have q6 := r1.cell 0
    have q7 := r2.cell 0
    simp only [List.getElem?_toArray, List.getElem?_cons_zero] at q6 q7
    have HR := Lib.hid (And.intro r3 (And.intro r4 (And.intro r5 (HB3.out.trans (hcw.below (B := w.heap.size) (fun q hq h => by rcases h with h | h | h | h <;> omega) (by omega))))))
    clear r1 r2 r3 r4 r5
    dsimp only
    have HD := Lib.hid hd
    clear hd hcw
    go_wp2_with fail
    go_quiet (fail)
    go_wp2_with fail
    refine ⟨by simp, .inl ⟨_, _, rfl, run_takeDeferred HD.out, ?_⟩⟩
    generalize hWe : Wd.drewN _ = We
    have hsame : ∀ {S : Nat → Prop}, Ch S Wd We := fun {S} => hWe ▸ (show Ch S Wd (Wd.drewN _) from let h := Ch.refl S Wd; ⟨h.os, h.tape, h.output, h.size, h.block⟩)
    have hP : Ch (fun k => k = w3.heap.size) Wd (We.putObj w3.heap.size (.deferred none)) := hsame.trans (ch_putObj We w3.heap.size (.deferred none)) (fun _ _ h => h)
    refine ⟨_, results_tmp2 rfl _ _ _, ?_⟩
    obtain ⟨r3, r4, r5, hB⟩ := HR.out
    have big : ∀ {e : TypeId} {n : Nat} {v : Value} {xs : List Value}, Wd.ownsRow (w3.heap.size + 6) e 1 v n xs → (We.putObj w3.heap.size (.deferred none)).ownsRow w.heap.size e 1 v n xs := fun ho => own_base (own_ch ho hP (fun q hq hX => by have := (ho.lt q hq).1; omega)) (by omega)
    refine ⟨A1, c1, A2, c2, vals, by simp, big r3, big r4, fun i hi => ?_, hB.trans (hP.below (fun k hk h => by omega) (by have := hB.size; omega))⟩
    obtain ⟨_, u, hu, ho⟩ := r5 i hi
    exact ⟨u, hu, big ho⟩
  case body =>
    intro l' k hk args Wk hlt hcw hi hr
    obtain ⟨A1, c1, A2, c2, vals, r1, r2, r3, r4, r5⟩ := hi
    obtain ⟨Ay, cy, rfl, hy⟩ := hr
    have hx64 := HL64.out k hk
    have hkl := HLN.out
    generalize hbx : bs[k] = x at *
    obtain ⟨x0, x1⟩ := x
    simp only at hy hx64 ⊢
    have hsz6 : w3.heap.size + 6 ≤ Wk.heap.size := by omega
    have hrk : RK Wk (w3.heap.size + 6) w.heap.size (w.heap.size + 1) k bs A1 c1 A2 c2 vals Ay cy x1 Wk := ⟨Ch.refl _ _, r1, r2, r4, r5, own_base hy (by omega)⟩
    have HRK := Lib.hid hrk
    have HR3 := Lib.hid r3
    have HBX := Lib.hid hbx
    have q6 := r1.cell 0
    have q7 := r2.cell 0
    simp only [List.getElem?_toArray, List.getElem?_cons_zero] at q6 q7
    obtain ⟨i0, hi0, hy0, hy1, hy2⟩ := info_parts info_i64
    obtain ⟨j0, hj0, hz0, hz1, hz2⟩ := info_parts info_rec
    clear r1 r2 r3 r4 r5 hy hrk hbx
    dsimp only [actR]
    gi_wp2_with fail
    refine region_round (S := fun j W => j = 1 ∨ j = 5 ∨ j = 9 ∨ (j = 4 ∨ j = 8) ∧ W.cell? ⟨w.heap.size + 1, 0, none⟩ = some (.slice A2 k c2) ∨ W.cell? ⟨w.heap.size, 0, none⟩ = some (.slice A1 k c1) ∧ W.cell? ⟨w.heap.size + 1, 0, none⟩ = some (.slice A2 k c2)) (by kernel_rfl) (plain_of (by kernel_rfl)) (fun ⟨a, w, h⟩ => h) ?_
    have hS : Wk.drew.cell? ⟨w.heap.size, 0, none⟩ = some (.slice A1 k c1) ∧ Wk.drew.cell? ⟨w.heap.size + 1, 0, none⟩ = some (.slice A2 k c2) := ⟨q6, q7⟩
    have HRKD := Lib.hid (HRK.out.later (below_drew0 Wk))
    --CUT1
    refine AnyE.take (T := fun W => True) (ok := fun _ => true) (i := 1) (v := .int .i64 x0) rfl (by kernel_rfl) (by kernel_rfl) (by kernel_rfl) (fun _ _ _ h => h) (by kernel_rfl) (fun _ _ _ _ => trivial) (fun _ _ => .inl rfl) (Or.inl ⟨by rfl, fun w hSw => by (try dsimp only at hSw); go_simp⟩) trivial ?_
    (try simp only [Act.put, List.setIfInBounds_toArray, List.set_cons_zero, List.set_cons_succ])
    refine AnyE.take (T := fun W => True) (ok := fun _ => true) (i := 5) (v := .slice Ay x1.length cy) rfl (by kernel_rfl) (by kernel_rfl) (by kernel_rfl) (fun _ _ _ h => h) (by kernel_rfl) (fun _ _ _ _ => trivial) (fun _ _ => .inr (.inl rfl)) (Or.inl ⟨by rfl, fun w hSw => by (try dsimp only at hSw); go_simp⟩) trivial ?_
    (try simp only [Act.put, List.setIfInBounds_toArray, List.set_cons_zero, List.set_cons_succ])
    refine AnyE.take (T := fun W => W.cell? ⟨w.heap.size + 1, 0, none⟩ = some (.slice A2 k c2)) (ok := fun j => !(j == 1 || j == 5 || j == 9)) (i := 4) (v := .slice A2 k c2) rfl (by kernel_rfl) (by kernel_rfl) (by kernel_rfl) (fun _ _ _ h => h) (by kernel_rfl) (fun j u h hs => by simp only [Bool.not_eq_true', Bool.or_eq_false_iff, beq_eq_false_iff_ne] at h; obtain ⟨⟨n1, n5⟩, n9⟩ := h; rcases hs with e | e | e | e | e; exact absurd e n1; exact absurd e n5; exact absurd e n9; exact e.2; exact e.2) (fun u h => .inr (.inr (.inr (.inl ⟨.inl rfl, h⟩)))) (Or.inl ⟨by rfl, fun w hSw => by (try dsimp only at hSw); go_simp⟩) hS.2 ?_
    (try simp only [Act.put, List.setIfInBounds_toArray, List.set_cons_zero, List.set_cons_succ])
    refine AnyE.take (T := fun W => W.cell? ⟨w.heap.size, 0, none⟩ = some (.slice A1 k c1) ∧ W.cell? ⟨w.heap.size + 1, 0, none⟩ = some (.slice A2 k c2)) (ok := fun j => !(j == 1 || j == 5 || j == 9 || j == 4 || j == 8)) (i := 0) (v := .slice A1 k c1) rfl (by kernel_rfl) (by kernel_rfl) (by kernel_rfl) (fun _ _ _ h => h) (by kernel_rfl) (fun j u h hs => by simp only [Bool.not_eq_true', Bool.or_eq_false_iff, beq_eq_false_iff_ne] at h; obtain ⟨⟨⟨⟨n1, n5⟩, n9⟩, n4⟩, n8⟩ := h; rcases hs with e | e | e | e | e; exact absurd e n1; exact absurd e n5; exact absurd e n9; rcases e.1 with e | e; exact absurd e n4; exact absurd e n8; exact e) (fun u h => .inr (.inr (.inr (.inr h)))) (Or.inl ⟨by rfl, fun w hSw => by (try dsimp only at hSw); obtain ⟨hS1, hS2⟩ := hSw; go_simp⟩) hS ?_
    (try simp only [Act.put, List.setIfInBounds_toArray, List.set_cons_zero, List.set_cons_succ])
    refine AnyE.two (i := 2) (j := 6) (by kernel_rfl) rfl rfl (fun K hK => ?_) (fun K hK => ?_)
    · go_simp
      have HK1 := Lib.hid (HRKD.out.later (op_below Wk.drew (.cells #[.int .i64 x0] 2)))
      refine hK.out _ _ (.inr (.inr (.inr (.inr ⟨HK1.out.b6.cell 0, HK1.out.b7.cell 0⟩)))) (fun hS => ?_)
      clear hS hK K
      (try simp only [Act.put, List.setIfInBounds_toArray, List.set_cons_zero, List.set_cons_succ])
      refine AnyE.two (i := 3) (j := 6) (by kernel_rfl) rfl rfl (fun K hK => ?_) (fun K hK => ?_)
      · refine step_append_sh (by rfl) (.tmp 15) (.tmp 17) _ (by rfl) (w3.heap.size + 6) 2 i0 _ 1 8 Tryz.underlying117 hi0 hy0 hy1 hy2 rfl (by omega) (.slice A1 k c1) k (OV (bs.take k)) (by rfl) (show (Wk.drew.alloc (.cells #[.int .i64 x0] 2)).ownsRow (w3.heap.size + 6) 2 1 (.slice A1 k c1) k (OV (bs.take k)) from HR3.out.alloc _) (fun _ => False) _ 1 [.int .i64 x0] (by rfl) (show Sl (Wk.drew.alloc (.cells #[.int .i64 x0] 2)) (fun _ => False) _ _ _ _ from one_newv Wk.drew (fun _ => False) 2 _ (fun h => h)) (by intro u hu; rw [List.mem_singleton] at hu; subst hu; rfl) (by simp only [maxLen]; omega) (by omega) (Nat.le_trans hsz6 HK1.out.ch.size) ?_
        intro A3 c3 wa happ
        have HAP := Lib.hid happ
        have HK2 := Lib.hid (HK1.out.app (show (Wk.drew.alloc (.cells #[.int .i64 x0] 2)).ownsRow (w3.heap.size + 6) 2 1 (.slice A1 k c1) k (OV (bs.take k)) from HR3.out.alloc _) happ)
        clear happ
        refine hK.out _ _ (.inr (.inr (.inr (.inr ⟨HK2.out.b6.cell 0, HK2.out.b7.cell 0⟩)))) (fun hS => ?_)
        clear hS hK K
        (try simp only [Act.put, List.setIfInBounds_toArray, List.set_cons_zero, List.set_cons_succ])
        refine AnyE.one (i := 6) (by kernel_rfl) rfl (fun K hK => ?_)
        go_simp
        have HK3 := Lib.hid (HK2.out.later (op_below wa (.cells #[.slice Ay x1.length cy] 55)))
        refine hK.out _ _ (.inr (.inr (.inr (.inr ⟨HK3.out.b6.cell 0, HK3.out.b7.cell 0⟩)))) (fun hS => ?_)
        clear hS hK K
        (try simp only [Act.put, List.setIfInBounds_toArray, List.set_cons_zero, List.set_cons_succ])
        refine AnyE.one (i := 7) (by kernel_rfl) rfl (fun K hK => ?_)
        refine step_append_sh (by rfl) (.tmp 19) (.tmp 21) _ (by rfl) (w3.heap.size + 6) 55 j0 _ 1 24 Tryz.underlying36 hj0 hz0 hz1 hz2 rfl (by omega) (.slice A2 k c2) k vals (by rfl) HK3.out.rowB (fun _ => False) _ 1 [.slice Ay x1.length cy] (by rfl) (show Sl (wa.alloc (.cells #[.slice Ay x1.length cy] 55)) (fun _ => False) _ _ _ _ from one_newv wa (fun _ => False) 55 _ (fun h => h)) (by intro u hu; rw [List.mem_singleton] at hu; subst hu; rfl) (by simp only [maxLen]; omega) (by omega) (Nat.le_trans hsz6 HK3.out.ch.size) ?_
        intro A4 c4 wb happ
        have HFIN := Lib.hid (HK3.out.fin (D := w3.heap.size) (S := fun q => q = w.heap.size ∨ q = w.heap.size + 1 ∨ (w3.heap.size ≤ q ∧ q < w3.heap.size + 2) ∨ w3.heap.size + 6 ≤ q) HR3.out hk HBX.out (Nat.le_refl _) hg6'.1 ⟨hg7'.1, hg7'.2.2⟩ (fun q hq => by rcases hq with h | h | h; exact .inl h; exact .inr (.inl h); exact .inr (.inr (.inr h))) (HAP.out.1.alloc _) happ)
        have b6 := HK3.out.b6.ch (Ch.of_grown happ.2.1 (fun q hq _ => hq) : Ch (fun q => (Value.slice A2 k c2).ownBlock = some q) _ wb) (own_far HK3.out.rowB HK3.out.b6 (by decide))
        have b7 := HK3.out.b7.ch (Ch.of_grown happ.2.1 (fun q hq _ => hq) : Ch (fun q => (Value.slice A2 k c2).ownBlock = some q) _ wb) (own_far HK3.out.rowB HK3.out.b7 (by decide))
        have p6 := b6.cell 0
        have p7 := b7.cell 0
        have f6 := b6.frozen 0
        have f7 := b7.frozen 0
        simp only [List.getElem?_toArray, List.getElem?_cons_zero, List.getElem?_cons_succ] at p6 p7
        refine hK.out _ _ (.inr (.inr (.inr (.inr ⟨p6, p7⟩)))) (fun hS => ?_)
        have b7b := b7.far (p := ⟨w.heap.size, 0, none⟩) (by show w.heap.size + 1 ≠ w.heap.size; omega) (.slice A3 (k + 1) c3)
        clear hS hK K happ b6 b7
        (try simp only [Act.put, List.setIfInBounds_toArray, List.set_cons_zero, List.set_cons_succ])
        refine AnyE.one (i := 8) (by kernel_rfl) rfl (fun K hK => ?_)
        go_simp
        have p7b := b7b.cell 0
        simp only [List.getElem?_toArray, List.getElem?_cons_zero, List.getElem?_cons_succ] at p7b
        refine hK.out _ _ (.inr (.inr (.inr (.inl ⟨.inr rfl, p7b⟩)))) (fun hS => ?_)
        clear hS hK K
        (try simp only [Act.put, List.setIfInBounds_toArray, List.set_cons_zero, List.set_cons_succ])
        refine AnyE.one (i := 9) (by kernel_rfl) rfl (fun K hK => ?_)
        go_simp
        refine hK.out _ _ (.inr (.inr (.inl rfl))) (fun hS => ?_)
        clear hS hK K
        (try simp only [Act.put, List.setIfInBounds_toArray, List.set_cons_zero, List.set_cons_succ])
        refine AnyE.done (by kernel_rfl) ?_ _
        exact ⟨HFIN.out.2, HFIN.out.1⟩
      · go_simp
        have HK4 := Lib.hid (HK1.out.later (op_below (Wk.drew.alloc (.cells #[.int .i64 x0] 2)) (.cells #[.slice Ay x1.length cy] 55)))
        refine hK.out _ _ (.inr (.inr (.inr (.inr ⟨HK4.out.b6.cell 0, HK4.out.b7.cell 0⟩)))) (fun hS => ?_)
        clear hS hK K
        (try simp only [Act.put, List.setIfInBounds_toArray, List.set_cons_zero, List.set_cons_succ])
        refine AnyE.one (i := 3) (by kernel_rfl) rfl (fun K hK => ?_)
        refine step_append_sh (by rfl) (.tmp 15) (.tmp 17) _ (by rfl) (w3.heap.size + 6) 2 i0 _ 1 8 Tryz.underlying117 hi0 hy0 hy1 hy2 rfl (by omega) (.slice A1 k c1) k (OV (bs.take k)) (by rfl) (show ((Wk.drew.alloc (.cells #[.int .i64 x0] 2)).alloc (.cells #[.slice Ay x1.length cy] 55)).ownsRow (w3.heap.size + 6) 2 1 (.slice A1 k c1) k (OV (bs.take k)) from (HR3.out.alloc _).alloc _) (fun _ => False) _ 1 [.int .i64 x0] (by rfl) (show Sl ((Wk.drew.alloc (.cells #[.int .i64 x0] 2)).alloc (.cells #[.slice Ay x1.length cy] 55)) (fun _ => False) _ _ _ _ from (one_newv Wk.drew (fun _ => False) 2 _ (fun h => h)).alloc _) (by intro u hu; rw [List.mem_singleton] at hu; subst hu; rfl) (by simp only [maxLen]; omega) (by omega) (Nat.le_trans hsz6 HK4.out.ch.size) ?_
        intro A3 c3 wa happ
        have HAP := Lib.hid happ
        have HK5 := Lib.hid (HK4.out.app (show ((Wk.drew.alloc (.cells #[.int .i64 x0] 2)).alloc (.cells #[.slice Ay x1.length cy] 55)).ownsRow (w3.heap.size + 6) 2 1 (.slice A1 k c1) k (OV (bs.take k)) from (HR3.out.alloc _).alloc _) happ)
        have HLB := Lib.hid ((lit_at (Wk.drew.alloc (.cells #[.int .i64 x0] 2)) (fun q => (Value.slice A1 k c1).ownBlock = some q) 55 (.slice Ay x1.length cy) (B := Wk.heap.size + 1) ((World.size_alloc Wk.drew _).symm) (fun h => by have := (HR3.out.lt _ h).2; omega)).grown (row := (Value.slice A1 k c1).ownBlock) happ.2.1 (fun q hq _ => hq))
        clear happ
        refine hK.out _ _ (.inr (.inr (.inr (.inr ⟨HK5.out.b6.cell 0, HK5.out.b7.cell 0⟩)))) (fun hS => ?_)
        clear hS hK K
        (try simp only [Act.put, List.setIfInBounds_toArray, List.set_cons_zero, List.set_cons_succ])
        refine AnyE.one (i := 7) (by kernel_rfl) rfl (fun K hK => ?_)
        refine step_append_sh (by rfl) (.tmp 19) (.tmp 21) _ (by rfl) (w3.heap.size + 6) 55 j0 _ 1 24 Tryz.underlying36 hj0 hz0 hz1 hz2 rfl (by omega) (.slice A2 k c2) k vals (by rfl) HK5.out.rowB (fun _ => False) _ 1 [.slice Ay x1.length cy] (by rfl) (show Sl wa (fun _ => False) _ _ _ _ from HLB.out.weaken (fun _ _ h => h.elim)) (by intro u hu; rw [List.mem_singleton] at hu; subst hu; rfl) (by simp only [maxLen]; omega) (by omega) (Nat.le_trans hsz6 HK5.out.ch.size) ?_
        intro A4 c4 wb happ
        have HFIN := Lib.hid (HK5.out.fin (D := w3.heap.size) (S := fun q => q = w.heap.size ∨ q = w.heap.size + 1 ∨ (w3.heap.size ≤ q ∧ q < w3.heap.size + 2) ∨ w3.heap.size + 6 ≤ q) HR3.out hk HBX.out (Nat.le_refl _) hg6'.1 ⟨hg7'.1, hg7'.2.2⟩ (fun q hq => by rcases hq with h | h | h; exact .inl h; exact .inr (.inl h); exact .inr (.inr (.inr h))) HAP.out.1 happ)
        have b6 := HK5.out.b6.ch (Ch.of_grown happ.2.1 (fun q hq _ => hq) : Ch (fun q => (Value.slice A2 k c2).ownBlock = some q) _ wb) (own_far HK5.out.rowB HK5.out.b6 (by decide))
        have b7 := HK5.out.b7.ch (Ch.of_grown happ.2.1 (fun q hq _ => hq) : Ch (fun q => (Value.slice A2 k c2).ownBlock = some q) _ wb) (own_far HK5.out.rowB HK5.out.b7 (by decide))
        have p6 := b6.cell 0
        have p7 := b7.cell 0
        have f6 := b6.frozen 0
        have f7 := b7.frozen 0
        simp only [List.getElem?_toArray, List.getElem?_cons_zero, List.getElem?_cons_succ] at p6 p7
        refine hK.out _ _ (.inr (.inr (.inr (.inr ⟨p6, p7⟩)))) (fun hS => ?_)
        have b7b := b7.far (p := ⟨w.heap.size, 0, none⟩) (by show w.heap.size + 1 ≠ w.heap.size; omega) (.slice A3 (k + 1) c3)
        clear hS hK K happ b6 b7
        (try simp only [Act.put, List.setIfInBounds_toArray, List.set_cons_zero, List.set_cons_succ])
        refine AnyE.one (i := 8) (by kernel_rfl) rfl (fun K hK => ?_)
        go_simp
        have p7b := b7b.cell 0
        simp only [List.getElem?_toArray, List.getElem?_cons_zero, List.getElem?_cons_succ] at p7b
        refine hK.out _ _ (.inr (.inr (.inr (.inl ⟨.inr rfl, p7b⟩)))) (fun hS => ?_)
        clear hS hK K
        (try simp only [Act.put, List.setIfInBounds_toArray, List.set_cons_zero, List.set_cons_succ])
        refine AnyE.one (i := 9) (by kernel_rfl) rfl (fun K hK => ?_)
        go_simp
        refine hK.out _ _ (.inr (.inr (.inl rfl))) (fun hS => ?_)
        clear hS hK K
        (try simp only [Act.put, List.setIfInBounds_toArray, List.set_cons_zero, List.set_cons_succ])
        refine AnyE.done (by kernel_rfl) ?_ _
        exact ⟨HFIN.out.2, HFIN.out.1⟩
    · go_simp
      have HK6 := Lib.hid (HRKD.out.later (op_below Wk.drew (.cells #[.slice Ay x1.length cy] 55)))
      refine hK.out _ _ (.inr (.inr (.inr (.inr ⟨HK6.out.b6.cell 0, HK6.out.b7.cell 0⟩)))) (fun hS => ?_)
      clear hS hK K
      (try simp only [Act.put, List.setIfInBounds_toArray, List.set_cons_zero, List.set_cons_succ])
      refine AnyE.one (i := 2) (by kernel_rfl) rfl (fun K hK => ?_)
      go_simp
      have HK7 := Lib.hid (HK6.out.later (op_below (Wk.drew.alloc (.cells #[.slice Ay x1.length cy] 55)) (.cells #[.int .i64 x0] 2)))
      refine hK.out _ _ (.inr (.inr (.inr (.inr ⟨HK7.out.b6.cell 0, HK7.out.b7.cell 0⟩)))) (fun hS => ?_)
      clear hS hK K
      (try simp only [Act.put, List.setIfInBounds_toArray, List.set_cons_zero, List.set_cons_succ])
      refine AnyE.one (i := 3) (by kernel_rfl) rfl (fun K hK => ?_)
      refine step_append_sh (by rfl) (.tmp 15) (.tmp 17) _ (by rfl) (w3.heap.size + 6) 2 i0 _ 1 8 Tryz.underlying117 hi0 hy0 hy1 hy2 rfl (by omega) (.slice A1 k c1) k (OV (bs.take k)) (by rfl) (show ((Wk.drew.alloc (.cells #[.slice Ay x1.length cy] 55)).alloc (.cells #[.int .i64 x0] 2)).ownsRow (w3.heap.size + 6) 2 1 (.slice A1 k c1) k (OV (bs.take k)) from (HR3.out.alloc _).alloc _) (fun _ => False) _ 1 [.int .i64 x0] (by rfl) (show Sl ((Wk.drew.alloc (.cells #[.slice Ay x1.length cy] 55)).alloc (.cells #[.int .i64 x0] 2)) (fun _ => False) _ _ _ _ from lit_at (Wk.drew.alloc (.cells #[.slice Ay x1.length cy] 55)) (fun _ => False) 2 _ (B := Wk.heap.size + 1) ((World.size_alloc Wk.drew _).symm) (fun h => h)) (by intro u hu; rw [List.mem_singleton] at hu; subst hu; rfl) (by simp only [maxLen]; omega) (by omega) (Nat.le_trans hsz6 HK7.out.ch.size) ?_
      intro A3 c3 wa happ
      have HAP := Lib.hid happ
      have HK8 := Lib.hid (HK7.out.app (show ((Wk.drew.alloc (.cells #[.slice Ay x1.length cy] 55)).alloc (.cells #[.int .i64 x0] 2)).ownsRow (w3.heap.size + 6) 2 1 (.slice A1 k c1) k (OV (bs.take k)) from (HR3.out.alloc _).alloc _) happ)
      have HLB := Lib.hid (((one_newv Wk.drew (fun q => (Value.slice A1 k c1).ownBlock = some q) 55 (.slice Ay x1.length cy) (fun h => by have := (HR3.out.lt _ h).2; simp at this)).alloc _).grown (row := (Value.slice A1 k c1).ownBlock) happ.2.1 (fun q hq _ => hq))
      clear happ
      refine hK.out _ _ (.inr (.inr (.inr (.inr ⟨HK8.out.b6.cell 0, HK8.out.b7.cell 0⟩)))) (fun hS => ?_)
      clear hS hK K
      (try simp only [Act.put, List.setIfInBounds_toArray, List.set_cons_zero, List.set_cons_succ])
      refine AnyE.one (i := 7) (by kernel_rfl) rfl (fun K hK => ?_)
      refine step_append_sh (by rfl) (.tmp 19) (.tmp 21) _ (by rfl) (w3.heap.size + 6) 55 j0 _ 1 24 Tryz.underlying36 hj0 hz0 hz1 hz2 rfl (by omega) (.slice A2 k c2) k vals (by rfl) HK8.out.rowB (fun _ => False) _ 1 [.slice Ay x1.length cy] (by rfl) (show Sl wa (fun _ => False) _ _ _ _ from HLB.out.weaken (fun _ _ h => h.elim)) (by intro u hu; rw [List.mem_singleton] at hu; subst hu; rfl) (by simp only [maxLen]; omega) (by omega) (Nat.le_trans hsz6 HK8.out.ch.size) ?_
      intro A4 c4 wb happ
      have HFIN := Lib.hid (HK8.out.fin (D := w3.heap.size) (S := fun q => q = w.heap.size ∨ q = w.heap.size + 1 ∨ (w3.heap.size ≤ q ∧ q < w3.heap.size + 2) ∨ w3.heap.size + 6 ≤ q) HR3.out hk HBX.out (Nat.le_refl _) hg6'.1 ⟨hg7'.1, hg7'.2.2⟩ (fun q hq => by rcases hq with h | h | h; exact .inl h; exact .inr (.inl h); exact .inr (.inr (.inr h))) HAP.out.1 happ)
      have b6 := HK8.out.b6.ch (Ch.of_grown happ.2.1 (fun q hq _ => hq) : Ch (fun q => (Value.slice A2 k c2).ownBlock = some q) _ wb) (own_far HK8.out.rowB HK8.out.b6 (by decide))
      have b7 := HK8.out.b7.ch (Ch.of_grown happ.2.1 (fun q hq _ => hq) : Ch (fun q => (Value.slice A2 k c2).ownBlock = some q) _ wb) (own_far HK8.out.rowB HK8.out.b7 (by decide))
      have p6 := b6.cell 0
      have p7 := b7.cell 0
      have f6 := b6.frozen 0
      have f7 := b7.frozen 0
      simp only [List.getElem?_toArray, List.getElem?_cons_zero, List.getElem?_cons_succ] at p6 p7
      refine hK.out _ _ (.inr (.inr (.inr (.inr ⟨p6, p7⟩)))) (fun hS => ?_)
      have b7b := b7.far (p := ⟨w.heap.size, 0, none⟩) (by show w.heap.size + 1 ≠ w.heap.size; omega) (.slice A3 (k + 1) c3)
      clear hS hK K happ b6 b7
      (try simp only [Act.put, List.setIfInBounds_toArray, List.set_cons_zero, List.set_cons_succ])
      refine AnyE.one (i := 8) (by kernel_rfl) rfl (fun K hK => ?_)
      go_simp
      have p7b := b7b.cell 0
      simp only [List.getElem?_toArray, List.getElem?_cons_zero, List.getElem?_cons_succ] at p7b
      refine hK.out _ _ (.inr (.inr (.inr (.inl ⟨.inr rfl, p7b⟩)))) (fun hS => ?_)
      clear hS hK K
      (try simp only [Act.put, List.setIfInBounds_toArray, List.set_cons_zero, List.set_cons_succ])
      refine AnyE.one (i := 9) (by kernel_rfl) rfl (fun K hK => ?_)
      go_simp
      refine hK.out _ _ (.inr (.inr (.inl rfl))) (fun hS => ?_)
      clear hS hK K
      (try simp only [Act.put, List.setIfInBounds_toArray, List.set_cons_zero, List.set_cons_succ])
      refine AnyE.done (by kernel_rfl) ?_ _
      exact ⟨HFIN.out.2, HFIN.out.1⟩
end Go.Proofs.YtkoedonllfmaaaaGreat.Xl

/-
  Words for the walk of DiskKeeps: maps of slices and of numbers; bytes.HasPrefix.
-/
import Derived.Test.YtncppflmpfefkaaEb
namespace Go.Proofs.Ytncppflmpfefkaa.Ef
open Go Go.RowKit Go.Maps Ck Kw Ga Dm Dw Da Db Dc Dd De Df Dg Dh Di Dj Ra Rb Rc Rd Re Rf Rg Rh Ri Rj Pw Dl Dq Ds Dt Du Ea Dv Eb
attribute [local go_sem ↓] Go.wp_at_zero Go.wp_at_succ
set_option linter.unusedVariables false
set_option linter.unusedSimpArgs false

/-- How a slice reads: its place, its length and its capacity. -/
def slElem (v : Value) : Option (DataW Unit × List MemPlace) :=
  match v with
  | .slice none n c => some (.agg [.nil, .lit (.int .i64 (n : Int)), .lit (.int .i64 (c : Int))], [])
  | .slice (some ⟨g, 0, none⟩) n c => some (.agg [.lit (.int .i64 (g : Int)), .lit (.int .i64 (n : Int)), .lit (.int .i64 (c : Int))], [])
  | _ => none
/-- How a number reads. -/
def inElem (v : Value) : Option (DataW Unit × List MemPlace) :=
  match v with
  | .int .i64 z => some (.lit (.int .i64 z), [])
  | _ => none
theorem slElem_inj {v v' : Value} {z : DataW Unit} {ps ps' : List MemPlace} (h : slElem v = some (z, ps)) (h' : slElem v' = some (z, ps')) : v = v' := by
  unfold slElem at h h'
  split at h <;> split at h' <;> simp at h h'
  · obtain ⟨h1, -⟩ := h
    obtain ⟨h2, -⟩ := h'
    rw [← h1] at h2
    simp at h2
    simp only [Value.slice.injEq, true_and]
    omega
  · obtain ⟨h1, -⟩ := h
    obtain ⟨h2, -⟩ := h'
    rw [← h1] at h2
    simp at h2
  · obtain ⟨h1, -⟩ := h
    obtain ⟨h2, -⟩ := h'
    rw [← h1] at h2
    simp at h2
  · obtain ⟨h1, -⟩ := h
    obtain ⟨h2, -⟩ := h'
    rw [← h1] at h2
    simp at h2
    simp only [Value.slice.injEq, Option.some.injEq, Addr.mk.injEq, and_true]
    omega
theorem inElem_at {v : Value} {z : Int} {ps : List MemPlace} (h : inElem v = some (.lit (.int .i64 z), ps)) : v = .int .i64 z := by
  unfold inElem at h
  split at h <;> simp at h
  rw [h.1]
theorem slElem_row {w : World} {base : Nat} {e : TypeId} {size n : Nat} {v : Value} {xs : List Value} (h : w.ownsRow base e size v n xs) : ∃ z, slElem v = some (z, []) := by
  rcases h.2 with ⟨rfl, _⟩ | ⟨g, cap, cur, rfl, _⟩
  · exact ⟨_, rfl⟩
  · exact ⟨_, rfl⟩

theorem zero_sl (w : World) : (zeroValue 31).run Try.prog w = .ok (.slice none 0 0) w := by kernel_rfl
theorem zero_int (w : World) : (zeroValue 3).run Try.prog w = .ok (.int .i64 0) w := by kernel_rfl
theorem run_had {w : World} {h n : Nat} {D : DataW Unit} (ho : w.ownsMap Try.prog 9 slElem h n D) (s : Tx) (hs : s.length ≤ 140737488355328) {v : Value} {z : DataW Unit} (hv : slElem v = some (z, [])) (hat : ∀ zd, D.atKey (.string s) zd = z) :
    (Instr.lookup 43 (.map (some h)) (.string ⟨s.toArray⟩) false).run Try.prog w = .ok v w := by
  obtain ⟨v', ps, hrun, hv'⟩ := ho.lookup law_str Try.underlying43 (zero_sl w) (zd := .agg [.nil, .lit (.int .i64 0), .lit (.int .i64 0)]) (zp := []) rfl (key_str s (by simp only [maxLen]; omega))
  rw [hat] at hv'
  rw [hrun, slElem_inj hv' hv]
theorem run_done {w : World} {h n : Nat} {D : DataW Unit} (ho : w.ownsMap Try.prog 9 inElem h n D) (s : Tx) (hs : s.length ≤ 140737488355328) {z : Int} (hat : ∀ zd, D.atKey (.string s) zd = .lit (.int .i64 z)) :
    (Instr.lookup 44 (.map (some h)) (.string ⟨s.toArray⟩) false).run Try.prog w = .ok (.int .i64 z) w := by
  obtain ⟨v', ps, hrun, hv'⟩ := ho.lookup law_str Try.underlying44 (zero_int w) (zd := .lit (.int .i64 0)) (zp := []) rfl (key_str s (by simp only [maxLen]; omega))
  rw [hat] at hv'
  rw [hrun, inElem_at hv']

/-- Of the first k files it is written down what they hold and how much of it is sure; B: where these rows begin. -/
def Had (B : Nat) (w : World) (h g : Nat) (L : List Fl) (k : Nat) : Prop :=
  B ≤ h ∧ B ≤ g ∧ h ≠ g ∧ ∃ D1 D2, w.ownsMap Try.prog 9 slElem h k D1 ∧ w.ownsMap Try.prog 9 inElem g k D2 ∧
    ∀ j (hj : j < L.length), j < k → (∀ zd, D2.atKey (.string L[j].n) zd = .lit (.int .i64 (L[j].d : Int))) ∧ ∃ v z, slElem v = some (z, []) ∧ (∀ zd, D1.atKey (.string L[j].n) zd = z) ∧ w.ownsRow B 5 1 v L[j].b.length (BVs L[j].b)
theorem Had.ch {B h g k : Nat} {w w' : World} {L : List Fl} {S : Nat → Prop} (H : Had B w h g L k) (c : Ch S w w') (hS : ∀ k, S k → k < B) : Had B w' h g L k := by
  obtain ⟨h1, h2, h3, D1, D2, m1, m2, hall⟩ := H
  refine ⟨h1, h2, h3, D1, D2, map_ch m1 c (fun h => by have := hS _ h; omega), map_ch m2 c (fun h => by have := hS _ h; omega), fun j hj hjk => ?_⟩
  obtain ⟨q1, v, z, q2, q3, q4⟩ := hall j hj hjk
  exact ⟨q1, v, z, q2, q3, own_ch q4 c (fun m hm hs => by have := (q4.lt m hm).1; have := hS _ hs; omega)⟩
theorem Had.later {B h g k : Nat} {w w' : World} {L : List Fl} (H : Had B w h g L k) (b : Below w.heap.size w w') : Had B w' h g L k :=
  H.ch (Ch.of_below (S := fun _ => False) b (Nat.le_refl _)) (fun _ h => h.elim)

theorem had_put {B h g k : Nat} {wr v1 w2 w3 : World} {L : List Fl} {v : Value} {z D1 D2 : DataW Unit} (hB : B ≤ wr.heap.size) (hk : k < L.length) (hn : (L.map (·.n)).Nodup) (hb1 : Below wr.heap.size wr v1) (hz : slElem v = some (z, [])) (hrow : v1.ownsRow wr.heap.size 5 1 v L[k].b.length (BVs L[k].b))
    (h1 : B ≤ h) (h2 : B ≤ g) (h3 : h ≠ g) (m1 : wr.ownsMap Try.prog 9 slElem h k D1) (m2 : wr.ownsMap Try.prog 9 inElem g k D2)
    (hall : ∀ j (hj : j < L.length), j < k → (∀ zd, D2.atKey (.string L[j].n) zd = .lit (.int .i64 (L[j].d : Int))) ∧ ∃ v z, slElem v = some (z, []) ∧ (∀ zd, D1.atKey (.string L[j].n) zd = z) ∧ wr.ownsRow B 5 1 v L[j].b.length (BVs L[j].b))
    (m1' : w2.ownsMap Try.prog 9 slElem h (k + 1) (D1.put (.string L[k].n) z)) (c12 : Ch (fun m => m = h) v1 w2) (m2' : w3.ownsMap Try.prog 9 inElem g (k + 1) (D2.put (.string L[k].n) (.lit (.int .i64 (L[k].d : Int))))) (c23 : Ch (fun m => m = g) w2 w3) : Had B w3 h g L (k + 1) := by
  have c01 : Ch (fun _ => False) wr v1 := Ch.of_below hb1 (Nat.le_refl _)
  have m1v := map_ch m1 c01 (fun h => h)
  have m2v := map_ch m2 c01 (fun h => h)
  have m2w := map_ch m2v c12 (fun h => h3 h.symm)
  have hrows : ∀ {base : Nat} {u : Value} {n : Nat} {xs : List Value}, v1.ownsRow base 5 1 u n xs → w3.ownsRow base 5 1 u n xs := fun {base u n xs} hr => by
    have hr2 := own_ch hr c12 (fun m hm e => map_row m1v hr (by rw [hm, e]))
    exact own_ch hr2 c23 (fun m hm e => map_row m2w hr2 (by rw [hm, e]))
  refine ⟨h1, h2, h3, _, _, map_ch m1' c23 h3, m2', fun j hj hjk => ?_⟩
  by_cases e : j = k
  · subst e
    refine ⟨fun zd => ?_, v, z, hz, fun zd => ?_, own_base (hrows hrow) hB⟩
    · rw [Maps.atKey_put_same m2.isMap (strKey _)]
    · rw [Maps.atKey_put_same m1.isMap (strKey _)]
  · have hne : L[j].n ≠ L[k].n := fun h => e (idx_unique hn (List.getElem?_eq_getElem hj) (List.getElem?_eq_getElem hk) h)
    obtain ⟨q1, u, y, q2, q3, q4⟩ := hall j hj (by omega)
    refine ⟨fun zd => ?_, u, y, q2, fun zd => ?_, hrows (own_ch q4 c01 (fun _ _ h => h))⟩
    · rw [Maps.atKey_put_other (strKey_ne hne)]
      exact q1 zd
    · rw [Maps.atKey_put_other (strKey_ne hne)]
      exact q3 zd

theorem prefix_any (w : World) (X Y : Nat → Prop) (A : Option Addr) (c : Nat) (l : List UInt8) (k : Nat) (hl : l.length ≤ 4194304) (ha : Sl w X 1 (.slice A l.length c) l.length (BVs l)) (A2 : Option Addr) (c2 : Nat) (hk : k ≤ l.length) (hb : Sl w Y 1 (.slice A2 k c2) k (BVs (l.take k))) :
    Calls Try.prog 23 #[.slice A l.length c, .slice A2 k c2] w fun e w' => e = .returned (.bool true) ∧ w = w' := by
  have hlc : l.length ≤ c := by
    obtain ⟨A0, c0, hv, _, hc, _⟩ := ha
    obtain ⟨_, _, rfl⟩ := Value.slice.inj hv
    exact hc
  have hs := fun W => slice_upto A l.length c k (by omega) W
  have h1 : Sl w X 1 (.slice A k c) k (BVs (l.take k)) := by
    have := ha.upto hk
    rw [Nat.mul_one] at this
    have e : BVs (l.take k) = (BVs l).take k := by unfold BVs; rw [List.map_take]
    rw [e]
    exact this
  have HE := Lib.hid (equal_any w X Y _ _ k k (l.take k) (l.take k) h1 hb)
  have hge : (k : Int) ≤ (l.length : Int) := by omega
  clear ha hb h1
  go_enter Try.func23, Try.ntmps23
  go_wp2_with (go_at_call 33; refine HE.out.mono ?_; rintro e w' ⟨rfl, rfl⟩)
  go_ret
  exact ⟨by simp, rfl⟩

end Go.Proofs.Ytncppflmpfefkaa.Ef

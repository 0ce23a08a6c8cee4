/-
  Contract of layer 1's reader: List.
-/
import Derived.Test.YtbglojjljccgkaaCh
namespace Go.Proofs.Ytbglojjljccgkaa.Ci
open Go Go.RowKit Ck Ca Cb Ce Cf Cg Ch

theorem info_sl : (Try.prog.info? 32).map (fun i => (i.zero, i.size, i.bytes)) = some (some (.slice none 0 0), 1, 24) := by kernel_rfl

/-- The parts of a list that a call makes: none in an old block, none in the list's own row. -/
def Els (w : World) (B : Nat) (v : Value) (vals : List Value) (acc : List (List UInt8)) : Prop :=
  vals.length = acc.length ∧ ∀ i (h : i < acc.length), ∃ u, vals[i]? = some u ∧ Sl w (fun k => k < B ∨ v.ownBlock = some k) 1 u acc[i].length (BVs acc[i])
theorem Els.nil (w : World) (B : Nat) (v : Value) : Els w B v [] [] := ⟨rfl, fun i h => absurd h (by simp)⟩
theorem Els.keep {w w' : World} {B : Nat} {v : Value} {vals : List Value} {acc : List (List UInt8)} (h : Els w B v vals acc) (hs : w.heap.size ≤ w'.heap.size) (hk : ∀ b, b < w.heap.size → ¬ (b < B ∨ v.ownBlock = some b) → w'.heap[b]? = w.heap[b]?) : Els w' B v vals acc :=
  ⟨h.1, fun i hi => by obtain ⟨u, hu, h3⟩ := h.2 i hi; exact ⟨u, hu, h3.keep hs hk⟩⟩
theorem Els.grown {w w' : World} {B : Nat} {v : Value} {vals : List Value} {acc : List (List UInt8)} {row : Option Nat} (h : Els w B v vals acc) (hg : w.grownBy w' row) (hr : ∀ k, row = some k → k < B ∨ v.ownBlock = some k) : Els w' B v vals acc :=
  h.keep hg.size fun b hb hX => hg.block b hb fun e => hX (hr b e.symm)
/-- The list has moved, or not. -/
theorem Els.moved {w : World} {B : Nat} {v v' : Value} {vals : List Value} {acc : List (List UInt8)} (h : Els w B v vals acc) (hr : v'.ownBlock = v.ownBlock ∨ ∀ k, v'.ownBlock = some k → w.heap.size ≤ k) : Els w B v' vals acc :=
  ⟨h.1, fun i hi => by
    obtain ⟨u, hu, h3⟩ := h.2 i hi
    refine ⟨u, hu, h3.weaken fun b hb hy => ?_⟩
    rcases hy with hy | hy
    · exact .inl hy
    · rcases hr with hr | hr
      · rw [hr] at hy; exact .inr hy
      · have := hr b hy; omega⟩
theorem Els.push {w : World} {B : Nat} {v u : Value} {vals : List Value} {acc : List (List UInt8)} {x : List UInt8} (h : Els w B v vals acc) (hu : Sl w (fun k => k < B ∨ v.ownBlock = some k) 1 u x.length (BVs x)) : Els w B v (vals ++ [u]) (acc ++ [x]) := by
  refine ⟨by simp [h.1], fun i hi => ?_⟩
  rw [List.length_append, List.length_singleton] at hi
  by_cases hl : i < acc.length
  · obtain ⟨u0, hu0, h3⟩ := h.2 i hl
    refine ⟨u0, by rw [List.getElem?_append_left (by rw [h.1]; exact hl)]; exact hu0, ?_⟩
    rw [List.getElem_append_left hl]
    exact h3
  · have he : i = acc.length := by omega
    subst he
    refine ⟨u, by rw [List.getElem?_append_right (by rw [h.1]; omega), h.1]; simp, ?_⟩
    rw [List.getElem_append_right (by omega)]
    simpa using hu
theorem one_newv (w : World) (X : Nat → Prop) (t : TypeId) (u : Value) (hX : ¬ X w.heap.size) : Sl (w.alloc (.cells #[u] t)) X 1 (.slice (some ⟨w.heap.size, 0, none⟩) 1 1) 1 [u] :=
  ⟨_, _, rfl, rfl, Nat.le_refl _, by simp only [maxLen]; omega, fun _ => ⟨_, rfl, by simp, hX, fun j u' hu => cell_one_new w _ t j u' hu⟩⟩

/-- What a list's reading leaves. -/
def Listed (w : World) (X : Nat → Prop) (g : Nat) (r : List (List UInt8) × Cm.RS) (e : Ending) (w' : World) : Prop :=
  ∃ v, e = .returned v ∧ Ls w' (fun k => k < w.heap.size) v r.1 ∧ w.grownBy w' (some g) ∧ CR w' X g r.2

/-- One round: a part was read and put behind the others. -/
theorem list_round {W wr w1 w2 : World} {X : Nat → Prop} {g : Nat} {v u v2 : Value} {vals : List Value} {acc : List (List UInt8)} {x : List UInt8} {s1 : Cm.RS} {t e : TypeId}
    (hg : W.grownBy wr (some g)) (hgl : g < W.heap.size) (hown : wr.ownsRow W.heap.size e 1 v acc.length vals) (hels : Els wr W.heap.size v vals acc)
    (hu : w1.ownsRow wr.heap.size t 1 u x.length (BVs x)) (hg1 : wr.grownBy w1 (some g)) (hc1 : CR w1 (fun k => X k ∨ W.heap.size ≤ k) g s1)
    (happ : Appended (w1.alloc (.cells #[u] e)) W.heap.size e 1 v (acc.length + 1) (vals ++ [u]) v2 w2) :
    w2.ownsRow W.heap.size e 1 v2 (acc ++ [x]).length (vals ++ [u]) ∧ Els w2 W.heap.size v2 (vals ++ [u]) (acc ++ [x]) ∧ W.grownBy w2 (some g) ∧ CR w2 (fun k => X k ∨ W.heap.size ≤ k) g s1 := by
  have hlt := hown.lt
  have h1 : Els w1 W.heap.size v (vals ++ [u]) (acc ++ [x]) := by
    refine (hels.grown hg1 (fun k hk => .inl (by injection hk with hk; omega))).push (Sl.of_own hu fun k hk _ hy => ?_)
    rcases hy with hy | hy
    · have := hg.size; omega
    · have := (hlt k hy).2; omega
  have h2 := h1.keep (w' := w1.alloc (.cells #[u] e)) (by simp) (fun b hb _ => Below.heap_alloc _ _ _ hb)
  have h3 := h2.grown happ.2.1 (fun k hk => .inr hk)
  have hsz := happ.2.1.size
  refine ⟨by rw [List.length_append]; exact happ.1, ?_, ?_, ?_⟩
  · refine ⟨h3.1, fun i hi => ?_⟩
    obtain ⟨u0, hu0, h5⟩ := h2.2 i hi
    refine ⟨u0, hu0, ?_⟩
    have h6 : Sl w2 (fun k => (k < W.heap.size ∨ v.ownBlock = some k) ∨ (w1.alloc (.cells #[u] e)).heap.size ≤ k) 1 u0 (acc ++ [x])[i].length (BVs (acc ++ [x])[i]) :=
      (h5.old (Nat.le_refl _)).grown happ.2.1 (fun k hk _ => .inl (.inr hk))
    refine h6.weaken fun b _ hy => ?_
    rcases hy with hy | hy
    · exact .inl (.inl hy)
    · rcases happ.2.2 with hr | hr
      · rw [hr] at hy; exact .inl (.inr hy)
      · rw [hr] at hy; injection hy with hy; exact .inr (by omega)
  · have k1 := hg.trans hg1
    have k2 := grown_below k1 ((Below.refl w1.heap.size w1).alloc (Nat.le_refl _) (.cells #[u] e))
    exact grown_step k2 happ.2.1 (.inr fun k hk => (hlt k hk).1)
  · refine (hc1.after ((Below.refl w1.heap.size w1).alloc (Nat.le_refl _) (.cells #[u] e))).grown happ.2.1 ?_ (fun k hk _ => .inr (hlt k hk).1)
    intro he
    have := (hlt g he.symm).1
    omega

set_option maxHeartbeats 400000 in
theorem list_gen (w : World) (X : Nat → Prop) (g : Nat) (s : Cm.RS) (h : CR w X g s) (most each : Int) (hlo : -9223372036854775808 ≤ most) (hhi : most ≤ 9223372036854775807) (hlo2 : -9223372036854775808 ≤ each) (hhi2 : each ≤ 9223372036854775807) (hl : s.1.length ≤ 140737488355328) (hq : s.1.length ≤ 549755813888 ∨ most ≤ 1048576) :
    Calls Try.prog 77 #[P_ g, .int .i64 most, .int .i64 each] w fun e w' => Listed w X g (Cm.listS s most each) e w' := by
  have hl2 := Cm.numS_len s most.toNat
  have hnle := Cm.numS_le s most.toNat
  have hgl := h.lt
  obtain ⟨i0, hi0, hz0, hz1, hz2⟩ := info_parts info_sl
  have HLO := Lib.hid hlo
  have HHI := Lib.hid hhi
  have HLO2 := Lib.hid hlo2
  have HHI2 := Lib.hid hhi2
  have hnum : (Cm.numS s most.toNat).1 ≤ 9223372036854775807 := by omega
  have hqq : s.1.length ≤ 549755813888 ∨ (Cm.numS s most.toNat).1 ≤ 1048576 := by omega
  clear hlo hhi hlo2 hhi2 hnle hq
  go_enter Try.func77, Try.ntmps77
  go_wp2_with (go_at_call 83; refine (length_any _ _ g s (h.old (Nat.le_refl _)) most HLO.out HHI.out).mono ?_; rintro e w1 ⟨rfl, hg1, hc1⟩)
  go_loopw [7, 8] (fun v m wr => ∃ (k : Nat) (s1 : Cm.RS) (acc : List (List UInt8)) (vals : List Value), m = .int .i64 k ∧ k ≤ 9223372036854775807 ∧ wr.ownsRow w.heap.size 32 1 v acc.length vals ∧ Els wr w.heap.size v vals acc ∧ w.grownBy wr (some g) ∧
      CR wr (fun k => X k ∨ w.heap.size ≤ k) g s1 ∧ Cm.listS s most each = Cm.listA each k s1 acc ∧ acc.length + s1.1.length ≤ s.1.length ∧ acc.length + k ≤ (Cm.numS s most.toNat).1)
    (fun _ m _ => (intOf m).toNat)
  case atStart => exact ⟨_, _, [], [], rfl, hnum, World.ownsRow_nil _ _ _ _, Els.nil _ _ _, hg1, hc1, rfl, by simpa using hl2, by simp⟩
  case round =>
    obtain ⟨k, s1, acc, vals, rfl, hk63, hown, hels, hgr, hcr, heq, hle, hak⟩ := hrel
    have hlb := Cm.bytesS_len s1 each
    have HEQ := Lib.hid heq
    clear heq
    rcases Nat.eq_zero_or_pos k with hk0 | hk0
    · subst hk0
      go_wp2
      go_ret
      refine ⟨_, rfl, ?_, hgr, ?_⟩
      · rw [HEQ.out]
        refine ⟨vals, Sl.of_own hown (fun b hb _ hX => by omega), fun i hi => ?_⟩
        obtain ⟨u, hu, h3⟩ := hels.2 i hi
        exact ⟨u, hu, h3.weaken fun b _ hy => .inl hy⟩
      · rw [HEQ.out]
        exact hcr.weaken fun b _ hy => .inl hy
    · obtain ⟨k', rfl⟩ : ∃ k', k = k' + 1 := ⟨k - 1, by omega⟩
      have hst := HEQ.out
      rw [Cm.listA] at hst
      by_cases hok : (Cm.bytesS s1 each).2.2 = 0
      · rw [if_neg (by simp [hok])] at hst
        have hlt := Cm.bytesS_ok hok
        have HST := Lib.hid hst
        have HOK := Lib.hid hok
        have hsz := hgr.size
        clear hst hok
        go_wp2_with (first
          | (go_at_call 75; refine (bytes_any _ _ g s1 hcr each HLO2.out HHI2.out (by omega)).mono ?_; rintro e w2 ⟨u, rfl, hownu, hg2, hc2⟩; obtain ⟨A1, c1, rfl⟩ := own_shape hownu; have hc2' := hc2; obtain ⟨A2, n2, c2, hb2, -⟩ := hc2'; rw [HOK.out] at hb2)
          | (go_at_call 65; refine (reads_ok _ g _ hb2).mono ?_; rintro e w3 ⟨rfl, rfl⟩)
          | (at_builtin; refine wpList_append_sl _ rfl (.tmp 23) (.tmp 25) _ rfl w.heap.size 32 i0 _ 1 24 Try.underlying78 hi0 hz0 hz1 hz2 rfl (by omega) u7 acc.length vals rfl ((hown.kept hg2 (by have := hown.lt; cases hv : u7.ownBlock <;> simp; rename_i kk; have := (this kk hv).1; omega)).alloc _) (fun _ => False) _ 1 [.slice A1 (Cm.bytesS s1 each).1.length c1] rfl (one_newv w2 _ _ _ (fun h => h)) (by simp [Value.oneCell']) (by simp only [maxLen]; omega) (by omega) (by have := hg2.size; simp; omega) ?_; intro v4 w4 happ))
        go_roundw
        case rel =>
          have R := list_round hgr hgl hown hels hownu hg2 hc2 happ
          exact ⟨k', _, _, _, by go_num, by omega, R.1, R.2.1, R.2.2.1, R.2.2.2, HST.out, by simp only [List.length_append, List.length_singleton]; omega, by simp only [List.length_append, List.length_singleton]; omega⟩
        case measure => simp [intOf]
      · rw [if_pos hok] at hst
        have HST := Lib.hid hst
        have HOK := Lib.hid hok
        clear hst hok
        go_wp2_with (first
          | (go_at_call 75; refine (bytes_any _ _ g s1 hcr each HLO2.out HHI2.out (by omega)).mono ?_; rintro e w2 ⟨u, rfl, hownu, hg2, hc2⟩; have hc2' := hc2; obtain ⟨A2, n2, c2, hb2, -⟩ := hc2')
          | (go_at_call 65; refine (reads_no _ g _ _ hb2 HOK.out).mono ?_; rintro e w3 ⟨rfl, rfl⟩))
        go_ret
        refine ⟨_, rfl, ?_, hgr.trans hg2, ?_⟩
        · rw [HST.out]
          exact ⟨[], Sl.nil _ _ _, fun i hi => absurd hi (by simp)⟩
        · rw [HST.out]
          exact hc2.weaken fun b _ hy => .inl hy

theorem list_any (w : World) (X : Nat → Prop) (g : Nat) (s : Cm.RS) (h : CR w X g s) (most each : Int) (hlo : -9223372036854775808 ≤ most) (hhi : most ≤ 9223372036854775807) (hlo2 : -9223372036854775808 ≤ each) (hhi2 : each ≤ 9223372036854775807) (hl : s.1.length ≤ 549755813888) :
    Calls Try.prog 77 #[P_ g, .int .i64 most, .int .i64 each] w fun e w' => Listed w X g (Cm.listS s most each) e w' :=
  list_gen w X g s h most each hlo hhi hlo2 hhi2 (by omega) (.inl hl)

end Go.Proofs.Ytbglojjljccgkaa.Ci

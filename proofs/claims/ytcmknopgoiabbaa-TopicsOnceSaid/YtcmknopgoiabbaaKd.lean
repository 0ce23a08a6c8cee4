/-
  Generic: slices.Delete at records, from the front.
-/
import Derived.Test.YtcmknopgoiabbaaGa
namespace Go.Proofs.Ytcmknopgoiabbaa.Kd
set_option linter.unusedSimpArgs false
open Go Go.RowKit Ck Kw Ga
attribute [local go_sem ↓] Go.wp_at_zero Go.wp_at_succ
set_option linter.unusedVariables false

theorem info_rec : (Try.prog.info? 44).map (fun i => (i.zero, i.size, i.bytes)) = some (some (.slice none 0 0), 1, 24) := by kernel_rfl
theorem size_setCells (b : Nat) : ∀ (vs : List Value) (o : Nat) (w : World), (w.setCells b o vs).heap.size = w.heap.size
  | [], _, _ => rfl
  | v :: vs, o, w => by
    rw [World.setCells, size_setCells b vs]
    simp [World.setCell]
theorem os_setCells (w : World) (g o : Nat) (vs : List Value) : (w.setCells g o vs).os = w.os := (World.keptBut_setCells g (may := fun _ => True) vs o w (fun _ _ => trivial)).1
theorem output_setCells (w : World) (g o : Nat) (vs : List Value) : (w.setCells g o vs).output = w.output := (World.keptBut_setCells g (may := fun _ => True) vs o w (fun _ _ => trivial)).2.1
theorem heap_setCells_other (w : World) (g o : Nat) (vs : List Value) {i : Nat} (hi : i < w.heap.size) (hne : i ≠ g) : (w.setCells g o vs).heap[i]? = w.heap[i]? := by
  induction vs generalizing o w with
  | nil => rfl
  | cons v vs ih =>
    rw [World.setCells, ih _ _ (by simpa [World.setCell] using hi)]
    exact Below.heap_setCell w ⟨g, o, none⟩ v i hne
theorem ch_setCells (g : Nat) (w : World) (o : Nat) (vs : List Value) : Ch (fun q => q = g) w (w.setCells g o vs) :=
  ⟨os_setCells _ _ _ _, by
    induction vs generalizing o w with
    | nil => rfl
    | cons v vs ih => rw [World.setCells, ih]; rfl, output_setCells _ _ _ _, by rw [size_setCells]; exact Nat.le_refl _, fun i hi hn => heap_setCells_other _ _ _ _ hi hn⟩
theorem setCells_row {g : Nat} {t : TypeId} {fr : Nat × Nat} : ∀ (vs : List Value) (o : Nat) (w : World) (cur : Array Value), w.heap[g]? = some (.cells cur t fr) → o + vs.length ≤ cur.size →
    (w.setCells g o vs).heap[g]? = some (.cells (cur.toList.take o ++ vs ++ cur.toList.drop (o + vs.length)).toArray t fr)
  | [], o, w, cur, h, _ => by simp [World.setCells, h]
  | v :: vs, o, w, cur, h, hl => by
    simp only [List.length_cons] at hl
    have h1 : (w.setCell ⟨g, o, none⟩ v).heap[g]? = some (.cells (cur.setIfInBounds o v) t fr) := by simp [World.setCell, Array.getElem?_modify, h]
    rw [World.setCells, setCells_row vs (o + 1) _ _ h1 (by simp; omega)]
    have e1 : (cur.toList.set o v).take (o + 1) = cur.toList.take o ++ [v] := by
      rw [List.take_set, List.take_add_one]
      have : o < cur.toList.length := by simp; omega
      rw [List.getElem?_eq_getElem this]
      simp only [Option.toList]
      rw [List.set_append_right _ _ (by simp; omega)]
      have e : o - (cur.toList.take o).length = 0 := by simp; omega
      rw [e]; rfl
    have e2 : (cur.toList.set o v).drop (o + 1 + vs.length) = cur.toList.drop (o + (vs.length + 1)) := by
      rw [List.drop_set_of_lt (by omega)]
      congr 1; omega
    rw [Array.toList_setIfInBounds, e1, e2]
    simp
theorem del_end {w W1 : World} {g n k c : Nat} {cur : Array Value} {vals news : List Value} (hr : w.heap[g]? = some (.cells cur 44 (0, 0))) (hW : W1 = w.drew.setCells g (0 + 0 * 1) news)
    (hr1 : W1.heap[g]? = some (.cells (cur.toList.take 0 ++ news ++ cur.toList.drop (0 + news.length)).toArray 44 (0, 0))) (hnews : news = vals.drop k) (hlen : news.length = n - k) (hcl : cur.size = c) (hvl : vals.length = n) (hk : k ≤ n) (hnc : n ≤ c) (hcm : c ≤ maxLen) :
    ∃ v', Ending.returned (.slice (some ⟨g, 0, none⟩) (n - k) c) = .returned v' ∧ (W1.setCells g (n - k) (List.replicate (n - (n - k)) (.slice none 0 0))).ownsRow 0 44 1 v' (n - k) (vals.drop k) ∧ v'.ownBlock = (Value.slice (some ⟨g, 0, none⟩) n c).ownBlock ∧
      Ch (fun q => (Value.slice (some ⟨g, 0, none⟩) n c).ownBlock = some q) w (W1.setCells g (n - k) (List.replicate (n - (n - k)) (.slice none 0 0))) := by
  have hr2 := setCells_row (List.replicate (n - (n - k)) (.slice none 0 0)) (n - k) W1 _ hr1 (by simp; omega)
  have c1 : Ch (fun q => q = g) w W1 := by
    have := ch_setCells g w.drew 0 news
    rw [hW]
    exact ⟨this.os, this.tape, this.output, this.size, this.block⟩
  refine ⟨_, rfl, ⟨by rw [← hnews, hlen]; omega, .inr ⟨g, c, _, rfl, Nat.zero_le _, hr2, by omega, hcm, ?_, ?_⟩⟩, rfl, ?_⟩
  · simp
    omega
  · rw [← hnews]
    simp only [List.take_zero, List.nil_append, Nat.zero_add, Nat.mul_one, List.append_assoc]
    rw [List.take_append_of_le_length (by simp; omega), List.take_take, Nat.min_self, List.take_append_of_le_length (by omega), ← hlen, List.take_length]
  · refine (c1.trans (ch_setCells g W1 _ _) (fun _ _ h => h)).mono (fun q _ hq => ?_)
    subst hq
    rfl
set_option maxRecDepth 100000 in
set_option maxHeartbeats 1000000 in
theorem delete_any (w : World) (v : Value) (n k : Nat) (vals : List Value) (hown : w.ownsRow 0 44 1 v n vals) (hk : k ≤ n) (hn : n ≤ 1000) (h1 : ∀ u ∈ vals, u.oneCell' = true) :
    Calls Try.prog 59 #[v, .int .i64 0, .int .i64 (k : Int)] w fun e w' => ∃ v', e = .returned v' ∧ w'.ownsRow 0 44 1 v' (n - k) (vals.drop k) ∧ v'.ownBlock = v.ownBlock ∧ Ch (fun q => v.ownBlock = some q) w w' := by
  obtain ⟨A, c, rfl⟩ := own_shape hown
  have hcc : n ≤ c ∧ c ≤ maxLen := by
    obtain ⟨A0, _, hv, _, hc, hm, _⟩ := Sl.of_own (X := fun _ => False) hown (fun _ _ _ h => h)
    obtain ⟨_, _, e⟩ := Value.slice.inj hv
    omega
  obtain ⟨hnc, hcm⟩ := hcc
  simp only [maxLen] at hcm
  have HO := Lib.hid hown
  by_cases h0 : k = 0
  · subst h0
    have hkc : (0 : Int) ≤ (n : Int) := by omega
    clear hown h1
    go_enter Try.func59, Try.ntmps59
    go_wp2
    all_goals
      go_ret
      exact ⟨_, rfl, by simpa using HO.out, rfl, Ch.refl _ _⟩
  · rcases hown.2 with ⟨_, h0'⟩ | ⟨g, cap, cur, hv, hg, hr, h2, h3, h4, h5⟩
    · omega
    · obtain ⟨e1, _, e3⟩ := Value.slice.inj hv
      subst e1; subst e3
      obtain ⟨i0, hi0, hz0, hz1, hz2⟩ := info_parts info_rec
      have hvl : vals.length = n := by have := hown.1; omega
      have hcl : cur.size = c := by omega
      obtain ⟨news, hnews⟩ : ∃ news, news = vals.drop k := ⟨_, rfl⟩
      have hlen : news.length = n - k := by rw [hnews, List.length_drop, hvl]
      obtain ⟨Ad, hA, hsrc⟩ : ∃ Ad : Addr, (if c = k then some (⟨g, 0, none⟩ : Addr) else some ⟨g, 0 + k, none⟩) = some Ad ∧ Hid (∀ t u, news[t]? = some u → w.drew.cell? (Ad.add t) = some u) := by
        by_cases h : c = k
        · refine ⟨⟨g, 0, none⟩, by simp [h], Lib.hid (fun t u hu => ?_)⟩
          have h0 : news.length = 0 := by rw [hlen]; omega
          rw [List.length_eq_zero_iff.1 h0] at hu
          simp at hu
        · refine ⟨⟨g, 0 + k, none⟩, by simp [h], Lib.hid (fun t u hu => ?_)⟩
          have ht : t < n - k := by
            have := (List.getElem?_eq_some_iff.1 hu).1
            rwa [hlen] at this
          rw [hnews, List.getElem?_drop] at hu
          have ha : (⟨g, 0 + k, none⟩ : Addr).add t = ⟨g, k + t, none⟩ := by unfold Addr.add; split <;> simp_all
          rw [ha]
          show w.cell? _ = _
          rw [cell_of_row w g (k + t) cur _ (0, 0) hr, ← hu, ← h5]
          rw [List.getElem?_take, if_pos (by omega)]
          simp
      have HV := Lib.hid hnews
      have s1 : Hid (news.length = (n - k) * 1) := Lib.hid (by rw [Nat.mul_one]; exact hlen)
      have s2 : Hid (∀ u ∈ news, u.oneCell' = true) := Lib.hid (by
        intro u hu
        rw [hnews] at hu
        exact h1 u (List.mem_of_mem_drop hu))
      have s3 : Hid (∀ t, t < news.length → (w.drew.cell? ⟨g, 0 + 0 * 1 + t, none⟩).isSome = true ∧ w.drew.frozen? ⟨g, 0 + 0 * 1 + t, none⟩ = false) := Lib.hid (by
        intro t ht
        rw [hlen] at ht
        constructor
        · show (w.cell? _).isSome = true
          rw [cell_of_row w g _ cur _ (0, 0) hr]
          simp; omega
        · show w.frozen? _ = false
          simp [World.frozen?, hr])
      obtain ⟨W1, hW1⟩ : ∃ W1, W1 = w.drew.setCells g (0 + 0 * 1) news := ⟨_, rfl⟩
      have hr1 : W1.heap[g]? = some (.cells (cur.toList.take 0 ++ news ++ cur.toList.drop (0 + news.length)).toArray 44 (0, 0)) := by
        rw [hW1]
        exact setCells_row news 0 w.drew cur hr (by omega)
      have hne : ¬ (c = n - k) := by omega
      have hcl1 : ∀ ty, (Builtin.clear_ #[27] ty #[.slice (some ⟨g, n - k, none⟩) (n - (n - k)) (c - (n - k))]).run Try.prog W1 = .ok (.tuple #[]) (W1.setCells g (n - k) (List.replicate (n - (n - k)) (.slice none 0 0))) :=
        fun ty => Lib.run_clear_slice W1 _ _ ty _ Try.underlying27 (fun w => by kernel_rfl) rfl rfl g (n - k) _ _ (by omega) (fun t ht => by
          rw [cell_of_row W1 g _ _ _ (0, 0) hr1]
          simp
          omega) (fun t ht => by simp [World.frozen?, hr1])
      have HW : Hid (W1 = w.drew.setCells g (0 + 0 * 1) news) := Lib.hid hW1
      have HR1 := Lib.hid hr1
      have HR := Lib.hid (And.intro hr (And.intro hlen (And.intro hcl (And.intro h5 hvl))))
      have hkc : k ≤ c := by omega
      clear hW1 hr1 hr hlen hcl h5 hvl hown h1 hnews h2 h3 h4
      go_enter Try.func59, Try.ntmps59
      go_wp2_with fail
      go_region_law ((refine step_append_room rfl (.tmp 22) (.tmp 25) 27 rfl 44 i0 1 Try.underlying27 hi0 hz1 g 0 0 c (by simp [Act.eval, Act.put]) Ad (n - k) (c - k) news (by simp [Act.eval, Act.put]; simpa using hA) s1.out hsrc.out s2.out (by omega) s3.out ?_; rw [← HW.out]))
      go_wp2
      all_goals
        go_ret
        obtain ⟨q1, q2, q3, q4, q5⟩ := HR.out
        first
          | exact del_end q1 HW.out HR1.out HV.out q2 q3 q5 hk hnc (by simp only [maxLen]; omega)
          | (have hck : c = k := by assumption
             subst hck
             exact del_end q1 HW.out HR1.out HV.out q2 q3 q5 hk hnc (by simp only [maxLen]; omega))
end Go.Proofs.Ytcmknopgoiabbaa.Kd

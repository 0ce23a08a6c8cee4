/-
  Generic: slices.Delete at records, from the front.
-/
import Derived.Test.YtkoedonllfmaaaaGreatVD04
import Derived.Test.YtkoedonllfmaaaaGreatVD05
import Derived.Test.YtkoedonllfmaaaaGreatVD03
namespace Go.Proofs.YtkoedonllfmaaaaGreat.Kd
set_option linter.unusedSimpArgs false
open Go Go.RowKit Ck Kw Ga
attribute [local go_sem ↓] Go.wp_at_zero Go.wp_at_succ
set_option linter.unusedVariables false

theorem info_rec : (Tryz.prog.info? 55).map (fun i => (i.zero, i.size, i.bytes)) = some (some (.slice none 0 0), 1, 24) := by kernel_rfl
theorem size_setCells (b : Nat) : ∀ (vs : List Value) (o : Nat) (w : World), (w.setCells b o vs).heap.size = w.heap.size
  | [], _, _ => rfl
  | v :: vs, o, w => by
    rw [World.setCells, size_setCells b vs]
    simp [World.setCell]
theorem os_setCells (w : World) (g o : Nat) (vs : List Value) : (w.setCells g o vs).os = w.os := (World.keptBut_setCells g (may := fun _ => True) vs o w (fun _ _ => trivial)).1
theorem output_setCells (w : World) (g o : Nat) (vs : List Value) : (w.setCells g o vs).output = w.output := (World.keptBut_setCells g (may := fun _ => True) vs o w (fun _ _ => trivial)).2.1
theorem heap_setCells_other (w : World) (g o : Nat) (vs : List Value) {i : Nat} (hi : i < w.heap.size) (hne : i ≠ g) : (w.setCells g o vs).heap[i]? = w.heap[i]? := by
  induction vs generalizing o w with
  | nil => rfl
  | cons v vs ih =>
    rw [World.setCells, ih _ _ (by simpa [World.setCell] using hi)]
    exact Below.heap_setCell w ⟨g, o, none⟩ v i hne
theorem ch_setCells (g : Nat) (w : World) (o : Nat) (vs : List Value) : Ch (fun q => q = g) w (w.setCells g o vs) :=
  ⟨os_setCells _ _ _ _, by
    induction vs generalizing o w with
    | nil => rfl
    | cons v vs ih => rw [World.setCells, ih]; rfl, output_setCells _ _ _ _, by rw [size_setCells]; exact Nat.le_refl _, fun i hi hn => heap_setCells_other _ _ _ _ hi hn⟩
theorem setCells_row {g : Nat} {t : TypeId} {fr : Nat × Nat} : ∀ (vs : List Value) (o : Nat) (w : World) (cur : Array Value), w.heap[g]? = some (.cells cur t fr) → o + vs.length ≤ cur.size →
    (w.setCells g o vs).heap[g]? = some (.cells (cur.toList.take o ++ vs ++ cur.toList.drop (o + vs.length)).toArray t fr)
  | [], o, w, cur, h, _ => by simp [World.setCells, h]
  | v :: vs, o, w, cur, h, hl => by
    simp only [List.length_cons] at hl
    have h1 : (w.setCell ⟨g, o, none⟩ v).heap[g]? = some (.cells (cur.setIfInBounds o v) t fr) := by simp [World.setCell, Array.getElem?_modify, h]
    rw [World.setCells, setCells_row vs (o + 1) _ _ h1 (by simp; omega)]
    have e1 : (cur.toList.set o v).take (o + 1) = cur.toList.take o ++ [v] := by
      rw [List.take_set, List.take_add_one]
      have : o < cur.toList.length := by simp; omega
      rw [List.getElem?_eq_getElem this]
      simp only [Option.toList]
      rw [List.set_append_right _ _ (by simp; omega)]
      have e : o - (cur.toList.take o).length = 0 := by simp; omega
      rw [e]; rfl
    have e2 : (cur.toList.set o v).drop (o + 1 + vs.length) = cur.toList.drop (o + (vs.length + 1)) := by
      rw [List.drop_set_of_lt (by omega)]
      congr 1; omega
    rw [Array.toList_setIfInBounds, e1, e2]
    simp
theorem del_end {w W1 : World} {g n k c : Nat} {cur : Array Value} {vals news : List Value} (hr : w.heap[g]? = some (.cells cur 55 (0, 0))) (hW : W1 = w.drew.setCells g (0 + 0 * 1) news)
    (hr1 : W1.heap[g]? = some (.cells (cur.toList.take 0 ++ news ++ cur.toList.drop (0 + news.length)).toArray 55 (0, 0))) (hnews : news = vals.drop k) (hlen : news.length = n - k) (hcl : cur.size = c) (hvl : vals.length = n) (hk : k ≤ n) (hnc : n ≤ c) (hcm : c ≤ maxLen) :
    ∃ v', Ending.returned (.slice (some ⟨g, 0, none⟩) (n - k) c) = .returned v' ∧ (W1.setCells g (n - k) (List.replicate (n - (n - k)) (.slice none 0 0))).ownsRow 0 55 1 v' (n - k) (vals.drop k) ∧ v'.ownBlock = (Value.slice (some ⟨g, 0, none⟩) n c).ownBlock ∧
      Ch (fun q => (Value.slice (some ⟨g, 0, none⟩) n c).ownBlock = some q) w (W1.setCells g (n - k) (List.replicate (n - (n - k)) (.slice none 0 0))) := by
  have hr2 := setCells_row (List.replicate (n - (n - k)) (.slice none 0 0)) (n - k) W1 _ hr1 (by simp; omega)
  have c1 : Ch (fun q => q = g) w W1 := by
    have := ch_setCells g w.drew 0 news
    rw [hW]
    exact ⟨this.os, this.tape, this.output, this.size, this.block⟩
  refine ⟨_, rfl, ⟨by rw [← hnews, hlen]; omega, .inr ⟨g, c, _, rfl, Nat.zero_le _, hr2, by omega, hcm, ?_, ?_⟩⟩, rfl, ?_⟩
  · simp
    omega
  · rw [← hnews]
    simp only [List.take_zero, List.nil_append, Nat.zero_add, Nat.mul_one, List.append_assoc]
    rw [List.take_append_of_le_length (by simp; omega), List.take_take, Nat.min_self, List.take_append_of_le_length (by omega), ← hlen, List.take_length]
  · refine (c1.trans (ch_setCells g W1 _ _) (fun _ _ h => h)).mono (fun q _ hq => ?_)
    subst hq
    rfl
set_option maxRecDepth 100000 in
set_option maxHeartbeats 1000000 in
theorem delete_any (w : World) (v : Value) (n k : Nat) (vals : List Value) (hown : w.ownsRow 0 55 1 v n vals) (hk : k ≤ n) (hn : n ≤ 1000) (h1 : ∀ u ∈ vals, u.oneCell' = true) :
    Calls Tryz.prog 110 #[v, .int .i64 0, .int .i64 (k : Int)] w fun e w' => ∃ v', e = .returned v' ∧ w'.ownsRow 0 55 1 v' (n - k) (vals.drop k) ∧ v'.ownBlock = v.ownBlock ∧ Ch (fun q => v.ownBlock = some q) w w' := by
  obtain ⟨A, c, rfl⟩ := own_shape hown
  have hcc : n ≤ c ∧ c ≤ maxLen := by
    obtain ⟨A0, _, hv, _, hc, hm, _⟩ := Sl.of_own (X := fun _ => False) hown (fun _ _ _ h => h)
    obtain ⟨_, _, e⟩ := Value.slice.inj hv
    omega
  obtain ⟨hnc, hcm⟩ := hcc
  simp only [maxLen] at hcm
  have HO := Lib.hid hown
  by_cases h0 : k = 0
  · subst h0
    have hkc : (0 : Int) ≤ (n : Int) := by omega
    clear hown h1
    go_enter Tryz.func110, Tryz.ntmps110
    go_wp2
    all_goals
      go_ret
      exact ⟨_, rfl, by simpa using HO.out, rfl, Ch.refl _ _⟩
  · rcases hown.2 with ⟨_, h0'⟩ | ⟨g, cap, cur, hv, hg, hr, h2, h3, h4, h5⟩
    · omega
    · obtain ⟨e1, _, e3⟩ := Value.slice.inj hv
      subst e1; subst e3
      obtain ⟨i0, hi0, hz0, hz1, hz2⟩ := info_parts info_rec
      have hvl : vals.length = n := by have := hown.1; omega
      have hcl : cur.size = c := by omega
      obtain ⟨news, hnews⟩ : ∃ news, news = vals.drop k := ⟨_, rfl⟩
      have hlen : news.length = n - k := by rw [hnews, List.length_drop, hvl]
      obtain ⟨Ad, hA, hsrc⟩ : ∃ Ad : Addr, (if c = k then some (⟨g, 0, none⟩ : Addr) else some ⟨g, 0 + k, none⟩) = some Ad ∧ Hid (∀ t u, news[t]? = some u → w.drew.cell? (Ad.add t) = some u) := by
        by_cases h : c = k
        · refine ⟨⟨g, 0, none⟩, by simp [h], Lib.hid (fun t u hu => ?_)⟩
          have h0 : news.length = 0 := by rw [hlen]; omega
          rw [List.length_eq_zero_iff.1 h0] at hu
          simp at hu
        · refine ⟨⟨g, 0 + k, none⟩, by simp [h], Lib.hid (fun t u hu => ?_)⟩
          have ht : t < n - k := by
            have := (List.getElem?_eq_some_iff.1 hu).1
            rwa [hlen] at this
          rw [hnews, List.getElem?_drop] at hu
          have ha : (⟨g, 0 + k, none⟩ : Addr).add t = ⟨g, k + t, none⟩ := by unfold Addr.add; split <;> simp_all
          rw [ha]
          show w.cell? _ = _
          rw [cell_of_row w g (k + t) cur _ (0, 0) hr, ← hu, ← h5]
          rw [List.getElem?_take, if_pos (by omega)]
          simp
      have HV := Lib.hid hnews
      have s1 : Hid (news.length = (n - k) * 1) := Lib.hid (by rw [Nat.mul_one]; exact hlen)
      have s2 : Hid (∀ u ∈ news, u.oneCell' = true) := Lib.hid (by
        intro u hu
        rw [hnews] at hu
        exact h1 u (List.mem_of_mem_drop hu))
      have s3 : Hid (∀ t, t < news.length → (w.drew.cell? ⟨g, 0 + 0 * 1 + t, none⟩).isSome = true ∧ w.drew.frozen? ⟨g, 0 + 0 * 1 + t, none⟩ = false) := Lib.hid (by
        intro t ht
        rw [hlen] at ht
        constructor
        · show (w.cell? _).isSome = true
          rw [cell_of_row w g _ cur _ (0, 0) hr]
          simp; omega
        · show w.frozen? _ = false
          simp [World.frozen?, hr])
      obtain ⟨W1, hW1⟩ : ∃ W1, W1 = w.drew.setCells g (0 + 0 * 1) news := ⟨_, rfl⟩
      have hr1 : W1.heap[g]? = some (.cells (cur.toList.take 0 ++ news ++ cur.toList.drop (0 + news.length)).toArray 55 (0, 0)) := by
        rw [hW1]
        exact setCells_row news 0 w.drew cur hr (by omega)
      have hne : ¬ (c = n - k) := by omega
      have hcl1 : ∀ ty, (Builtin.clear_ #[36] ty #[.slice (some ⟨g, n - k, none⟩) (n - (n - k)) (c - (n - k))]).run Tryz.prog W1 = .ok (.tuple #[]) (W1.setCells g (n - k) (List.replicate (n - (n - k)) (.slice none 0 0))) :=
        fun ty => Lib.run_clear_slice W1 _ _ ty _ Tryz.underlying36 (fun w => by kernel_rfl) rfl rfl g (n - k) _ _ (by omega) (fun t ht => by
          rw [cell_of_row W1 g _ _ _ (0, 0) hr1]
          simp
          omega) (fun t ht => by simp [World.frozen?, hr1])
      have HW : Hid (W1 = w.drew.setCells g (0 + 0 * 1) news) := Lib.hid hW1
      have HR1 := Lib.hid hr1
      have HR := Lib.hid (And.intro hr (And.intro hlen (And.intro hcl (And.intro h5 hvl))))
      have hkc : k ≤ c := by omega
      clear hW1 hr1 hr hlen hcl h5 hvl hown h1 hnews h2 h3 h4
      go_enter Tryz.func110, Tryz.ntmps110
      go_wp2_with fail
      go_region_law ((refine step_append_room rfl (.tmp 22) (.tmp 25) 36 rfl 55 i0 1 Tryz.underlying36 hi0 hz1 g 0 0 c (by simp [Act.eval, Act.put]) Ad (n - k) (c - k) news (by simp [Act.eval, Act.put]; simpa using hA) s1.out hsrc.out s2.out (by omega) s3.out ?_; rw [← HW.out]))
      go_wp2
      all_goals
        go_ret
        obtain ⟨q1, q2, q3, q4, q5⟩ := HR.out
        first
          | exact del_end q1 HW.out HR1.out HV.out q2 q3 q5 hk hnc (by simp only [maxLen]; omega)
          | (have hck : c = k := by assumption
             subst hck
             exact del_end q1 HW.out HR1.out HV.out q2 q3 q5 hk hnc (by simp only [maxLen]; omega))
end Go.Proofs.YtkoedonllfmaaaaGreat.Kd

/-
  Contract of the program's topic: trim; one topic of many turned.
-/
namespace Go.Proofs.YtkoedonllfmaaaaGreat.Ae
set_option linter.unusedSimpArgs false
open Go Go.RowKit Ck Kw Ga Kf Km Kd Pm Pz Tm Tn Tq Aa Ab Ac Ad
attribute [local go_sem ↓] Go.wp_at_zero Go.wp_at_succ
set_option linter.unusedVariables false

/-- What trim answers, and the topic behind it. -/
def triS (t : Tp) (k : Int) : (Int × Int) × Tp :=
  if k < t.base ∨ t.next < k then ((0, 72), t) else ((k, 0), { t with base := k, recs := t.recs.drop (k - t.base).toNat })
theorem tri_end {w w1 w2 : World} {T R : Nat → Prop} {g mg j : Nat} {t : Tp} {v v2 : Value} {vals : List Value} (h : Tg w1 T R g t v mg) (hR : ∀ k, R k → ¬ T k) (hb : Below w.heap.size w w1)
    (h1 : w1.ownsRow 0 55 1 v t.recs.length vals) (h2 : ∀ i (hi : i < t.recs.length), ∃ u, vals[i]? = some u ∧ Sl w1 (fun k => ¬ R k) 1 u t.recs[i].length (BVs t.recs[i])) (hj : j ≤ t.recs.length)
    (ho : w2.ownsRow 0 55 1 v2 (t.recs.length - j) (vals.drop j)) (hv : v2.ownBlock = v.ownBlock) (c : Ch (fun q => v.ownBlock = some q) w1 w2) (k : Int) :
    Tdid T R g { t with base := k, recs := t.recs.drop j } w ((w2.setCell ⟨g, 1, none⟩ v2).setCell ⟨g, 0, none⟩ (.int .i64 k)) := by
  have hff := own_far h1 h.blk (by decide)
  have q2 := h.blk.ch c hff
  have hc23 : Ch (fun k => k = g) w2 ((w2.setCell ⟨g, 1, none⟩ v2).setCell ⟨g, 0, none⟩ (.int .i64 k)) := ((Ch.refl (fun k => k = g) w2).setCell (p := ⟨g, 1, none⟩) (fun _ => rfl) _).setCell (p := ⟨g, 0, none⟩) (fun _ => rfl) _
  have hvl : vals.length = t.recs.length := by have := h1.1; omega
  refine ⟨⟨v2, mg, ⟨(q2.set_ 1 _).set_ 0 _, ⟨vals.drop j, ?_, fun i hi => ?_⟩, (h.gs.ch c (fun e => ?_)).ch hc23 (fun e => ?_), .inl h.tg, fun q hq => .inl (h.tv q (by rw [← hv, hq])), .inl h.tm⟩⟩, ?_⟩
  · have := own_ch ho hc23 (fun q hq e => hff (by rw [← hv, hq, e]))
    simpa using this
  · have hi' : i + j < t.recs.length := by simp only [List.length_drop] at hi; omega
    obtain ⟨u, hu, hs⟩ := h2 (j + i) (by omega)
    refine ⟨u, by rw [List.getElem?_drop]; exact hu, ?_⟩
    have e : (t.recs.drop j)[i] = t.recs[j + i] := List.getElem_drop
    simp only [e]
    exact (hs.ch c (fun k _ hk hr => hR k hr (h.tv k hk))).ch hc23 (fun k _ hk hr => hR k hr (by rw [hk]; exact h.tg))
  · obtain ⟨D, hD, -⟩ := h.gs
    exact map_row hD h1 e
  · obtain ⟨D, hD, -⟩ := h.gs
    exact map_far hD h.blk e
  · exact ((Ch.of_below hb (Nat.le_refl _)).trans (c.mono (T := T) (fun k _ hk => h.tv k hk)) (fun _ _ h => h)).trans (hc23.mono (T := T) (fun k _ hk => by rw [hk]; exact h.tg)) (fun _ _ h => h)
set_option maxRecDepth 100000 in
set_option maxHeartbeats 300000 in
theorem trim_any (w : World) (T R : Nat → Prop) (g : Nat) (t : Tp) (v : Value) (mg : Nat) (k : Int) (h : Tg w T R g t v mg) (hf : FitT t) (hR : ∀ k, R k → ¬ T k) :
    Calls Tryz.prog 86 #[.pointer (some ⟨g, 0, none⟩), .int .i64 k] w fun e w' => e = .returned (.tuple #[.int .i64 (triS t k).1.1, .int .i64 (triS t k).1.2]) ∧ Tdid T R g (triS t k).2 w w' := by
  have HN := Lib.hid (next_any w T R g t v mg h hf.base hf.next)
  have HT := Lib.hid h
  obtain ⟨vals, h1, h2⟩ := h.recs
  obtain ⟨Ar, cr, rfl⟩ := own_shape h1
  have c0 : w.cell? ⟨g, 0, none⟩ = some (.int .i64 t.base) := h.blk.cell 0
  have c1 : w.cell? ⟨g, 1, none⟩ = some (.slice Ar t.recs.length cr) := h.blk.cell 1
  have hb0 := hf.base
  have hb1 := hf.next
  have hfew := hf.few
  have HNX : Hid (t.next = t.base + (t.recs.length : Int)) := Lib.hid rfl
  simp only [maxNum] at hb1
  have HV := Lib.hid (And.intro h1 h2)
  have HR := Lib.hid hR
  clear h h1 h2 hf hR
  by_cases q1 : k < t.base
  · have e : triS t k = ((0, 72), t) := by rw [triS, if_pos (.inl q1)]
    rw [e]
    clear e
    go_enter Tryz.func86, Tryz.ntmps86
    go_wp2_with fail
    go_ret2
    exact ⟨rfl, tdid_refl HT.out (Below.refl _ _)⟩
  · have q1' : t.base ≤ k := by omega
    by_cases q2 : t.next < k
    · have e : triS t k = ((0, 72), t) := by rw [triS, if_pos (.inr q2)]
      rw [e]
      clear e q1
      go_enter Tryz.func86, Tryz.ntmps86
      go_wp2_with fail
      refine HN.out.mono ?_
      rintro e w1 ⟨rfl, hb⟩
      have HB := Lib.hid hb
      clear hb
      go_wp2_with fail
      go_ret2
      exact ⟨rfl, tdid_refl HT.out HB.out⟩
    · have q2' : k ≤ t.next := by omega
      have e : triS t k = ((k, 0), { t with base := k, recs := t.recs.drop (k - t.base).toNat }) := by rw [triS, if_neg (by omega)]
      rw [e]
      have hj : (k - t.base).toNat ≤ t.recs.length := by have := HNX.out; omega
      have hk : k = t.base + ((k - t.base).toNat : Int) := by omega
      generalize (k - t.base).toNat = j at *
      subst hk
      have hw : IntKind.i64.wrap (t.base + (j : Int) - t.base) = (j : Int) := by
        rw [show t.base + (j : Int) - t.base = (j : Int) from by omega]
        exact Ga.wrap64 (by omega) (by omega)
      have hw2 : t.base + (j : Int) - t.base = (j : Int) := by omega
      have hw3 : IntKind.i64.wrap (j : Int) = (j : Int) := Ga.wrap64 (by omega) (by omega)
      have HJ := Lib.hid hj
      clear e q1 q2
      go_enter Tryz.func86, Tryz.ntmps86
      go_wp2_with fail
      refine HN.out.mono ?_
      rintro e w1 ⟨rfl, hb⟩
      have HB := Lib.hid hb
      have HT1 := Lib.hid (HT.out.later hb)
      clear c0 c1
      have c0 : w1.cell? ⟨g, 0, none⟩ = some (.int .i64 t.base) := HT1.out.blk.cell 0
      have c1 : w1.cell? ⟨g, 1, none⟩ = some (.slice Ar t.recs.length cr) := HT1.out.blk.cell 1
      have HV1 : Hid (w1.ownsRow 0 55 1 (.slice Ar t.recs.length cr) t.recs.length vals ∧ (∀ i (hi : i < t.recs.length), ∃ u, vals[i]? = some u ∧ Sl w1 (fun k => ¬ R k) 1 u t.recs[i].length (BVs t.recs[i]))) := Lib.hid ⟨own_below HV.out.1 HB.out, fun i hi => by
        obtain ⟨u, hu, hs⟩ := HV.out.2 i hi
        exact ⟨u, hu, hs.after HB.out⟩⟩
      have HONE : Hid (∀ u ∈ vals, u.oneCell' = true) := Lib.hid (by
        intro u hu
        obtain ⟨i, hi, rfl⟩ := List.getElem_of_mem hu
        obtain ⟨u', hu', h3⟩ := HV.out.2 i (by have := HV.out.1.1; omega)
        obtain ⟨B, d, rfl, -⟩ := h3
        rw [List.getElem?_eq_getElem hi] at hu'
        rw [Option.some.inj hu']
        rfl)
      have HD := Lib.hid (delete_any w1.drew _ _ j vals (show w1.drew.ownsRow 0 _ 1 _ _ _ from HV1.out.1) HJ.out (by omega) HONE.out)
      clear hb hj
      go_wp2_with fail
      go_region_law (first
        | (go_simp; go_at_call 110; refine HD.out.mono ?_; rintro e w2 ⟨v2, rfl, ho2, hv2, hc2⟩; obtain ⟨A2, c2, rfl⟩ := own_shape ho2; have hc2' : Ch (fun q => (Value.slice Ar t.recs.length cr).ownBlock = some q) w1 w2 := ch_of_drew hc2; have q2 := HT1.out.blk.ch hc2' (own_far HV1.out.1 HT1.out.blk (by decide)); have j0 := q2.cell 0; have j1 := q2.cell 1; have f0 := q2.frozen 0; have f1 := q2.frozen 1; simp only [List.getElem?_toArray, List.getElem?_cons_zero, List.getElem?_cons_succ] at j0 j1))
      all_goals
        go_wp2
        go_ret2
        exact ⟨rfl, tri_end HT1.out HR.out HB.out HV1.out.1 HV1.out.2 HJ.out ho2 hv2 hc2' _⟩
end Go.Proofs.YtkoedonllfmaaaaGreat.Ae

/-
  Layer 6 (op): the contract of holdMore, kind by kind.
-/
namespace Go.Proofs.YtkoedonllfmaaaaGreat.Pf
set_option linter.unusedSimpArgs false
open Go Go.RowKit Ck Kw Pm Pa Pe
set_option linter.unusedVariables false

set_option maxHeartbeats 2000000 in
theorem more_0 (o : O) (A : Option Addr) (c : Nat) (hk : o.kind = 0) (w : World) (hl : o.recs.length ≤ 140737488355328) :
    Calls Tryz.prog 79 #[FV 0, OV o A c] w fun e w' => e = .returned (.bool (more o)) ∧ Below w.heap.size w w' := by
  have hF : FV 0 = .agg #[.bool false, .bool false, .bool false, .bool false] := rfl
  rw [hF]
  have hm : more o = ((!hasT 0 && !o.topic.isEmpty) || (!hasG 0 && !o.group.isEmpty) || (!hasO 0 && (o.off != 0)) || (!hasR 0 && !o.recs.isEmpty)) := by rw [more, hk]
  have hT : hasT 0 = false := rfl
  have hG : hasG 0 = false := rfl
  have hO : hasO 0 = false := rfl
  have hR : hasR 0 = false := rfl
  rw [hm, hT, hG, hO, hR]
  clear hm hT hG hO hR hF
  obtain ⟨kind, topic, group, off, recs⟩ := o
  simp only at hk hl ⊢
  unfold OV
  simp only
  subst hk
  by_cases h_topic : topic.isEmpty = true
  · have e_topic := List.isEmpty_iff.1 h_topic
    subst e_topic
    clear h_topic
    by_cases h_group : group.isEmpty = true
    · have e_group := List.isEmpty_iff.1 h_group
      subst e_group
      clear h_group
      by_cases h_off : off = 0
      · subst h_off
        by_cases h_recs : recs.isEmpty = true
        · have e_recs := List.isEmpty_iff.1 h_recs
          subst e_recs
          clear h_recs
          go_enter Tryz.func79, Tryz.ntmps79
          go_wp2
          go_ret
          exact ⟨by simp_all, ((Below.refl _ w).alloc (Nat.le_refl _) _).alloc (by simp) _⟩
        · have e_recs := Bool.eq_false_iff.2 h_recs
          have p_recs : 0 < recs.length := by cases recs with | nil => exact absurd rfl h_recs | cons _ _ => simp
          clear h_recs
          go_enter Tryz.func79, Tryz.ntmps79
          go_wp2
          go_ret
          exact ⟨by simp_all, ((Below.refl _ w).alloc (Nat.le_refl _) _).alloc (by simp) _⟩
      · have e_off : (off == 0) = false := beq_eq_false_iff_ne.2 h_off
        have n_off : (off != 0) = true := by rw [bne, e_off]; rfl
        clear h_off
        go_enter Tryz.func79, Tryz.ntmps79
        go_wp2
        go_ret
        exact ⟨by simp_all, ((Below.refl _ w).alloc (Nat.le_refl _) _).alloc (by simp) _⟩
    · have e_group := Bool.eq_false_iff.2 h_group
      clear h_group
      go_enter Tryz.func79, Tryz.ntmps79
      go_wp2
      go_ret
      exact ⟨by simp_all, ((Below.refl _ w).alloc (Nat.le_refl _) _).alloc (by simp) _⟩
  · have e_topic := Bool.eq_false_iff.2 h_topic
    clear h_topic
    go_enter Tryz.func79, Tryz.ntmps79
    go_wp2
    go_ret
    exact ⟨by simp_all, ((Below.refl _ w).alloc (Nat.le_refl _) _).alloc (by simp) _⟩

set_option maxHeartbeats 2000000 in
theorem more_1 (o : O) (A : Option Addr) (c : Nat) (hk : o.kind = 1) (w : World) (hl : o.recs.length ≤ 140737488355328) :
    Calls Tryz.prog 79 #[FV 1, OV o A c] w fun e w' => e = .returned (.bool (more o)) ∧ Below w.heap.size w w' := by
  have hF : FV 1 = .agg #[.bool true, .bool false, .bool false, .bool false] := rfl
  rw [hF]
  have hm : more o = ((!hasT 1 && !o.topic.isEmpty) || (!hasG 1 && !o.group.isEmpty) || (!hasO 1 && (o.off != 0)) || (!hasR 1 && !o.recs.isEmpty)) := by rw [more, hk]
  have hT : hasT 1 = true := rfl
  have hG : hasG 1 = false := rfl
  have hO : hasO 1 = false := rfl
  have hR : hasR 1 = false := rfl
  rw [hm, hT, hG, hO, hR]
  clear hm hT hG hO hR hF
  obtain ⟨kind, topic, group, off, recs⟩ := o
  simp only at hk hl ⊢
  unfold OV
  simp only
  subst hk
  by_cases h_group : group.isEmpty = true
  · have e_group := List.isEmpty_iff.1 h_group
    subst e_group
    clear h_group
    by_cases h_off : off = 0
    · subst h_off
      by_cases h_recs : recs.isEmpty = true
      · have e_recs := List.isEmpty_iff.1 h_recs
        subst e_recs
        clear h_recs
        go_enter Tryz.func79, Tryz.ntmps79
        go_wp2
        go_ret
        exact ⟨by simp_all, ((Below.refl _ w).alloc (Nat.le_refl _) _).alloc (by simp) _⟩
      · have e_recs := Bool.eq_false_iff.2 h_recs
        have p_recs : 0 < recs.length := by cases recs with | nil => exact absurd rfl h_recs | cons _ _ => simp
        clear h_recs
        go_enter Tryz.func79, Tryz.ntmps79
        go_wp2
        go_ret
        exact ⟨by simp_all, ((Below.refl _ w).alloc (Nat.le_refl _) _).alloc (by simp) _⟩
    · have e_off : (off == 0) = false := beq_eq_false_iff_ne.2 h_off
      have n_off : (off != 0) = true := by rw [bne, e_off]; rfl
      clear h_off
      go_enter Tryz.func79, Tryz.ntmps79
      go_wp2
      go_ret
      exact ⟨by simp_all, ((Below.refl _ w).alloc (Nat.le_refl _) _).alloc (by simp) _⟩
  · have e_group := Bool.eq_false_iff.2 h_group
    clear h_group
    go_enter Tryz.func79, Tryz.ntmps79
    go_wp2
    go_ret
    exact ⟨by simp_all, ((Below.refl _ w).alloc (Nat.le_refl _) _).alloc (by simp) _⟩

set_option maxHeartbeats 2000000 in
theorem more_2 (o : O) (A : Option Addr) (c : Nat) (hk : o.kind = 2) (w : World) (hl : o.recs.length ≤ 140737488355328) :
    Calls Tryz.prog 79 #[FV 2, OV o A c] w fun e w' => e = .returned (.bool (more o)) ∧ Below w.heap.size w w' := by
  have hF : FV 2 = .agg #[.bool true, .bool false, .bool false, .bool true] := rfl
  rw [hF]
  have hm : more o = ((!hasT 2 && !o.topic.isEmpty) || (!hasG 2 && !o.group.isEmpty) || (!hasO 2 && (o.off != 0)) || (!hasR 2 && !o.recs.isEmpty)) := by rw [more, hk]
  have hT : hasT 2 = true := rfl
  have hG : hasG 2 = false := rfl
  have hO : hasO 2 = false := rfl
  have hR : hasR 2 = true := rfl
  rw [hm, hT, hG, hO, hR]
  clear hm hT hG hO hR hF
  obtain ⟨kind, topic, group, off, recs⟩ := o
  simp only at hk hl ⊢
  unfold OV
  simp only
  subst hk
  by_cases h_group : group.isEmpty = true
  · have e_group := List.isEmpty_iff.1 h_group
    subst e_group
    clear h_group
    by_cases h_off : off = 0
    · subst h_off
      go_enter Tryz.func79, Tryz.ntmps79
      go_wp2
      go_ret
      exact ⟨by simp_all, ((Below.refl _ w).alloc (Nat.le_refl _) _).alloc (by simp) _⟩
    · have e_off : (off == 0) = false := beq_eq_false_iff_ne.2 h_off
      have n_off : (off != 0) = true := by rw [bne, e_off]; rfl
      clear h_off
      go_enter Tryz.func79, Tryz.ntmps79
      go_wp2
      go_ret
      exact ⟨by simp_all, ((Below.refl _ w).alloc (Nat.le_refl _) _).alloc (by simp) _⟩
  · have e_group := Bool.eq_false_iff.2 h_group
    clear h_group
    go_enter Tryz.func79, Tryz.ntmps79
    go_wp2
    go_ret
    exact ⟨by simp_all, ((Below.refl _ w).alloc (Nat.le_refl _) _).alloc (by simp) _⟩

set_option maxHeartbeats 2000000 in
theorem more_3 (o : O) (A : Option Addr) (c : Nat) (hk : o.kind = 3) (w : World) (hl : o.recs.length ≤ 140737488355328) :
    Calls Tryz.prog 79 #[FV 3, OV o A c] w fun e w' => e = .returned (.bool (more o)) ∧ Below w.heap.size w w' := by
  have hF : FV 3 = .agg #[.bool true, .bool true, .bool true, .bool false] := rfl
  rw [hF]
  have hm : more o = ((!hasT 3 && !o.topic.isEmpty) || (!hasG 3 && !o.group.isEmpty) || (!hasO 3 && (o.off != 0)) || (!hasR 3 && !o.recs.isEmpty)) := by rw [more, hk]
  have hT : hasT 3 = true := rfl
  have hG : hasG 3 = true := rfl
  have hO : hasO 3 = true := rfl
  have hR : hasR 3 = false := rfl
  rw [hm, hT, hG, hO, hR]
  clear hm hT hG hO hR hF
  obtain ⟨kind, topic, group, off, recs⟩ := o
  simp only at hk hl ⊢
  unfold OV
  simp only
  subst hk
  by_cases h_recs : recs.isEmpty = true
  · have e_recs := List.isEmpty_iff.1 h_recs
    subst e_recs
    clear h_recs
    go_enter Tryz.func79, Tryz.ntmps79
    go_wp2
    go_ret
    exact ⟨by simp_all, ((Below.refl _ w).alloc (Nat.le_refl _) _).alloc (by simp) _⟩
  · have e_recs := Bool.eq_false_iff.2 h_recs
    have p_recs : 0 < recs.length := by cases recs with | nil => exact absurd rfl h_recs | cons _ _ => simp
    clear h_recs
    go_enter Tryz.func79, Tryz.ntmps79
    go_wp2
    go_ret
    exact ⟨by simp_all, ((Below.refl _ w).alloc (Nat.le_refl _) _).alloc (by simp) _⟩

set_option maxHeartbeats 2000000 in
theorem more_4 (o : O) (A : Option Addr) (c : Nat) (hk : o.kind = 4) (w : World) (hl : o.recs.length ≤ 140737488355328) :
    Calls Tryz.prog 79 #[FV 4, OV o A c] w fun e w' => e = .returned (.bool (more o)) ∧ Below w.heap.size w w' := by
  have hF : FV 4 = .agg #[.bool true, .bool false, .bool true, .bool false] := rfl
  rw [hF]
  have hm : more o = ((!hasT 4 && !o.topic.isEmpty) || (!hasG 4 && !o.group.isEmpty) || (!hasO 4 && (o.off != 0)) || (!hasR 4 && !o.recs.isEmpty)) := by rw [more, hk]
  have hT : hasT 4 = true := rfl
  have hG : hasG 4 = false := rfl
  have hO : hasO 4 = true := rfl
  have hR : hasR 4 = false := rfl
  rw [hm, hT, hG, hO, hR]
  clear hm hT hG hO hR hF
  obtain ⟨kind, topic, group, off, recs⟩ := o
  simp only at hk hl ⊢
  unfold OV
  simp only
  subst hk
  by_cases h_group : group.isEmpty = true
  · have e_group := List.isEmpty_iff.1 h_group
    subst e_group
    clear h_group
    by_cases h_recs : recs.isEmpty = true
    · have e_recs := List.isEmpty_iff.1 h_recs
      subst e_recs
      clear h_recs
      go_enter Tryz.func79, Tryz.ntmps79
      go_wp2
      go_ret
      exact ⟨by simp_all, ((Below.refl _ w).alloc (Nat.le_refl _) _).alloc (by simp) _⟩
    · have e_recs := Bool.eq_false_iff.2 h_recs
      have p_recs : 0 < recs.length := by cases recs with | nil => exact absurd rfl h_recs | cons _ _ => simp
      clear h_recs
      go_enter Tryz.func79, Tryz.ntmps79
      go_wp2
      go_ret
      exact ⟨by simp_all, ((Below.refl _ w).alloc (Nat.le_refl _) _).alloc (by simp) _⟩
  · have e_group := Bool.eq_false_iff.2 h_group
    clear h_group
    go_enter Tryz.func79, Tryz.ntmps79
    go_wp2
    go_ret
    exact ⟨by simp_all, ((Below.refl _ w).alloc (Nat.le_refl _) _).alloc (by simp) _⟩

end Go.Proofs.YtkoedonllfmaaaaGreat.Pf

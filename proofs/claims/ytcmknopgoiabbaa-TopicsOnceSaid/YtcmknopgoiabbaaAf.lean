/-
  Contract of the program's topics: run.
-/
import Derived.Test.YtcmknopgoiabbaaAe
import Derived.Test.YtcmknopgoiabbaaPg
namespace Go.Proofs.Ytcmknopgoiabbaa.Af
set_option linter.unusedSimpArgs false
open Go Go.RowKit Ck Kw Ga Kf Km Kd Pm Pz Pe Pg Tm Tn Tq Aa Ab Ac Ad Ae
attribute [local go_sem ↓] Go.wp_at_zero Go.wp_at_succ
set_option linter.unusedVariables false

theorem upd_const {L : List Tp} (h : RT L) {x : Tp} (hx : x ∈ L) (f : Tp → Tp) : updT L x.n f = updT L x.n (fun _ => f x) := by
  unfold updT
  refine List.map_congr_left fun t ht => ?_
  by_cases e : t.n = x.n
  · rw [if_pos e, if_pos e, rt_one h ht hx e]
  · rw [if_neg e, if_neg e]
theorem upd_same {L : List Tp} (h : RT L) {x : Tp} (hx : x ∈ L) : updT L x.n (fun _ => x) = L := by
  unfold updT
  have : ∀ t ∈ L, (if t.n = x.n then x else t) = t := fun t ht => by
    by_cases e : t.n = x.n
    · rw [if_pos e, rt_one h ht hx e]
    · rw [if_neg e]
  rw [List.map_congr_left this]
  simp
theorem mem_upd {L : List Tp} (h : RT L) {x x' t : Tp} (hx : x ∈ L) (hn : x'.n = x.n) (ht : t ∈ updT L x.n (fun _ => x')) : t = x' ∨ (t ∈ L ∧ t.n ≠ x.n) := by
  simp only [updT, List.mem_map] at ht
  obtain ⟨u, hu, rfl⟩ := ht
  by_cases e : u.n = x.n
  · rw [if_pos e]; exact .inl rfl
  · rw [if_neg e]; exact .inr ⟨hu, e⟩
theorem find_upd {L : List Tp} {x x' : Tp} (hx : x ∈ L) (hn : x'.n = x.n) (s : Tx) : (findT (updT L x.n (fun _ => x')) s).isSome = (findT L s).isSome := by
  rw [Bool.eq_iff_iff, isSome_find, isSome_find]
  have : (updT L x.n (fun _ => x')).map (·.n) = L.map (·.n) := by
    simp only [updT, List.map_map]
    refine List.map_congr_left fun t ht => ?_
    simp only [Function.comp]
    by_cases e : t.n = x.n
    · rw [if_pos e, hn, e]
    · rw [if_neg e]
  rw [this]
/-- One topic is turned. -/
theorem tp_upd {w w' : World} {S R : Nat → Prop} {p m : Nat} {s : St} {D : DataW Unit} {G : Tx → Nat} {V : Tx → Value} {M : Tx → Nat} {F : Tx → Nat → Prop} {x x' : Tp} (h : TP w S R p m s D G V M F) (hx : x ∈ s.L) (hn : x'.n = x.n) (hT : Tdid (F x.n) R (G x.n) x' w w')
    (hg : GoodS ⟨updT s.L x.n (fun _ => x'), s.last⟩) : Did S R p ⟨updT s.L x.n (fun _ => x'), s.last⟩ w w' := by
  obtain ⟨⟨v', mg', hT⟩, c⟩ := hT
  have hrt := h.good.L.rises
  have hplt : p < w.heap.size := h.blk.lt
  have hmlt : m < w.heap.size := h.own.lt
  have hFS : ∀ k, F x.n k → S k := fun k hk => (h.sub x hx k hk).1
  refine ⟨TP.shut (m := m) (D := D) (G := G) (V := fun t => if t = x.n then v' else V t) (M := fun t => if t = x.n then mg' else M t) (F := fun t => if t = x.n then Up (F x.n) w w' else F t)
    ⟨h.blk.ch c (fun hk => (h.sub x hx _ hk).2.1 rfl), .inl h.sp, map_ch h.own c (fun hk => (h.sub x hx _ hk).2.2.1 rfl), ⟨fun t => by rw [h.tells.1, find_upd hx hn], fun t ht zd => ?_⟩, ⟨.inl h.sm.1, h.sm.2⟩, fun t ht => ?_, fun t ht k hk => ?_, fun t ht u hu hne k hk hk' => ?_, fun k hk => ?_, hg⟩, c.mono (fun k _ hk => hFS k hk)⟩
  · rcases mem_upd hrt hx hn ht with rfl | ⟨ht, hne⟩
    · rw [hn]; exact h.tells.2 x hx zd
    · exact h.tells.2 t ht zd
  · rcases mem_upd hrt hx hn ht with rfl | ⟨ht, hne⟩
    · rw [hn]
      simp only [if_pos]
      exact hT
    · simp only [if_neg hne]
      exact (h.top t ht).ch c (fun k h1 h2 => h.apart t ht x hx hne k h1 h2) (fun k hk h2 => (h.rs k hk).1 (hFS k h2))
  · rcases mem_upd hrt hx hn ht with rfl | ⟨ht, hne⟩
    · rw [hn] at hk
      simp only [if_pos] at hk
      rcases hk with hk | ⟨h1, h2⟩
      · have := h.sub x hx k hk
        exact ⟨.inl this.1, this.2.1, this.2.2.1, Nat.lt_of_lt_of_le this.2.2.2 c.size⟩
      · exact ⟨.inr ⟨h1, h2⟩, by omega, by omega, h2⟩
    · simp only [if_neg hne] at hk
      have := h.sub t ht k hk
      exact ⟨.inl this.1, this.2.1, this.2.2.1, Nat.lt_of_lt_of_le this.2.2.2 c.size⟩
  · rcases mem_upd hrt hx hn ht with rfl | ⟨ht1, hne1⟩
    · rcases mem_upd hrt hx hn hu with rfl | ⟨hu1, hne2⟩
      · exact hne rfl
      · rw [hn] at hk
        simp only [if_pos] at hk
        simp only [if_neg hne2] at hk'
        rcases hk with hk | ⟨g1, g2⟩
        · exact h.apart x hx u hu1 (fun e => hne2 e.symm) k hk hk'
        · have := (h.sub u hu1 k hk').2.2.2; omega
    · simp only [if_neg hne1] at hk
      rcases mem_upd hrt hx hn hu with rfl | ⟨hu1, hne2⟩
      · rw [hn] at hk'
        simp only [if_pos] at hk'
        rcases hk' with hk' | ⟨g1, g2⟩
        · exact h.apart t ht1 x hx hne1 k hk hk'
        · have := (h.sub t ht1 k hk).2.2.2; omega
      · simp only [if_neg hne2] at hk'
        exact h.apart t ht1 u hu1 hne k hk hk'
  · obtain ⟨r1, r2⟩ := h.rs k hk
    refine ⟨fun hu => ?_, Nat.lt_of_lt_of_le r2 c.size⟩
    rcases hu with hu | hu
    · exact r1 hu
    · omega
/-- What an operation that may be comes to, without the places. -/
theorem does_0 {L : List Tp} {o : O} (hc : check o = 0) (hk : o.kind = 0) : doesS L o = ((0, 0), [], L) := by rw [doesS, if_neg (by omega), if_pos hk]
theorem does_1 {L : List Tp} {o : O} (hc : check o = 0) (hk : o.kind = 1) : doesS L o = (((crS L o.topic).1, 0), [], (crS L o.topic).2) := by
  rw [doesS, if_neg (by omega), if_neg (by omega), if_pos hk, crS]
  split
  · rfl
  · split
    · rfl
    · rfl
theorem does_no {L : List Tp} {o : O} (hc : check o = 0) (hk0 : o.kind ≠ 0) (hk1 : o.kind ≠ 1) (hf : findT L o.topic = none) : doesS L o = ((4, 0), [], L) := by
  rw [doesS, if_neg (by omega), if_neg hk0, if_neg hk1, hf]
theorem does_2 {L : List Tp} {o : O} {x : Tp} (hr : RT L) (hc : check o = 0) (hk : o.kind = 2) (hf : findT L o.topic = some x) :
    (doesS L o).1 = ((pubS x o.recs).1.2, (pubS x o.recs).1.1) ∧ (doesS L o).2.2 = updT L x.n (fun _ => (pubS x o.recs).2) ∧ (doesS L o).2.1 = if (pubS x o.recs).1.2 = 0 then placed o.topic (pubS x o.recs).1.1 o.recs else [] := by
  obtain ⟨hx, hn⟩ := findT_some hf
  rw [doesS, if_neg (by omega), if_neg (by omega), if_neg (by omega), hf]
  simp only [if_pos hk, pubS]
  split
  · exact ⟨rfl, (upd_same hr hx).symm, rfl⟩
  · refine ⟨rfl, ?_, rfl⟩
    simp only
    rw [← hn, upd_const hr hx]
theorem does_3 {L : List Tp} {o : O} {x : Tp} (hr : RT L) (hc : check o = 0) (hk : o.kind = 3) (hf : findT L o.topic = some x) :
    (doesS L o).1 = ((comS x o.group o.off).1.2, (comS x o.group o.off).1.1) ∧ (doesS L o).2.2 = updT L x.n (fun _ => (comS x o.group o.off).2) ∧ (doesS L o).2.1 = [] := by
  obtain ⟨hx, hn⟩ := findT_some hf
  rw [doesS, if_neg (by omega), if_neg (by omega), if_neg (by omega), hf]
  simp only [if_neg (show ¬ o.kind = 2 by omega), if_pos hk, comS]
  split
  · exact ⟨rfl, (upd_same hr hx).symm, rfl⟩
  · split
    · exact ⟨rfl, (upd_same hr hx).symm, rfl⟩
    · refine ⟨rfl, ?_, rfl⟩
      simp only
      rw [← hn, upd_const hr hx]
theorem does_4 {L : List Tp} {o : O} {x : Tp} (hr : RT L) (hc : check o = 0) (hk : o.kind = 4) (hf : findT L o.topic = some x) :
    (doesS L o).1 = ((triS x o.off).1.2, (triS x o.off).1.1) ∧ (doesS L o).2.2 = updT L x.n (fun _ => (triS x o.off).2) ∧ (doesS L o).2.1 = [] := by
  obtain ⟨hx, hn⟩ := findT_some hf
  rw [doesS, if_neg (by omega), if_neg (by omega), if_neg (by omega), hf]
  simp only [if_neg (show ¬ o.kind = 2 by omega), if_neg (show ¬ o.kind = 3 by omega), triS]
  split
  · exact ⟨rfl, (upd_same hr hx).symm, rfl⟩
  · refine ⟨rfl, ?_, rfl⟩
    simp only
    rw [← hn, upd_const hr hx]
theorem pub_n (x : Tp) (rs : List Tx) : (pubS x rs).2.n = x.n := by unfold pubS; split <;> rfl
theorem com_n (x : Tp) (s : Tx) (k : Int) : (comS x s k).2.n = x.n := by
  unfold comS
  split
  · rfl
  · split <;> rfl
theorem tri_n (x : Tp) (k : Int) : (triS x k).2.n = x.n := by unfold triS; split <;> rfl
end Go.Proofs.Ytcmknopgoiabbaa.Af

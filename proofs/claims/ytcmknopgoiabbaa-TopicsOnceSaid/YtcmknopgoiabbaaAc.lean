/-
  Contracts of the program's topic: publish, commit.
-/
import Derived.Test.YtcmknopgoiabbaaAb
namespace Go.Proofs.Ytcmknopgoiabbaa.Ac
set_option linter.unusedSimpArgs false
open Go Go.RowKit Ck Kw Ga Kf Km Pm Pz Tm Tn Tq Aa Ab
attribute [local go_sem ↓] Go.wp_at_zero Go.wp_at_succ
set_option linter.unusedVariables false

theorem info_rec : (Try.prog.info? 44).map (fun i => (i.zero, i.size, i.bytes)) = some (some (.slice none 0 0), 1, 24) := by kernel_rfl
/-- A list of records, each in R. -/
def Ins (w : World) (R : Nat → Prop) (A : Option Addr) (c : Nat) (rs : List Tx) : Prop :=
  ∃ vals, Sl w (fun _ => False) 1 (.slice A rs.length c) rs.length vals ∧ ∀ i (hi : i < rs.length), ∃ u, vals[i]? = some u ∧ Sl w (fun k => ¬ R k) 1 u rs[i].length (BVs rs[i])
/-- A topic behind a call that may write T and new blocks. -/
def Tdid (T R : Nat → Prop) (g : Nat) (t : Tp) (w w' : World) : Prop := (∃ v mg, Tg w' (Up T w w') R g t v mg) ∧ Ch T w w'
theorem _root_.Go.Proofs.Ytcmknopgoiabbaa.Aa.Tg.same {w : World} {T R : Nat → Prop} {g mg : Nat} {t : Tp} {v : Value} (h : Tg w T R g t v mg) {T' : Nat → Prop} (ht : ∀ k, T k → T' k) : Tg w T' R g t v mg := h.more (fun _ h => h) ht
theorem tdid_refl {w w' : World} {T R : Nat → Prop} {g mg : Nat} {t : Tp} {v : Value} (h : Tg w T R g t v mg) (b : Below w.heap.size w w') : Tdid T R g t w w' :=
  ⟨⟨v, mg, (h.ch (Ch.of_below (S := fun _ => False) b (Nat.le_refl _)) (fun _ _ h => h) (fun _ _ h => h)).same (fun _ h => .inl h)⟩, Ch.of_below b (Nat.le_refl _)⟩
theorem _root_.Go.Proofs.Ytcmknopgoiabbaa.Aa.Tg.later {w w' : World} {T R : Nat → Prop} {g mg : Nat} {t : Tp} {v : Value} (h : Tg w T R g t v mg) (b : Below w.heap.size w w') : Tg w' T R g t v mg :=
  h.ch (Ch.of_below (S := fun _ => False) b (Nat.le_refl _)) (fun _ _ h => h) (fun _ _ h => h)
/-- What publish answers, and the topic behind it. -/
def pubS (t : Tp) (rs : List Tx) : (Int × Int) × Tp :=
  if 64 < t.recs.length + rs.length ∨ maxNum - (rs.length : Int) < t.next then ((0, 71), t) else ((t.next, 0), { t with recs := t.recs ++ rs })
theorem pub_end {w w1 w2 : World} {T R : Nat → Prop} {g mg n : Nat} {t : Tp} {rs : List Tx} {v v2 : Value} {vals news : List Value} (h : Tg w1 T R g t v mg) (hR : ∀ k, R k → ¬ T k ∧ k < w.heap.size) (hb : Below w.heap.size w w1)
    (h1 : w1.ownsRow 0 44 1 v t.recs.length vals) (h2 : ∀ i (hi : i < t.recs.length), ∃ u, vals[i]? = some u ∧ Sl w1 (fun k => ¬ R k) 1 u t.recs[i].length (BVs t.recs[i]))
    (k1 : news.length = rs.length) (k2 : ∀ i (hi : i < rs.length), ∃ u, news[i]? = some u ∧ Sl w1 (fun k => ¬ R k) 1 u rs[i].length (BVs rs[i]))
    (happ : Appended w1 0 44 1 v n (vals ++ news) v2 w2) (hn : n = t.recs.length + rs.length) :
    Tdid T R g { t with recs := t.recs ++ rs } w (w2.setCell ⟨g, 1, none⟩ v2) := by
  subst hn
  obtain ⟨ho, hg, hv⟩ := happ
  have hs1 := hb.size
  have hs2 := hg.size
  have hgl := h.blk.lt
  have hff := own_far h1 h.blk (by decide)
  have hvl : vals.length = t.recs.length := by have := h1.1; omega
  have hvg : ∀ q, v2.ownBlock = some q → q ≠ g := fun q hq e => by
    rcases hv with hv | hv
    · exact hff (by rw [← hv, hq, e])
    · rw [hv] at hq; injection hq with hq; omega
  have hc12 : Ch (fun k => v.ownBlock = some k) w1 w2 := Ch.of_grown hg (fun q hq _ => hq)
  have hc23 : Ch (fun k => k = g) w2 (w2.setCell ⟨g, 1, none⟩ v2) := (Ch.refl (fun k => k = g) w2).setCell (p := ⟨g, 1, none⟩) (fun _ => rfl) _
  have hs3 := hc23.size
  have q2 := h.blk.ch hc12 hff
  have hvT : ∀ q, v2.ownBlock = some q → Up T w (w2.setCell ⟨g, 1, none⟩ v2) q := fun q hq => by
    have hlt := (ho.lt q hq).2
    rcases hv with hv | hv
    · exact .inl (h.tv q (by rw [← hv, hq]))
    · rw [hv] at hq; injection hq with hq; exact .inr ⟨by omega, by omega⟩
  have hR2 : ∀ {u : Value} {x : Tx}, Sl w1 (fun k => ¬ R k) 1 u x.length (BVs x) → Sl (w2.setCell ⟨g, 1, none⟩ v2) (fun k => ¬ R k) 1 u x.length (BVs x) := fun {u x} hs =>
    (hs.ch hc12 (fun k _ hk hr => (hR k hr).1 (h.tv k hk))).ch hc23 (fun k _ hk hr => (hR k hr).1 (by rw [hk]; exact h.tg))
  refine ⟨⟨v2, mg, ⟨q2.set_ 1 _, ⟨vals ++ news, ?_, fun i hi => ?_⟩, (h.gs.ch hc12 (fun e => ?_)).ch hc23 (fun e => ?_), .inl h.tg, hvT, .inl h.tm⟩⟩, ?_⟩
  · have := own_ch ho hc23 (fun q hq e => hvg q hq e)
    simpa using this
  · by_cases hlt : i < t.recs.length
    · obtain ⟨u, hu, hs⟩ := h2 i hlt
      refine ⟨u, by rw [List.getElem?_append_left (by omega)]; exact hu, ?_⟩
      have e : (t.recs ++ rs)[i] = t.recs[i] := List.getElem_append_left hlt
      simp only [e]
      exact hR2 hs
    · have hi' : i - t.recs.length < rs.length := by simp only [List.length_append] at hi; omega
      obtain ⟨u, hu, hs⟩ := k2 (i - t.recs.length) hi'
      refine ⟨u, by rw [List.getElem?_append_right (by omega), hvl]; exact hu, ?_⟩
      have e : (t.recs ++ rs)[i] = rs[i - t.recs.length] := List.getElem_append_right (by omega)
      simp only [e]
      exact hR2 hs
  · obtain ⟨D, hD, -⟩ := h.gs
    exact map_row hD h1 e
  · obtain ⟨D, hD, -⟩ := h.gs
    exact map_far hD h.blk e
  · exact ((Ch.of_below hb (Nat.le_refl _)).trans (hc12.mono (T := T) (fun k _ hk => h.tv k hk)) (fun _ _ h => h)).trans (hc23.mono (T := T) (fun k _ hk => by rw [hk]; exact h.tg)) (fun _ _ h => h)

set_option maxRecDepth 100000 in
set_option maxHeartbeats 1000000 in
theorem publish_any (w : World) (T R : Nat → Prop) (g : Nat) (t : Tp) (v : Value) (mg : Nat) (A : Option Addr) (c : Nat) (rs : List Tx) (h : Tg w T R g t v mg) (hf : FitT t) (hR : ∀ k, R k → ¬ T k ∧ k < w.heap.size) (hl : Ins w R A c rs) (h4 : rs.length ≤ 64) :
    Calls Try.prog 41 #[.pointer (some ⟨g, 0, none⟩), .slice A rs.length c] w fun e w' => e = .returned (.tuple #[.int .i64 (pubS t rs).1.1, .int .i64 (pubS t rs).1.2]) ∧ Tdid T R g (pubS t rs).2 w w' := by
  have HN := Lib.hid (next_any w T R g t v mg h hf.base hf.next)
  have HT := Lib.hid h
  obtain ⟨vals, h1, h2⟩ := h.recs
  obtain ⟨news, k1, k2⟩ := hl
  have HV := Lib.hid (And.intro h1 h2)
  have HW := Lib.hid (And.intro k1 k2)
  obtain ⟨Ar, cr, rfl⟩ := own_shape h1
  have hb0 := hf.base
  have hb1 := hf.next
  have hfew := hf.few
  have HNX : Hid (t.next = t.base + (t.recs.length : Int)) := Lib.hid rfl
  have hn0 : 0 ≤ t.next := by rw [HNX.out]; omega
  simp only [maxNum] at hb1
  have HR := Lib.hid hR
  clear h h1 h2 k1 k2 hf hR
  have w1 : IntKind.i64.wrap ((t.recs.length : Int) + (rs.length : Int)) = (t.recs.length : Int) + (rs.length : Int) := Ga.wrap64 (by omega) (by omega)
  have w2 : IntKind.i64.wrap (t.next + (rs.length : Int)) = t.next + (rs.length : Int) := Ga.wrap64 (by omega) (by omega)
  by_cases q1 : 64 < t.recs.length + rs.length
  · have e : pubS t rs = ((0, 71), t) := by rw [pubS, if_pos (.inl q1)]
    rw [e]
    have q1' : (64 : Int) < (t.recs.length : Int) + (rs.length : Int) := by omega
    clear q1 e
    go_enter Try.func41, Try.ntmps41
    go_wp2_with fail
    refine HN.out.mono ?_
    rintro e w1 ⟨rfl, hb⟩
    have HT1 := Lib.hid (HT.out.later hb)
    have HB := Lib.hid hb
    have c1 : w1.cell? ⟨g, 1, none⟩ = some (.slice Ar t.recs.length cr) := HT1.out.blk.cell 1
    clear hb
    go_wp2_with fail
    go_ret2
    exact ⟨rfl, tdid_refl HT.out HB.out⟩
  · by_cases q2 : maxNum - (rs.length : Int) < t.next
    · have e : pubS t rs = ((0, 71), t) := by rw [pubS, if_pos (.inr q2)]
      rw [e]
      simp only [maxNum] at q2
      have q1' : (t.recs.length : Int) + (rs.length : Int) ≤ 64 := by omega
      have q2' : (9007199254740992 : Int) < t.next + (rs.length : Int) := by omega
      clear q1 q2 e
      go_enter Try.func41, Try.ntmps41
      go_wp2_with fail
      refine HN.out.mono ?_
      rintro e w1 ⟨rfl, hb⟩
      have HT1 := Lib.hid (HT.out.later hb)
      have HB := Lib.hid hb
      have c1 : w1.cell? ⟨g, 1, none⟩ = some (.slice Ar t.recs.length cr) := HT1.out.blk.cell 1
      clear hb
      go_wp2_with fail
      go_ret2
      exact ⟨rfl, tdid_refl HT.out HB.out⟩
    · have e : pubS t rs = ((t.next, 0), { t with recs := t.recs ++ rs }) := by rw [pubS, if_neg (by omega)]
      rw [e]
      simp only [maxNum] at q2
      have q1' : (t.recs.length : Int) + (rs.length : Int) ≤ 64 := by omega
      have q2' : t.next + (rs.length : Int) ≤ 9007199254740992 := by omega
      clear q1 q2 e
      go_enter Try.func41, Try.ntmps41
      go_wp2_with fail
      refine HN.out.mono ?_
      rintro e w1 ⟨rfl, hb⟩
      have HT1 := Lib.hid (HT.out.later hb)
      have HB := Lib.hid hb
      have c1 : w1.cell? ⟨g, 1, none⟩ = some (.slice Ar t.recs.length cr) := HT1.out.blk.cell 1
      clear hb
      have HV1 : Hid (w1.ownsRow 0 44 1 (.slice Ar t.recs.length cr) t.recs.length vals ∧ (∀ i (hi : i < t.recs.length), ∃ u, vals[i]? = some u ∧ Sl w1 (fun k => ¬ R k) 1 u t.recs[i].length (BVs t.recs[i]))) := Lib.hid ⟨own_below HV.out.1 HB.out, fun i hi => by
        obtain ⟨u, hu, hs⟩ := HV.out.2 i hi
        exact ⟨u, hu, hs.after HB.out⟩⟩
      have HW1 : Hid (Sl w1 (fun _ => False) 1 (.slice A rs.length c) rs.length news ∧ (∀ i (hi : i < rs.length), ∃ u, news[i]? = some u ∧ Sl w1 (fun k => ¬ R k) 1 u rs[i].length (BVs rs[i]))) := Lib.hid ⟨HW.out.1.after HB.out, fun i hi => by
        obtain ⟨u, hu, hs⟩ := HW.out.2 i hi
        exact ⟨u, hu, hs.after HB.out⟩⟩
      have HNL : Hid (news.length = rs.length) := Lib.hid (by obtain ⟨_, _, _, h, _⟩ := HW.out.1; omega)
      have HONE : Hid (∀ u ∈ news, u.oneCell' = true) := Lib.hid (by
        intro u hu
        obtain ⟨i, hi, rfl⟩ := List.getElem_of_mem hu
        obtain ⟨u', hu', h3⟩ := HW.out.2 i (by have := HNL.out; omega)
        obtain ⟨B, d, rfl, -⟩ := h3
        rw [List.getElem?_eq_getElem hi] at hu'
        rw [Option.some.inj hu']
        rfl)
      obtain ⟨i0, hi0, hz0, hz1, hz2⟩ := info_parts info_rec
      go_wp2_with (at_builtin; refine wpList_append_sh _ rfl (.tmp 29) (.tmp 30) _ rfl 0 44 i0 _ 1 24 Try.underlying27 hi0 hz0 hz1 hz2 rfl (by omega) (.slice Ar t.recs.length cr) t.recs.length vals rfl HV1.out.1 (fun _ => False) _ rs.length news rfl HW1.out.1 HONE.out (by simp only [maxLen]; omega) (by omega) (Nat.zero_le _) ?_; intro A4 c4 w4 happ; have HAP := Lib.hid happ; have HF4 := Lib.hid (own_far HV1.out.1 HT1.out.blk (by decide)); have q4 := HT1.out.blk.grown happ.2.1 (Ne.symm HF4.out); have f1 := q4.frozen 1; have g1 := q4.cell 1; simp only [List.getElem?_toArray, List.getElem?_cons_zero, List.getElem?_cons_succ] at g1; clear happ q4)
      go_ret2
      exact ⟨rfl, pub_end HT1.out HR.out HB.out HV1.out.1 HV1.out.2 HNL.out HW1.out.2 HAP.out rfl⟩
end Go.Proofs.Ytcmknopgoiabbaa.Ac

/-
  Contract of the program's topic: trim; one topic of many turned.
-/
import Derived.Test.YtcmknopgoiabbaaAd
import Derived.Test.YtcmknopgoiabbaaKd
namespace Go.Proofs.Ytcmknopgoiabbaa.Ae
set_option linter.unusedSimpArgs false
open Go Go.RowKit Ck Kw Ga Kf Km Kd Pm Pz Tm Tn Tq Aa Ab Ac Ad
attribute [local go_sem ↓] Go.wp_at_zero Go.wp_at_succ
set_option linter.unusedVariables false

/-- What trim answers, and the topic behind it. -/
def triS (t : Tp) (k : Int) : (Int × Int) × Tp :=
  if k < t.base ∨ t.next < k then ((0, 72), t) else ((k, 0), { t with base := k, recs := t.recs.drop (k - t.base).toNat })
theorem tri_end {w w1 w2 : World} {T R : Nat → Prop} {g mg j : Nat} {t : Tp} {v v2 : Value} {vals : List Value} (h : Tg w1 T R g t v mg) (hR : ∀ k, R k → ¬ T k) (hb : Below w.heap.size w w1)
    (h1 : w1.ownsRow 0 44 1 v t.recs.length vals) (h2 : ∀ i (hi : i < t.recs.length), ∃ u, vals[i]? = some u ∧ Sl w1 (fun k => ¬ R k) 1 u t.recs[i].length (BVs t.recs[i])) (hj : j ≤ t.recs.length)
    (ho : w2.ownsRow 0 44 1 v2 (t.recs.length - j) (vals.drop j)) (hv : v2.ownBlock = v.ownBlock) (c : Ch (fun q => v.ownBlock = some q) w1 w2) (k : Int) :
    Tdid T R g { t with base := k, recs := t.recs.drop j } w ((w2.setCell ⟨g, 1, none⟩ v2).setCell ⟨g, 0, none⟩ (.int .i64 k)) := by
  have hff := own_far h1 h.blk (by decide)
  have q2 := h.blk.ch c hff
  have hc23 : Ch (fun k => k = g) w2 ((w2.setCell ⟨g, 1, none⟩ v2).setCell ⟨g, 0, none⟩ (.int .i64 k)) := ((Ch.refl (fun k => k = g) w2).setCell (p := ⟨g, 1, none⟩) (fun _ => rfl) _).setCell (p := ⟨g, 0, none⟩) (fun _ => rfl) _
  have hvl : vals.length = t.recs.length := by have := h1.1; omega
  refine ⟨⟨v2, mg, ⟨(q2.set_ 1 _).set_ 0 _, ⟨vals.drop j, ?_, fun i hi => ?_⟩, (h.gs.ch c (fun e => ?_)).ch hc23 (fun e => ?_), .inl h.tg, fun q hq => .inl (h.tv q (by rw [← hv, hq])), .inl h.tm⟩⟩, ?_⟩
  · have := own_ch ho hc23 (fun q hq e => hff (by rw [← hv, hq, e]))
    simpa using this
  · have hi' : i + j < t.recs.length := by simp only [List.length_drop] at hi; omega
    obtain ⟨u, hu, hs⟩ := h2 (j + i) (by omega)
    refine ⟨u, by rw [List.getElem?_drop]; exact hu, ?_⟩
    have e : (t.recs.drop j)[i] = t.recs[j + i] := List.getElem_drop
    simp only [e]
    exact (hs.ch c (fun k _ hk hr => hR k hr (h.tv k hk))).ch hc23 (fun k _ hk hr => hR k hr (by rw [hk]; exact h.tg))
  · obtain ⟨D, hD, -⟩ := h.gs
    exact map_row hD h1 e
  · obtain ⟨D, hD, -⟩ := h.gs
    exact map_far hD h.blk e
  · exact ((Ch.of_below hb (Nat.le_refl _)).trans (c.mono (T := T) (fun k _ hk => h.tv k hk)) (fun _ _ h => h)).trans (hc23.mono (T := T) (fun k _ hk => by rw [hk]; exact h.tg)) (fun _ _ h => h)
set_option maxRecDepth 100000 in
set_option maxHeartbeats 300000 in
theorem trim_any (w : World) (T R : Nat → Prop) (g : Nat) (t : Tp) (v : Value) (mg : Nat) (k : Int) (h : Tg w T R g t v mg) (hf : FitT t) (hR : ∀ k, R k → ¬ T k) :
    Calls Try.prog 43 #[.pointer (some ⟨g, 0, none⟩), .int .i64 k] w fun e w' => e = .returned (.tuple #[.int .i64 (triS t k).1.1, .int .i64 (triS t k).1.2]) ∧ Tdid T R g (triS t k).2 w w' := by
  have HN := Lib.hid (next_any w T R g t v mg h hf.base hf.next)
  have HT := Lib.hid h
  obtain ⟨vals, h1, h2⟩ := h.recs
  obtain ⟨Ar, cr, rfl⟩ := own_shape h1
  have c0 : w.cell? ⟨g, 0, none⟩ = some (.int .i64 t.base) := h.blk.cell 0
  have c1 : w.cell? ⟨g, 1, none⟩ = some (.slice Ar t.recs.length cr) := h.blk.cell 1
  have hb0 := hf.base
  have hb1 := hf.next
  have hfew := hf.few
  have HNX : Hid (t.next = t.base + (t.recs.length : Int)) := Lib.hid rfl
  simp only [maxNum] at hb1
  have HV := Lib.hid (And.intro h1 h2)
  have HR := Lib.hid hR
  clear h h1 h2 hf hR
  by_cases q1 : k < t.base
  · have e : triS t k = ((0, 72), t) := by rw [triS, if_pos (.inl q1)]
    rw [e]
    clear e
    go_enter Try.func43, Try.ntmps43
    go_wp2_with fail
    go_ret2
    exact ⟨rfl, tdid_refl HT.out (Below.refl _ _)⟩
  · have q1' : t.base ≤ k := by omega
    by_cases q2 : t.next < k
    · have e : triS t k = ((0, 72), t) := by rw [triS, if_pos (.inr q2)]
      rw [e]
      clear e q1
      go_enter Try.func43, Try.ntmps43
      go_wp2_with fail
      refine HN.out.mono ?_
      rintro e w1 ⟨rfl, hb⟩
      have HB := Lib.hid hb
      clear hb
      go_wp2_with fail
      go_ret2
      exact ⟨rfl, tdid_refl HT.out HB.out⟩
    · have q2' : k ≤ t.next := by omega
      have e : triS t k = ((k, 0), { t with base := k, recs := t.recs.drop (k - t.base).toNat }) := by rw [triS, if_neg (by omega)]
      rw [e]
      have hj : (k - t.base).toNat ≤ t.recs.length := by have := HNX.out; omega
      have hk : k = t.base + ((k - t.base).toNat : Int) := by omega
      generalize (k - t.base).toNat = j at *
      subst hk
      have hw : IntKind.i64.wrap (t.base + (j : Int) - t.base) = (j : Int) := by
        rw [show t.base + (j : Int) - t.base = (j : Int) from by omega]
        exact Ga.wrap64 (by omega) (by omega)
      have hw2 : t.base + (j : Int) - t.base = (j : Int) := by omega
      have hw3 : IntKind.i64.wrap (j : Int) = (j : Int) := Ga.wrap64 (by omega) (by omega)
      have HJ := Lib.hid hj
      clear e q1 q2
      go_enter Try.func43, Try.ntmps43
      go_wp2_with fail
      refine HN.out.mono ?_
      rintro e w1 ⟨rfl, hb⟩
      have HB := Lib.hid hb
      have HT1 := Lib.hid (HT.out.later hb)
      clear c0 c1
      have c0 : w1.cell? ⟨g, 0, none⟩ = some (.int .i64 t.base) := HT1.out.blk.cell 0
      have c1 : w1.cell? ⟨g, 1, none⟩ = some (.slice Ar t.recs.length cr) := HT1.out.blk.cell 1
      have HV1 : Hid (w1.ownsRow 0 44 1 (.slice Ar t.recs.length cr) t.recs.length vals ∧ (∀ i (hi : i < t.recs.length), ∃ u, vals[i]? = some u ∧ Sl w1 (fun k => ¬ R k) 1 u t.recs[i].length (BVs t.recs[i]))) := Lib.hid ⟨own_below HV.out.1 HB.out, fun i hi => by
        obtain ⟨u, hu, hs⟩ := HV.out.2 i hi
        exact ⟨u, hu, hs.after HB.out⟩⟩
      have HONE : Hid (∀ u ∈ vals, u.oneCell' = true) := Lib.hid (by
        intro u hu
        obtain ⟨i, hi, rfl⟩ := List.getElem_of_mem hu
        obtain ⟨u', hu', h3⟩ := HV.out.2 i (by have := HV.out.1.1; omega)
        obtain ⟨B, d, rfl, -⟩ := h3
        rw [List.getElem?_eq_getElem hi] at hu'
        rw [Option.some.inj hu']
        rfl)
      have HD := Lib.hid (delete_any w1.drew _ _ j vals (show w1.drew.ownsRow 0 _ 1 _ _ _ from HV1.out.1) HJ.out (by omega) HONE.out)
      clear hb hj
      go_wp2_with fail
      go_region_law (first
        | (go_simp; go_at_call 59; refine HD.out.mono ?_; rintro e w2 ⟨v2, rfl, ho2, hv2, hc2⟩; obtain ⟨A2, c2, rfl⟩ := own_shape ho2; have hc2' : Ch (fun q => (Value.slice Ar t.recs.length cr).ownBlock = some q) w1 w2 := ch_of_drew hc2; have q2 := HT1.out.blk.ch hc2' (own_far HV1.out.1 HT1.out.blk (by decide)); have j0 := q2.cell 0; have j1 := q2.cell 1; have f0 := q2.frozen 0; have f1 := q2.frozen 1; simp only [List.getElem?_toArray, List.getElem?_cons_zero, List.getElem?_cons_succ] at j0 j1))
      all_goals
        go_wp2
        go_ret2
        exact ⟨rfl, tri_end HT1.out HR.out HB.out HV1.out.1 HV1.out.2 HJ.out ho2 hv2 hc2' _⟩
end Go.Proofs.Ytcmknopgoiabbaa.Ae

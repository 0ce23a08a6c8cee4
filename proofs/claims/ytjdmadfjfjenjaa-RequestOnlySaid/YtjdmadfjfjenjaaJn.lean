/-
  Layer 8 (request): mathematics of what was sealed: who is valid, and the numbers of batches. No program is named here.
-/
import Derived.Test.YtjdmadfjfjenjaaJg
namespace Go.Proofs.Ytjdmadfjfjenjaa.Jn
set_option linter.unusedSimpArgs false
open Im (num isIn add sum)
open Lk Ld Jm Jg
set_option linter.unusedVariables false

theorem num_inj {L : List (List UInt8)} {a b : List UInt8} (h : num L a = num L b) (h0 : num L a ≠ 0) : a = b := by
  have h1 := Im.num_get L a h0
  have h2 := Im.num_get L b (by rw [← h]; exact h0)
  rw [h, h2] at h1
  exact (Option.some.inj h1).symm
theorem num_add {L : List (List UInt8)} {b s : List UInt8} (h : num L s ≠ 0) : num (add L b) s = num L s := by
  unfold Im.add
  split
  · rfl
  · split
    · rfl
    · exact Im.num_left L [b] s h
theorem sum_num {L : List (List UInt8)} {b : List UInt8} (h : sum L b ≠ 0) : num (add L b) b = sum L b ∧ num (add L b) b ≠ 0 := by
  unfold Im.sum at h ⊢
  unfold Im.add
  by_cases h1 : num L b ≠ 0
  · rw [if_pos h1, if_pos h1]; exact ⟨rfl, h1⟩
  · rw [if_neg h1] at h ⊢
    rw [if_neg h1]
    by_cases h2 : 1048576 ≤ L.length
    · rw [if_pos h2] at h; exact absurd rfl h
    · rw [if_neg h2] at h ⊢
      rw [if_neg h2]
      have := Im.num_snoc L b b
      rw [if_neg h1, if_pos rfl] at this
      rw [this]
      exact ⟨rfl, by omega⟩
theorem add_full {L : List (List UInt8)} {b : List UInt8} (h : sum L b = 0) : add L b = L := by
  unfold Im.sum at h
  unfold Im.add
  by_cases h1 : num L b ≠ 0
  · rw [if_pos h1]
  · rw [if_neg h1] at h ⊢
    by_cases h2 : 1048576 ≤ L.length
    · rw [if_pos h2]
    · rw [if_neg h2] at h; omega
theorem code_ok {L : List (List UInt8)} {q : Q} (h : qcheck q = 0) : code (sgOf L q) = 0 ↔ sum L (qraw q) ≠ 0 := by
  have h1 := (qcheck_ok h).1
  have h2 := Ja.key_pos ((isC_iff q.client).2 h1)
  unfold code sgOf
  simp only
  rw [h2, if_neg (by omega)]
  by_cases h0 : sum L (qraw q) = 0
  · rw [h0, if_pos (by simp)]; simp
  · rw [if_neg (by omega)]; simp [h0]
/-- These, and just these, were sealed. -/
structure Inv (L : List (List UInt8)) (G : List Sg) (R : List Sd) : Prop where
  good : ∀ d ∈ R, qcheck d.q = 0 ∧ d.s = (key d.q.client, (num L (qraw d.q) : Int)) ∧ num L (qraw d.q) ≠ 0 ∧ d.s ∈ G
  just : ∀ s ∈ G, ∃ d ∈ R, d.s = s
theorem inv_nil : Inv [] [] [] := ⟨fun d h => absurd h (by simp), fun s h => absurd h (by simp)⟩
/-- What is sealed with q. -/
def sealS (L : List (List UInt8)) (q : Q) (R : List Sd) : List Sd := if (sealR L q).2 = 0 then R ++ [(sealR L q).1] else R
theorem Inv.step {L : List (List UInt8)} {G : List Sg} {R : List Sd} (h : Inv L G R) (q : Q) : Inv (sealT L q) (sealG L G q) (sealS L q R) := by
  by_cases hq : qcheck q = 0
  · rw [sealT_ok hq, sealG_ok hq]
    by_cases hc : code (sgOf L q) = 0
    · have hs := (code_ok hq).1 hc
      obtain ⟨n1, n2⟩ := sum_num hs
      have hR : sealS L q R = R ++ [⟨q, sgOf L q⟩] := by rw [sealS, sealR_ok hq hc]; rfl
      have hp : pay G (sgOf L q) = if sgOf L q ∈ G then G else G ++ [sgOf L q] := by rw [pay, if_pos hc]
      have hmem : ∀ s, s ∈ pay G (sgOf L q) ↔ s ∈ G ∨ s = sgOf L q := fun s => by
        rw [hp]
        split
        · rename_i hin
          exact ⟨.inl, fun h => h.elim id (fun e => by rw [e]; exact hin)⟩
        · simp
      rw [hR]
      refine ⟨fun d hd => ?_, fun s hs2 => ?_⟩
      · rcases List.mem_append.1 hd with hd | hd
        · obtain ⟨g1, g2, g3, g4⟩ := h.good d hd
          rw [num_add g3]
          exact ⟨g1, g2, g3, (hmem _).2 (.inl g4)⟩
        · obtain rfl : d = ⟨q, sgOf L q⟩ := by simpa using hd
          refine ⟨hq, ?_, n2, (hmem _).2 (.inr rfl)⟩
          simp only
          rw [n1]
          rfl
      · rcases (hmem s).1 hs2 with hs2 | rfl
        · obtain ⟨d, hd, e⟩ := h.just s hs2
          exact ⟨d, List.mem_append_left _ hd, e⟩
        · exact ⟨⟨q, sgOf L q⟩, List.mem_append_right _ (by simp), rfl⟩
    · have hs : sum L (qraw q) = 0 := by
        by_cases h0 : sum L (qraw q) = 0
        · exact h0
        · exact absurd ((code_ok hq).2 h0) hc
      have hR : sealS L q R = R := by rw [sealS, sealR_code hq hc, if_neg (by simpa using hc)]
      have hp : pay G (sgOf L q) = G := by rw [pay, if_neg hc]
      rw [add_full hs, hR, hp]
      exact h
  · have hR : sealS L q R = R := by rw [sealS, sealR_bad hq, if_neg (by simpa using hq)]
    rw [sealT_bad hq, sealG_bad hq, hR]
    exact h
theorem Inv.valid {L : List (List UInt8)} {G : List Sg} {R : List Sd} (h : Inv L G R) (d : Sd) : validB L G d = decide (d ∈ R) := by
  rw [Bool.eq_iff_iff, decide_eq_true_eq]
  constructor
  · intro hv
    by_cases hq : qcheck d.q = 0
    · unfold validB at hv
      rw [if_neg (by omega)] at hv
      simp only [Bool.and_eq_true, isIn, decide_eq_true_eq, sgB, isS] at hv
      obtain ⟨v1, v2, v3⟩ := hv
      obtain ⟨d', hd', e⟩ := h.just _ v3
      obtain ⟨g1, g2, g3, _⟩ := h.good d' hd'
      rw [v2, g2] at e
      have e2 : num L (qraw d'.q) = num L (qraw d.q) := by have := (Prod.mk.inj e).2; omega
      have e3 := qraw_inj g1 hq (num_inj e2 g3)
      have : d' = d := by
        cases d; cases d'
        simp only at e3 g2 v2
        subst e3
        rw [g2, v2]
      rw [← this]
      exact hd'
    · unfold validB at hv
      rw [if_pos hq] at hv
      exact absurd hv (by simp)
  · intro hd
    obtain ⟨g1, g2, g3, g4⟩ := h.good d hd
    unfold validB
    rw [if_neg (by omega)]
    simp only [Bool.and_eq_true, isIn, decide_eq_true_eq, sgB, isS]
    exact ⟨g3, g2, g4⟩
theorem in_sealS {L : List (List UInt8)} {q : Q} {R : List Sd} (s : Sd) : s ∈ sealS L q R ↔ (s ∈ R ∨ ((sealR L q).2 = 0 ∧ [(sealR L q).1] = [s])) := by
  unfold sealS
  by_cases h : (sealR L q).2 = 0
  · rw [if_pos h]
    simp only [List.mem_append, List.mem_singleton, List.cons.injEq, and_true, h, true_and]
    exact ⟨fun h => h.imp id Eq.symm, fun h => h.imp id Eq.symm⟩
  · rw [if_neg h]
    simp [h]
theorem mem_sealS {L : List (List UInt8)} {q : Q} {R : List Sd} (s : Sd) : decide (s ∈ sealS L q R) = (decide (s ∈ R) || (decide ((sealR L q).2 = 0) && decide ([(sealR L q).1] = [s]))) := by
  rw [Bool.eq_iff_iff]
  simp only [decide_eq_true_eq, Bool.or_eq_true, Bool.and_eq_true]
  exact in_sealS s
theorem seal_in {L : List (List UInt8)} {q : Q} {R : List Sd} (h : (sealR L q).2 = 0) : (sealR L q).1 ∈ sealS L q R := by rw [sealS, if_pos h]; simp
theorem pay_room (G : List Sg) (s : Sg) : (pay G s).length ≤ G.length + 1 := pay_len G s
theorem sealG_len (L : List (List UInt8)) (G : List Sg) (q : Q) : (sealG L G q).length ≤ G.length + 1 := by
  unfold sealG
  split
  · omega
  · exact pay_len _ _
theorem sealR_wf {L : List (List UInt8)} (hL : L.length ≤ 1048576) (q : Q) : wfS (sealR L q).1.s := by
  have hz : wfS Sd.zero.s := by unfold wfS; decide
  by_cases hq : qcheck q = 0
  · by_cases hc : code (sgOf L q) = 0
    · rw [sealR_ok hq hc]
      have h1 := (qcheck_ok hq).1
      have h2 := Ja.key_pos ((isC_iff q.client).2 h1)
      have h4 := Im.num_le L (qraw q)
      have h3 : sum L (qraw q) ≤ 1048577 := by
        unfold Im.sum
        split
        · omega
        · split <;> omega
      unfold wfS sgOf
      simp only
      rw [h2]
      omega
    · rw [sealR_code hq hc]; exact hz
  · rw [sealR_bad hq]; exact hz
theorem sealR_recs (L : List (List UInt8)) (q : Q) : (sealR L q).1.q.o.recs.length ≤ q.o.recs.length := by
  unfold sealR
  split
  · simp [Sd.zero, Q.zero, Pm.O.zero]
  · split
    · simp [Sd.zero, Q.zero, Pm.O.zero]
    · exact Nat.le_refl _

/-- A batch's number. -/
def digR (L : List (List UInt8)) (l : List Sd) : Int × Int := if bcheck l ≠ 0 then (0, bcheck l) else if sum L (braw l) = 0 then (0, 6) else ((sum L (braw l) : Int), 0)
def digT (L : List (List UInt8)) (l : List Sd) : List (List UInt8) := if bcheck l ≠ 0 then L else add L (braw l)
theorem digR_bad {L : List (List UInt8)} {l : List Sd} (h : bcheck l ≠ 0) : digR L l = (0, bcheck l) := by rw [digR, if_pos h]
theorem digT_bad {L : List (List UInt8)} {l : List Sd} (h : bcheck l ≠ 0) : digT L l = L := by rw [digT, if_pos h]
theorem digR_full {L : List (List UInt8)} {l : List Sd} (h : bcheck l = 0) (h0 : sum L (braw l) = 0) : digR L l = (0, 6) := by rw [digR, if_neg (by omega), if_pos h0]
theorem digR_ok {L : List (List UInt8)} {l : List Sd} (h : bcheck l = 0) (h0 : sum L (braw l) ≠ 0) : digR L l = ((sum L (braw l) : Int), 0) := by rw [digR, if_neg (by omega), if_neg h0]
theorem digT_ok {L : List (List UInt8)} {l : List Sd} (h : bcheck l = 0) : digT L l = add L (braw l) := by rw [digT, if_neg (by omega)]
/-- The same number just if the same batch. -/
theorem dig_same {L : List (List UInt8)} {a b : List Sd} (h1 : (digR L a).2 = 0) (h2 : (digR (digT L a) b).2 = 0) : ((digR L a).1 == (digR (digT L a) b).1) = decide (a = b) := by
  have ha : bcheck a = 0 := by
    by_cases h : bcheck a = 0
    · exact h
    · rw [digR_bad h] at h1; exact absurd h1 h
  have hb : bcheck b = 0 := by
    by_cases h : bcheck b = 0
    · exact h
    · rw [digR_bad h] at h2; exact absurd h2 h
  have sa : sum L (braw a) ≠ 0 := fun h => by rw [digR_full ha h] at h1; exact absurd h1 (by decide)
  have sb : sum (digT L a) (braw b) ≠ 0 := fun h => by rw [digR_full hb h] at h2; exact absurd h2 (by decide)
  rw [digR_ok ha sa, digR_ok hb sb]
  rw [digT_ok ha] at sb ⊢
  obtain ⟨n1, n2⟩ := sum_num sa
  obtain ⟨m1, m2⟩ := sum_num sb
  rw [Bool.eq_iff_iff]
  simp only [beq_iff_eq, decide_eq_true_eq]
  constructor
  · intro h
    have h3 : sum L (braw a) = sum (add L (braw a)) (braw b) := by omega
    rw [← n1, ← m1] at h3
    have h4 : num (add (add L (braw a)) (braw b)) (braw a) = num (add L (braw a)) (braw a) := num_add n2
    rw [← h4] at h3
    exact braw_inj ha hb (num_inj h3 (by rw [h4]; exact n2))
  · rintro rfl
    have : sum (add L (braw a)) (braw a) = num (add L (braw a)) (braw a) := by unfold Im.sum; rw [if_pos n2]
    rw [this, n1]
end Go.Proofs.Ytjdmadfjfjenjaa.Jn

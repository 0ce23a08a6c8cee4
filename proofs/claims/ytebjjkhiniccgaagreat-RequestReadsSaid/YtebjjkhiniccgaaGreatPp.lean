/-
  Layer 6 (op): there and back, in the plain mathematics: what is put is read, what is read has those bytes, no operation's bytes begin another one's; the document's loop over records reads what a list's reading does.
-/
import Derived.Test.YtebjjkhiniccgaaGreatPk
namespace Go.Proofs.YtebjjkhiniccgaaGreat.Pp
set_option linter.unusedSimpArgs false
open Cm Pm Pk
set_option linter.unusedVariables false

theorem O_ext {a b : O} (h1 : a.kind = b.kind) (h2 : a.topic = b.topic) (h3 : a.group = b.group) (h4 : a.off = b.off) (h5 : a.recs = b.recs) : a = b := by
  cases a; cases b; simp_all
/-- What an operation that may be leaves empty. -/
theorem check_rest {o : O} (h : check o = 0) : (hasT o.kind = false → o.topic = []) ∧ (hasG o.kind = false → o.group = []) ∧ (hasO o.kind = false → o.off = 0) ∧ (hasR o.kind = false → o.recs = []) := by
  obtain ⟨h1, h2, h3, h4, h5⟩ := check_ok h
  simp only [more, Bool.or_eq_false_iff, Bool.and_eq_false_iff, Bool.not_eq_false', List.isEmpty_iff] at h2
  obtain ⟨⟨⟨q1, q2⟩, q3⟩, q4⟩ := h2
  refine ⟨fun e => ?_, fun e => ?_, fun e => ?_, fun e => ?_⟩
  · rcases q1 with q | q
    · rw [e] at q; cases q
    · exact q
  · rcases q2 with q | q
    · rw [e] at q; cases q
    · exact q
  · rcases q3 with q | q
    · rw [e] at q; cases q
    · simpa using q
  · rcases q4 with q | q
    · rw [e] at q; cases q
    · exact q

/-- What was put is read, whatever stands behind. -/
theorem rd_raw {o : O} (h : check o = 0) (r : Tx) : rd (raw o ++ r, 0) = (o, (r, 0)) := by
  obtain ⟨l1, l2, l3, l4⟩ := check_lens h
  obtain ⟨e1, e2, e3, e4⟩ := check_rest h
  have hk : 0 ≤ o.kind ∧ o.kind ≤ 4 := by
    have := (check_ok h).1
    simpa [known] using this
  have hn : numS (raw o ++ r, 0) 4 = (o.kind.toNat, ((if hasT o.kind then encB o.topic else []) ++ ((if hasG o.kind then encB o.group else []) ++ ((if hasO o.kind then enc o.off.toNat else []) ++ ((if hasR o.kind then encL o.recs else []) ++ r))), 0)) := by
    have := numS_enc (n := o.kind.toNat) (m := 4) (by omega) (by omega) ((if hasT o.kind then encB o.topic else []) ++ ((if hasG o.kind then encB o.group else []) ++ ((if hasO o.kind then enc o.off.toNat else []) ++ ((if hasR o.kind then encL o.recs else []) ++ r))))
    rw [← this, raw]
    simp only [List.append_assoc]
  have hkz : ((o.kind.toNat : Nat) : Int) = o.kind := Int.toNat_of_nonneg hk.1
  have ht : ∀ t, rdT o.kind ((if hasT o.kind then encB o.topic else []) ++ t, 0) = (o.topic, (t, 0)) := by
    intro t
    unfold rdT
    cases hT : hasT o.kind with
    | true => exact bytesS_enc (by have := l1 hT; omega) (by have := l1 hT; omega) t
    | false => simp [e1 hT]
  have hg : ∀ t, rdG o.kind ((if hasG o.kind then encB o.group else []) ++ t, 0) = (o.group, (t, 0)) := by
    intro t
    unfold rdG
    cases hT : hasG o.kind with
    | true => exact bytesS_enc (by have := l2 hT; omega) (by have := l2 hT; omega) t
    | false => simp [e2 hT]
  have hf : ∀ t, rdO o.kind ((if hasO o.kind then enc o.off.toNat else []) ++ t, 0) = (o.off.toNat, (t, 0)) := by
    intro t
    unfold rdO
    cases hT : hasO o.kind with
    | true => exact numS_enc (by have := l3 hT; omega) (by have := l3 hT; omega) t
    | false => simp [e3 hT]
  have hr : rdR o.kind ((if hasR o.kind then encL o.recs else []) ++ r, 0) = (o.recs, (r, 0)) := by
    unfold rdR
    cases hT : hasR o.kind with
    | true =>
      obtain ⟨_, q4, qx, _⟩ := l4 hT
      exact listS_enc (ls := o.recs) (k := 4) (m := 64) (by omega) (by omega) (fun i hi => by
        have := qx _ (List.getElem_mem hi)
        exact ⟨by omega, by omega⟩) r
    | false => simp [e4 hT]
  have ho : 0 ≤ o.off := by
    cases hT : hasO o.kind with
    | true => exact (l3 hT).1
    | false => rw [e3 hT]; omega
  unfold rd
  simp only [hn, hkz, ht, hg, hf, hr]
  exact congrArg (fun x => (x, (r, (0 : Int)))) (O_ext rfl rfl rfl (Int.toNat_of_nonneg ho) rfl)
theorem take_raw {o : O} (h : check o = 0) (r : Tx) : take (raw o ++ r, 0) = (o, (r, 0)) := by
  unfold take
  rw [rd_raw h r]
  simp only [h]
  simp [failS]
theorem parse_raw {o : O} (h : check o = 0) : parse (raw o) = (o, 0) := by
  have := take_raw h []
  rw [List.append_nil] at this
  unfold parse
  rw [this]
  simp [doneS]

theorem numS_err {s : RS} {m : Nat} (h : s.2 ≠ 0) : numS s m = (0, s) := by rw [numS, if_pos h]
theorem takeS_err {s : RS} {n : Int} (h : s.2 ≠ 0) : takeS s n = ([], s) := by rw [takeS, if_pos h]
theorem bytesS_err {s : RS} {m : Int} (h : s.2 ≠ 0) : bytesS s m = ([], s) := by
  rw [bytesS, numS_err h]
  exact takeS_err h
theorem listS_err {s : RS} {m k : Int} (h : s.2 ≠ 0) : listS s m k = ([], s) := by
  rw [listS, numS_err h]
  rfl
theorem rdT_err {s : RS} {k : Int} (h : s.2 ≠ 0) : rdT k s = ([], s) := by
  unfold rdT; split
  · exact bytesS_err h
  · rfl
theorem rdG_err {s : RS} {k : Int} (h : s.2 ≠ 0) : rdG k s = ([], s) := by
  unfold rdG; split
  · exact bytesS_err h
  · rfl
theorem rdO_err {s : RS} {k : Int} (h : s.2 ≠ 0) : rdO k s = (0, s) := by
  unfold rdO; split
  · exact numS_err h
  · rfl
theorem rdR_err {s : RS} {k : Int} (h : s.2 ≠ 0) : rdR k s = ([], s) := by
  unfold rdR; split
  · exact listS_err h
  · rfl
/-- What is read has those bytes. -/
theorem rd_one {b : Tx} (h : (rd (b, 0)).2.2 = 0) : ∃ r, (rd (b, 0)).2 = (r, 0) ∧ b = raw (rd (b, 0)).1 ++ r := by
  unfold rd at h ⊢
  simp only at h ⊢
  have h4 : (rdO ((numS (b, 0) 4).1 : Nat) (rdG ((numS (b, 0) 4).1 : Nat) (rdT ((numS (b, 0) 4).1 : Nat) (numS (b, 0) 4).2).2).2).2.2 = 0 := by
    by_cases q : (rdO ((numS (b, 0) 4).1 : Nat) (rdG ((numS (b, 0) 4).1 : Nat) (rdT ((numS (b, 0) 4).1 : Nat) (numS (b, 0) 4).2).2).2).2.2 = 0
    · exact q
    · rw [rdR_err q] at h; exact h
  have h3 : (rdG ((numS (b, 0) 4).1 : Nat) (rdT ((numS (b, 0) 4).1 : Nat) (numS (b, 0) 4).2).2).2.2 = 0 := by
    by_cases q : (rdG ((numS (b, 0) 4).1 : Nat) (rdT ((numS (b, 0) 4).1 : Nat) (numS (b, 0) 4).2).2).2.2 = 0
    · exact q
    · rw [rdO_err q] at h4; exact h4
  have h2 : (rdT ((numS (b, 0) 4).1 : Nat) (numS (b, 0) 4).2).2.2 = 0 := by
    by_cases q : (rdT ((numS (b, 0) 4).1 : Nat) (numS (b, 0) 4).2).2.2 = 0
    · exact q
    · rw [rdG_err q] at h3; exact h3
  have h1 : (numS (b, 0) 4).2.2 = 0 := by
    by_cases q : (numS (b, 0) 4).2.2 = 0
    · exact q
    · rw [rdT_err q] at h2; exact h2
  have one_num : ∀ (x : Tx) (m : Nat), (numS (x, 0) m).2.2 = 0 → ∃ v r, numS (x, 0) m = (v, (r, 0)) ∧ x = enc v ++ r := by
    intro x m hx
    obtain ⟨g1, g2, g3, g4⟩ := numS_ok hx
    rcases hp : pn x 0 0 with ⟨v, j, e⟩
    simp only [hp] at g2 g4
    subst g2
    have hj := pn_one0 hp
    exact ⟨v, x.drop j, g4, by rw [← hj.1, List.take_append_drop]⟩
  obtain ⟨k, b1, ek, eb⟩ := one_num b 4 h1
  rw [ek] at h h4 h3 h2 ⊢
  simp only at h h4 h3 h2 ⊢
  have sT : ∃ t b2, rdT (k : Int) (b1, 0) = (t, (b2, 0)) ∧ b1 = (if hasT (k : Int) then encB t else []) ++ b2 := by
    unfold rdT at h2 ⊢
    cases hT : hasT (k : Int) with
    | true =>
      rw [hT] at h2
      obtain ⟨x, r, q1, q2⟩ := bytesS_one h2
      exact ⟨x, r, q1, q2⟩
    | false => exact ⟨[], b1, rfl, rfl⟩
  obtain ⟨t, b2, et, eb1⟩ := sT
  rw [et] at h h4 h3 ⊢
  simp only at h h4 h3 ⊢
  have sG : ∃ g b3, rdG (k : Int) (b2, 0) = (g, (b3, 0)) ∧ b2 = (if hasG (k : Int) then encB g else []) ++ b3 := by
    unfold rdG at h3 ⊢
    cases hT : hasG (k : Int) with
    | true =>
      rw [hT] at h3
      obtain ⟨x, r, q1, q2⟩ := bytesS_one h3
      exact ⟨x, r, q1, q2⟩
    | false => exact ⟨[], b2, rfl, rfl⟩
  obtain ⟨g, b3, eg, eb2⟩ := sG
  rw [eg] at h h4 ⊢
  simp only at h h4 ⊢
  have sO : ∃ f b4, rdO (k : Int) (b3, 0) = (f, (b4, 0)) ∧ b3 = (if hasO (k : Int) then enc f else []) ++ b4 := by
    unfold rdO at h4 ⊢
    cases hT : hasO (k : Int) with
    | true =>
      rw [hT] at h4
      obtain ⟨x, r, q1, q2⟩ := one_num b3 _ h4
      exact ⟨x, r, q1, q2⟩
    | false => exact ⟨0, b3, rfl, rfl⟩
  obtain ⟨f, b4, ef, eb3⟩ := sO
  rw [ef] at h ⊢
  simp only at h ⊢
  have sR : ∃ l b5, rdR (k : Int) (b4, 0) = (l, (b5, 0)) ∧ b4 = (if hasR (k : Int) then encL l else []) ++ b5 := by
    unfold rdR at h ⊢
    cases hT : hasR (k : Int) with
    | true =>
      rw [hT] at h
      obtain ⟨x, r, q1, q2⟩ := listS_one h
      exact ⟨x, r, q1, q2⟩
    | false => exact ⟨[], b4, rfl, rfl⟩
  obtain ⟨l, b5, er, eb4⟩ := sR
  rw [er]
  simp only
  refine ⟨b5, rfl, ?_⟩
  unfold raw
  simp only [Int.toNat_natCast]
  rw [eb, eb1, eb2, eb3, eb4]
  simp only [List.append_assoc]
theorem failS_zero {s : RS} {e : Int} (h : (failS s e).2 = 0) : s.2 = 0 ∧ e = 0 ∧ failS s e = s := by
  unfold failS at h ⊢
  by_cases h1 : s.2 ≠ 0
  · rw [if_pos h1] at h; exact absurd h h1
  · rw [if_neg h1] at h ⊢
    by_cases h2 : e ≠ 0
    · rw [if_pos h2] at h; exact absurd h h2
    · rw [if_neg h2]
      exact ⟨by omega, by omega, rfl⟩
theorem take_one {b : Tx} (h : (take (b, 0)).2.2 = 0) : check (take (b, 0)).1 = 0 ∧ ∃ r, (take (b, 0)).2 = (r, 0) ∧ b = raw (take (b, 0)).1 ++ r := by
  unfold take at h ⊢
  by_cases hf : (failS (rd (b, 0)).2 (check (rd (b, 0)).1)).2 ≠ 0
  · rw [if_pos hf] at h; exact absurd h hf
  · rw [if_neg hf] at h ⊢
    obtain ⟨q1, q2, q3⟩ := failS_zero h
    obtain ⟨r, e1, e2⟩ := rd_one q1
    simp only at h ⊢
    rw [q3]
    exact ⟨q2, r, e1, e2⟩
theorem parse_one {b : Tx} {x : O} (h : parse b = (x, 0)) : check x = 0 ∧ b = raw x := by
  unfold parse at h
  by_cases hd : doneS (take (b, 0)).2 ≠ 0
  · rw [if_pos hd] at h; exact absurd (Prod.mk.inj h).2 hd
  · rw [if_neg hd] at h
    have hx := (Prod.mk.inj h).1
    subst hx
    have h2 : (take (b, 0)).2.2 = 0 := by
      by_cases q : (take (b, 0)).2.2 = 0
      · exact q
      · exfalso; apply hd; unfold doneS; rw [if_neg (fun hh => q hh.1)]; exact q
    obtain ⟨c1, r, c2, c3⟩ := take_one h2
    have hr : r = [] := by
      by_cases q : r = []
      · exact q
      · exfalso; apply hd; unfold doneS; rw [c2]; rw [if_pos ⟨rfl, q⟩]; decide
    subst hr
    exact ⟨c1, by rw [List.append_nil] at c3; exact c3⟩
theorem raw_pos (o : O) : 0 < (raw o).length := by
  have := enc_len o.kind.toNat
  unfold raw
  simp only [List.length_append]
  omega
/-- No operation's bytes begin another one's. -/
theorem raw_prefix {a b : O} (ha : check a = 0) (hb : check b = 0) (h : raw b <+: raw a) : a = b := by
  obtain ⟨r, hr⟩ := h
  have h1 := take_raw ha []
  rw [List.append_nil, ← hr] at h1
  have h2 := take_raw hb r
  rw [h1] at h2
  exact (Prod.mk.inj h2).1

/-- The document's loop over records. -/
def dl : Nat → RS → List Tx → List Tx × RS
  | 0, s, acc => (acc, s)
  | n + 1, s, acc => dl n (bytesS s 64).2 (acc ++ [(bytesS s 64).1])
theorem dl_err : ∀ (n : Nat) (s : RS) (acc : List Tx), s.2 ≠ 0 → (dl n s acc).2 = s
  | 0, s, acc, _ => rfl
  | n + 1, s, acc, h => by
    rw [dl, bytesS_err h]
    exact dl_err n s _ h
theorem dl_list : ∀ (n : Nat) (s : RS) (acc : List Tx), (dl n s acc).2 = (listA 64 n s acc).2 ∧ ((dl n s acc).2.2 = 0 → (dl n s acc).1 = (listA 64 n s acc).1)
  | 0, s, acc => ⟨rfl, fun _ => rfl⟩
  | n + 1, s, acc => by
    rw [dl, listA]
    by_cases h : (bytesS s 64).2.2 ≠ 0
    · rw [if_pos h]
      have := dl_err n (bytesS s 64).2 (acc ++ [(bytesS s 64).1]) h
      exact ⟨this, fun hz => absurd (by rw [this] at hz; exact hz) h⟩
    · rw [if_neg h]
      exact dl_list n _ _
theorem dl_len : ∀ (n : Nat) (s : RS) (acc : List Tx), (dl n s acc).1.length = acc.length + n
  | 0, s, acc => rfl
  | n + 1, s, acc => by
    rw [dl, dl_len n]
    simp
    omega
theorem listA_len : ∀ (n : Nat) (s : RS) (acc : List Tx), (listA 64 n s acc).1.length ≤ acc.length + n
  | 0, s, acc => by simp [listA]
  | n + 1, s, acc => by
    rw [listA]
    split
    · simp
    · have := listA_len n (bytesS s 64).2 (acc ++ [(bytesS s 64).1])
      simp only [List.length_append, List.length_singleton] at this
      omega
theorem listS_len4 (s : RS) : (listS s 4 64).1.length ≤ 4 := by
  rw [listS]
  have h1 := listA_len (numS s (4 : Int).toNat).1 (numS s (4 : Int).toNat).2 []
  have h2 := numS_le s (4 : Int).toNat
  simp only [List.length_nil] at h1
  have : (4 : Int).toNat = 4 := rfl
  omega
theorem rd_recs (s : RS) : (rd s).1.recs.length ≤ 4 := by
  unfold rd
  simp only
  unfold rdR
  split
  · exact listS_len4 _
  · simp
theorem take_recs (s : RS) : (take s).1.recs.length ≤ 4 := by
  unfold take
  split
  · simp [O.zero]
  · exact rd_recs s
theorem parse_recs (b : Tx) : (parse b).1.recs.length ≤ 4 := by
  unfold parse
  split
  · simp [O.zero]
  · exact take_recs _

end Go.Proofs.YtebjjkhiniccgaaGreat.Pp

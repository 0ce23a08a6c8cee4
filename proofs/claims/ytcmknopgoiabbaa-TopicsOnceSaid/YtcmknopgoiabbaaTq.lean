/-
  The plain mathematics of layer 7 (topics): the whole machine: what a request keeps, what is read of stB, at most once, what stays.
-/
import Derived.Test.YtcmknopgoiabbaaTn
namespace Go.Proofs.Ytcmknopgoiabbaa.Tq
set_option linter.unusedSimpArgs false
open Cm Pm Pz Tm Tn
set_option linter.unusedVariables false

/-- A machine that may be. -/
structure GoodS (s : St) : Prop where
  L : GoodL s.L
  eight : s.last.length = 8
  a : ∀ a ∈ s.last, FitA a ∧ okA a = true
theorem GoodS.zero : GoodS St.zero := ⟨GoodL.nil, by simp [St.zero], fun a ha => by
  have : a = An.zero := by simpa [St.zero] using ha
  subst this
  exact ⟨⟨⟨by decide, by decide⟩, ⟨by decide, by decide⟩, ⟨by decide, by decide⟩⟩, by decide⟩⟩
theorem badArg_no {c t : Int} (h : ¬ badArg c t = true) : 0 ≤ c ∧ c < 8 ∧ 1 ≤ t ∧ t ≤ maxNum := by
  simp only [badArg, Bool.or_eq_true, decide_eq_true_eq, not_or] at h
  omega
theorem appS_good {s : St} (h : GoodS s) (c t : Int) (o : O) : GoodS (appS s c t o).2.2.2 := by
  unfold appS
  split
  · exact h
  · rename_i hb
    obtain ⟨c0, c1, t0, t1⟩ := badArg_no hb
    simp only
    split
    · exact h
    · split
      · exact h
      · obtain ⟨g1, g2⟩ := doesS_good h.L o
        refine ⟨g1, by simp only [List.length_set]; exact h.eight, fun a ha => ?_⟩
        rcases List.mem_or_eq_of_mem_set ha with ha | rfl
        · exact h.a a ha
        · obtain ⟨r1, r2, r3, r4, r5, r6⟩ := g2
          refine ⟨⟨⟨by simp only; omega, t1⟩, ⟨r2, r3⟩, ⟨r4, r5⟩⟩, ?_⟩
          have hz : (0 : Int) < t := by omega
          simp only [okA, r1, Bool.true_and, hz, decide_true, Bool.true_or, Bool.and_true, Bool.or_eq_true, beq_iff_eq]
          exact r6
theorem GoodS.fit {s : St} (h : GoodS s) : Fit s := ⟨h.L.few, h.L.fit, h.eight, fun a ha => (h.a a ha).1⟩
theorem GoodS.ok {s : St} (h : GoodS s) : okS s = true := by
  simp only [okS, Bool.and_eq_true, List.all_eq_true]
  refine ⟨(okTs_iff _ _).2 ⟨fun t ht => ⟨h.L.ok t ht, nil_lt (name_ne ((okT_iff t).1 (h.L.ok t ht)).1)⟩, h.L.rises⟩, fun a ha => (h.a a ha).2⟩
/-- There and back. -/
theorem back {s : St} (h : GoodS s) : stP (stB s) = some s := stP_stB h.fit h.ok

theorem manyS_len {α : Type} (f : RS → α × RS) : ∀ (n : Nat) (s : RS) (acc : List α), (manyS f n s acc).1.length ≤ acc.length + n
  | 0, s, acc => by simp [manyS]
  | n + 1, s, acc => by
    unfold manyS
    split
    · simp only; omega
    · have := manyS_len f n (f s).2 (acc ++ [(f s).1])
      simp only [List.length_append, List.length_singleton] at this
      omega
theorem manyS_mem {α : Type} (f : RS → α × RS) : ∀ (n : Nat) (s : RS) (acc : List α) (x : α), x ∈ (manyS f n s acc).1 → x ∈ acc ∨ ∃ r, x = (f r).1
  | 0, s, acc, x, h => .inl h
  | n + 1, s, acc, x, h => by
    unfold manyS at h
    split at h
    · exact .inl h
    · rcases manyS_mem f n _ _ x h with h | h
      · rcases List.mem_append.1 h with h | h
        · exact .inl h
        · exact .inr ⟨s, by simpa using h⟩
      · exact .inr h
theorem allS_len {α : Type} (f : RS → α × RS) : ∀ (n : Nat) (s : RS) (acc : List α), (allS f n s acc).1.length = acc.length + n
  | 0, s, acc => by simp [allS]
  | n + 1, s, acc => by
    unfold allS
    rw [allS_len f n]
    simp only [List.length_append, List.length_singleton]
    omega
theorem allS_mem {α : Type} (f : RS → α × RS) : ∀ (n : Nat) (s : RS) (acc : List α) (x : α), x ∈ (allS f n s acc).1 → x ∈ acc ∨ ∃ r, x = (f r).1
  | 0, s, acc, x, h => .inl h
  | n + 1, s, acc, x, h => by
    unfold allS at h
    rcases allS_mem f n _ _ x h with h | h
    · rcases List.mem_append.1 h with h | h
      · exact .inl h
      · exact .inr ⟨s, by simpa using h⟩
    · exact .inr h
theorem takeS_fst (s : RS) (n : Int) : ((takeS s n).1.length : Int) ≤ max n 0 := by
  unfold takeS
  split
  · simp only [List.length_nil]; omega
  · split
    · simp only [List.length_nil]; omega
    · split
      · simp only [List.length_nil]; omega
      · simp only [List.length_take]; omega
theorem bytesS_fst (s : RS) (m : Int) (hm : 0 ≤ m) : ((bytesS s m).1.length : Int) ≤ m := by
  have h1 := takeS_fst (numS s m.toNat).2 ((numS s m.toNat).1 : Int)
  have h2 := numS_le s m.toNat
  unfold bytesS
  omega
theorem gpS_fit {r : RS} (h : name (gpS r).1.n = true) : FitG (gpS r).1 := by
  have h2 := numS_le (bytesS r 1024).2 9007199254740992
  exact ⟨(name_len h).1, by simp only [gpS]; omega, by simp only [gpS, maxNum]; omega⟩
theorem tpS_fit {r : RS} (h : okT (tpS r).1 = true) : FitT (tpS r).1 := by
  obtain ⟨o1, o2, o3, o4⟩ := (okT_iff _).1 h
  have l1 := manyS_len (fun r => bytesS r 64) (numS (numS (bytesS r 1024).2 9007199254740992).2 64).1 (numS (numS (bytesS r 1024).2 9007199254740992).2 64).2 []
  have l2 := numS_le (numS (bytesS r 1024).2 9007199254740992).2 64
  refine ⟨(name_len o1).1, by simp only [tpS]; omega, o2, ?_, fun x hx => ?_, ?_, fun g hg => ?_⟩
  · simp only [tpS, rcS]
    simp only [List.length_nil] at l1
    omega
  · simp only [tpS, rcS] at hx
    rcases manyS_mem _ _ _ _ _ hx with hx | ⟨q, rfl⟩
    · simp at hx
    · have := bytesS_fst q 64 (by decide)
      omega
  · simp only [tpS, gpsS]
    have m1 := manyS_len gpS (numS (rcS (numS (bytesS r 1024).2 9007199254740992).2).2 8).1 (numS (rcS (numS (bytesS r 1024).2 9007199254740992).2).2 8).2 []
    have m2 := numS_le (rcS (numS (bytesS r 1024).2 9007199254740992).2).2 8
    simp only [List.length_nil] at m1
    omega
  · have hn := (o3 g hg).1
    simp only [tpS, gpsS] at hg
    rcases manyS_mem _ _ _ _ _ hg with hg | ⟨q, rfl⟩
    · simp at hg
    · exact gpS_fit hn
theorem anS_fit (r : RS) : FitA (anS r).1 := by
  have h1 := numS_le r 9007199254740992
  have h2 := numS_le (numS r 9007199254740992).2 1024
  have h3 := numS_le (numS (numS r 9007199254740992).2 1024).2 9007199254740992
  refine ⟨⟨?_, ?_⟩, ⟨?_, ?_⟩, ⟨?_, ?_⟩⟩
  all_goals (simp only [anS, maxNum]; omega)
/-- What is read is a machine that may be. -/
theorem stP_good {b : Tx} {s : St} (h : stP b = some s) : GoodS s := by
  unfold stP at h
  split at h
  · rename_i hk
    obtain rfl := Option.some.inj h
    obtain ⟨hk, -⟩ := hk
    simp only [okS, Bool.and_eq_true, List.all_eq_true] at hk
    obtain ⟨h1, h2⟩ := (okTs_iff _ _).1 hk.1
    refine ⟨⟨?_, fun t ht => ?_, fun t ht => (h1 t ht).1, h2⟩, ?_, fun a ha => ⟨?_, hk.2 a ha⟩⟩
    · have m1 := manyS_len tpS (numS (b, 0) 8).1 (numS (b, 0) 8).2 []
      have m2 := numS_le (b, 0) 8
      simp only [List.length_nil] at m1
      simp only [stS]
      omega
    · have ho := (h1 t ht).1
      simp only [stS] at ht
      rcases manyS_mem _ _ _ _ _ ht with ht | ⟨q, rfl⟩
      · simp at ht
      · exact tpS_fit ho
    · simp only [stS, allS_len, List.length_nil]
    · simp only [stS] at ha
      rcases allS_mem _ _ _ _ _ ha with ha | ⟨q, rfl⟩
      · simp at ha
      · exact anS_fit q
  · cases h

/-- The time of a client's last request. -/
def tm (s : St) (c : Int) : Int := (s.last.getD c.toNat An.zero).time
/-- At most once: what was done is not done again, and is answered as it was; what was not done leaves all as it was. -/
theorem once {s : St} (h : s.last.length = 8) (c t : Int) (o : O) :
    ((appS s c t o).2.2.1 = true → 0 ≤ c ∧ c < 8 ∧ tm s c < t ∧ tm (appS s c t o).2.2.2 c = t ∧ appS (appS s c t o).2.2.2 c t o = ((appS s c t o).1, [], false, (appS s c t o).2.2.2))
    ∧ ((appS s c t o).2.2.1 = false → (appS s c t o).2.1 = [] ∧ (appS s c t o).2.2.2 = s) := by
  unfold tm
  constructor
  · intro hd
    by_cases hb : badArg c t = true
    · rw [appS, if_pos hb] at hd; cases hd
    · obtain ⟨c0, c1, t0, t1⟩ := badArg_no hb
      by_cases h1 : t = (s.last.getD c.toNat An.zero).time
      · rw [appS, if_neg hb] at hd; simp only [if_pos h1] at hd; cases hd
      · by_cases h2 : t < (s.last.getD c.toNat An.zero).time
        · rw [appS, if_neg hb] at hd; simp only [if_neg h1, if_pos h2] at hd; cases hd
        · have e : appS s c t o = ((doesS s.L o).1, (doesS s.L o).2.1, true, ⟨(doesS s.L o).2.2, s.last.set c.toNat ⟨t, (doesS s.L o).1.1, (doesS s.L o).1.2⟩⟩) := by
            rw [appS, if_neg hb]; simp only [if_neg h1, if_neg h2]
          have hg : (s.last.set c.toNat (⟨t, (doesS s.L o).1.1, (doesS s.L o).1.2⟩ : An)).getD c.toNat An.zero = ⟨t, (doesS s.L o).1.1, (doesS s.L o).1.2⟩ := by
            rw [List.getD_eq_getElem?_getD, List.getElem?_set_self (by omega)]; rfl
          rw [e]
          refine ⟨c0, c1, by omega, by simp only [hg], ?_⟩
          rw [appS, if_neg hb]
          simp only [hg, if_true]
  · intro hd
    unfold appS at hd ⊢
    split
    · exact ⟨rfl, rfl⟩
    · rename_i hb
      rw [if_neg hb] at hd
      simp only at hd ⊢
      split
      · exact ⟨rfl, rfl⟩
      · rename_i h1
        rw [if_neg h1] at hd
        split
        · exact ⟨rfl, rfl⟩
        · rename_i h2
          rw [if_neg h2] at hd
          cases hd
/-- No client's time falls. -/
theorem tm_mono {s : St} (h : s.last.length = 8) (c t : Int) (o : O) (c' : Int) (h0 : 0 ≤ c') : tm s c' ≤ tm (appS s c t o).2.2.2 c' := by
  cases hd : (appS s c t o).2.2.1 with
  | false => rw [((once h c t o).2 hd).2]; exact Int.le_refl _
  | true =>
    obtain ⟨c0, c1, h1, h2, -⟩ := (once h c t o).1 hd
    by_cases hc : c' = c
    · subst hc; omega
    · have : tm (appS s c t o).2.2.2 c' = tm s c' := by
        unfold appS tm
        split
        · rfl
        · simp only
          split
          · rfl
          · split
            · rfl
            · simp only [List.getD_eq_getElem?_getD]
              rw [List.getElem?_set_ne (by omega)]
      omega

/-- Which records were given, topic by topic. -/
abbrev Log := Tx → List Tx
def note1 (f : Log) (x : Tx × Int × Tx) : Log := fun n => if n = x.1 then f n ++ [x.2.2] else f n
def note : Log → List (Tx × Int × Tx) → Log
  | f, [] => f
  | f, x :: p => note (note1 f x) p
/-- Each stands at the offset that comes next. -/
def Each : Log → List (Tx × Int × Tx) → Prop
  | _, [] => True
  | f, x :: p => x.2.1 = ((f x.1).length : Int) ∧ Each (note1 f x) p
theorem placed_each (n : Tx) : ∀ (rs : List Tx) (k : Int) (f : Log), k = ((f n).length : Int) → Each f (placed n k rs) ∧ ∀ m, note f (placed n k rs) m = if m = n then f n ++ rs else f m
  | [], k, f, h => ⟨trivial, fun m => by
    simp only [placed, note, List.append_nil]
    split
    · rename_i e; rw [e]
    · rfl⟩
  | r :: rs, k, f, h => by
    have ih := placed_each n rs (k + 1) (note1 f (n, k, r)) (by simp only [note1, if_true, List.length_append, List.length_singleton]; omega)
    refine ⟨⟨h, ih.1⟩, fun m => ?_⟩
    rw [placed, note, ih.2 m]
    simp only [note1, if_true, List.append_assoc, List.singleton_append]
    split
    · rfl
    · rfl
/-- The topics hold what was given, from their bases on. -/
structure LogOk (L : List Tp) (f : Log) : Prop where
  held : ∀ t ∈ L, ((f t.n).length : Int) = t.next ∧ t.recs = (f t.n).drop t.base.toNat
  none : ∀ n, (∀ t ∈ L, t.n ≠ n) → f n = []
theorem LogOk.nil : LogOk [] fun _ => [] := ⟨by simp, fun _ _ => rfl⟩
theorem LogOk.upd {L : List Tp} {f f' : Log} (hl : LogOk L f) (h : GoodL L) {x : Tp} (hx : x ∈ L) (g : Tp → Tp) (hn : (g x).n = x.n) (hf : ∀ m, m ≠ x.n → f' m = f m) (hg : ((f' x.n).length : Int) = (g x).next ∧ (g x).recs = (f' x.n).drop (g x).base.toNat) : LogOk (updT L x.n g) f' := by
  refine ⟨fun t ht => ?_, fun n hno => ?_⟩
  · simp only [updT, List.mem_map] at ht
    obtain ⟨t', ht', rfl⟩ := ht
    by_cases e : t'.n = x.n
    · rw [if_pos e, rt_one h.rises ht' hx e, hn]
      exact hg
    · rw [if_neg e, hf _ e]
      exact hl.held t' ht'
  · have hno' : ∀ t ∈ L, t.n ≠ n := by
      intro t ht e
      have hm := hno (if t.n = x.n then g t else t) (List.mem_map_of_mem ht)
      by_cases e2 : t.n = x.n
      · rw [if_pos e2, rt_one h.rises ht hx e2, hn] at hm
        exact hm (by rw [← e2]; exact e)
      · rw [if_neg e2] at hm
        exact hm e
    rw [hf n (fun e => hno' x hx e.symm)]
    exact hl.none n hno'
/-- It stays: what was given stands at its offset until it is trimmed; offsets are given one by one. -/
theorem doesS_stays {L : List Tp} {f : Log} (h : GoodL L) (hl : LogOk L f) (o : O) : Each f (doesS L o).2.1 ∧ LogOk (doesS L o).2.2 (note f (doesS L o).2.1) := by
  unfold doesS
  split
  · exact ⟨trivial, hl⟩
  · split
    · exact ⟨trivial, hl⟩
    · split
      · split
        · exact ⟨trivial, hl⟩
        · rename_i hf
          split
          · exact ⟨trivial, hl⟩
          · have hno := findT_none (L := L) (s := o.topic) (by simpa using hf)
            refine ⟨trivial, ⟨fun t ht => ?_, fun n hn => ?_⟩⟩
            · rcases mem_insT ht with rfl | ht
              · simp only [note, Tp.next, hl.none _ hno, List.length_nil, Int.toNat_zero, List.drop_nil]
                exact ⟨by omega, trivial⟩
              · exact hl.held t ht
            · exact hl.none n fun t ht => hn t (by
                have key : ∀ K : List Tp, t ∈ K → t ∈ insT ⟨o.topic, 0, [], []⟩ K := by
                  intro K
                  induction K with
                  | nil => intro h; cases h
                  | cons f K ih =>
                    intro hk
                    unfold insT
                    split
                    · rcases List.mem_cons.1 hk with rfl | hk
                      · exact List.mem_cons_self ..
                      · exact List.mem_cons_of_mem _ (ih hk)
                    · exact List.mem_cons_of_mem _ hk
                exact key L ht)
      · split
        · exact ⟨trivial, hl⟩
        · rename_i x hfx
          obtain ⟨hxm, hxn⟩ := findT_some hfx
          obtain ⟨e1, e2⟩ := hl.held x hxm
          have hb := (h.fit x hxm).base
          rw [← hxn]
          split
          · split
            · exact ⟨trivial, hl⟩
            · obtain ⟨p1, p2⟩ := placed_each x.n o.recs x.next f e1.symm
              refine ⟨p1, hl.upd h hxm _ rfl (fun m hm => by rw [p2, if_neg hm]) ⟨?_, ?_⟩⟩
              · rw [p2, if_pos rfl]
                simp only [Tp.next, List.length_append] at e1 ⊢
                omega
              · rw [p2, if_pos rfl]
                show x.recs ++ o.recs = (f x.n ++ o.recs).drop x.base.toNat
                rw [List.drop_append_of_le_length (by simp only [Tp.next] at e1; omega), ← e2]
          · split
            · split
              · exact ⟨trivial, hl⟩
              · split
                · exact ⟨trivial, hl⟩
                · exact ⟨trivial, hl.upd h hxm _ rfl (fun m hm => rfl) ⟨e1, e2⟩⟩
            · split
              · exact ⟨trivial, hl⟩
              · rename_i hq
                refine ⟨trivial, hl.upd h hxm _ rfl (fun m hm => rfl) ⟨?_, ?_⟩⟩
                · show ((f x.n).length : Int) = _
                  rw [e1]
                  simp only [Tp.next, List.length_drop] at hq ⊢
                  omega
                · show x.recs.drop (o.off - x.base).toNat = (f x.n).drop o.off.toNat
                  rw [e2, List.drop_drop]
                  congr 1
                  omega

end Go.Proofs.Ytcmknopgoiabbaa.Tq

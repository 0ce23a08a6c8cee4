/-
  The plain mathematics of layer 7 (topics): what every request keeps.
-/
import Derived.Test.YtkoedonllfmaaaaGreatVP03
import Derived.Test.YtkoedonllfmaaaaGreatVP02
import Derived.Lib.SliceRun
import Derived.Lib.MinMax
import Derived.Lib.SlBytesConst
import Derived.Deep.QuietTactic
import Derived.BigQuiet
import Derived.Deep.RegionWith
import Derived.Deep.RegionHeld3
import Derived.Deep.RegionLaw
import Derived.Deep.DrawnRows
import Derived.Deep.AppendLies
import Derived.Laws.CopyOwn
namespace Go.Proofs.YtkoedonllfmaaaaGreat.Tn
set_option linter.unusedSimpArgs false
open Cm Pm Pz Tm
set_option linter.unusedVariables false

theorem lt_tri {a b : Tx} (h : ¬ a < b) (hne : a ≠ b) : b < a := by
  rcases Classical.em (b < a) with h' | h'
  · exact h'
  · exact absurd (List.le_antisymm (show a ≤ b from h') (show b ≤ a from h)) hne
theorem nil_lt {a : Tx} (h : a ≠ []) : ([] : Tx) < a := by
  cases a with
  | nil => exact absurd rfl h
  | cons x l => exact List.nil_lt_cons x l
theorem name_ne {a : Tx} (h : name a = true) : a ≠ [] := by
  rintro rfl
  revert h
  decide +kernel
/-- Rising names. -/
def RG (gs : List Gp) : Prop := gs.Pairwise fun a b => a.n < b.n
def RT (L : List Tp) : Prop := L.Pairwise fun a b => a.n < b.n
theorem okGs_iff (next : Int) : ∀ (gs : List Gp) (last : Tx), okGs next last gs = true ↔ (∀ g ∈ gs, name g.n = true ∧ g.pos ≤ next ∧ last < g.n) ∧ RG gs
  | [], last => by simp [okGs, RG]
  | g :: gs, last => by
    simp only [okGs, Bool.and_eq_true, decide_eq_true_eq, okGs_iff next gs g.n, RG, List.pairwise_cons, List.forall_mem_cons]
    constructor
    · rintro ⟨⟨⟨h1, h2⟩, h3⟩, h4, h5⟩
      exact ⟨⟨⟨h1, h3, h2⟩, fun x hx => ⟨(h4 x hx).1, (h4 x hx).2.1, List.lt_trans h2 (h4 x hx).2.2⟩⟩, fun x hx => (h4 x hx).2.2, h5⟩
    · rintro ⟨⟨⟨h1, h3, h2⟩, h4⟩, h5, h6⟩
      exact ⟨⟨⟨h1, h2⟩, h3⟩, fun x hx => ⟨(h4 x hx).1, (h4 x hx).2.1, h5 x hx⟩, h6⟩
theorem okTs_iff : ∀ (L : List Tp) (last : Tx), okTs last L = true ↔ (∀ t ∈ L, okT t = true ∧ last < t.n) ∧ RT L
  | [], last => by simp [okTs, RT]
  | t :: L, last => by
    simp only [okTs, Bool.and_eq_true, decide_eq_true_eq, okTs_iff L t.n, RT, List.pairwise_cons, List.forall_mem_cons]
    constructor
    · rintro ⟨⟨h1, h2⟩, h4, h5⟩
      exact ⟨⟨⟨h1, h2⟩, fun x hx => ⟨(h4 x hx).1, List.lt_trans h2 (h4 x hx).2⟩⟩, fun x hx => (h4 x hx).2, h5⟩
    · rintro ⟨⟨⟨h1, h2⟩, h4⟩, h5, h6⟩
      exact ⟨⟨h1, h2⟩, fun x hx => ⟨(h4 x hx).1, h5 x hx⟩, h6⟩
theorem mem_insT {x t : Tp} {L : List Tp} (h : t ∈ insT x L) : t = x ∨ t ∈ L := by
  induction L with
  | nil => simpa [insT] using h
  | cons f L ih =>
    unfold insT at h
    split at h
    · rcases List.mem_cons.1 h with rfl | h
      · exact .inr (List.mem_cons_self ..)
      · exact (ih h).imp id (List.mem_cons_of_mem _)
    · rcases List.mem_cons.1 h with rfl | h
      · exact .inl rfl
      · exact .inr h
theorem len_insT (x : Tp) (L : List Tp) : (insT x L).length = L.length + 1 := by
  induction L with
  | nil => rfl
  | cons f L ih => unfold insT; split <;> simp [ih]
theorem rt_insT {x : Tp} {L : List Tp} (h : RT L) (hx : ∀ t ∈ L, t.n ≠ x.n) : RT (insT x L) := by
  induction L with
  | nil => simp [insT, RT]
  | cons f L ih =>
    have hc := List.pairwise_cons.1 h
    unfold insT
    split
    · rename_i hlt
      refine List.pairwise_cons.2 ⟨fun t ht => ?_, ih hc.2 (fun t ht => hx t (List.mem_cons_of_mem _ ht))⟩
      rcases mem_insT ht with rfl | ht
      · exact hlt
      · exact hc.1 t ht
    · rename_i hlt
      have hf : x.n < f.n := lt_tri hlt (hx f (List.mem_cons_self ..))
      refine List.pairwise_cons.2 ⟨fun t ht => ?_, h⟩
      rcases List.mem_cons.1 ht with rfl | ht
      · exact hf
      · exact List.lt_trans hf (hc.1 t ht)
theorem mem_insG {n : Tx} {k : Int} {g : Gp} {L : List Gp} (h : g ∈ insG n k L) : g = ⟨n, k⟩ ∨ g ∈ L := by
  induction L with
  | nil => simpa [insG] using h
  | cons f L ih =>
    unfold insG at h
    split at h
    · rcases List.mem_cons.1 h with rfl | h
      · exact .inr (List.mem_cons_self ..)
      · exact (ih h).imp id (List.mem_cons_of_mem _)
    · split at h
      · rcases List.mem_cons.1 h with rfl | h
        · exact .inl rfl
        · exact .inr (List.mem_cons_of_mem _ h)
      · rcases List.mem_cons.1 h with rfl | h
        · exact .inl rfl
        · exact .inr h
theorem rg_insG {n : Tx} {k : Int} {L : List Gp} (h : RG L) : RG (insG n k L) := by
  induction L with
  | nil => simp [insG, RG]
  | cons f L ih =>
    have hc := List.pairwise_cons.1 h
    unfold insG
    split
    · rename_i hlt
      refine List.pairwise_cons.2 ⟨fun t ht => ?_, ih hc.2⟩
      rcases mem_insG ht with rfl | ht
      · exact hlt
      · exact hc.1 t ht
    · rename_i hlt
      split
      · rename_i he
        exact List.pairwise_cons.2 ⟨fun t ht => by have := hc.1 t ht; rw [he] at this; exact this, hc.2⟩
      · rename_i hne
        have hf : n < f.n := lt_tri hlt hne
        refine List.pairwise_cons.2 ⟨fun t ht => ?_, h⟩
        rcases List.mem_cons.1 ht with rfl | ht
        · exact hf
        · exact List.lt_trans hf (hc.1 t ht)
theorem pos_none {gs : List Gp} {n : Tx} : pos gs n = none ↔ ∀ g ∈ gs, g.n ≠ n := by simp [pos]
theorem len_insG {n : Tx} {k : Int} {L : List Gp} (h : RG L) : (insG n k L).length ≤ L.length + 1 ∧ (pos L n ≠ none → (insG n k L).length = L.length) := by
  induction L with
  | nil => exact ⟨by simp [insG], fun h => absurd (by simp [pos]) h⟩
  | cons f L ih =>
    have hc := List.pairwise_cons.1 h
    obtain ⟨i1, i2⟩ := ih hc.2
    unfold insG
    split
    · rename_i hlt
      have hne : f.n ≠ n := fun e => by rw [e] at hlt; exact List.lt_irrefl _ hlt
      refine ⟨by simp only [List.length_cons]; omega, fun hp => ?_⟩
      simp only [List.length_cons]
      rw [i2 (fun h0 => hp (by
        rw [pos_none] at h0 ⊢
        intro g hg
        rcases List.mem_cons.1 hg with rfl | hg
        · exact hne
        · exact h0 g hg))]
    · rename_i hlt
      split
      · exact ⟨by simp, fun _ => rfl⟩
      · rename_i hne
        refine ⟨by simp, fun hp => absurd ?_ hp⟩
        have hf : n < f.n := lt_tri hlt hne
        rw [pos_none]
        intro g hg
        rcases List.mem_cons.1 hg with rfl | hg
        · exact hne
        · intro e
          have := List.lt_trans hf (hc.1 g hg)
          rw [e] at this
          exact List.lt_irrefl _ this
theorem findT_some {L : List Tp} {s : Tx} {x : Tp} (h : findT L s = some x) : x ∈ L ∧ x.n = s := ⟨List.mem_of_find?_eq_some h, by simpa using List.find?_some h⟩
theorem findT_none {L : List Tp} {s : Tx} (h : findT L s = none) : ∀ t ∈ L, t.n ≠ s := by simpa [findT] using h
theorem rt_one {L : List Tp} (h : RT L) {t x : Tp} (ht : t ∈ L) (hx : x ∈ L) (e : t.n = x.n) : t = x := by
  induction L with
  | nil => simp at ht
  | cons f L ih =>
    have hc := List.pairwise_cons.1 h
    rcases List.mem_cons.1 ht with h1 | h1 <;> rcases List.mem_cons.1 hx with h2 | h2
    · rw [h1, h2]
    · have := hc.1 x h2; rw [← h1, e] at this; exact absurd this (List.lt_irrefl _)
    · have := hc.1 t h1; rw [← h2, e] at this; exact absurd this (List.lt_irrefl _)
    · exact ih hc.2 h1 h2

/-- Topics that may be. -/
structure GoodL (L : List Tp) : Prop where
  few : L.length ≤ 8
  fit : ∀ t ∈ L, FitT t
  ok : ∀ t ∈ L, okT t = true
  rises : RT L
theorem GoodL.nil : GoodL [] := ⟨by simp, by simp, by simp, List.Pairwise.nil⟩
/-- An answer that may be: no error, or an offset of 0. -/
def GoodR (r : Int × Int) : Prop := told r.1 = true ∧ 0 ≤ r.1 ∧ r.1 ≤ 1024 ∧ 0 ≤ r.2 ∧ r.2 ≤ maxNum ∧ (r.1 = 0 ∨ r.2 = 0)
theorem good_err {e : Int} (h : told e = true) (h0 : 0 ≤ e) (h1 : e ≤ 1024) : GoodR (e, 0) := ⟨h, h0, h1, by simp, by simp [maxNum], .inr rfl⟩
theorem good_off {k : Int} (h0 : 0 ≤ k) (h1 : k ≤ maxNum) : GoodR (0, k) := ⟨rfl, by simp, by simp, h0, h1, .inl rfl⟩
theorem check_told (o : O) : told (check o) = true ∧ 0 ≤ check o ∧ check o ≤ 1024 := by
  unfold check
  repeat' split
  all_goals decide
/-- One topic is turned, and the others stay. -/
theorem GoodL.upd {L : List Tp} (h : GoodL L) {x : Tp} (hx : x ∈ L) (g : Tp → Tp) (hn : (g x).n = x.n) (hf : FitT (g x)) (ho : okT (g x) = true) : GoodL (updT L x.n g) := by
  have key : ∀ t ∈ updT L x.n g, (∃ t' ∈ L, t = t' ∧ t'.n ≠ x.n) ∨ t = g x := by
    intro t ht
    simp only [updT, List.mem_map] at ht
    obtain ⟨t', ht', rfl⟩ := ht
    by_cases e : t'.n = x.n
    · rw [if_pos e]
      rw [rt_one h.rises ht' hx e]
      exact .inr rfl
    · rw [if_neg e]
      exact .inl ⟨t', ht', rfl, e⟩
  have names : ∀ t ∈ L, (if t.n = x.n then g t else t).n = t.n := by
    intro t ht
    split
    · rename_i e
      rw [rt_one h.rises ht hx e, hn]
    · rfl
  refine ⟨by simp only [updT, List.length_map]; exact h.few, fun t ht => ?_, fun t ht => ?_, ?_⟩
  · rcases key t ht with ⟨t', ht', rfl, _⟩ | rfl
    · exact h.fit _ ht'
    · exact hf
  · rcases key t ht with ⟨t', ht', rfl, _⟩ | rfl
    · exact h.ok _ ht'
    · exact ho
  · have : (updT L x.n g).map (·.n) = L.map (·.n) := by
      simp only [updT, List.map_map]
      exact List.map_congr_left fun t ht => names t ht
    have h1 : (L.map (·.n)).Pairwise (· < ·) := List.pairwise_map.2 h.rises
    rw [← this] at h1
    exact List.pairwise_map.1 h1
theorem okT_iff (t : Tp) : okT t = true ↔ name t.n = true ∧ t.next ≤ maxNum ∧ (∀ g ∈ t.gs, name g.n = true ∧ g.pos ≤ t.next) ∧ RG t.gs := by
  simp only [okT, Bool.and_eq_true, decide_eq_true_eq, okGs_iff]
  constructor
  · rintro ⟨⟨h1, h2⟩, h3, h4⟩
    exact ⟨h1, h2, fun g hg => ⟨(h3 g hg).1, (h3 g hg).2.1⟩, h4⟩
  · rintro ⟨h1, h2, h3, h4⟩
    exact ⟨⟨h1, h2⟩, fun g hg => ⟨(h3 g hg).1, (h3 g hg).2, nil_lt (name_ne (h3 g hg).1)⟩, h4⟩

/-- What a request keeps: the topics stay such as may be, and the answer is one that may be. -/
theorem doesS_good {L : List Tp} (h : GoodL L) (o : O) : GoodL (doesS L o).2.2 ∧ GoodR (doesS L o).1 := by
  unfold doesS
  split
  · exact ⟨h, good_err (check_told o).1 (check_told o).2.1 (check_told o).2.2⟩
  · rename_i hc0
    have hc : check o = 0 := Classical.byContradiction hc0
    obtain ⟨l1, l2, l3, l4⟩ := check_lens hc
    obtain ⟨hk, _, hbn, hbr, hbo⟩ := check_ok hc
    split
    · exact ⟨h, good_off (by decide) (by decide)⟩
    · rename_i k0
      have hT : hasT o.kind = true := by
        rcases kind_cases hk with e | e | e | e | e
        · exact absurd e k0
        all_goals (rw [e]; rfl)
      have hnm : name o.topic = true := by
        have := hbn
        simp only [badName, hT, Bool.true_and, Bool.or_eq_false_iff, Bool.not_eq_false'] at this
        exact this.1
      split
      · rename_i k1
        split
        · exact ⟨h, good_err rfl (by decide) (by decide)⟩
        · rename_i hf
          split
          · exact ⟨h, good_err rfl (by decide) (by decide)⟩
          · rename_i h8
            have hno := findT_none (L := L) (s := o.topic) (by simpa using hf)
            refine ⟨⟨by rw [len_insT]; omega, fun t ht => ?_, fun t ht => ?_, rt_insT h.rises hno⟩, good_off (by decide) (by decide)⟩
            · rcases mem_insT ht with rfl | ht
              · exact ⟨by have := l1 hT; simp only; omega, by simp, by simp [Tp.next, maxNum], by simp, by simp, by simp, by simp⟩
              · exact h.fit t ht
            · rcases mem_insT ht with rfl | ht
              · rw [okT_iff]
                exact ⟨hnm, by simp [Tp.next, maxNum], by simp, List.Pairwise.nil⟩
              · exact h.ok t ht
      · rename_i k1
        split
        · exact ⟨h, good_err rfl (by decide) (by decide)⟩
        · rename_i x hfx
          obtain ⟨hxm, hxn⟩ := findT_some hfx
          have fx := h.fit x hxm
          obtain ⟨o1, o2, o3, o4⟩ := (okT_iff x).1 (h.ok x hxm)
          have hb := fx.base
          rw [← hxn]
          split
          · rename_i k2
            split
            · exact ⟨h, good_err rfl (by decide) (by decide)⟩
            · rename_i hq
              have hR : hasR o.kind = true := by rw [k2]; rfl
              obtain ⟨_, q4, qx, _⟩ := l4 hR
              have hnx : ({ x with recs := x.recs ++ o.recs } : Tp).next = x.next + o.recs.length := by simp only [Tp.next, List.length_append]; omega
              refine ⟨h.upd hxm _ rfl ⟨fx.n, fx.base, by rw [hnx]; omega, by simp only [List.length_append]; omega, fun r hr => ?_, fx.groups, fx.g⟩ ?_, good_off (by simp only [Tp.next]; omega) o2⟩
              · rcases List.mem_append.1 hr with hr | hr
                · exact fx.each r hr
                · have := qx r hr; omega
              · rw [okT_iff]
                refine ⟨o1, by rw [hnx]; omega, fun g hg => ⟨(o3 g hg).1, ?_⟩, o4⟩
                have := (o3 g hg).2
                rw [hnx]; omega
          · rename_i k2
            have hO : hasO o.kind = true := by
              rcases kind_cases hk with e | e | e | e | e
              · exact absurd e k0
              · exact absurd e k1
              · exact absurd e k2
              all_goals (rw [e]; rfl)
            have hoff := l3 hO
            split
            · rename_i k3
              have hG : hasG o.kind = true := by rw [k3]; rfl
              have hgn : name o.group = true := by
                have := hbn
                simp only [badName, hG, Bool.true_and, Bool.or_eq_false_iff, Bool.not_eq_false'] at this
                exact this.2
              split
              · exact ⟨h, good_err rfl (by decide) (by decide)⟩
              · rename_i hq
                split
                · exact ⟨h, good_err rfl (by decide) (by decide)⟩
                · rename_i hg8
                  have hlen := len_insG (n := o.group) (k := o.off) o4
                  have fg := fx.groups
                  refine ⟨h.upd hxm _ rfl ⟨fx.n, fx.base, fx.next, fx.few, fx.each, ?_, fun g hg => ?_⟩ ?_, good_off hoff.1 (by simp only [maxNum]; omega)⟩
                  · show (insG o.group o.off x.gs).length ≤ 8
                    by_cases hp : pos x.gs o.group = none
                    · have := hlen.1
                      have : ¬ 8 ≤ x.gs.length := fun h8 => hg8 ⟨hp, h8⟩
                      omega
                    · rw [hlen.2 hp]; exact fg
                  · rcases mem_insG hg with rfl | hg
                    · exact ⟨by have := l2 hG; simp only; omega, hoff.1, by simp only [maxNum]; omega⟩
                    · exact fx.g g hg
                  · rw [okT_iff]
                    refine ⟨o1, o2, fun g hg => ?_, rg_insG o4⟩
                    rcases mem_insG hg with rfl | hg
                    · exact ⟨hgn, by show o.off ≤ x.next; omega⟩
                    · exact o3 g hg
            · split
              · exact ⟨h, good_err rfl (by decide) (by decide)⟩
              · rename_i hq
                have hnx : ({ x with base := o.off, recs := x.recs.drop (o.off - x.base).toNat } : Tp).next = x.next := by
                  simp only [Tp.next, List.length_drop] at hq ⊢
                  omega
                refine ⟨h.upd hxm _ rfl ⟨fx.n, hoff.1, by rw [hnx]; exact o2, by have := fx.few; simp only [List.length_drop]; omega, fun r hr => fx.each r (List.mem_of_mem_drop hr), fx.groups, fx.g⟩ ?_, good_off hoff.1 (by simp only [maxNum]; omega)⟩
                rw [okT_iff]
                exact ⟨o1, by rw [hnx]; exact o2, fun g hg => ⟨(o3 g hg).1, by rw [hnx]; exact (o3 g hg).2⟩, o4⟩

end Go.Proofs.YtkoedonllfmaaaaGreat.Tn

/-
  The plain mathematics of layer 7 (topics): the whole machine: what a request keeps, what is read of stB, at most once, what stays.
-/
namespace Go.Proofs.YtkoedonllfmaaaaGreat.Tq
set_option linter.unusedSimpArgs false
open Cm Pm Pz Tm Tn
set_option linter.unusedVariables false

/-- A machine that may be. -/
structure GoodS (s : St) : Prop where
  L : GoodL s.L
  eight : s.last.length = 8
  a : ∀ a ∈ s.last, FitA a ∧ okA a = true
theorem GoodS.zero : GoodS St.zero := ⟨GoodL.nil, by simp [St.zero], fun a ha => by
  have : a = An.zero := by simpa [St.zero] using ha
  subst this
  exact ⟨⟨⟨by decide, by decide⟩, ⟨by decide, by decide⟩, ⟨by decide, by decide⟩⟩, by decide⟩⟩
theorem badArg_no {c t : Int} (h : ¬ badArg c t = true) : 0 ≤ c ∧ c < 8 ∧ 1 ≤ t ∧ t ≤ maxNum := by
  simp only [badArg, Bool.or_eq_true, decide_eq_true_eq, not_or] at h
  omega
theorem appS_good {s : St} (h : GoodS s) (c t : Int) (o : O) : GoodS (appS s c t o).2.2.2 := by
  unfold appS
  split
  · exact h
  · rename_i hb
    obtain ⟨c0, c1, t0, t1⟩ := badArg_no hb
    simp only
    split
    · exact h
    · split
      · exact h
      · obtain ⟨g1, g2⟩ := doesS_good h.L o
        refine ⟨g1, by simp only [List.length_set]; exact h.eight, fun a ha => ?_⟩
        rcases List.mem_or_eq_of_mem_set ha with ha | rfl
        · exact h.a a ha
        · obtain ⟨r1, r2, r3, r4, r5, r6⟩ := g2
          refine ⟨⟨⟨by simp only; omega, t1⟩, ⟨r2, r3⟩, ⟨r4, r5⟩⟩, ?_⟩
          have hz : (0 : Int) < t := by omega
          simp only [okA, r1, Bool.true_and, hz, decide_true, Bool.true_or, Bool.and_true, Bool.or_eq_true, beq_iff_eq]
          exact r6
theorem GoodS.fit {s : St} (h : GoodS s) : Fit s := ⟨h.L.few, h.L.fit, h.eight, fun a ha => (h.a a ha).1⟩
theorem GoodS.ok {s : St} (h : GoodS s) : okS s = true := by
  simp only [okS, Bool.and_eq_true, List.all_eq_true]
  refine ⟨(okTs_iff _ _).2 ⟨fun t ht => ⟨h.L.ok t ht, nil_lt (name_ne ((okT_iff t).1 (h.L.ok t ht)).1)⟩, h.L.rises⟩, fun a ha => (h.a a ha).2⟩
theorem manyS_len {α : Type} (f : RS → α × RS) : ∀ (n : Nat) (s : RS) (acc : List α), (manyS f n s acc).1.length ≤ acc.length + n
  | 0, s, acc => by simp [manyS]
  | n + 1, s, acc => by
    unfold manyS
    split
    · simp only; omega
    · have := manyS_len f n (f s).2 (acc ++ [(f s).1])
      simp only [List.length_append, List.length_singleton] at this
      omega
theorem manyS_mem {α : Type} (f : RS → α × RS) : ∀ (n : Nat) (s : RS) (acc : List α) (x : α), x ∈ (manyS f n s acc).1 → x ∈ acc ∨ ∃ r, x = (f r).1
  | 0, s, acc, x, h => .inl h
  | n + 1, s, acc, x, h => by
    unfold manyS at h
    split at h
    · exact .inl h
    · rcases manyS_mem f n _ _ x h with h | h
      · rcases List.mem_append.1 h with h | h
        · exact .inl h
        · exact .inr ⟨s, by simpa using h⟩
      · exact .inr h
theorem allS_len {α : Type} (f : RS → α × RS) : ∀ (n : Nat) (s : RS) (acc : List α), (allS f n s acc).1.length = acc.length + n
  | 0, s, acc => by simp [allS]
  | n + 1, s, acc => by
    unfold allS
    rw [allS_len f n]
    simp only [List.length_append, List.length_singleton]
    omega
theorem allS_mem {α : Type} (f : RS → α × RS) : ∀ (n : Nat) (s : RS) (acc : List α) (x : α), x ∈ (allS f n s acc).1 → x ∈ acc ∨ ∃ r, x = (f r).1
  | 0, s, acc, x, h => .inl h
  | n + 1, s, acc, x, h => by
    unfold allS at h
    rcases allS_mem f n _ _ x h with h | h
    · rcases List.mem_append.1 h with h | h
      · exact .inl h
      · exact .inr ⟨s, by simpa using h⟩
    · exact .inr h
theorem takeS_fst (s : RS) (n : Int) : ((takeS s n).1.length : Int) ≤ max n 0 := by
  unfold takeS
  split
  · simp only [List.length_nil]; omega
  · split
    · simp only [List.length_nil]; omega
    · split
      · simp only [List.length_nil]; omega
      · simp only [List.length_take]; omega
theorem bytesS_fst (s : RS) (m : Int) (hm : 0 ≤ m) : ((bytesS s m).1.length : Int) ≤ m := by
  have h1 := takeS_fst (numS s m.toNat).2 ((numS s m.toNat).1 : Int)
  have h2 := numS_le s m.toNat
  unfold bytesS
  omega
theorem gpS_fit {r : RS} (h : name (gpS r).1.n = true) : FitG (gpS r).1 := by
  have h2 := numS_le (bytesS r 1024).2 9007199254740992
  exact ⟨(name_len h).1, by simp only [gpS]; omega, by simp only [gpS, maxNum]; omega⟩
theorem tpS_fit {r : RS} (h : okT (tpS r).1 = true) : FitT (tpS r).1 := by
  obtain ⟨o1, o2, o3, o4⟩ := (okT_iff _).1 h
  have l1 := manyS_len (fun r => bytesS r 64) (numS (numS (bytesS r 1024).2 9007199254740992).2 64).1 (numS (numS (bytesS r 1024).2 9007199254740992).2 64).2 []
  have l2 := numS_le (numS (bytesS r 1024).2 9007199254740992).2 64
  refine ⟨(name_len o1).1, by simp only [tpS]; omega, o2, ?_, fun x hx => ?_, ?_, fun g hg => ?_⟩
  · simp only [tpS, rcS]
    simp only [List.length_nil] at l1
    omega
  · simp only [tpS, rcS] at hx
    rcases manyS_mem _ _ _ _ _ hx with hx | ⟨q, rfl⟩
    · simp at hx
    · have := bytesS_fst q 64 (by decide)
      omega
  · simp only [tpS, gpsS]
    have m1 := manyS_len gpS (numS (rcS (numS (bytesS r 1024).2 9007199254740992).2).2 8).1 (numS (rcS (numS (bytesS r 1024).2 9007199254740992).2).2 8).2 []
    have m2 := numS_le (rcS (numS (bytesS r 1024).2 9007199254740992).2).2 8
    simp only [List.length_nil] at m1
    omega
  · have hn := (o3 g hg).1
    simp only [tpS, gpsS] at hg
    rcases manyS_mem _ _ _ _ _ hg with hg | ⟨q, rfl⟩
    · simp at hg
    · exact gpS_fit hn
theorem anS_fit (r : RS) : FitA (anS r).1 := by
  have h1 := numS_le r 9007199254740992
  have h2 := numS_le (numS r 9007199254740992).2 1024
  have h3 := numS_le (numS (numS r 9007199254740992).2 1024).2 9007199254740992
  refine ⟨⟨?_, ?_⟩, ⟨?_, ?_⟩, ⟨?_, ?_⟩⟩
  all_goals (simp only [anS, maxNum]; omega)
/-- What is read is a machine that may be. -/
theorem stP_good {b : Tx} {s : St} (h : stP b = some s) : GoodS s := by
  unfold stP at h
  split at h
  · rename_i hk
    obtain rfl := Option.some.inj h
    obtain ⟨hk, -⟩ := hk
    simp only [okS, Bool.and_eq_true, List.all_eq_true] at hk
    obtain ⟨h1, h2⟩ := (okTs_iff _ _).1 hk.1
    refine ⟨⟨?_, fun t ht => ?_, fun t ht => (h1 t ht).1, h2⟩, ?_, fun a ha => ⟨?_, hk.2 a ha⟩⟩
    · have m1 := manyS_len tpS (numS (b, 0) 8).1 (numS (b, 0) 8).2 []
      have m2 := numS_le (b, 0) 8
      simp only [List.length_nil] at m1
      simp only [stS]
      omega
    · have ho := (h1 t ht).1
      simp only [stS] at ht
      rcases manyS_mem _ _ _ _ _ ht with ht | ⟨q, rfl⟩
      · simp at ht
      · exact tpS_fit ho
    · simp only [stS, allS_len, List.length_nil]
    · simp only [stS] at ha
      rcases allS_mem _ _ _ _ _ ha with ha | ⟨q, rfl⟩
      · simp at ha
      · exact anS_fit q
  · cases h

/-- The time of a client's last request. -/
def tm (s : St) (c : Int) : Int := (s.last.getD c.toNat An.zero).time
/-- Which records were given, topic by topic. -/
abbrev Log := Tx → List Tx
def note1 (f : Log) (x : Tx × Int × Tx) : Log := fun n => if n = x.1 then f n ++ [x.2.2] else f n
/-- The topics hold what was given, from their bases on. -/
structure LogOk (L : List Tp) (f : Log) : Prop where
  held : ∀ t ∈ L, ((f t.n).length : Int) = t.next ∧ t.recs = (f t.n).drop t.base.toNat
  none : ∀ n, (∀ t ∈ L, t.n ≠ n) → f n = []
theorem LogOk.nil : LogOk [] fun _ => [] := ⟨by simp, fun _ _ => rfl⟩
theorem LogOk.upd {L : List Tp} {f f' : Log} (hl : LogOk L f) (h : GoodL L) {x : Tp} (hx : x ∈ L) (g : Tp → Tp) (hn : (g x).n = x.n) (hf : ∀ m, m ≠ x.n → f' m = f m) (hg : ((f' x.n).length : Int) = (g x).next ∧ (g x).recs = (f' x.n).drop (g x).base.toNat) : LogOk (updT L x.n g) f' := by
  refine ⟨fun t ht => ?_, fun n hno => ?_⟩
  · simp only [updT, List.mem_map] at ht
    obtain ⟨t', ht', rfl⟩ := ht
    by_cases e : t'.n = x.n
    · rw [if_pos e, rt_one h.rises ht' hx e, hn]
      exact hg
    · rw [if_neg e, hf _ e]
      exact hl.held t' ht'
  · have hno' : ∀ t ∈ L, t.n ≠ n := by
      intro t ht e
      have hm := hno (if t.n = x.n then g t else t) (List.mem_map_of_mem ht)
      by_cases e2 : t.n = x.n
      · rw [if_pos e2, rt_one h.rises ht hx e2, hn] at hm
        exact hm (by rw [← e2]; exact e)
      · rw [if_neg e2] at hm
        exact hm e
    rw [hf n (fun e => hno' x hx e.symm)]
    exact hl.none n hno'
end Go.Proofs.YtkoedonllfmaaaaGreat.Tq

/-
  Contracts of bytes.Clone and bytes.Equal; cuts of a slice of bytes; for any layer.
-/
namespace Go.Proofs.YtkoedonllfmaaaaGreat.Ga
set_option linter.unusedSimpArgs false
set_option linter.unusedVariables false
open Go Go.RowKit Ck Kw

theorem info_u8 : (Tryz.prog.info? 5).map (fun i => (i.zero, i.size, i.bytes)) = some (some (.int .u8 0), 1, 1) := by kernel_rfl
set_option maxHeartbeats 400000 in
theorem clone_any (X : Nat → Prop) (v : Value) (n : Nat) (b : List UInt8) (w : World) (hv : Sl w X 1 v n (BVs b)) (hn : n ≤ 549755813888) :
    Calls Tryz.prog 41 #[v] w fun e w' => Made w 5 b e w' := by
  have hnl : n = b.length := by obtain ⟨A, c, _, h, _⟩ := hv; rw [BVs_len] at h; omega
  subst hnl
  obtain ⟨i0, hi0, hz0, hz1, hz2⟩ := info_parts info_u8
  have hv' := hv
  obtain ⟨A, c, rfl, -⟩ := hv'
  have heq := fun (W : World) => Lib.run_eql_slice_nil (P := Tryz.prog) W 49 5 A b.length c 0 0 Tryz.underlying49
  rcases A with _ | ad
  · obtain ⟨h0, _⟩ := hv.none_
    have hb : b = [] := List.eq_nil_of_length_eq_zero h0
    subst hb
    simp only [List.length_nil] at heq
    clear hv h0
    go_enter Tryz.func41, Tryz.ntmps41
    go_wp2
    go_ret
    exact ⟨_, rfl, World.ownsRow_nil _ _ _ _, Below.refl _ _⟩
  · go_enter Tryz.func41, Tryz.ntmps41
    go_wp2_with (at_builtin; refine wpList_append_sl _ rfl (.tmp 5) (.tmp 6) _ rfl w.heap.size 5 i0 _ 1 1 Tryz.underlying49 hi0 hz0 hz1 hz2 rfl (by omega) (.slice (some ⟨w.heap.size, 0, none⟩) 0 0) 0 [] rfl (World.ownsRow_made w #[] 0 (Nat.le_refl _) (by simp only [maxLen]; omega) rfl) X _ b.length (BVs b) rfl (hv.alloc _) (BVs_one _) (by simp only [maxLen]; omega) (by omega) (by simp) ?_; intro v2 w2 happ)
    go_ret
    refine ⟨v2, rfl, by simpa using happ.1, ?_⟩
    exact ((Below.refl _ _).alloc (Nat.le_refl _) _).grown happ.2.1 (by simp) (by simp [Value.ownBlock])

theorem clone_sh (X : Nat → Prop) (v : Value) (n : Nat) (b : List UInt8) (w : World) (hv : Sl w X 1 v n (BVs b)) (hn : n ≤ 549755813888) :
    Calls Tryz.prog 41 #[v] w fun e w' => ∃ A c, e = .returned (.slice A b.length c) ∧ w'.ownsRow w.heap.size 5 1 (.slice A b.length c) b.length (BVs b) ∧ Below w.heap.size w w' := by
  refine (clone_any X v n b w hv hn).mono ?_
  rintro e w' ⟨v2, rfl, ho, hb⟩
  obtain ⟨A, c, rfl⟩ := own_shape ho
  exact ⟨A, c, rfl, ho, hb⟩

theorem below_of_drew {B : Nat} {w w2 : World} (h : Below B w.drew w2) : Below B w w2 := ⟨h.os, h.tape, h.output, h.size, h.block⟩
theorem ch_of_drew {S : Nat → Prop} {w w2 : World} (h : Ch S w.drew w2) : Ch S w w2 := ⟨h.os, h.tape, h.output, h.size, h.block⟩

theorem wrap64 {z : Int} (h : -9223372036854775808 ≤ z) (h' : z ≤ 9223372036854775807) : IntKind.i64.wrap z = z := by
  simp [IntKind.wrap, IntKind.bits, IntKind.signed]
  split <;> omega

/-- A cut from k on, and a cut up to k, of a slice of bytes. -/
theorem slice_from (A : Option Addr) (n c k : Nat) (hk : k ≤ n) (hc : n ≤ c) : ∃ A', (∀ W : World, (Instr.slice 49 (.slice A n c) (some (.int .i64 (k : Int))) none none).run Tryz.prog W = .ok (.slice A' (n - k) (c - k)) W) ∧ (∀ ad, A = some ad → k < n → A' = some (ad.add (k * 1))) := by
  have he : ∀ W : World, (sizeOf (Tryz.prog.elem 49)).run Tryz.prog W = .ok 1 W := fun _ => by kernel_rfl
  refine ⟨if c = k then A else A.map (·.add (k * 1)), fun W => ?_, ?_⟩
  · rw [run_slice_l W 49 A n c (by kernel_rfl) .i64 k (by omega) (by omega), he]
    rfl
  · rintro ad rfl hlt
    rw [if_neg (by omega)]
    rfl
theorem slice_upto (A : Option Addr) (n c k : Nat) (hk : k ≤ c) (W : World) : (Instr.slice 49 (.slice A n c) none (some (.int .i64 (k : Int))) none).run Tryz.prog W = .ok (.slice A k c) W := by
  have he : ∀ W : World, (sizeOf (Tryz.prog.elem 49)).run Tryz.prog W = .ok 1 W := fun _ => by kernel_rfl
  rw [run_slice_h W 49 A n c (by kernel_rfl) .i64 k (by omega) (by omega), he]
  simp only [Result.andThen_ok, sliced, Int.toNat_natCast]
  congr 2
  by_cases h0 : c = 0
  · simp [h0]
  · cases A <;> simp [h0, Addr.add]

theorem equal_any (w : World) (X Y : Nat → Prop) (va vb : Value) (n m : Nat) (l k : List UInt8) (ha : Sl w X 1 va n (BVs l)) (hb : Sl w Y 1 vb m (BVs k)) :
    Calls Tryz.prog 16 #[va, vb] w fun e w' => e = .returned (.bool (l == k)) ∧ w = w' := by
  have hn : n = l.length := by obtain ⟨A, c, _, h, _⟩ := ha; rw [BVs_len] at h; omega
  have hm : m = k.length := by obtain ⟨A, c, _, h, _⟩ := hb; rw [BVs_len] at h; omega
  subst hn; subst hm
  have ha' := ha
  have hb' := hb
  obtain ⟨A, c, rfl, -⟩ := ha'
  obtain ⟨B, d, rfl, -⟩ := hb'
  have c1 := run_convert_sl (P := Tryz.prog) w X 49 9 5 A c l Tryz.underlying49 Tryz.underlying5 Tryz.underlying9 ha
  have c2 := run_convert_sl (P := Tryz.prog) w Y 49 9 5 B d k Tryz.underlying49 Tryz.underlying5 Tryz.underlying9 hb
  clear ha hb
  go_enter Tryz.func16, Tryz.ntmps16
  go_wp2
  go_ret
  exact ⟨rfl, rfl⟩

end Go.Proofs.YtkoedonllfmaaaaGreat.Ga

/-
  The plain mathematics of layer 7 (topics): what every request keeps.
-/
import Derived.Test.YtkoedonllfmaaaaGreatVD03
import Derived.Test.YtkoedonllfmaaaaGreatVD02
import Derived.Lib.SliceRun
import Derived.Lib.MinMax
import Derived.Lib.SlBytesConst
import Derived.Deep.QuietTactic
import Derived.BigQuiet
import Derived.Deep.RegionWith
import Derived.Deep.RegionHeld3
import Derived.Deep.RegionLaw
import Derived.Deep.DrawnRows
import Derived.Deep.AppendLies
import Derived.Laws.CopyOwn
import Derived.Outline
namespace Go.Proofs.YtkoedonllfmaaaaGreat.Tn
set_option linter.unusedSimpArgs false
open Cm Pm Pz Tm
set_option linter.unusedVariables false

theorem lt_tri {a b : Tx} (h : ¬ a < b) (hne : a ≠ b) : b < a := by
  rcases Classical.em (b < a) with h' | h'
  · exact h'
  · exact absurd (List.le_antisymm (show a ≤ b from h') (show b ≤ a from h)) hne
theorem nil_lt {a : Tx} (h : a ≠ []) : ([] : Tx) < a := by
  cases a with
  | nil => exact absurd rfl h
  | cons x l => exact List.nil_lt_cons x l
theorem name_ne {a : Tx} (h : name a = true) : a ≠ [] := by
  rintro rfl
  revert h
  decide +kernel
/-- Rising names. -/
def RG (gs : List Gp) : Prop := gs.Pairwise fun a b => a.n < b.n
def RT (L : List Tp) : Prop := L.Pairwise fun a b => a.n < b.n
theorem okGs_iff (next : Int) : ∀ (gs : List Gp) (last : Tx), okGs next last gs = true ↔ (∀ g ∈ gs, name g.n = true ∧ g.pos ≤ next ∧ last < g.n) ∧ RG gs
  | [], last => by simp [okGs, RG]
  | g :: gs, last => by
    simp only [okGs, Bool.and_eq_true, decide_eq_true_eq, okGs_iff next gs g.n, RG, List.pairwise_cons, List.forall_mem_cons]
    constructor
    · rintro ⟨⟨⟨h1, h2⟩, h3⟩, h4, h5⟩
      exact ⟨⟨⟨h1, h3, h2⟩, fun x hx => ⟨(h4 x hx).1, (h4 x hx).2.1, List.lt_trans h2 (h4 x hx).2.2⟩⟩, fun x hx => (h4 x hx).2.2, h5⟩
    · rintro ⟨⟨⟨h1, h3, h2⟩, h4⟩, h5, h6⟩
      exact ⟨⟨⟨h1, h2⟩, h3⟩, fun x hx => ⟨(h4 x hx).1, (h4 x hx).2.1, h5 x hx⟩, h6⟩
theorem okTs_iff : ∀ (L : List Tp) (last : Tx), okTs last L = true ↔ (∀ t ∈ L, okT t = true ∧ last < t.n) ∧ RT L
  | [], last => by simp [okTs, RT]
  | t :: L, last => by
    simp only [okTs, Bool.and_eq_true, decide_eq_true_eq, okTs_iff L t.n, RT, List.pairwise_cons, List.forall_mem_cons]
    constructor
    · rintro ⟨⟨h1, h2⟩, h4, h5⟩
      exact ⟨⟨⟨h1, h2⟩, fun x hx => ⟨(h4 x hx).1, List.lt_trans h2 (h4 x hx).2⟩⟩, fun x hx => (h4 x hx).2, h5⟩
    · rintro ⟨⟨⟨h1, h2⟩, h4⟩, h5, h6⟩
      exact ⟨⟨h1, h2⟩, fun x hx => ⟨(h4 x hx).1, h5 x hx⟩, h6⟩
theorem mem_insT {x t : Tp} {L : List Tp} (h : t ∈ insT x L) : t = x ∨ t ∈ L := by
  induction L with
  | nil => simpa [insT] using h
  | cons f L ih =>
    unfold insT at h
    split at h
    · rcases List.mem_cons.1 h with rfl | h
      · exact .inr (List.mem_cons_self ..)
      · exact (ih h).imp id (List.mem_cons_of_mem _)
    · rcases List.mem_cons.1 h with rfl | h
      · exact .inl rfl
      · exact .inr h
theorem len_insT (x : Tp) (L : List Tp) : (insT x L).length = L.length + 1 := by
  induction L with
  | nil => rfl
  | cons f L ih => unfold insT; split <;> simp [ih]
theorem rt_insT {x : Tp} {L : List Tp} (h : RT L) (hx : ∀ t ∈ L, t.n ≠ x.n) : RT (insT x L) := by
  induction L with
  | nil => simp [insT, RT]
  | cons f L ih =>
    have hc := List.pairwise_cons.1 h
    unfold insT
    split
    · rename_i hlt
      refine List.pairwise_cons.2 ⟨fun t ht => ?_, ih hc.2 (fun t ht => hx t (List.mem_cons_of_mem _ ht))⟩
      rcases mem_insT ht with rfl | ht
      · exact hlt
      · exact hc.1 t ht
    · rename_i hlt
      have hf : x.n < f.n := lt_tri hlt (hx f (List.mem_cons_self ..))
      refine List.pairwise_cons.2 ⟨fun t ht => ?_, h⟩
      rcases List.mem_cons.1 ht with rfl | ht
      · exact hf
      · exact List.lt_trans hf (hc.1 t ht)
theorem mem_insG {n : Tx} {k : Int} {g : Gp} {L : List Gp} (h : g ∈ insG n k L) : g = ⟨n, k⟩ ∨ g ∈ L := by
  induction L with
  | nil => simpa [insG] using h
  | cons f L ih =>
    unfold insG at h
    split at h
    · rcases List.mem_cons.1 h with rfl | h
      · exact .inr (List.mem_cons_self ..)
      · exact (ih h).imp id (List.mem_cons_of_mem _)
    · split at h
      · rcases List.mem_cons.1 h with rfl | h
        · exact .inl rfl
        · exact .inr (List.mem_cons_of_mem _ h)
      · rcases List.mem_cons.1 h with rfl | h
        · exact .inl rfl
        · exact .inr h
theorem rg_insG {n : Tx} {k : Int} {L : List Gp} (h : RG L) : RG (insG n k L) := by
  induction L with
  | nil => simp [insG, RG]
  | cons f L ih =>
    have hc := List.pairwise_cons.1 h
    unfold insG
    split
    · rename_i hlt
      refine List.pairwise_cons.2 ⟨fun t ht => ?_, ih hc.2⟩
      rcases mem_insG ht with rfl | ht
      · exact hlt
      · exact hc.1 t ht
    · rename_i hlt
      split
      · rename_i he
        exact List.pairwise_cons.2 ⟨fun t ht => by have := hc.1 t ht; rw [he] at this; exact this, hc.2⟩
      · rename_i hne
        have hf : n < f.n := lt_tri hlt hne
        refine List.pairwise_cons.2 ⟨fun t ht => ?_, h⟩
        rcases List.mem_cons.1 ht with rfl | ht
        · exact hf
        · exact List.lt_trans hf (hc.1 t ht)
theorem pos_none {gs : List Gp} {n : Tx} : pos gs n = none ↔ ∀ g ∈ gs, g.n ≠ n := by simp [pos]
theorem len_insG {n : Tx} {k : Int} {L : List Gp} (h : RG L) : (insG n k L).length ≤ L.length + 1 ∧ (pos L n ≠ none → (insG n k L).length = L.length) := by
  induction L with
  | nil => exact ⟨by simp [insG], fun h => absurd (by simp [pos]) h⟩
  | cons f L ih =>
    have hc := List.pairwise_cons.1 h
    obtain ⟨i1, i2⟩ := ih hc.2
    unfold insG
    split
    · rename_i hlt
      have hne : f.n ≠ n := fun e => by rw [e] at hlt; exact List.lt_irrefl _ hlt
      refine ⟨by simp only [List.length_cons]; omega, fun hp => ?_⟩
      simp only [List.length_cons]
      rw [i2 (fun h0 => hp (by
        rw [pos_none] at h0 ⊢
        intro g hg
        rcases List.mem_cons.1 hg with rfl | hg
        · exact hne
        · exact h0 g hg))]
    · rename_i hlt
      split
      · exact ⟨by simp, fun _ => rfl⟩
      · rename_i hne
        refine ⟨by simp, fun hp => absurd ?_ hp⟩
        have hf : n < f.n := lt_tri hlt hne
        rw [pos_none]
        intro g hg
        rcases List.mem_cons.1 hg with rfl | hg
        · exact hne
        · intro e
          have := List.lt_trans hf (hc.1 g hg)
          rw [e] at this
          exact List.lt_irrefl _ this
theorem findT_some {L : List Tp} {s : Tx} {x : Tp} (h : findT L s = some x) : x ∈ L ∧ x.n = s := ⟨List.mem_of_find?_eq_some h, by simpa using List.find?_some h⟩
theorem findT_none {L : List Tp} {s : Tx} (h : findT L s = none) : ∀ t ∈ L, t.n ≠ s := by simpa [findT] using h
theorem rt_one {L : List Tp} (h : RT L) {t x : Tp} (ht : t ∈ L) (hx : x ∈ L) (e : t.n = x.n) : t = x := by
  induction L with
  | nil => simp at ht
  | cons f L ih =>
    have hc := List.pairwise_cons.1 h
    rcases List.mem_cons.1 ht with h1 | h1 <;> rcases List.mem_cons.1 hx with h2 | h2
    · rw [h1, h2]
    · have := hc.1 x h2; rw [← h1, e] at this; exact absurd this (List.lt_irrefl _)
    · have := hc.1 t h1; rw [← h2, e] at this; exact absurd this (List.lt_irrefl _)
    · exact ih hc.2 h1 h2

/-- Topics that may be. -/
structure GoodL (L : List Tp) : Prop where
  few : L.length ≤ 8
  fit : ∀ t ∈ L, FitT t
  ok : ∀ t ∈ L, okT t = true
  rises : RT L
theorem GoodL.nil : GoodL [] := ⟨by simp, by simp, by simp, List.Pairwise.nil⟩
/-- An answer that may be: no error, or an offset of 0. -/
def GoodR (r : Int × Int) : Prop := told r.1 = true ∧ 0 ≤ r.1 ∧ r.1 ≤ 1024 ∧ 0 ≤ r.2 ∧ r.2 ≤ maxNum ∧ (r.1 = 0 ∨ r.2 = 0)
theorem good_err {e : Int} (h : told e = true) (h0 : 0 ≤ e) (h1 : e ≤ 1024) : GoodR (e, 0) := ⟨h, h0, h1, by simp, by simp [maxNum], .inr rfl⟩
theorem good_off {k : Int} (h0 : 0 ≤ k) (h1 : k ≤ maxNum) : GoodR (0, k) := ⟨rfl, by simp, by simp, h0, h1, .inl rfl⟩
theorem check_told (o : O) : told (check o) = true ∧ 0 ≤ check o ∧ check o ≤ 1024 := by
  unfold check
  repeat' split
  all_goals decide
/-- One topic is turned, and the others stay. -/
theorem GoodL.upd {L : List Tp} (h : GoodL L) {x : Tp} (hx : x ∈ L) (g : Tp → Tp) (hn : (g x).n = x.n) (hf : FitT (g x)) (ho : okT (g x) = true) : GoodL (updT L x.n g) := by
  have key : ∀ t ∈ updT L x.n g, (∃ t' ∈ L, t = t' ∧ t'.n ≠ x.n) ∨ t = g x := by
    intro t ht
    simp only [updT, List.mem_map] at ht
    obtain ⟨t', ht', rfl⟩ := ht
    by_cases e : t'.n = x.n
    · rw [if_pos e]
      rw [rt_one h.rises ht' hx e]
      exact .inr rfl
    · rw [if_neg e]
      exact .inl ⟨t', ht', rfl, e⟩
  have names : ∀ t ∈ L, (if t.n = x.n then g t else t).n = t.n := by
    intro t ht
    split
    · rename_i e
      rw [rt_one h.rises ht hx e, hn]
    · rfl
  refine ⟨by simp only [updT, List.length_map]; exact h.few, fun t ht => ?_, fun t ht => ?_, ?_⟩
  · rcases key t ht with ⟨t', ht', rfl, _⟩ | rfl
    · exact h.fit _ ht'
    · exact hf
  · rcases key t ht with ⟨t', ht', rfl, _⟩ | rfl
    · exact h.ok _ ht'
    · exact ho
  · have : (updT L x.n g).map (·.n) = L.map (·.n) := by
      simp only [updT, List.map_map]
      exact List.map_congr_left fun t ht => names t ht
    have h1 : (L.map (·.n)).Pairwise (· < ·) := List.pairwise_map.2 h.rises
    rw [← this] at h1
    exact List.pairwise_map.1 h1
theorem okT_iff (t : Tp) : okT t = true ↔ name t.n = true ∧ t.next ≤ maxNum ∧ (∀ g ∈ t.gs, name g.n = true ∧ g.pos ≤ t.next) ∧ RG t.gs := by
  simp only [okT, Bool.and_eq_true, decide_eq_true_eq, okGs_iff]
  constructor
  · rintro ⟨⟨h1, h2⟩, h3, h4⟩
    exact ⟨h1, h2, fun g hg => ⟨(h3 g hg).1, (h3 g hg).2.1⟩, h4⟩
  · rintro ⟨h1, h2, h3, h4⟩
    exact ⟨⟨h1, h2⟩, fun g hg => ⟨(h3 g hg).1, (h3 g hg).2, nil_lt (name_ne (h3 g hg).1)⟩, h4⟩

/-- What a request keeps: the topics stay such as may be, and the answer is one that may be. -/
theorem doesS_good {L : List Tp} (h : GoodL L) (o : O) : GoodL (doesS L o).2.2 ∧ GoodR (doesS L o).1 := by
  unfold doesS
  split
  · exact ⟨h, good_err (check_told o).1 (check_told o).2.1 (check_told o).2.2⟩
  · rename_i hc0
    have hc : check o = 0 := Classical.byContradiction hc0
    obtain ⟨l1, l2, l3, l4⟩ := check_lens hc
    obtain ⟨hk, _, hbn, hbr, hbo⟩ := check_ok hc
    split
    · exact ⟨h, good_off (by decide) (by decide)⟩
    · rename_i k0
      have hT : hasT o.kind = true := by
        rcases kind_cases hk with e | e | e | e | e
        · exact absurd e k0
        all_goals (rw [e]; rfl)
      have hnm : name o.topic = true := by
        have := hbn
        simp only [badName, hT, Bool.true_and, Bool.or_eq_false_iff, Bool.not_eq_false'] at this
        exact this.1
      split
      · rename_i k1
        split
        · exact ⟨h, good_err rfl (by decide) (by decide)⟩
        · rename_i hf
          split
          · exact ⟨h, good_err rfl (by decide) (by decide)⟩
          · rename_i h8
            have hno := findT_none (L := L) (s := o.topic) (by simpa using hf)
            refine ⟨⟨by rw [len_insT]; omega, fun t ht => ?_, fun t ht => ?_, rt_insT h.rises hno⟩, good_off (by decide) (by decide)⟩
            · rcases mem_insT ht with rfl | ht
              · exact ⟨by have := l1 hT; simp only; omega, by simp, by simp [Tp.next, maxNum], by simp, by simp, by simp, by simp⟩
              · exact h.fit t ht
            · rcases mem_insT ht with rfl | ht
              · rw [okT_iff]
                exact ⟨hnm, by simp [Tp.next, maxNum], by simp, List.Pairwise.nil⟩
              · exact h.ok t ht
      · rename_i k1
        split
        · exact ⟨h, good_err rfl (by decide) (by decide)⟩
        · rename_i x hfx
          obtain ⟨hxm, hxn⟩ := findT_some hfx
          have fx := h.fit x hxm
          obtain ⟨o1, o2, o3, o4⟩ := (okT_iff x).1 (h.ok x hxm)
          have hb := fx.base
          rw [← hxn]
          split
          · rename_i k2
            split
            · exact ⟨h, good_err rfl (by decide) (by decide)⟩
            · rename_i hq
              have hR : hasR o.kind = true := by rw [k2]; rfl
              obtain ⟨_, q4, qx, _⟩ := l4 hR
              have hnx : ({ x with recs := x.recs ++ o.recs } : Tp).next = x.next + o.recs.length := by simp only [Tp.next, List.length_append]; omega
              refine ⟨h.upd hxm _ rfl ⟨fx.n, fx.base, by rw [hnx]; omega, by simp only [List.length_append]; omega, fun r hr => ?_, fx.groups, fx.g⟩ ?_, good_off (by simp only [Tp.next]; omega) o2⟩
              · rcases List.mem_append.1 hr with hr | hr
                · exact fx.each r hr
                · have := qx r hr; omega
              · rw [okT_iff]
                refine ⟨o1, by rw [hnx]; omega, fun g hg => ⟨(o3 g hg).1, ?_⟩, o4⟩
                have := (o3 g hg).2
                rw [hnx]; omega
          · rename_i k2
            have hO : hasO o.kind = true := by
              rcases kind_cases hk with e | e | e | e | e
              · exact absurd e k0
              · exact absurd e k1
              · exact absurd e k2
              all_goals (rw [e]; rfl)
            have hoff := l3 hO
            split
            · rename_i k3
              have hG : hasG o.kind = true := by rw [k3]; rfl
              have hgn : name o.group = true := by
                have := hbn
                simp only [badName, hG, Bool.true_and, Bool.or_eq_false_iff, Bool.not_eq_false'] at this
                exact this.2
              split
              · exact ⟨h, good_err rfl (by decide) (by decide)⟩
              · rename_i hq
                split
                · exact ⟨h, good_err rfl (by decide) (by decide)⟩
                · rename_i hg8
                  have hlen := len_insG (n := o.group) (k := o.off) o4
                  have fg := fx.groups
                  refine ⟨h.upd hxm _ rfl ⟨fx.n, fx.base, fx.next, fx.few, fx.each, ?_, fun g hg => ?_⟩ ?_, good_off hoff.1 (by simp only [maxNum]; omega)⟩
                  · show (insG o.group o.off x.gs).length ≤ 8
                    by_cases hp : pos x.gs o.group = none
                    · have := hlen.1
                      have : ¬ 8 ≤ x.gs.length := fun h8 => hg8 ⟨hp, h8⟩
                      omega
                    · rw [hlen.2 hp]; exact fg
                  · rcases mem_insG hg with rfl | hg
                    · exact ⟨by have := l2 hG; simp only; omega, hoff.1, by simp only [maxNum]; omega⟩
                    · exact fx.g g hg
                  · rw [okT_iff]
                    refine ⟨o1, o2, fun g hg => ?_, rg_insG o4⟩
                    rcases mem_insG hg with rfl | hg
                    · exact ⟨hgn, by show o.off ≤ x.next; omega⟩
                    · exact o3 g hg
            · split
              · exact ⟨h, good_err rfl (by decide) (by decide)⟩
              · rename_i hq
                have hnx : ({ x with base := o.off, recs := x.recs.drop (o.off - x.base).toNat } : Tp).next = x.next := by
                  simp only [Tp.next, List.length_drop] at hq ⊢
                  omega
                refine ⟨h.upd hxm _ rfl ⟨fx.n, hoff.1, by rw [hnx]; exact o2, by have := fx.few; simp only [List.length_drop]; omega, fun r hr => fx.each r (List.mem_of_mem_drop hr), fx.groups, fx.g⟩ ?_, good_off hoff.1 (by simp only [maxNum]; omega)⟩
                rw [okT_iff]
                exact ⟨o1, by rw [hnx]; exact o2, fun g hg => ⟨(o3 g hg).1, by rw [hnx]; exact (o3 g hg).2⟩, o4⟩

end Go.Proofs.YtkoedonllfmaaaaGreat.Tn

/-
  The plain mathematics of layer 7 (topics): the whole machine: what a request keeps, what is read of stB, at most once, what stays.
-/
namespace Go.Proofs.YtkoedonllfmaaaaGreat.Tq
set_option linter.unusedSimpArgs false
open Cm Pm Pz Tm Tn
set_option linter.unusedVariables false

/-- A machine that may be. -/
structure GoodS (s : St) : Prop where
  L : GoodL s.L
  eight : s.last.length = 8
  a : ∀ a ∈ s.last, FitA a ∧ okA a = true
theorem GoodS.zero : GoodS St.zero := ⟨GoodL.nil, by simp [St.zero], fun a ha => by
  have : a = An.zero := by simpa [St.zero] using ha
  subst this
  exact ⟨⟨⟨by decide, by decide⟩, ⟨by decide, by decide⟩, ⟨by decide, by decide⟩⟩, by decide⟩⟩
theorem badArg_no {c t : Int} (h : ¬ badArg c t = true) : 0 ≤ c ∧ c < 8 ∧ 1 ≤ t ∧ t ≤ maxNum := by
  simp only [badArg, Bool.or_eq_true, decide_eq_true_eq, not_or] at h
  omega
theorem appS_good {s : St} (h : GoodS s) (c t : Int) (o : O) : GoodS (appS s c t o).2.2.2 := by
  unfold appS
  split
  · exact h
  · rename_i hb
    obtain ⟨c0, c1, t0, t1⟩ := badArg_no hb
    simp only
    split
    · exact h
    · split
      · exact h
      · obtain ⟨g1, g2⟩ := doesS_good h.L o
        refine ⟨g1, by simp only [List.length_set]; exact h.eight, fun a ha => ?_⟩
        rcases List.mem_or_eq_of_mem_set ha with ha | rfl
        · exact h.a a ha
        · obtain ⟨r1, r2, r3, r4, r5, r6⟩ := g2
          refine ⟨⟨⟨by simp only; omega, t1⟩, ⟨r2, r3⟩, ⟨r4, r5⟩⟩, ?_⟩
          have hz : (0 : Int) < t := by omega
          simp only [okA, r1, Bool.true_and, hz, decide_true, Bool.true_or, Bool.and_true, Bool.or_eq_true, beq_iff_eq]
          exact r6
theorem GoodS.fit {s : St} (h : GoodS s) : Fit s := ⟨h.L.few, h.L.fit, h.eight, fun a ha => (h.a a ha).1⟩
theorem GoodS.ok {s : St} (h : GoodS s) : okS s = true := by
  simp only [okS, Bool.and_eq_true, List.all_eq_true]
  refine ⟨(okTs_iff _ _).2 ⟨fun t ht => ⟨h.L.ok t ht, nil_lt (name_ne ((okT_iff t).1 (h.L.ok t ht)).1)⟩, h.L.rises⟩, fun a ha => (h.a a ha).2⟩
/-- The time of a client's last request. -/
def tm (s : St) (c : Int) : Int := (s.last.getD c.toNat An.zero).time
/-- Which records were given, topic by topic. -/
abbrev Log := Tx → List Tx
def note1 (f : Log) (x : Tx × Int × Tx) : Log := fun n => if n = x.1 then f n ++ [x.2.2] else f n
/-- The topics hold what was given, from their bases on. -/
structure LogOk (L : List Tp) (f : Log) : Prop where
  held : ∀ t ∈ L, ((f t.n).length : Int) = t.next ∧ t.recs = (f t.n).drop t.base.toNat
  none : ∀ n, (∀ t ∈ L, t.n ≠ n) → f n = []
theorem LogOk.nil : LogOk [] fun _ => [] := ⟨by simp, fun _ _ => rfl⟩
theorem LogOk.upd {L : List Tp} {f f' : Log} (hl : LogOk L f) (h : GoodL L) {x : Tp} (hx : x ∈ L) (g : Tp → Tp) (hn : (g x).n = x.n) (hf : ∀ m, m ≠ x.n → f' m = f m) (hg : ((f' x.n).length : Int) = (g x).next ∧ (g x).recs = (f' x.n).drop (g x).base.toNat) : LogOk (updT L x.n g) f' := by
  refine ⟨fun t ht => ?_, fun n hno => ?_⟩
  · simp only [updT, List.mem_map] at ht
    obtain ⟨t', ht', rfl⟩ := ht
    by_cases e : t'.n = x.n
    · rw [if_pos e, rt_one h.rises ht' hx e, hn]
      exact hg
    · rw [if_neg e, hf _ e]
      exact hl.held t' ht'
  · have hno' : ∀ t ∈ L, t.n ≠ n := by
      intro t ht e
      have hm := hno (if t.n = x.n then g t else t) (List.mem_map_of_mem ht)
      by_cases e2 : t.n = x.n
      · rw [if_pos e2, rt_one h.rises ht hx e2, hn] at hm
        exact hm (by rw [← e2]; exact e)
      · rw [if_neg e2] at hm
        exact hm e
    rw [hf n (fun e => hno' x hx e.symm)]
    exact hl.none n hno'
end Go.Proofs.YtkoedonllfmaaaaGreat.Tq

/-
  Contracts of bytes.Clone and bytes.Equal; cuts of a slice of bytes; for any layer.
-/
namespace Go.Proofs.YtkoedonllfmaaaaGreat.Ga
set_option linter.unusedSimpArgs false
set_option linter.unusedVariables false
open Go Go.RowKit Ck Kw

theorem info_u8 : (Tryz.prog.info? 5).map (fun i => (i.zero, i.size, i.bytes)) = some (some (.int .u8 0), 1, 1) := by kernel_rfl
set_option maxHeartbeats 400000 in
theorem clone_any (X : Nat → Prop) (v : Value) (n : Nat) (b : List UInt8) (w : World) (hv : Sl w X 1 v n (BVs b)) (hn : n ≤ 549755813888) :
    Calls Tryz.prog 41 #[v] w fun e w' => Made w 5 b e w' := by
  have hnl : n = b.length := by obtain ⟨A, c, _, h, _⟩ := hv; rw [BVs_len] at h; omega
  subst hnl
  obtain ⟨i0, hi0, hz0, hz1, hz2⟩ := info_parts info_u8
  have hv' := hv
  obtain ⟨A, c, rfl, -⟩ := hv'
  have heq := fun (W : World) => Lib.run_eql_slice_nil (P := Tryz.prog) W 49 5 A b.length c 0 0 Tryz.underlying49
  rcases A with _ | ad
  · obtain ⟨h0, _⟩ := hv.none_
    have hb : b = [] := List.eq_nil_of_length_eq_zero h0
    subst hb
    simp only [List.length_nil] at heq
    clear hv h0
    go_enter Tryz.func41, Tryz.ntmps41
    go_wp2
    go_ret
    exact ⟨_, rfl, World.ownsRow_nil _ _ _ _, Below.refl _ _⟩
  · go_enter Tryz.func41, Tryz.ntmps41
    go_wp2_with (at_builtin; refine wpList_append_sl _ rfl (.tmp 5) (.tmp 6) _ rfl w.heap.size 5 i0 _ 1 1 Tryz.underlying49 hi0 hz0 hz1 hz2 rfl (by omega) (.slice (some ⟨w.heap.size, 0, none⟩) 0 0) 0 [] rfl (World.ownsRow_made w #[] 0 (Nat.le_refl _) (by simp only [maxLen]; omega) rfl) X _ b.length (BVs b) rfl (hv.alloc _) (BVs_one _) (by simp only [maxLen]; omega) (by omega) (by simp) ?_; intro v2 w2 happ)
    go_ret
    refine ⟨v2, rfl, by simpa using happ.1, ?_⟩
    exact ((Below.refl _ _).alloc (Nat.le_refl _) _).grown happ.2.1 (by simp) (by simp [Value.ownBlock])

theorem clone_sh (X : Nat → Prop) (v : Value) (n : Nat) (b : List UInt8) (w : World) (hv : Sl w X 1 v n (BVs b)) (hn : n ≤ 549755813888) :
    Calls Tryz.prog 41 #[v] w fun e w' => ∃ A c, e = .returned (.slice A b.length c) ∧ w'.ownsRow w.heap.size 5 1 (.slice A b.length c) b.length (BVs b) ∧ Below w.heap.size w w' := by
  refine (clone_any X v n b w hv hn).mono ?_
  rintro e w' ⟨v2, rfl, ho, hb⟩
  obtain ⟨A, c, rfl⟩ := own_shape ho
  exact ⟨A, c, rfl, ho, hb⟩

theorem below_of_drew {B : Nat} {w w2 : World} (h : Below B w.drew w2) : Below B w w2 := ⟨h.os, h.tape, h.output, h.size, h.block⟩
theorem ch_of_drew {S : Nat → Prop} {w w2 : World} (h : Ch S w.drew w2) : Ch S w w2 := ⟨h.os, h.tape, h.output, h.size, h.block⟩

theorem wrap64 {z : Int} (h : -9223372036854775808 ≤ z) (h' : z ≤ 9223372036854775807) : IntKind.i64.wrap z = z := by
  simp [IntKind.wrap, IntKind.bits, IntKind.signed]
  split <;> omega

theorem equal_any (w : World) (X Y : Nat → Prop) (va vb : Value) (n m : Nat) (l k : List UInt8) (ha : Sl w X 1 va n (BVs l)) (hb : Sl w Y 1 vb m (BVs k)) :
    Calls Tryz.prog 16 #[va, vb] w fun e w' => e = .returned (.bool (l == k)) ∧ w = w' := by
  have hn : n = l.length := by obtain ⟨A, c, _, h, _⟩ := ha; rw [BVs_len] at h; omega
  have hm : m = k.length := by obtain ⟨A, c, _, h, _⟩ := hb; rw [BVs_len] at h; omega
  subst hn; subst hm
  have ha' := ha
  have hb' := hb
  obtain ⟨A, c, rfl, -⟩ := ha'
  obtain ⟨B, d, rfl, -⟩ := hb'
  have c1 := run_convert_sl (P := Tryz.prog) w X 49 9 5 A c l Tryz.underlying49 Tryz.underlying5 Tryz.underlying9 ha
  have c2 := run_convert_sl (P := Tryz.prog) w Y 49 9 5 B d k Tryz.underlying49 Tryz.underlying5 Tryz.underlying9 hb
  clear ha hb
  go_enter Tryz.func16, Tryz.ntmps16
  go_wp2
  go_ret
  exact ⟨rfl, rfl⟩

end Go.Proofs.YtkoedonllfmaaaaGreat.Ga

/-
  Words for memory of the program's topics; New, made, find, isClient, next.
-/
namespace Go.Proofs.YtkoedonllfmaaaaGreat.Aa
set_option linter.unusedSimpArgs false
open Go Go.RowKit Ck Kw Ga Kf Km Pm Pz Tm Tn Tq
attribute [local go_sem ↓] Go.wp_at_zero Go.wp_at_succ
set_option linter.unusedVariables false

/-- An answer's cells. -/
def AC (a : An) : List Value := [.int .i64 a.time, .int .i64 a.err, .int .i64 a.off]
def ACs (l : List An) : List Value := l.flatMap AC
theorem AC_len (x : An) : (AC x).length = 3 := rfl
/-- Records: a row whose elements lie in R. -/
def Rs (w : World) (R : Nat → Prop) (v : Value) (rs : List Tx) : Prop :=
  ∃ vals, w.ownsRow 0 55 1 v rs.length vals ∧ ∀ i (hi : i < rs.length), ∃ u, vals[i]? = some u ∧ Sl w (fun k => ¬ R k) 1 u rs[i].length (BVs rs[i])
/-- What a map of groups tells. -/
def TellsG (D : DataW Unit) (gs : List Gp) : Prop :=
  (∀ s : Tx, Maps.has D (.string s) = (pos gs s).isSome) ∧ ∀ s k, pos gs s = some k → ∀ zd, D.atKey (.string s) zd = .lit (.int .i64 k)
def Gs (w : World) (m : Nat) (gs : List Gp) : Prop := ∃ D, w.ownsMap Tryz.prog 9 inElem m (Maps.size D) D ∧ TellsG D gs
/-- Block g is a topic: v its records, mg its groups; what may be written of it lies in T. -/
structure Tg (w : World) (T R : Nat → Prop) (g : Nat) (t : Tp) (v : Value) (mg : Nat) : Prop where
  blk : Blk w g 102 #[.int .i64 t.base, v, .map (some mg)]
  recs : Rs w R v t.recs
  gs : Gs w mg t.gs
  tg : T g
  tv : ∀ k, v.ownBlock = some k → T k
  tm : T mg
/-- What the map of topics tells: where each lies. -/
def TellsT (D : DataW Unit) (L : List Tp) (G : Tx → Nat) : Prop :=
  (∀ s : Tx, Maps.has D (.string s) = (findT L s).isSome) ∧ ∀ t ∈ L, ∀ zd, D.atKey (.string t.n) zd = .lit (.int .i64 (G t.n : Int))
/-- Topics, laid open. -/
structure TP (w : World) (S R : Nat → Prop) (p m : Nat) (s : St) (D : DataW Unit) (G : Tx → Nat) (V : Tx → Value) (M : Tx → Nat) (T : Tx → Nat → Prop) : Prop where
  blk : Blk w p 66 (.map (some m) :: ACs s.last).toArray
  sp : S p
  own : w.ownsMap Tryz.prog 9 ptrElem m (Maps.size D) D
  tells : TellsT D s.L G
  sm : S m ∧ m ≠ p
  top : ∀ t ∈ s.L, Tg w (T t.n) R (G t.n) t (V t.n) (M t.n)
  sub : ∀ t ∈ s.L, ∀ k, T t.n k → S k ∧ k ≠ p ∧ k ≠ m ∧ k < w.heap.size
  apart : ∀ t ∈ s.L, ∀ u ∈ s.L, t.n ≠ u.n → ∀ k, T t.n k → T u.n k → False
  rs : ∀ k, R k → ¬ S k ∧ k < w.heap.size
  good : GoodS s
/-- Block p is topics: what may be written of them lies in S, the bytes of their records in R. -/
def Tz (w : World) (S R : Nat → Prop) (p : Nat) (s : St) : Prop := ∃ m D G V M T, TP w S R p m s D G V M T
section
variable {w w' : World} {S R T X : Nat → Prop} {p m g mg : Nat} {s : St} {t : Tp} {v : Value} {D : DataW Unit} {G : Tx → Nat} {V : Tx → Value} {M : Tx → Nat} {F : Tx → Nat → Prop} {rs : List Tx} {gs : List Gp}
theorem Rs.ch (h : Rs w R v rs) (c : Ch X w w') (hv : ∀ k, v.ownBlock = some k → ¬ X k) (hr : ∀ k, R k → ¬ X k) : Rs w' R v rs := by
  obtain ⟨vals, h1, h2⟩ := h
  refine ⟨vals, own_ch h1 c hv, fun i hi => ?_⟩
  obtain ⟨u, hu, h3⟩ := h2 i hi
  exact ⟨u, hu, h3.ch c (fun k _ hk hR => hr k hR hk)⟩
theorem Rs.more {R' : Nat → Prop} (h : Rs w R v rs) (hr : ∀ k, R k → R' k) : Rs w R' v rs := by
  obtain ⟨vals, h1, h2⟩ := h
  refine ⟨vals, h1, fun i hi => ?_⟩
  obtain ⟨u, hu, h3⟩ := h2 i hi
  exact ⟨u, hu, h3.weaken (fun k _ hk hR => hk (hr k hR))⟩
theorem Rs.nil (w : World) (R : Nat → Prop) : Rs w R (.slice none 0 0) [] := ⟨[], World.ownsRow_nil _ _ _ _, fun i hi => absurd hi (by simp)⟩
theorem Gs.ch (h : Gs w m gs) (c : Ch X w w') (hm : ¬ X m) : Gs w' m gs := by
  obtain ⟨D, h1, h2⟩ := h
  exact ⟨D, map_ch h1 c hm, h2⟩
theorem Tg.ch (h : Tg w T R g t v mg) (c : Ch X w w') (hd : ∀ k, T k → ¬ X k) (hr : ∀ k, R k → ¬ X k) : Tg w' T R g t v mg :=
  ⟨h.blk.ch c (hd _ h.tg), h.recs.ch c (fun k hk => hd _ (h.tv k hk)) hr, h.gs.ch c (hd _ h.tm), h.tg, h.tv, h.tm⟩
theorem Tg.more {R' T' : Nat → Prop} (h : Tg w T R g t v mg) (hr : ∀ k, R k → R' k) (ht : ∀ k, T k → T' k) : Tg w T' R' g t v mg :=
  ⟨h.blk, h.recs.more hr, h.gs, ht _ h.tg, fun k hk => ht _ (h.tv k hk), ht _ h.tm⟩
theorem TP.shut (h : TP w S R p m s D G V M F) : Tz w S R p s := ⟨m, D, G, V, M, F, h⟩
theorem TP.ch (h : TP w S R p m s D G V M F) (c : Ch X w w') (hd : ∀ k, S k → ¬ X k) (hr : ∀ k, R k → ¬ X k) : TP w' S R p m s D G V M F :=
  ⟨h.blk.ch c (hd _ h.sp), h.sp, map_ch h.own c (hd _ h.sm.1), h.tells, h.sm, fun t ht => (h.top t ht).ch c (fun k hk => hd _ (h.sub t ht k hk).1) hr,
    fun t ht k hk => ⟨(h.sub t ht k hk).1, (h.sub t ht k hk).2.1, (h.sub t ht k hk).2.2.1, Nat.lt_of_lt_of_le (h.sub t ht k hk).2.2.2 c.size⟩, h.apart, fun k hk => ⟨(h.rs k hk).1, Nat.lt_of_lt_of_le (h.rs k hk).2 c.size⟩, h.good⟩
theorem TP.later (h : TP w S R p m s D G V M F) (b : Below w.heap.size w w') : TP w' S R p m s D G V M F :=
  h.ch (Ch.of_below (S := fun _ => False) b (Nat.le_refl _)) (fun _ _ h => h) (fun _ _ h => h)
theorem Tz.ch (h : Tz w S R p s) (c : Ch X w w') (hd : ∀ k, S k → ¬ X k) (hr : ∀ k, R k → ¬ X k) : Tz w' S R p s := by
  obtain ⟨m, D, G, V, M, F, h⟩ := h
  exact (h.ch c hd hr).shut
theorem Tz.later (h : Tz w S R p s) (b : Below w.heap.size w w') : Tz w' S R p s := by
  obtain ⟨m, D, G, V, M, F, h⟩ := h
  exact (h.later b).shut
theorem Tz.good (h : Tz w S R p s) : GoodS s := by
  obtain ⟨m, D, G, V, M, F, h⟩ := h
  exact h.good
theorem TP.names (h : TP w S R p m s D G V M F) : (s.L.map (·.n)).Nodup := by
  have h1 : (s.L.map (·.n)).Pairwise (· < ·) := List.pairwise_map.2 h.good.L.rises
  exact h1.imp (fun {a b} hab e => by rw [e] at hab; exact List.lt_irrefl _ hab)
theorem isSome_find {L : List Tp} {x : Tx} : (findT L x).isSome = true ↔ x ∈ L.map (·.n) := by
  rw [List.mem_map]
  constructor
  · intro h
    obtain ⟨t, ht⟩ := Option.isSome_iff_exists.1 h
    exact ⟨t, (findT_some ht).1, (findT_some ht).2⟩
  · rintro ⟨t, ht, rfl⟩
    cases hf : findT L t.n with
    | none => exact absurd rfl (findT_none hf t ht)
    | some _ => rfl
theorem TP.size (h : TP w S R p m s D G V M F) : Maps.size D = s.L.length := by
  rw [size_names h.own h.names (fun x => by rw [h.tells.1, isSome_find]), List.length_map]
theorem zero_ptr (w : World) : (zeroValue 83).run Tryz.prog w = .ok (.pointer none) w := by kernel_rfl
/-- The map's look-up. -/
theorem TP.look (h : TP w S R p m s D G V M F) (x : Tx) (hx : x.length ≤ 140737488355328) :
    (Instr.lookup 61 (.map (some m)) (.string ⟨x.toArray⟩) true).run Tryz.prog w = .ok (.tuple #[PV ((findT s.L x).map fun t => G t.n), .bool (findT s.L x).isSome]) w := by
  obtain ⟨v, ps, hrun, hv⟩ := h.own.look_ok law_str Tryz.underlying61 (zero_ptr w) (zd := .nil) (zp := []) ptrElem_nil (key_str x (by simp only [maxLen]; omega))
  rw [h.tells.1 x] at hrun
  rw [hrun]
  cases hf : findT s.L x with
  | some t =>
    obtain ⟨ht, rfl⟩ := findT_some hf
    rw [h.tells.2 t ht] at hv
    rw [ptrElem_at hv]
    rfl
  | none =>
    rw [has_atKey (by rw [h.tells.1, hf]; rfl)] at hv
    obtain ⟨o, rfl, hz⟩ := ptrElem_inv hv
    cases o with
    | none => rfl
    | some g =>
      have h1 := congrArg Prod.fst hz
      cases h1
theorem TP.cell0 (h : TP w S R p m s D G V M F) : w.cell? ⟨p, 0, none⟩ = some (.map (some m)) := by
  have := h.blk.cell 0
  simpa using this
theorem TP.len8 (h : TP w S R p m s D G V M F) : s.last.length = 8 := h.good.eight
/-- A client's cells. -/
theorem TP.cellA (h : TP w S R p m s D G V M F) {i : Nat} (hi : i < s.last.length) : w.cell? ⟨p, 1 + i * 3, none⟩ = some (.int .i64 s.last[i].time) ∧ w.cell? ⟨p, 1 + i * 3 + 1, none⟩ = some (.int .i64 s.last[i].err) ∧ w.cell? ⟨p, 1 + i * 3 + 2, none⟩ = some (.int .i64 s.last[i].off) := by
  have key : ∀ j, j < 3 → w.cell? ⟨p, 1 + i * 3 + j, none⟩ = (AC s.last[i])[j]? := fun j hj => by
    have := h.blk.cell (1 + i * 3 + j)
    rw [this, List.getElem?_toArray, show 1 + i * 3 + j = (i * 3 + j) + 1 from by omega, List.getElem?_cons_succ]
    exact flat_get AC_len s.last i hi j hj
  exact ⟨key 0 (by omega), key 1 (by omega), key 2 (by omega)⟩
end

/-- Topics that no call made. -/
def Un (w : World) (v : Value) : Prop := v = .pointer none ∨ ∃ p l, v = .pointer (some ⟨p, 0, none⟩) ∧ Blk w p 66 (.map none :: l).toArray
theorem Un.later {w w' : World} {v : Value} (h : Un w v) (b : Below w.heap.size w w') : Un w' v := by
  rcases h with h | ⟨p, l, h, hb⟩
  · exact .inl h
  · exact .inr ⟨p, l, h, hb.below b hb.lt⟩
theorem made_on (w : World) (S R : Nat → Prop) (p : Nat) (s : St) (h : Tz w S R p s) :
    Calls Tryz.prog 17 #[.pointer (some ⟨p, 0, none⟩)] w fun e w' => e = .returned (.bool true) ∧ w = w' := by
  obtain ⟨m, D, G, V, M, F, hP⟩ := h
  have c0 := hP.cell0
  have hq := fun W => run_neq_map_nil (P := Tryz.prog) W 61 9 83 (some m) Tryz.underlying61
  clear hP
  go_enter Tryz.func17, Tryz.ntmps17
  go_wp2
  go_ret
  exact ⟨rfl, rfl⟩
set_option maxRecDepth 100000 in
theorem find_on (w : World) (S R : Nat → Prop) (p m : Nat) (s : St) (D : DataW Unit) (G : Tx → Nat) (V : Tx → Value) (M : Tx → Nat) (F : Tx → Nat → Prop) (x : Tx) (hx : x.length ≤ 140737488355328) (h : TP w S R p m s D G V M F) :
    Calls Tryz.prog 39 #[.pointer (some ⟨p, 0, none⟩), .string ⟨x.toArray⟩] w fun e w' => e = .returned (.tuple #[PV ((findT s.L x).map fun t => G t.n), .int .i64 (if (findT s.L x).isSome then 0 else 4)]) ∧ w = w' := by
  have HM := Lib.hid (made_on w S R p s h.shut)
  have c0 := h.cell0
  have e2 := h.look x hx
  clear h hx
  cases hf : findT s.L x with
  | some t =>
    rw [hf] at e2
    unfold PV at e2 ⊢
    simp only [Option.map_some, Option.isSome_some] at e2 ⊢
    clear hf
    go_enter Tryz.func39, Tryz.ntmps39
    go_wp2_with (go_at_call 17; refine HM.out.mono ?_; rintro e w' ⟨rfl, rfl⟩)
    go_ret2
    exact ⟨rfl, rfl⟩
  | none =>
    rw [hf] at e2
    unfold PV at e2 ⊢
    simp only [Option.map_none, Option.isSome_none] at e2 ⊢
    clear hf
    go_enter Tryz.func39, Tryz.ntmps39
    go_wp2_with (go_at_call 17; refine HM.out.mono ?_; rintro e w' ⟨rfl, rfl⟩)
    go_ret2
    exact ⟨rfl, rfl⟩
theorem client_any (w : World) (c : Int) : Calls Tryz.prog 18 #[.int .i64 c] w fun e w' => e = .returned (.bool (decide (0 ≤ c) && decide (c < 8))) ∧ w = w' := by
  by_cases h0 : 0 ≤ c
  · have h1 : decide (0 ≤ c) = true := decide_eq_true h0
    go_enter Tryz.func18, Tryz.ntmps18
    go_wp2
    go_ret
    exact ⟨by simp [h0], rfl⟩
  · have h1 : decide (0 ≤ c) = false := decide_eq_false h0
    have h2 : c < 0 := by omega
    go_enter Tryz.func18, Tryz.ntmps18
    go_wp2
    go_ret
    exact ⟨by simp [h0], rfl⟩
theorem wrap_next {t : Tp} (h0 : 0 ≤ t.base) (h1 : t.next ≤ maxNum) : IntKind.i64.wrap (t.base + (t.recs.length : Int)) = t.next := by
  simp only [Tp.next, maxNum] at h1
  rw [Tp.next]
  exact Ga.wrap64 (by omega) (by omega)
theorem next_any (w : World) (T R : Nat → Prop) (g : Nat) (t : Tp) (v : Value) (mg : Nat) (h : Tg w T R g t v mg) (h0 : 0 ≤ t.base) (h1 : t.next ≤ maxNum) :
    Calls Tryz.prog 40 #[.pointer (some ⟨g, 0, none⟩)] w fun e w' => e = .returned (.int .i64 t.next) ∧ Below w.heap.size w w' := by
  have b := h.blk
  obtain ⟨vals, hr, -⟩ := h.recs
  obtain ⟨A, c, rfl⟩ := own_shape hr
  have c0 : w.cell? ⟨g, 0, none⟩ = some (.int .i64 t.base) := b.cell 0
  have c1 : w.cell? ⟨g, 1, none⟩ = some (.slice A t.recs.length c) := b.cell 1
  have hw := wrap_next h0 h1
  clear h b hr
  go_enter Tryz.func40, Tryz.ntmps40
  go_wp2_with fail
  go_quiet (fail)
  go_wp2_with fail
  go_ret
  exact ⟨by first | rfl | (rw [← hw]; rfl), below_drewN (Below.refl _ _) _⟩
end Go.Proofs.YtkoedonllfmaaaaGreat.Aa

/-
  Contracts of the program's topics: newTopic, New, create.
-/
import Derived.Test.YtkoedonllfmaaaaGreatVD04
namespace Go.Proofs.YtkoedonllfmaaaaGreat.Ab
set_option linter.unusedSimpArgs false
open Go Go.RowKit Ck Kw Ga Kf Km Pm Pz Tm Tn Tq Aa
attribute [local go_sem ↓] Go.wp_at_zero Go.wp_at_succ
set_option linter.unusedVariables false

theorem gs_nil {w : World} {m : Nat} (h : w.ownsMap Tryz.prog 9 inElem m 0 (.map [])) : Gs w m [] := ⟨.map [], h.mono (Nat.zero_le _), fun _ => rfl, fun s k h => by simp [pos] at h⟩
theorem newtopic_any (w : World) : Calls Tryz.prog 101 #[] w fun e w' => ∃ g mg, e = .returned (.pointer (some ⟨g, 0, none⟩)) ∧ (∀ (n : Tx) (R : Nat → Prop), Tg w' (New w w') R g ⟨n, 0, [], []⟩ (.slice none 0 0) mg) ∧ Below w.heap.size w w' := by
  have hmm := @run_makeMap Tryz.prog
  go_enter Tryz.func101, Tryz.ntmps101
  go_wp2
  go_ret
  refine ⟨_, w.heap.size, rfl, fun n R => ?_, ?_⟩
  · exact ⟨Blk.new_at (by simp) rfl, Rs.nil _ _, gs_nil (((World.ownsMap_made w _ _ _).alloc _).mono (by omega)), ⟨by simp, by simp⟩, fun k hk => by simp [Value.ownBlock] at hk, ⟨Nat.le_refl _, by simp; omega⟩⟩
  · exact ((Below.refl _ w).alloc (Nat.le_refl _) _).alloc (by simp) _
theorem tz_none {W : World} {S : Nat → Prop} {p m : Nat} (hb : Blk W p 66 (.map (some m) :: ACs St.zero.last).toArray) (ho : W.ownsMap Tryz.prog 9 ptrElem m 0 (.map [])) (hp : S p) (hm : S m) (hne : m ≠ p) : Tz W S (fun _ => False) p St.zero :=
  TP.shut (m := m) (D := .map []) (G := fun _ => 0) (V := fun _ => .slice none 0 0) (M := fun _ => 0) (F := fun _ _ => False) ⟨hb, hp, ho, ⟨fun _ => rfl, (fun f hf => (nomatch hf))⟩, ⟨hm, hne⟩, (fun f hf => (nomatch hf)), (fun f hf => (nomatch hf)), (fun f hf => (nomatch hf)), fun k h => h.elim, GoodS.zero⟩
theorem new_any (w : World) : Calls Tryz.prog 6 #[] w fun e w' => ∃ p, e = .returned (.pointer (some ⟨p, 0, none⟩)) ∧ Tz w' (New w w') (fun _ => False) p St.zero ∧ Below w.heap.size w w' := by
  have hmm := @run_makeMap Tryz.prog
  go_enter Tryz.func6, Tryz.ntmps6
  go_wp2
  go_ret
  refine ⟨_, rfl, ?_, ?_⟩
  · exact tz_none (m := w.heap.size) (Blk.new_at (by simp) rfl) (((World.ownsMap_made w _ _ _).alloc _).mono (by omega)) ⟨by simp, by simp⟩ ⟨Nat.le_refl _, by simp; omega⟩ (by simp)
  · exact ((Below.refl _ w).alloc (Nat.le_refl _) _).alloc (by simp) _

theorem find_ins {L : List Tp} {x : Tp} (h : findT L x.n = none) (s : Tx) : findT (insT x L) s = if s = x.n then some x else findT L s := by
  have hno := findT_none h
  clear h
  induction L with
  | nil =>
    simp only [insT, findT, List.find?_cons, List.find?_nil]
    by_cases e : s = x.n
    · subst e; simp
    · rw [if_neg e, decide_eq_false (fun h => e h.symm)]
  | cons f L ih =>
    have hf := hno f (List.mem_cons_self ..)
    have ih := ih (fun t ht => hno t (List.mem_cons_of_mem _ ht))
    unfold findT at ih ⊢
    rw [insT]
    split
    · rw [List.find?_cons, List.find?_cons]
      by_cases e : f.n = s
      · have : s ≠ x.n := fun h => hf (e.trans h)
        simp [e, this]
      · rw [decide_eq_false e]
        exact ih
    · rw [List.find?_cons]
      by_cases e : s = x.n
      · subst e; simp
      · rw [if_neg e, decide_eq_false (fun h => e h.symm)]
theorem mem_ins_iff {x t : Tp} {L : List Tp} : t ∈ insT x L ↔ t = x ∨ t ∈ L := by
  refine ⟨mem_insT, fun h => ?_⟩
  induction L with
  | nil => rcases h with rfl | h; · simp [insT]
           · cases h
  | cons f L ih =>
    unfold insT
    split
    · rcases h with rfl | h
      · exact List.mem_cons_of_mem _ (ih (.inl rfl))
      · rcases List.mem_cons.1 h with rfl | h
        · exact List.mem_cons_self ..
        · exact List.mem_cons_of_mem _ (ih (.inr h))
    · rcases h with rfl | h
      · exact List.mem_cons_self ..
      · exact List.mem_cons_of_mem _ h
/-- What create answers, and the topics behind it. -/
def crS (L : List Tp) (x : Tx) : Int × List Tp := if (findT L x).isSome then (5, L) else if 8 ≤ L.length then (6, L) else (0, insT ⟨x, 0, [], []⟩ L)
/-- One topic more. -/
theorem tp_add {w w1 w2 : World} {S R : Nat → Prop} {p m g mg : Nat} {s : St} {D : DataW Unit} {G : Tx → Nat} {V : Tx → Value} {M : Tx → Nat} {F : Tx → Nat → Prop} {x : Tx} (h : TP w S R p m s D G V M F) (hf : findT s.L x = none)
    (hg : GoodS ⟨insT ⟨x, 0, [], []⟩ s.L, s.last⟩) (b : Below w.heap.size w w1) (ht : Tg w1 (New w w1) R g ⟨x, 0, [], []⟩ (.slice none 0 0) mg) (c : Ch (fun k => k = m) w1 w2) (ho : w2.ownsMap Tryz.prog 9 ptrElem m (Maps.size (D.put (.string x) (.lit (.int .i64 (g : Int))))) (D.put (.string x) (.lit (.int .i64 (g : Int))))) :
    TP w2 (Up S w w2) R p m ⟨insT ⟨x, 0, [], []⟩ s.L, s.last⟩ (D.put (.string x) (.lit (.int .i64 (g : Int)))) (fun t => if t = x then g else G t) (fun t => if t = x then .slice none 0 0 else V t) (fun t => if t = x then mg else M t) (fun t => if t = x then New w w1 else F t) := by
  have h1 := h.later b
  have hs1 := b.size
  have hs2 := c.size
  have hml : m < w.heap.size := h.own.lt
  have hpl : p < w.heap.size := h.blk.lt
  have hne := findT_none hf
  refine ⟨h1.blk.ch c (fun e => h.sm.2 e.symm), .inl h.sp, ho, ⟨fun t => ?_, fun t ht' zd => ?_⟩, ⟨.inl h.sm.1, h.sm.2⟩, fun t ht' => ?_, fun t ht' k hk => ?_, fun t ht' u hu hn k hk hk' => ?_, fun k hk => ?_, hg⟩
  · rw [has_put h.own.isMap, find_ins (x := ⟨x, 0, [], []⟩) hf, h.tells.1]
    by_cases e : t = x
    · subst e; simp
    · rw [if_neg e]
      have : (x == t) = false := by rw [beq_eq_false_iff_ne]; exact fun h => e h.symm
      rw [this, Bool.false_or]
  · rcases mem_ins_iff.1 ht' with rfl | ht'
    · rw [at_put_same h.own.isMap]
      simp
    · rw [at_put_other (hne t ht')]
      simp only [if_neg (hne t ht')]
      exact h.tells.2 t ht' zd
  · rcases mem_ins_iff.1 ht' with rfl | ht'
    · simp only [if_pos]
      exact ht.ch c (fun k hk e => by have := hk.1; omega) (fun k hk e => (h.rs k hk).1 (by rw [e]; exact h.sm.1))
    · simp only [if_neg (hne t ht')]
      exact (h1.top t ht').ch c (fun k hk e => (h1.sub t ht' k hk).2.2.1 e) (fun k hk e => (h.rs k hk).1 (by rw [e]; exact h.sm.1))
  · rcases mem_ins_iff.1 ht' with rfl | ht'
    · simp only [if_pos] at hk
      obtain ⟨k1, k2⟩ := hk
      exact ⟨.inr ⟨by omega, by omega⟩, by omega, by omega, by omega⟩
    · simp only [if_neg (hne t ht')] at hk
      have := h.sub t ht' k hk
      exact ⟨.inl this.1, this.2.1, this.2.2.1, by omega⟩
  · rcases mem_ins_iff.1 ht' with rfl | ht'
    · rcases mem_ins_iff.1 hu with rfl | hu
      · exact hn rfl
      · simp only [if_pos] at hk
        simp only [if_neg (hne u hu)] at hk'
        have := (h.sub u hu k hk').2.2.2
        have := hk.1
        omega
    · simp only [if_neg (hne t ht')] at hk
      rcases mem_ins_iff.1 hu with rfl | hu
      · simp only [if_pos] at hk'
        have := (h.sub t ht' k hk).2.2.2
        have := hk'.1
        omega
      · simp only [if_neg (hne u hu)] at hk'
        exact h.apart t ht' u hu hn k hk hk'
  · obtain ⟨r1, r2⟩ := h.rs k hk
    refine ⟨fun hu => ?_, by omega⟩
    rcases hu with hu | hu
    · exact r1 hu
    · omega

/-- Topics s' behind a call that may write S and new blocks. -/
def Did (S R : Nat → Prop) (p : Nat) (s' : St) (w w' : World) : Prop := Tz w' (Up S w w') R p s' ∧ Ch S w w'
theorem up_refl {S : Nat → Prop} {w : World} {k : Nat} : Up S w w k ↔ S k := ⟨fun h => by rcases h with h | h; exact h; omega, .inl⟩
theorem Tz.same {w : World} {S S' R : Nat → Prop} {p : Nat} {s : St} (h : Tz w S R p s) (hs : ∀ k, S' k ↔ S k) : Tz w S' R p s := by
  have : S' = S := funext fun k => propext (hs k)
  rw [this]; exact h
theorem did_refl {w : World} {S R : Nat → Prop} {p : Nat} {s : St} (h : Tz w S R p s) : Did S R p s w w := ⟨Tz.same h (fun _ => up_refl), Ch.refl _ _⟩

set_option maxRecDepth 100000 in
set_option maxHeartbeats 1000000 in
theorem create_any (w : World) (S R : Nat → Prop) (p : Nat) (s : St) (x : Tx) (hx : x.length ≤ 140737488355328) (h : Tz w S R p s) (hg : findT s.L x = none → s.L.length < 8 → GoodS ⟨insT ⟨x, 0, [], []⟩ s.L, s.last⟩) :
    Calls Tryz.prog 83 #[.pointer (some ⟨p, 0, none⟩), .string ⟨x.toArray⟩] w fun e w' => e = .returned (.int .i64 (crS s.L x).1) ∧ Did S R p ⟨(crS s.L x).2, s.last⟩ w w' := by
  have HZ := Lib.hid h
  obtain ⟨m, D, G, V, M, F, hP⟩ := h
  have c0 := hP.cell0
  have e2 := hP.look x hx
  have hsz := hP.size
  have HP := Lib.hid hP
  have HK := Lib.hid (key_str x (by simp only [maxLen]; omega))
  have hfew := hP.good.L.few
  cases hf : findT s.L x with
  | some t =>
    have e : crS s.L x = (5, s.L) := by rw [crS, hf]; rfl
    rw [e]
    rw [hf] at e2
    unfold PV at e2
    simp only [Option.map_some, Option.isSome_some] at e2
    clear hP hf e hsz hx hg
    go_enter Tryz.func83, Tryz.ntmps83
    go_wp2
    go_ret
    exact ⟨rfl, did_refl HZ.out⟩
  | none =>
    rw [hf] at e2
    unfold PV at e2
    simp only [Option.map_none, Option.isSome_none] at e2
    by_cases h8 : 8 ≤ s.L.length
    · have e : crS s.L x = (6, s.L) := by rw [crS, hf, if_neg (by simp), if_pos h8]
      rw [e]
      have hll : (8 : Int) ≤ (s.L.length : Int) := by omega
      have HSZ := Lib.hid hsz
      clear hP hf e hsz hx hg h8
      go_enter Tryz.func83, Tryz.ntmps83
      go_wp2_with (at_len; refine wpList_len_own _ rfl _ 61 rfl 9 83 Tryz.underlying61 ptrElem m _ D rfl HP.out.own ?_; rw [HSZ.out])
      go_ret
      exact ⟨rfl, did_refl HZ.out⟩
    · have e : crS s.L x = (0, insT ⟨x, 0, [], []⟩ s.L) := by rw [crS, hf, if_neg (by simp), if_neg h8]
      rw [e]
      have hll : (s.L.length : Int) < (8 : Int) := by omega
      have HG := Lib.hid (hg hf (by omega))
      have HSZ := Lib.hid hsz
      have HF := Lib.hid hf
      have HDL : Hid (Maps.size D < maxLen) := Lib.hid (by rw [hsz]; simp only [maxLen]; omega)
      clear hP hf e hsz hx hg h8
      go_enter Tryz.func83, Tryz.ntmps83
      go_wp2_with (first
        | (at_len; refine wpList_len_own _ rfl _ 61 rfl 9 83 Tryz.underlying61 ptrElem m _ D rfl HP.out.own ?_; rw [HSZ.out]))
      go_region_held3 (fun w' => w'.cell? ⟨p, 0, none⟩ = some (.map (some m))) (first | exact c0 | exact j0 | exact j1)
        (first
          | (go_at_call 101; refine (newtopic_any _).mono ?_; rintro e w2 ⟨g, mg, rfl, hT2, hb2⟩; have hb2' : Below w.heap.size w w2 := below_of_drew hb2; have hT2' : ∀ (n : Tx) (R : Nat → Prop), Tg w2 (New w w2) R g ⟨n, 0, [], []⟩ (.slice none 0 0) mg := hT2; have j0 := (HP.out.later hb2').cell0; obtain ⟨w3, hst, hmap3, hturn3⟩ := (HP.out.later hb2').own.store law_str Tryz.underlying61 HDL.out HK.out (ptrElem_mk g); have j1 := ((HP.out.later hb2').blk.ch (Ch.of_grown hturn3.grown (fun g hg _ => (Option.some.inj hg).symm) : Ch (fun k => k = m) w2 w3) (fun e => HP.out.sm.2 e.symm)).cell 0; simp only [List.getElem?_toArray, List.getElem?_cons_zero] at j1))
      all_goals
        go_wp2
        go_ret
        have hc3 : Ch (fun k => k = m) w2 w3 := Ch.of_grown hturn3.grown (fun g hg _ => (Option.some.inj hg).symm)
        have hP3 := tp_add HP.out HF.out HG.out hb2' (hT2' x R) hc3 (own_tight hmap3)
        exact ⟨rfl, hP3.shut, (Ch.of_below hb2' (Nat.le_refl _)).trans (hc3.mono (T := S) (fun k _ hk => by rw [hk]; exact HP.out.sm.1)) (fun _ _ h => h)⟩
end Go.Proofs.YtkoedonllfmaaaaGreat.Ab

/-
  Contracts of the program's topic: publish, commit.
-/
namespace Go.Proofs.YtkoedonllfmaaaaGreat.Ac
set_option linter.unusedSimpArgs false
open Go Go.RowKit Ck Kw Ga Kf Km Pm Pz Tm Tn Tq Aa Ab
attribute [local go_sem ↓] Go.wp_at_zero Go.wp_at_succ
set_option linter.unusedVariables false

theorem info_rec : (Tryz.prog.info? 55).map (fun i => (i.zero, i.size, i.bytes)) = some (some (.slice none 0 0), 1, 24) := by kernel_rfl
/-- A list of records, each in R. -/
def Ins (w : World) (R : Nat → Prop) (A : Option Addr) (c : Nat) (rs : List Tx) : Prop :=
  ∃ vals, Sl w (fun _ => False) 1 (.slice A rs.length c) rs.length vals ∧ ∀ i (hi : i < rs.length), ∃ u, vals[i]? = some u ∧ Sl w (fun k => ¬ R k) 1 u rs[i].length (BVs rs[i])
/-- A topic behind a call that may write T and new blocks. -/
def Tdid (T R : Nat → Prop) (g : Nat) (t : Tp) (w w' : World) : Prop := (∃ v mg, Tg w' (Up T w w') R g t v mg) ∧ Ch T w w'
theorem _root_.Go.Proofs.YtkoedonllfmaaaaGreat.Aa.Tg.same {w : World} {T R : Nat → Prop} {g mg : Nat} {t : Tp} {v : Value} (h : Tg w T R g t v mg) {T' : Nat → Prop} (ht : ∀ k, T k → T' k) : Tg w T' R g t v mg := h.more (fun _ h => h) ht
theorem tdid_refl {w w' : World} {T R : Nat → Prop} {g mg : Nat} {t : Tp} {v : Value} (h : Tg w T R g t v mg) (b : Below w.heap.size w w') : Tdid T R g t w w' :=
  ⟨⟨v, mg, (h.ch (Ch.of_below (S := fun _ => False) b (Nat.le_refl _)) (fun _ _ h => h) (fun _ _ h => h)).same (fun _ h => .inl h)⟩, Ch.of_below b (Nat.le_refl _)⟩
theorem _root_.Go.Proofs.YtkoedonllfmaaaaGreat.Aa.Tg.later {w w' : World} {T R : Nat → Prop} {g mg : Nat} {t : Tp} {v : Value} (h : Tg w T R g t v mg) (b : Below w.heap.size w w') : Tg w' T R g t v mg :=
  h.ch (Ch.of_below (S := fun _ => False) b (Nat.le_refl _)) (fun _ _ h => h) (fun _ _ h => h)
/-- What publish answers, and the topic behind it. -/
def pubS (t : Tp) (rs : List Tx) : (Int × Int) × Tp :=
  if 64 < t.recs.length + rs.length ∨ maxNum - (rs.length : Int) < t.next then ((0, 71), t) else ((t.next, 0), { t with recs := t.recs ++ rs })
theorem pub_end {w w1 w2 : World} {T R : Nat → Prop} {g mg n : Nat} {t : Tp} {rs : List Tx} {v v2 : Value} {vals news : List Value} (h : Tg w1 T R g t v mg) (hR : ∀ k, R k → ¬ T k ∧ k < w.heap.size) (hb : Below w.heap.size w w1)
    (h1 : w1.ownsRow 0 55 1 v t.recs.length vals) (h2 : ∀ i (hi : i < t.recs.length), ∃ u, vals[i]? = some u ∧ Sl w1 (fun k => ¬ R k) 1 u t.recs[i].length (BVs t.recs[i]))
    (k1 : news.length = rs.length) (k2 : ∀ i (hi : i < rs.length), ∃ u, news[i]? = some u ∧ Sl w1 (fun k => ¬ R k) 1 u rs[i].length (BVs rs[i]))
    (happ : Appended w1 0 55 1 v n (vals ++ news) v2 w2) (hn : n = t.recs.length + rs.length) :
    Tdid T R g { t with recs := t.recs ++ rs } w (w2.setCell ⟨g, 1, none⟩ v2) := by
  subst hn
  obtain ⟨ho, hg, hv⟩ := happ
  have hs1 := hb.size
  have hs2 := hg.size
  have hgl := h.blk.lt
  have hff := own_far h1 h.blk (by decide)
  have hvl : vals.length = t.recs.length := by have := h1.1; omega
  have hvg : ∀ q, v2.ownBlock = some q → q ≠ g := fun q hq e => by
    rcases hv with hv | hv
    · exact hff (by rw [← hv, hq, e])
    · rw [hv] at hq; injection hq with hq; omega
  have hc12 : Ch (fun k => v.ownBlock = some k) w1 w2 := Ch.of_grown hg (fun q hq _ => hq)
  have hc23 : Ch (fun k => k = g) w2 (w2.setCell ⟨g, 1, none⟩ v2) := (Ch.refl (fun k => k = g) w2).setCell (p := ⟨g, 1, none⟩) (fun _ => rfl) _
  have hs3 := hc23.size
  have q2 := h.blk.ch hc12 hff
  have hvT : ∀ q, v2.ownBlock = some q → Up T w (w2.setCell ⟨g, 1, none⟩ v2) q := fun q hq => by
    have hlt := (ho.lt q hq).2
    rcases hv with hv | hv
    · exact .inl (h.tv q (by rw [← hv, hq]))
    · rw [hv] at hq; injection hq with hq; exact .inr ⟨by omega, by omega⟩
  have hR2 : ∀ {u : Value} {x : Tx}, Sl w1 (fun k => ¬ R k) 1 u x.length (BVs x) → Sl (w2.setCell ⟨g, 1, none⟩ v2) (fun k => ¬ R k) 1 u x.length (BVs x) := fun {u x} hs =>
    (hs.ch hc12 (fun k _ hk hr => (hR k hr).1 (h.tv k hk))).ch hc23 (fun k _ hk hr => (hR k hr).1 (by rw [hk]; exact h.tg))
  refine ⟨⟨v2, mg, ⟨q2.set_ 1 _, ⟨vals ++ news, ?_, fun i hi => ?_⟩, (h.gs.ch hc12 (fun e => ?_)).ch hc23 (fun e => ?_), .inl h.tg, hvT, .inl h.tm⟩⟩, ?_⟩
  · have := own_ch ho hc23 (fun q hq e => hvg q hq e)
    simpa using this
  · by_cases hlt : i < t.recs.length
    · obtain ⟨u, hu, hs⟩ := h2 i hlt
      refine ⟨u, by rw [List.getElem?_append_left (by omega)]; exact hu, ?_⟩
      have e : (t.recs ++ rs)[i] = t.recs[i] := List.getElem_append_left hlt
      simp only [e]
      exact hR2 hs
    · have hi' : i - t.recs.length < rs.length := by simp only [List.length_append] at hi; omega
      obtain ⟨u, hu, hs⟩ := k2 (i - t.recs.length) hi'
      refine ⟨u, by rw [List.getElem?_append_right (by omega), hvl]; exact hu, ?_⟩
      have e : (t.recs ++ rs)[i] = rs[i - t.recs.length] := List.getElem_append_right (by omega)
      simp only [e]
      exact hR2 hs
  · obtain ⟨D, hD, -⟩ := h.gs
    exact map_row hD h1 e
  · obtain ⟨D, hD, -⟩ := h.gs
    exact map_far hD h.blk e
  · exact ((Ch.of_below hb (Nat.le_refl _)).trans (hc12.mono (T := T) (fun k _ hk => h.tv k hk)) (fun _ _ h => h)).trans (hc23.mono (T := T) (fun k _ hk => by rw [hk]; exact h.tg)) (fun _ _ h => h)

set_option maxRecDepth 100000 in
set_option maxHeartbeats 1000000 in
theorem publish_any (w : World) (T R : Nat → Prop) (g : Nat) (t : Tp) (v : Value) (mg : Nat) (A : Option Addr) (c : Nat) (rs : List Tx) (h : Tg w T R g t v mg) (hf : FitT t) (hR : ∀ k, R k → ¬ T k ∧ k < w.heap.size) (hl : Ins w R A c rs) (h4 : rs.length ≤ 64) :
    Calls Tryz.prog 84 #[.pointer (some ⟨g, 0, none⟩), .slice A rs.length c] w fun e w' => e = .returned (.tuple #[.int .i64 (pubS t rs).1.1, .int .i64 (pubS t rs).1.2]) ∧ Tdid T R g (pubS t rs).2 w w' := by
  have HN := Lib.hid (next_any w T R g t v mg h hf.base hf.next)
  have HT := Lib.hid h
  obtain ⟨vals, h1, h2⟩ := h.recs
  obtain ⟨news, k1, k2⟩ := hl
  have HV := Lib.hid (And.intro h1 h2)
  have HW := Lib.hid (And.intro k1 k2)
  obtain ⟨Ar, cr, rfl⟩ := own_shape h1
  have hb0 := hf.base
  have hb1 := hf.next
  have hfew := hf.few
  have HNX : Hid (t.next = t.base + (t.recs.length : Int)) := Lib.hid rfl
  have hn0 : 0 ≤ t.next := by rw [HNX.out]; omega
  simp only [maxNum] at hb1
  have HR := Lib.hid hR
  clear h h1 h2 k1 k2 hf hR
  have w1 : IntKind.i64.wrap ((t.recs.length : Int) + (rs.length : Int)) = (t.recs.length : Int) + (rs.length : Int) := Ga.wrap64 (by omega) (by omega)
  have w2 : IntKind.i64.wrap (t.next + (rs.length : Int)) = t.next + (rs.length : Int) := Ga.wrap64 (by omega) (by omega)
  by_cases q1 : 64 < t.recs.length + rs.length
  · have e : pubS t rs = ((0, 71), t) := by rw [pubS, if_pos (.inl q1)]
    rw [e]
    have q1' : (64 : Int) < (t.recs.length : Int) + (rs.length : Int) := by omega
    clear q1 e
    go_enter Tryz.func84, Tryz.ntmps84
    go_wp2_with fail
    refine HN.out.mono ?_
    rintro e w1 ⟨rfl, hb⟩
    have HT1 := Lib.hid (HT.out.later hb)
    have HB := Lib.hid hb
    have c1 : w1.cell? ⟨g, 1, none⟩ = some (.slice Ar t.recs.length cr) := HT1.out.blk.cell 1
    clear hb
    go_wp2_with fail
    go_ret2
    exact ⟨rfl, tdid_refl HT.out HB.out⟩
  · by_cases q2 : maxNum - (rs.length : Int) < t.next
    · have e : pubS t rs = ((0, 71), t) := by rw [pubS, if_pos (.inr q2)]
      rw [e]
      simp only [maxNum] at q2
      have q1' : (t.recs.length : Int) + (rs.length : Int) ≤ 64 := by omega
      have q2' : (9007199254740992 : Int) < t.next + (rs.length : Int) := by omega
      clear q1 q2 e
      go_enter Tryz.func84, Tryz.ntmps84
      go_wp2_with fail
      refine HN.out.mono ?_
      rintro e w1 ⟨rfl, hb⟩
      have HT1 := Lib.hid (HT.out.later hb)
      have HB := Lib.hid hb
      have c1 : w1.cell? ⟨g, 1, none⟩ = some (.slice Ar t.recs.length cr) := HT1.out.blk.cell 1
      clear hb
      go_wp2_with fail
      go_ret2
      exact ⟨rfl, tdid_refl HT.out HB.out⟩
    · have e : pubS t rs = ((t.next, 0), { t with recs := t.recs ++ rs }) := by rw [pubS, if_neg (by omega)]
      rw [e]
      simp only [maxNum] at q2
      have q1' : (t.recs.length : Int) + (rs.length : Int) ≤ 64 := by omega
      have q2' : t.next + (rs.length : Int) ≤ 9007199254740992 := by omega
      clear q1 q2 e
      go_enter Tryz.func84, Tryz.ntmps84
      go_wp2_with fail
      refine HN.out.mono ?_
      rintro e w1 ⟨rfl, hb⟩
      have HT1 := Lib.hid (HT.out.later hb)
      have HB := Lib.hid hb
      have c1 : w1.cell? ⟨g, 1, none⟩ = some (.slice Ar t.recs.length cr) := HT1.out.blk.cell 1
      clear hb
      have HV1 : Hid (w1.ownsRow 0 55 1 (.slice Ar t.recs.length cr) t.recs.length vals ∧ (∀ i (hi : i < t.recs.length), ∃ u, vals[i]? = some u ∧ Sl w1 (fun k => ¬ R k) 1 u t.recs[i].length (BVs t.recs[i]))) := Lib.hid ⟨own_below HV.out.1 HB.out, fun i hi => by
        obtain ⟨u, hu, hs⟩ := HV.out.2 i hi
        exact ⟨u, hu, hs.after HB.out⟩⟩
      have HW1 : Hid (Sl w1 (fun _ => False) 1 (.slice A rs.length c) rs.length news ∧ (∀ i (hi : i < rs.length), ∃ u, news[i]? = some u ∧ Sl w1 (fun k => ¬ R k) 1 u rs[i].length (BVs rs[i]))) := Lib.hid ⟨HW.out.1.after HB.out, fun i hi => by
        obtain ⟨u, hu, hs⟩ := HW.out.2 i hi
        exact ⟨u, hu, hs.after HB.out⟩⟩
      have HNL : Hid (news.length = rs.length) := Lib.hid (by obtain ⟨_, _, _, h, _⟩ := HW.out.1; omega)
      have HONE : Hid (∀ u ∈ news, u.oneCell' = true) := Lib.hid (by
        intro u hu
        obtain ⟨i, hi, rfl⟩ := List.getElem_of_mem hu
        obtain ⟨u', hu', h3⟩ := HW.out.2 i (by have := HNL.out; omega)
        obtain ⟨B, d, rfl, -⟩ := h3
        rw [List.getElem?_eq_getElem hi] at hu'
        rw [Option.some.inj hu']
        rfl)
      obtain ⟨i0, hi0, hz0, hz1, hz2⟩ := info_parts info_rec
      go_wp2_with (at_builtin; refine wpList_append_sh _ rfl (.tmp 29) (.tmp 30) _ rfl 0 55 i0 _ 1 24 Tryz.underlying36 hi0 hz0 hz1 hz2 rfl (by omega) (.slice Ar t.recs.length cr) t.recs.length vals rfl HV1.out.1 (fun _ => False) _ rs.length news rfl HW1.out.1 HONE.out (by simp only [maxLen]; omega) (by omega) (Nat.zero_le _) ?_; intro A4 c4 w4 happ; have HAP := Lib.hid happ; have HF4 := Lib.hid (own_far HV1.out.1 HT1.out.blk (by decide)); have q4 := HT1.out.blk.grown happ.2.1 (Ne.symm HF4.out); have f1 := q4.frozen 1; have g1 := q4.cell 1; simp only [List.getElem?_toArray, List.getElem?_cons_zero, List.getElem?_cons_succ] at g1; clear happ q4)
      go_ret2
      exact ⟨rfl, pub_end HT1.out HR.out HB.out HV1.out.1 HV1.out.2 HNL.out HW1.out.2 HAP.out rfl⟩
end Go.Proofs.YtkoedonllfmaaaaGreat.Ac

/-
  Contract of the program's topic: commit.
-/
namespace Go.Proofs.YtkoedonllfmaaaaGreat.Ad
set_option linter.unusedSimpArgs false
open Go Go.RowKit Ck Kw Ga Kf Km Pm Pz Tm Tn Tq Aa Ab Ac
attribute [local go_sem ↓] Go.wp_at_zero Go.wp_at_succ
set_option linter.unusedVariables false

theorem pos_cons (g : Gp) (gs : List Gp) (s : Tx) : pos (g :: gs) s = if g.n = s then some g.pos else pos gs s := by
  unfold pos
  rw [List.find?_cons]
  by_cases e : g.n = s
  · simp [e]
  · rw [decide_eq_false e, if_neg e]
theorem pos_ins {gs : List Gp} (h : RG gs) (n : Tx) (k : Int) (s : Tx) : pos (insG n k gs) s = if s = n then some k else pos gs s := by
  induction gs with
  | nil =>
    simp only [insG, pos_cons]
    by_cases e : s = n
    · subst e; simp
    · rw [if_neg (fun h => e h.symm), if_neg e]
  | cons f gs ih =>
    have hc := List.pairwise_cons.1 h
    have ih := ih hc.2
    unfold insG
    split
    · rename_i hlt
      rw [pos_cons, pos_cons, ih]
      by_cases e : f.n = s
      · have : s ≠ n := fun h => by rw [← h, ← e] at hlt; exact List.lt_irrefl _ hlt
        rw [if_pos e, if_neg this, if_pos e]
      · rw [if_neg e, if_neg e]
    · split
      · rename_i hn he
        rw [pos_cons, pos_cons]
        by_cases e : s = n
        · subst e; simp
        · rw [if_neg (fun h => e h.symm), if_neg e, if_neg (fun h => e (h.symm.trans he))]
      · rename_i hn he
        rw [pos_cons]
        by_cases e : s = n
        · subst e; simp
        · rw [if_neg (fun h => e h.symm), if_neg e]
theorem isSome_pos {gs : List Gp} {x : Tx} : (pos gs x).isSome = true ↔ x ∈ gs.map (·.n) := by
  rw [List.mem_map]
  constructor
  · intro h
    rcases Classical.em (∃ a, a ∈ gs ∧ a.n = x) with h' | h'
    · exact h'
    · rw [pos_none.2 (fun g hg e => h' ⟨g, hg, e⟩)] at h; cases h
  · rintro ⟨t, ht, rfl⟩
    cases hf : pos gs t.n with
    | none => exact absurd rfl (pos_none.1 hf t ht)
    | some _ => rfl
theorem rg_nodup {gs : List Gp} (h : RG gs) : (gs.map (·.n)).Nodup := by
  have h1 : (gs.map (·.n)).Pairwise (· < ·) := List.pairwise_map.2 h
  exact h1.imp (fun {a b} hab e => by rw [e] at hab; exact List.lt_irrefl _ hab)
theorem gs_size {w : World} {m n : Nat} {D : DataW Unit} {gs : List Gp} (h : w.ownsMap Tryz.prog 9 inElem m n D) (hT : TellsG D gs) (hg : RG gs) : Maps.size D = gs.length := by
  rw [size_names h (rg_nodup hg) (fun x => by rw [hT.1, isSome_pos]), List.length_map]
theorem zero_i64 (w : World) : (zeroValue 2).run Tryz.prog w = .ok (.int .i64 0) w := by kernel_rfl
theorem glook {w : World} {m n : Nat} {D : DataW Unit} {gs : List Gp} (h : w.ownsMap Tryz.prog 9 inElem m n D) (hT : TellsG D gs) (x : Tx) (hx : x.length ≤ 140737488355328) :
    (Instr.lookup 100 (.map (some m)) (.string ⟨x.toArray⟩) true).run Tryz.prog w = .ok (.tuple #[.int .i64 ((pos gs x).getD 0), .bool (pos gs x).isSome]) w := by
  obtain ⟨v, ps, hrun, hv⟩ := h.look_ok law_str Tryz.underlying100 (zero_i64 w) (zd := .lit (.int .i64 0)) (zp := []) (inElem_mk 0) (key_str x (by simp only [maxLen]; omega))
  rw [hT.1 x] at hrun
  rw [hrun]
  cases hf : pos gs x with
  | some k =>
    rw [hT.2 x k hf] at hv
    rw [inElem_at hv]
    rfl
  | none =>
    rw [has_atKey (by rw [hT.1, hf]; rfl)] at hv
    rw [inElem_at hv]
    rfl
theorem tells_put {w : World} {m n : Nat} {D : DataW Unit} {gs : List Gp} (h : w.ownsMap Tryz.prog 9 inElem m n D) (hT : TellsG D gs) (hg : RG gs) (x : Tx) (k : Int) : TellsG (D.put (.string x) (.lit (.int .i64 k))) (insG x k gs) := by
  refine ⟨fun s => ?_, fun s j hj zd => ?_⟩
  · rw [has_put h.isMap, pos_ins hg, hT.1]
    by_cases e : s = x
    · subst e; simp
    · have : (x == s) = false := by rw [beq_eq_false_iff_ne]; exact fun h => e h.symm
      rw [this, if_neg e, Bool.false_or]
  · rw [pos_ins hg] at hj
    by_cases e : s = x
    · subst e
      rw [if_pos rfl] at hj
      rw [at_put_same h.isMap, Option.some.inj hj]
    · rw [if_neg e] at hj
      rw [at_put_other e]
      exact hT.2 s j hj zd
/-- What commit answers, and the topic behind it. -/
def comS (t : Tp) (x : Tx) (k : Int) : (Int × Int) × Tp :=
  if k < (pos t.gs x).getD 0 ∨ t.next < k then ((0, 72), t) else if pos t.gs x = none ∧ 8 ≤ t.gs.length then ((0, 6), t) else ((k, 0), { t with gs := insG x k t.gs })
theorem com_end {w w1 w2 : World} {T R : Nat → Prop} {g mg : Nat} {t : Tp} {v : Value} {D : DataW Unit} {x : Tx} {k : Int} (h : Tg w1 T R g t v mg) (hR : ∀ k, R k → ¬ T k) (hb : Below w.heap.size w w1) (hD : w1.ownsMap Tryz.prog 9 inElem mg (Maps.size D) D) (hT : TellsG D t.gs) (hg : RG t.gs) {n : Nat}
    (ho : w2.ownsMap Tryz.prog 9 inElem mg n (D.put (.string x) (.lit (.int .i64 k)))) (c : Ch (fun j => j = mg) w1 w2) : Tdid T R g { t with gs := insG x k t.gs } w w2 := by
  obtain ⟨vals, h1, h2⟩ := h.recs
  refine ⟨⟨v, mg, ⟨h.blk.ch c (fun e => map_far hD h.blk e.symm), h.recs.ch c (fun q hq e => map_row hD h1 (by rw [hq, e])) (fun q hq e => hR q hq (by rw [e]; exact h.tm)), ⟨_, own_tight ho, tells_put hD hT hg x k⟩, .inl h.tg, fun q hq => .inl (h.tv q hq), .inl h.tm⟩⟩, ?_⟩
  exact (Ch.of_below hb (Nat.le_refl _)).trans (c.mono (T := T) (fun k _ hk => by rw [hk]; exact h.tm)) (fun _ _ h => h)

set_option maxRecDepth 100000 in
set_option maxHeartbeats 1000000 in
theorem commit_any (w : World) (T R : Nat → Prop) (g : Nat) (t : Tp) (v : Value) (mg : Nat) (x : Tx) (k : Int) (hx : x.length ≤ 140737488355328) (h : Tg w T R g t v mg) (hf : FitT t) (hg : RG t.gs) (hR : ∀ k, R k → ¬ T k) :
    Calls Tryz.prog 85 #[.pointer (some ⟨g, 0, none⟩), .string ⟨x.toArray⟩, .int .i64 k] w fun e w' => e = .returned (.tuple #[.int .i64 (comS t x k).1.1, .int .i64 (comS t x k).1.2]) ∧ Tdid T R g (comS t x k).2 w w' := by
  have HN := Lib.hid (next_any w T R g t v mg h hf.base hf.next)
  have HT := Lib.hid h
  obtain ⟨D, hD, hT⟩ := h.gs
  have c2 : w.cell? ⟨g, 2, none⟩ = some (.map (some mg)) := h.blk.cell 2
  have e2 := glook hD hT x hx
  have hsz := gs_size hD hT hg
  have hfew := hf.groups
  have HK := Lib.hid (key_str x (by simp only [maxLen]; omega))
  have HDT := Lib.hid (And.intro hD hT)
  have HRG := Lib.hid hg
  have HR := Lib.hid hR
  clear h hD hT hf hx hg hR
  by_cases q1 : k < (pos t.gs x).getD 0
  · have e : comS t x k = ((0, 72), t) := by rw [comS, if_pos (.inl q1)]
    rw [e]
    clear e
    go_enter Tryz.func85, Tryz.ntmps85
    go_wp2_with fail
    go_ret2
    exact ⟨rfl, tdid_refl HT.out (Below.refl _ _)⟩
  · have q1' : (pos t.gs x).getD 0 ≤ k := by omega
    by_cases q2 : t.next < k
    · have e : comS t x k = ((0, 72), t) := by rw [comS, if_pos (.inr q2)]
      rw [e]
      clear e q1
      go_enter Tryz.func85, Tryz.ntmps85
      go_wp2_with fail
      refine HN.out.mono ?_
      rintro e w1 ⟨rfl, hb⟩
      have HB := Lib.hid hb
      have HT1 := Lib.hid (HT.out.later hb)
      have c2 : w1.cell? ⟨g, 2, none⟩ = some (.map (some mg)) := HT1.out.blk.cell 2
      have HD1 := Lib.hid (map_ch HDT.out.1 (Ch.of_below (S := fun _ => False) hb (Nat.le_refl _)) (fun h => h))
      clear hb
      go_wp2_with fail
      go_ret2
      exact ⟨rfl, tdid_refl HT.out HB.out⟩
    · have q2' : k ≤ t.next := by omega
      have HSZ := Lib.hid hsz
      have HDL : Hid (Maps.size D < maxLen) := Lib.hid (by rw [hsz]; simp only [maxLen]; omega)
      cases hp : pos t.gs x with
      | none =>
        rw [hp] at e2 q1'
        simp only [Option.getD_none, Option.isSome_none] at e2 q1'
        by_cases h8 : 8 ≤ t.gs.length
        · have e : comS t x k = ((0, 6), t) := by rw [comS, if_neg (by rw [hp]; simp only [Option.getD_none]; omega), if_pos ⟨hp, h8⟩]
          rw [e]
          have hll : (8 : Int) ≤ (t.gs.length : Int) := by omega
          clear e q1 q2 hp h8 hsz
          go_enter Tryz.func85, Tryz.ntmps85
          go_wp2_with fail
          refine HN.out.mono ?_
          rintro e w1 ⟨rfl, hb⟩
          have HB := Lib.hid hb
          have HT1 := Lib.hid (HT.out.later hb)
          have c2 : w1.cell? ⟨g, 2, none⟩ = some (.map (some mg)) := HT1.out.blk.cell 2
          have HD1 := Lib.hid (map_ch HDT.out.1 (Ch.of_below (S := fun _ => False) hb (Nat.le_refl _)) (fun h => h))
          clear hb
          have hle := HD1.out.len Tryz.underlying100 3
          rw [HSZ.out] at hle
          go_wp2_with fail
          go_ret2
          exact ⟨rfl, tdid_refl HT.out HB.out⟩
        · have e : comS t x k = ((k, 0), { t with gs := insG x k t.gs }) := by rw [comS, if_neg (by rw [hp]; simp only [Option.getD_none]; omega), if_neg (by omega)]
          rw [e]
          have hll : (t.gs.length : Int) < (8 : Int) := by omega
          clear e q1 q2 hp h8 hsz
          go_enter Tryz.func85, Tryz.ntmps85
          go_wp2_with fail
          refine HN.out.mono ?_
          rintro e w1 ⟨rfl, hb⟩
          have HB := Lib.hid hb
          have HT1 := Lib.hid (HT.out.later hb)
          have c2 : w1.cell? ⟨g, 2, none⟩ = some (.map (some mg)) := HT1.out.blk.cell 2
          have HD1 := Lib.hid (map_ch HDT.out.1 (Ch.of_below (S := fun _ => False) hb (Nat.le_refl _)) (fun h => h))
          clear hb
          have hle := HD1.out.len Tryz.underlying100 3
          rw [HSZ.out] at hle
          go_wp2_with (first
            | (at_mapUpdate; refine wpList_mapUpdate_in (H := Unit) _ rfl _ _ _ 100 rfl 9 2 law_str Tryz.underlying100 inElem mg (Maps.size D) D rfl HD1.out HDL.out _ _ (.string x) rfl rfl HK.out (.lit (.int .i64 k)) [] (inElem_mk k) ?_; intro w2 hmap2 hturn2))
          go_ret2
          exact ⟨rfl, com_end HT1.out HR.out HB.out HD1.out HDT.out.2 HRG.out hmap2 (Ch.of_grown hturn2.grown (fun g hg _ => (Option.some.inj hg).symm))⟩
      | some j =>
        have e : comS t x k = ((k, 0), { t with gs := insG x k t.gs }) := by rw [comS, if_neg (by omega), if_neg (fun h => by rw [hp] at h; cases h.1)]
        rw [e]
        rw [hp] at e2 q1'
        simp only [Option.getD_some, Option.isSome_some] at e2 q1'
        clear e q1 q2 hp hsz
        go_enter Tryz.func85, Tryz.ntmps85
        go_wp2_with fail
        refine HN.out.mono ?_
        rintro e w1 ⟨rfl, hb⟩
        have HB := Lib.hid hb
        have HT1 := Lib.hid (HT.out.later hb)
        have c2 : w1.cell? ⟨g, 2, none⟩ = some (.map (some mg)) := HT1.out.blk.cell 2
        have HD1 := Lib.hid (map_ch HDT.out.1 (Ch.of_below (S := fun _ => False) hb (Nat.le_refl _)) (fun h => h))
        clear hb
        have hle := HD1.out.len Tryz.underlying100 3
        rw [HSZ.out] at hle
        go_wp2_with (first
          | (at_mapUpdate; refine wpList_mapUpdate_in (H := Unit) _ rfl _ _ _ 100 rfl 9 2 law_str Tryz.underlying100 inElem mg (Maps.size D) D rfl HD1.out HDL.out _ _ (.string x) rfl rfl HK.out (.lit (.int .i64 k)) [] (inElem_mk k) ?_; intro w2 hmap2 hturn2))
        go_ret2
        exact ⟨rfl, com_end HT1.out HR.out HB.out HD1.out HDT.out.2 HRG.out hmap2 (Ch.of_grown hturn2.grown (fun g hg _ => (Option.some.inj hg).symm))⟩
end Go.Proofs.YtkoedonllfmaaaaGreat.Ad

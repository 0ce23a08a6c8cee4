/-
  Contracts of the program's topic: publish, commit.
-/
import Derived.Test.YtobphijbhghgmaaGreatO07
import Derived.Test.YtobphijbhghgmaaGreatO03
import Derived.Test.YtobphijbhghgmaaGreatO02
import Derived.Test.YtobphijbhghgmaaGreatO06
namespace Go.Proofs.YtobphijbhghgmaaGreat.Ac
set_option linter.unusedSimpArgs false
open Go Go.RowKit Ck Kw Ga Kf Km Pm Pz Tm Tn Tq Aa Ab
attribute [local go_sem ↓] Go.wp_at_zero Go.wp_at_succ
set_option linter.unusedVariables false

theorem info_rec : (Tryz.prog.info? 145).map (fun i => (i.zero, i.size, i.bytes)) = some (some (.slice none 0 0), 1, 24) := by kernel_rfl
/-- A list of records, each in R. -/
def Ins (w : World) (R : Nat → Prop) (A : Option Addr) (c : Nat) (rs : List Tx) : Prop :=
  ∃ vals, Sl w (fun _ => False) 1 (.slice A rs.length c) rs.length vals ∧ ∀ i (hi : i < rs.length), ∃ u, vals[i]? = some u ∧ Sl w (fun k => ¬ R k) 1 u rs[i].length (BVs rs[i])
/-- A topic behind a call that may write T and new blocks. -/
def Tdid (T R : Nat → Prop) (g : Nat) (t : Tp) (w w' : World) : Prop := (∃ v mg, Tg w' (Up T w w') R g t v mg) ∧ Ch T w w'
theorem _root_.Go.Proofs.YtobphijbhghgmaaGreat.Aa.Tg.same {w : World} {T R : Nat → Prop} {g mg : Nat} {t : Tp} {v : Value} (h : Tg w T R g t v mg) {T' : Nat → Prop} (ht : ∀ k, T k → T' k) : Tg w T' R g t v mg := h.more (fun _ h => h) ht
theorem tdid_refl {w w' : World} {T R : Nat → Prop} {g mg : Nat} {t : Tp} {v : Value} (h : Tg w T R g t v mg) (b : Below w.heap.size w w') : Tdid T R g t w w' :=
  ⟨⟨v, mg, (h.ch (Ch.of_below (S := fun _ => False) b (Nat.le_refl _)) (fun _ _ h => h) (fun _ _ h => h)).same (fun _ h => .inl h)⟩, Ch.of_below b (Nat.le_refl _)⟩
theorem _root_.Go.Proofs.YtobphijbhghgmaaGreat.Aa.Tg.later {w w' : World} {T R : Nat → Prop} {g mg : Nat} {t : Tp} {v : Value} (h : Tg w T R g t v mg) (b : Below w.heap.size w w') : Tg w' T R g t v mg :=
  h.ch (Ch.of_below (S := fun _ => False) b (Nat.le_refl _)) (fun _ _ h => h) (fun _ _ h => h)
/-- What publish answers, and the topic behind it. -/
def pubS (t : Tp) (rs : List Tx) : (Int × Int) × Tp :=
  if 64 < t.recs.length + rs.length ∨ maxNum - (rs.length : Int) < t.next then ((0, 71), t) else ((t.next, 0), { t with recs := t.recs ++ rs })
theorem pub_end {w w1 w2 : World} {T R : Nat → Prop} {g mg n : Nat} {t : Tp} {rs : List Tx} {v v2 : Value} {vals news : List Value} (h : Tg w1 T R g t v mg) (hR : ∀ k, R k → ¬ T k ∧ k < w.heap.size) (hb : Below w.heap.size w w1)
    (h1 : w1.ownsRow 0 145 1 v t.recs.length vals) (h2 : ∀ i (hi : i < t.recs.length), ∃ u, vals[i]? = some u ∧ Sl w1 (fun k => ¬ R k) 1 u t.recs[i].length (BVs t.recs[i]))
    (k1 : news.length = rs.length) (k2 : ∀ i (hi : i < rs.length), ∃ u, news[i]? = some u ∧ Sl w1 (fun k => ¬ R k) 1 u rs[i].length (BVs rs[i]))
    (happ : Appended w1 0 145 1 v n (vals ++ news) v2 w2) (hn : n = t.recs.length + rs.length) :
    Tdid T R g { t with recs := t.recs ++ rs } w (w2.setCell ⟨g, 1, none⟩ v2) := by
  subst hn
  obtain ⟨ho, hg, hv⟩ := happ
  have hs1 := hb.size
  have hs2 := hg.size
  have hgl := h.blk.lt
  have hff := own_far h1 h.blk (by decide)
  have hvl : vals.length = t.recs.length := by have := h1.1; omega
  have hvg : ∀ q, v2.ownBlock = some q → q ≠ g := fun q hq e => by
    rcases hv with hv | hv
    · exact hff (by rw [← hv, hq, e])
    · rw [hv] at hq; injection hq with hq; omega
  have hc12 : Ch (fun k => v.ownBlock = some k) w1 w2 := Ch.of_grown hg (fun q hq _ => hq)
  have hc23 : Ch (fun k => k = g) w2 (w2.setCell ⟨g, 1, none⟩ v2) := (Ch.refl (fun k => k = g) w2).setCell (p := ⟨g, 1, none⟩) (fun _ => rfl) _
  have hs3 := hc23.size
  have q2 := h.blk.ch hc12 hff
  have hvT : ∀ q, v2.ownBlock = some q → Up T w (w2.setCell ⟨g, 1, none⟩ v2) q := fun q hq => by
    have hlt := (ho.lt q hq).2
    rcases hv with hv | hv
    · exact .inl (h.tv q (by rw [← hv, hq]))
    · rw [hv] at hq; injection hq with hq; exact .inr ⟨by omega, by omega⟩
  have hR2 : ∀ {u : Value} {x : Tx}, Sl w1 (fun k => ¬ R k) 1 u x.length (BVs x) → Sl (w2.setCell ⟨g, 1, none⟩ v2) (fun k => ¬ R k) 1 u x.length (BVs x) := fun {u x} hs =>
    (hs.ch hc12 (fun k _ hk hr => (hR k hr).1 (h.tv k hk))).ch hc23 (fun k _ hk hr => (hR k hr).1 (by rw [hk]; exact h.tg))
  refine ⟨⟨v2, mg, ⟨q2.set_ 1 _, ⟨vals ++ news, ?_, fun i hi => ?_⟩, (h.gs.ch hc12 (fun e => ?_)).ch hc23 (fun e => ?_), .inl h.tg, hvT, .inl h.tm⟩⟩, ?_⟩
  · have := own_ch ho hc23 (fun q hq e => hvg q hq e)
    simpa using this
  · by_cases hlt : i < t.recs.length
    · obtain ⟨u, hu, hs⟩ := h2 i hlt
      refine ⟨u, by rw [List.getElem?_append_left (by omega)]; exact hu, ?_⟩
      have e : (t.recs ++ rs)[i] = t.recs[i] := List.getElem_append_left hlt
      simp only [e]
      exact hR2 hs
    · have hi' : i - t.recs.length < rs.length := by simp only [List.length_append] at hi; omega
      obtain ⟨u, hu, hs⟩ := k2 (i - t.recs.length) hi'
      refine ⟨u, by rw [List.getElem?_append_right (by omega), hvl]; exact hu, ?_⟩
      have e : (t.recs ++ rs)[i] = rs[i - t.recs.length] := List.getElem_append_right (by omega)
      simp only [e]
      exact hR2 hs
  · obtain ⟨D, hD, -⟩ := h.gs
    exact map_row hD h1 e
  · obtain ⟨D, hD, -⟩ := h.gs
    exact map_far hD h.blk e
  · exact ((Ch.of_below hb (Nat.le_refl _)).trans (hc12.mono (T := T) (fun k _ hk => h.tv k hk)) (fun _ _ h => h)).trans (hc23.mono (T := T) (fun k _ hk => by rw [hk]; exact h.tg)) (fun _ _ h => h)

set_option maxRecDepth 100000 in
set_option maxHeartbeats 1000000 in
theorem publish_any (w : World) (T R : Nat → Prop) (g : Nat) (t : Tp) (v : Value) (mg : Nat) (A : Option Addr) (c : Nat) (rs : List Tx) (h : Tg w T R g t v mg) (hf : FitT t) (hR : ∀ k, R k → ¬ T k ∧ k < w.heap.size) (hl : Ins w R A c rs) (h4 : rs.length ≤ 64) :
    Calls Tryz.prog 140 #[.pointer (some ⟨g, 0, none⟩), .slice A rs.length c] w fun e w' => e = .returned (.tuple #[.int .i64 (pubS t rs).1.1, .int .i64 (pubS t rs).1.2]) ∧ Tdid T R g (pubS t rs).2 w w' := by
  have HN := Lib.hid (next_any w T R g t v mg h hf.base hf.next)
  have HT := Lib.hid h
  obtain ⟨vals, h1, h2⟩ := h.recs
  obtain ⟨news, k1, k2⟩ := hl
  have HV := Lib.hid (And.intro h1 h2)
  have HW := Lib.hid (And.intro k1 k2)
  obtain ⟨Ar, cr, rfl⟩ := own_shape h1
  have hb0 := hf.base
  have hb1 := hf.next
  have hfew := hf.few
  have HNX : Hid (t.next = t.base + (t.recs.length : Int)) := Lib.hid rfl
  have hn0 : 0 ≤ t.next := by rw [HNX.out]; omega
  simp only [maxNum] at hb1
  have HR := Lib.hid hR
  clear h h1 h2 k1 k2 hf hR
  have w1 : IntKind.i64.wrap ((t.recs.length : Int) + (rs.length : Int)) = (t.recs.length : Int) + (rs.length : Int) := Ga.wrap64 (by omega) (by omega)
  have w2 : IntKind.i64.wrap (t.next + (rs.length : Int)) = t.next + (rs.length : Int) := Ga.wrap64 (by omega) (by omega)
  by_cases q1 : 64 < t.recs.length + rs.length
  · have e : pubS t rs = ((0, 71), t) := by rw [pubS, if_pos (.inl q1)]
    rw [e]
    have q1' : (64 : Int) < (t.recs.length : Int) + (rs.length : Int) := by omega
    clear q1 e
    go_enter Tryz.func140, Tryz.ntmps140
    go_wp2_with fail
    refine HN.out.mono ?_
    rintro e w1 ⟨rfl, hb⟩
    have HT1 := Lib.hid (HT.out.later hb)
    have HB := Lib.hid hb
    have c1 : w1.cell? ⟨g, 1, none⟩ = some (.slice Ar t.recs.length cr) := HT1.out.blk.cell 1
    clear hb
    go_wp2_with fail
    go_ret2
    exact ⟨rfl, tdid_refl HT.out HB.out⟩
  · by_cases q2 : maxNum - (rs.length : Int) < t.next
    · have e : pubS t rs = ((0, 71), t) := by rw [pubS, if_pos (.inr q2)]
      rw [e]
      simp only [maxNum] at q2
      have q1' : (t.recs.length : Int) + (rs.length : Int) ≤ 64 := by omega
      have q2' : (9007199254740992 : Int) < t.next + (rs.length : Int) := by omega
      clear q1 q2 e
      go_enter Tryz.func140, Tryz.ntmps140
      go_wp2_with fail
      refine HN.out.mono ?_
      rintro e w1 ⟨rfl, hb⟩
      have HT1 := Lib.hid (HT.out.later hb)
      have HB := Lib.hid hb
      have c1 : w1.cell? ⟨g, 1, none⟩ = some (.slice Ar t.recs.length cr) := HT1.out.blk.cell 1
      clear hb
      go_wp2_with fail
      go_ret2
      exact ⟨rfl, tdid_refl HT.out HB.out⟩
    · have e : pubS t rs = ((t.next, 0), { t with recs := t.recs ++ rs }) := by rw [pubS, if_neg (by omega)]
      rw [e]
      simp only [maxNum] at q2
      have q1' : (t.recs.length : Int) + (rs.length : Int) ≤ 64 := by omega
      have q2' : t.next + (rs.length : Int) ≤ 9007199254740992 := by omega
      clear q1 q2 e
      go_enter Tryz.func140, Tryz.ntmps140
      go_wp2_with fail
      refine HN.out.mono ?_
      rintro e w1 ⟨rfl, hb⟩
      have HT1 := Lib.hid (HT.out.later hb)
      have HB := Lib.hid hb
      have c1 : w1.cell? ⟨g, 1, none⟩ = some (.slice Ar t.recs.length cr) := HT1.out.blk.cell 1
      clear hb
      have HV1 : Hid (w1.ownsRow 0 145 1 (.slice Ar t.recs.length cr) t.recs.length vals ∧ (∀ i (hi : i < t.recs.length), ∃ u, vals[i]? = some u ∧ Sl w1 (fun k => ¬ R k) 1 u t.recs[i].length (BVs t.recs[i]))) := Lib.hid ⟨own_below HV.out.1 HB.out, fun i hi => by
        obtain ⟨u, hu, hs⟩ := HV.out.2 i hi
        exact ⟨u, hu, hs.after HB.out⟩⟩
      have HW1 : Hid (Sl w1 (fun _ => False) 1 (.slice A rs.length c) rs.length news ∧ (∀ i (hi : i < rs.length), ∃ u, news[i]? = some u ∧ Sl w1 (fun k => ¬ R k) 1 u rs[i].length (BVs rs[i]))) := Lib.hid ⟨HW.out.1.after HB.out, fun i hi => by
        obtain ⟨u, hu, hs⟩ := HW.out.2 i hi
        exact ⟨u, hu, hs.after HB.out⟩⟩
      have HNL : Hid (news.length = rs.length) := Lib.hid (by obtain ⟨_, _, _, h, _⟩ := HW.out.1; omega)
      have HONE : Hid (∀ u ∈ news, u.oneCell' = true) := Lib.hid (by
        intro u hu
        obtain ⟨i, hi, rfl⟩ := List.getElem_of_mem hu
        obtain ⟨u', hu', h3⟩ := HW.out.2 i (by have := HNL.out; omega)
        obtain ⟨B, d, rfl, -⟩ := h3
        rw [List.getElem?_eq_getElem hi] at hu'
        rw [Option.some.inj hu']
        rfl)
      obtain ⟨i0, hi0, hz0, hz1, hz2⟩ := info_parts info_rec
      go_wp2_with (at_builtin; refine wpList_append_sh _ rfl (.tmp 29) (.tmp 30) _ rfl 0 145 i0 _ 1 24 Tryz.underlying96 hi0 hz0 hz1 hz2 rfl (by omega) (.slice Ar t.recs.length cr) t.recs.length vals rfl HV1.out.1 (fun _ => False) _ rs.length news rfl HW1.out.1 HONE.out (by simp only [maxLen]; omega) (by omega) (Nat.zero_le _) ?_; intro A4 c4 w4 happ; have HAP := Lib.hid happ; have HF4 := Lib.hid (own_far HV1.out.1 HT1.out.blk (by decide)); have q4 := HT1.out.blk.grown happ.2.1 (Ne.symm HF4.out); have f1 := q4.frozen 1; have g1 := q4.cell 1; simp only [List.getElem?_toArray, List.getElem?_cons_zero, List.getElem?_cons_succ] at g1; clear happ q4)
      go_ret2
      exact ⟨rfl, pub_end HT1.out HR.out HB.out HV1.out.1 HV1.out.2 HNL.out HW1.out.2 HAP.out rfl⟩
end Go.Proofs.YtobphijbhghgmaaGreat.Ac

/-
  Contract of the program's topic: commit.
-/
namespace Go.Proofs.YtobphijbhghgmaaGreat.Ad
set_option linter.unusedSimpArgs false
open Go Go.RowKit Ck Kw Ga Kf Km Pm Pz Tm Tn Tq Aa Ab Ac
attribute [local go_sem ↓] Go.wp_at_zero Go.wp_at_succ
set_option linter.unusedVariables false

theorem pos_cons (g : Gp) (gs : List Gp) (s : Tx) : pos (g :: gs) s = if g.n = s then some g.pos else pos gs s := by
  unfold pos
  rw [List.find?_cons]
  by_cases e : g.n = s
  · simp [e]
  · rw [decide_eq_false e, if_neg e]
theorem pos_ins {gs : List Gp} (h : RG gs) (n : Tx) (k : Int) (s : Tx) : pos (insG n k gs) s = if s = n then some k else pos gs s := by
  induction gs with
  | nil =>
    simp only [insG, pos_cons]
    by_cases e : s = n
    · subst e; simp
    · rw [if_neg (fun h => e h.symm), if_neg e]
  | cons f gs ih =>
    have hc := List.pairwise_cons.1 h
    have ih := ih hc.2
    unfold insG
    split
    · rename_i hlt
      rw [pos_cons, pos_cons, ih]
      by_cases e : f.n = s
      · have : s ≠ n := fun h => by rw [← h, ← e] at hlt; exact List.lt_irrefl _ hlt
        rw [if_pos e, if_neg this, if_pos e]
      · rw [if_neg e, if_neg e]
    · split
      · rename_i hn he
        rw [pos_cons, pos_cons]
        by_cases e : s = n
        · subst e; simp
        · rw [if_neg (fun h => e h.symm), if_neg e, if_neg (fun h => e (h.symm.trans he))]
      · rename_i hn he
        rw [pos_cons]
        by_cases e : s = n
        · subst e; simp
        · rw [if_neg (fun h => e h.symm), if_neg e]
theorem isSome_pos {gs : List Gp} {x : Tx} : (pos gs x).isSome = true ↔ x ∈ gs.map (·.n) := by
  rw [List.mem_map]
  constructor
  · intro h
    rcases Classical.em (∃ a, a ∈ gs ∧ a.n = x) with h' | h'
    · exact h'
    · rw [pos_none.2 (fun g hg e => h' ⟨g, hg, e⟩)] at h; cases h
  · rintro ⟨t, ht, rfl⟩
    cases hf : pos gs t.n with
    | none => exact absurd rfl (pos_none.1 hf t ht)
    | some _ => rfl
theorem rg_nodup {gs : List Gp} (h : RG gs) : (gs.map (·.n)).Nodup := by
  have h1 : (gs.map (·.n)).Pairwise (· < ·) := List.pairwise_map.2 h
  exact h1.imp (fun {a b} hab e => by rw [e] at hab; exact List.lt_irrefl _ hab)
theorem gs_size {w : World} {m n : Nat} {D : DataW Unit} {gs : List Gp} (h : w.ownsMap Tryz.prog 9 inElem m n D) (hT : TellsG D gs) (hg : RG gs) : Maps.size D = gs.length := by
  rw [size_names h (rg_nodup hg) (fun x => by rw [hT.1, isSome_pos]), List.length_map]
theorem zero_i64 (w : World) : (zeroValue 2).run Tryz.prog w = .ok (.int .i64 0) w := by kernel_rfl
theorem glook {w : World} {m n : Nat} {D : DataW Unit} {gs : List Gp} (h : w.ownsMap Tryz.prog 9 inElem m n D) (hT : TellsG D gs) (x : Tx) (hx : x.length ≤ 140737488355328) :
    (Instr.lookup 156 (.map (some m)) (.string ⟨x.toArray⟩) true).run Tryz.prog w = .ok (.tuple #[.int .i64 ((pos gs x).getD 0), .bool (pos gs x).isSome]) w := by
  obtain ⟨v, ps, hrun, hv⟩ := h.look_ok law_str Tryz.underlying156 (zero_i64 w) (zd := .lit (.int .i64 0)) (zp := []) (inElem_mk 0) (key_str x (by simp only [maxLen]; omega))
  rw [hT.1 x] at hrun
  rw [hrun]
  cases hf : pos gs x with
  | some k =>
    rw [hT.2 x k hf] at hv
    rw [inElem_at hv]
    rfl
  | none =>
    rw [has_atKey (by rw [hT.1, hf]; rfl)] at hv
    rw [inElem_at hv]
    rfl
theorem tells_put {w : World} {m n : Nat} {D : DataW Unit} {gs : List Gp} (h : w.ownsMap Tryz.prog 9 inElem m n D) (hT : TellsG D gs) (hg : RG gs) (x : Tx) (k : Int) : TellsG (D.put (.string x) (.lit (.int .i64 k))) (insG x k gs) := by
  refine ⟨fun s => ?_, fun s j hj zd => ?_⟩
  · rw [has_put h.isMap, pos_ins hg, hT.1]
    by_cases e : s = x
    · subst e; simp
    · have : (x == s) = false := by rw [beq_eq_false_iff_ne]; exact fun h => e h.symm
      rw [this, if_neg e, Bool.false_or]
  · rw [pos_ins hg] at hj
    by_cases e : s = x
    · subst e
      rw [if_pos rfl] at hj
      rw [at_put_same h.isMap, Option.some.inj hj]
    · rw [if_neg e] at hj
      rw [at_put_other e]
      exact hT.2 s j hj zd
/-- What commit answers, and the topic behind it. -/
def comS (t : Tp) (x : Tx) (k : Int) : (Int × Int) × Tp :=
  if k < (pos t.gs x).getD 0 ∨ t.next < k then ((0, 72), t) else if pos t.gs x = none ∧ 8 ≤ t.gs.length then ((0, 6), t) else ((k, 0), { t with gs := insG x k t.gs })
theorem com_end {w w1 w2 : World} {T R : Nat → Prop} {g mg : Nat} {t : Tp} {v : Value} {D : DataW Unit} {x : Tx} {k : Int} (h : Tg w1 T R g t v mg) (hR : ∀ k, R k → ¬ T k) (hb : Below w.heap.size w w1) (hD : w1.ownsMap Tryz.prog 9 inElem mg (Maps.size D) D) (hT : TellsG D t.gs) (hg : RG t.gs) {n : Nat}
    (ho : w2.ownsMap Tryz.prog 9 inElem mg n (D.put (.string x) (.lit (.int .i64 k)))) (c : Ch (fun j => j = mg) w1 w2) : Tdid T R g { t with gs := insG x k t.gs } w w2 := by
  obtain ⟨vals, h1, h2⟩ := h.recs
  refine ⟨⟨v, mg, ⟨h.blk.ch c (fun e => map_far hD h.blk e.symm), h.recs.ch c (fun q hq e => map_row hD h1 (by rw [hq, e])) (fun q hq e => hR q hq (by rw [e]; exact h.tm)), ⟨_, own_tight ho, tells_put hD hT hg x k⟩, .inl h.tg, fun q hq => .inl (h.tv q hq), .inl h.tm⟩⟩, ?_⟩
  exact (Ch.of_below hb (Nat.le_refl _)).trans (c.mono (T := T) (fun k _ hk => by rw [hk]; exact h.tm)) (fun _ _ h => h)

set_option maxRecDepth 100000 in
set_option maxHeartbeats 1000000 in
theorem commit_any (w : World) (T R : Nat → Prop) (g : Nat) (t : Tp) (v : Value) (mg : Nat) (x : Tx) (k : Int) (hx : x.length ≤ 140737488355328) (h : Tg w T R g t v mg) (hf : FitT t) (hg : RG t.gs) (hR : ∀ k, R k → ¬ T k) :
    Calls Tryz.prog 141 #[.pointer (some ⟨g, 0, none⟩), .string ⟨x.toArray⟩, .int .i64 k] w fun e w' => e = .returned (.tuple #[.int .i64 (comS t x k).1.1, .int .i64 (comS t x k).1.2]) ∧ Tdid T R g (comS t x k).2 w w' := by
  have HN := Lib.hid (next_any w T R g t v mg h hf.base hf.next)
  have HT := Lib.hid h
  obtain ⟨D, hD, hT⟩ := h.gs
  have c2 : w.cell? ⟨g, 2, none⟩ = some (.map (some mg)) := h.blk.cell 2
  have e2 := glook hD hT x hx
  have hsz := gs_size hD hT hg
  have hfew := hf.groups
  have HK := Lib.hid (key_str x (by simp only [maxLen]; omega))
  have HDT := Lib.hid (And.intro hD hT)
  have HRG := Lib.hid hg
  have HR := Lib.hid hR
  clear h hD hT hf hx hg hR
  by_cases q1 : k < (pos t.gs x).getD 0
  · have e : comS t x k = ((0, 72), t) := by rw [comS, if_pos (.inl q1)]
    rw [e]
    clear e
    go_enter Tryz.func141, Tryz.ntmps141
    go_wp2_with fail
    go_ret2
    exact ⟨rfl, tdid_refl HT.out (Below.refl _ _)⟩
  · have q1' : (pos t.gs x).getD 0 ≤ k := by omega
    by_cases q2 : t.next < k
    · have e : comS t x k = ((0, 72), t) := by rw [comS, if_pos (.inr q2)]
      rw [e]
      clear e q1
      go_enter Tryz.func141, Tryz.ntmps141
      go_wp2_with fail
      refine HN.out.mono ?_
      rintro e w1 ⟨rfl, hb⟩
      have HB := Lib.hid hb
      have HT1 := Lib.hid (HT.out.later hb)
      have c2 : w1.cell? ⟨g, 2, none⟩ = some (.map (some mg)) := HT1.out.blk.cell 2
      have HD1 := Lib.hid (map_ch HDT.out.1 (Ch.of_below (S := fun _ => False) hb (Nat.le_refl _)) (fun h => h))
      clear hb
      go_wp2_with fail
      go_ret2
      exact ⟨rfl, tdid_refl HT.out HB.out⟩
    · have q2' : k ≤ t.next := by omega
      have HSZ := Lib.hid hsz
      have HDL : Hid (Maps.size D < maxLen) := Lib.hid (by rw [hsz]; simp only [maxLen]; omega)
      cases hp : pos t.gs x with
      | none =>
        rw [hp] at e2 q1'
        simp only [Option.getD_none, Option.isSome_none] at e2 q1'
        by_cases h8 : 8 ≤ t.gs.length
        · have e : comS t x k = ((0, 6), t) := by rw [comS, if_neg (by rw [hp]; simp only [Option.getD_none]; omega), if_pos ⟨hp, h8⟩]
          rw [e]
          have hll : (8 : Int) ≤ (t.gs.length : Int) := by omega
          clear e q1 q2 hp h8 hsz
          go_enter Tryz.func141, Tryz.ntmps141
          go_wp2_with fail
          refine HN.out.mono ?_
          rintro e w1 ⟨rfl, hb⟩
          have HB := Lib.hid hb
          have HT1 := Lib.hid (HT.out.later hb)
          have c2 : w1.cell? ⟨g, 2, none⟩ = some (.map (some mg)) := HT1.out.blk.cell 2
          have HD1 := Lib.hid (map_ch HDT.out.1 (Ch.of_below (S := fun _ => False) hb (Nat.le_refl _)) (fun h => h))
          clear hb
          have hle := HD1.out.len Tryz.underlying156 3
          rw [HSZ.out] at hle
          go_wp2_with fail
          go_ret2
          exact ⟨rfl, tdid_refl HT.out HB.out⟩
        · have e : comS t x k = ((k, 0), { t with gs := insG x k t.gs }) := by rw [comS, if_neg (by rw [hp]; simp only [Option.getD_none]; omega), if_neg (by omega)]
          rw [e]
          have hll : (t.gs.length : Int) < (8 : Int) := by omega
          clear e q1 q2 hp h8 hsz
          go_enter Tryz.func141, Tryz.ntmps141
          go_wp2_with fail
          refine HN.out.mono ?_
          rintro e w1 ⟨rfl, hb⟩
          have HB := Lib.hid hb
          have HT1 := Lib.hid (HT.out.later hb)
          have c2 : w1.cell? ⟨g, 2, none⟩ = some (.map (some mg)) := HT1.out.blk.cell 2
          have HD1 := Lib.hid (map_ch HDT.out.1 (Ch.of_below (S := fun _ => False) hb (Nat.le_refl _)) (fun h => h))
          clear hb
          have hle := HD1.out.len Tryz.underlying156 3
          rw [HSZ.out] at hle
          go_wp2_with (first
            | (at_mapUpdate; refine wpList_mapUpdate_in (H := Unit) _ rfl _ _ _ 156 rfl 9 2 law_str Tryz.underlying156 inElem mg (Maps.size D) D rfl HD1.out HDL.out _ _ (.string x) rfl rfl HK.out (.lit (.int .i64 k)) [] (inElem_mk k) ?_; intro w2 hmap2 hturn2))
          go_ret2
          exact ⟨rfl, com_end HT1.out HR.out HB.out HD1.out HDT.out.2 HRG.out hmap2 (Ch.of_grown hturn2.grown (fun g hg _ => (Option.some.inj hg).symm))⟩
      | some j =>
        have e : comS t x k = ((k, 0), { t with gs := insG x k t.gs }) := by rw [comS, if_neg (by omega), if_neg (fun h => by rw [hp] at h; cases h.1)]
        rw [e]
        rw [hp] at e2 q1'
        simp only [Option.getD_some, Option.isSome_some] at e2 q1'
        clear e q1 q2 hp hsz
        go_enter Tryz.func141, Tryz.ntmps141
        go_wp2_with fail
        refine HN.out.mono ?_
        rintro e w1 ⟨rfl, hb⟩
        have HB := Lib.hid hb
        have HT1 := Lib.hid (HT.out.later hb)
        have c2 : w1.cell? ⟨g, 2, none⟩ = some (.map (some mg)) := HT1.out.blk.cell 2
        have HD1 := Lib.hid (map_ch HDT.out.1 (Ch.of_below (S := fun _ => False) hb (Nat.le_refl _)) (fun h => h))
        clear hb
        have hle := HD1.out.len Tryz.underlying156 3
        rw [HSZ.out] at hle
        go_wp2_with (first
          | (at_mapUpdate; refine wpList_mapUpdate_in (H := Unit) _ rfl _ _ _ 156 rfl 9 2 law_str Tryz.underlying156 inElem mg (Maps.size D) D rfl HD1.out HDL.out _ _ (.string x) rfl rfl HK.out (.lit (.int .i64 k)) [] (inElem_mk k) ?_; intro w2 hmap2 hturn2))
        go_ret2
        exact ⟨rfl, com_end HT1.out HR.out HB.out HD1.out HDT.out.2 HRG.out hmap2 (Ch.of_grown hturn2.grown (fun g hg _ => (Option.some.inj hg).symm))⟩
end Go.Proofs.YtobphijbhghgmaaGreat.Ad

/-
  Generic: slices.Delete at records, from the front.
-/
namespace Go.Proofs.YtobphijbhghgmaaGreat.Kd
set_option linter.unusedSimpArgs false
open Go Go.RowKit Ck Kw Ga
attribute [local go_sem ↓] Go.wp_at_zero Go.wp_at_succ
set_option linter.unusedVariables false

theorem info_rec : (Tryz.prog.info? 145).map (fun i => (i.zero, i.size, i.bytes)) = some (some (.slice none 0 0), 1, 24) := by kernel_rfl
theorem size_setCells (b : Nat) : ∀ (vs : List Value) (o : Nat) (w : World), (w.setCells b o vs).heap.size = w.heap.size
  | [], _, _ => rfl
  | v :: vs, o, w => by
    rw [World.setCells, size_setCells b vs]
    simp [World.setCell]
theorem os_setCells (w : World) (g o : Nat) (vs : List Value) : (w.setCells g o vs).os = w.os := (World.keptBut_setCells g (may := fun _ => True) vs o w (fun _ _ => trivial)).1
theorem output_setCells (w : World) (g o : Nat) (vs : List Value) : (w.setCells g o vs).output = w.output := (World.keptBut_setCells g (may := fun _ => True) vs o w (fun _ _ => trivial)).2.1
theorem heap_setCells_other (w : World) (g o : Nat) (vs : List Value) {i : Nat} (hi : i < w.heap.size) (hne : i ≠ g) : (w.setCells g o vs).heap[i]? = w.heap[i]? := by
  induction vs generalizing o w with
  | nil => rfl
  | cons v vs ih =>
    rw [World.setCells, ih _ _ (by simpa [World.setCell] using hi)]
    exact Below.heap_setCell w ⟨g, o, none⟩ v i hne
theorem ch_setCells (g : Nat) (w : World) (o : Nat) (vs : List Value) : Ch (fun q => q = g) w (w.setCells g o vs) :=
  ⟨os_setCells _ _ _ _, by
    induction vs generalizing o w with
    | nil => rfl
    | cons v vs ih => rw [World.setCells, ih]; rfl, output_setCells _ _ _ _, by rw [size_setCells]; exact Nat.le_refl _, fun i hi hn => heap_setCells_other _ _ _ _ hi hn⟩
theorem setCells_row {g : Nat} {t : TypeId} {fr : Nat × Nat} : ∀ (vs : List Value) (o : Nat) (w : World) (cur : Array Value), w.heap[g]? = some (.cells cur t fr) → o + vs.length ≤ cur.size →
    (w.setCells g o vs).heap[g]? = some (.cells (cur.toList.take o ++ vs ++ cur.toList.drop (o + vs.length)).toArray t fr)
  | [], o, w, cur, h, _ => by simp [World.setCells, h]
  | v :: vs, o, w, cur, h, hl => by
    simp only [List.length_cons] at hl
    have h1 : (w.setCell ⟨g, o, none⟩ v).heap[g]? = some (.cells (cur.setIfInBounds o v) t fr) := by simp [World.setCell, Array.getElem?_modify, h]
    rw [World.setCells, setCells_row vs (o + 1) _ _ h1 (by simp; omega)]
    have e1 : (cur.toList.set o v).take (o + 1) = cur.toList.take o ++ [v] := by
      rw [List.take_set, List.take_add_one]
      have : o < cur.toList.length := by simp; omega
      rw [List.getElem?_eq_getElem this]
      simp only [Option.toList]
      rw [List.set_append_right _ _ (by simp; omega)]
      have e : o - (cur.toList.take o).length = 0 := by simp; omega
      rw [e]; rfl
    have e2 : (cur.toList.set o v).drop (o + 1 + vs.length) = cur.toList.drop (o + (vs.length + 1)) := by
      rw [List.drop_set_of_lt (by omega)]
      congr 1; omega
    rw [Array.toList_setIfInBounds, e1, e2]
    simp
theorem del_end {w W1 : World} {g n k c : Nat} {cur : Array Value} {vals news : List Value} (hr : w.heap[g]? = some (.cells cur 145 (0, 0))) (hW : W1 = w.drew.setCells g (0 + 0 * 1) news)
    (hr1 : W1.heap[g]? = some (.cells (cur.toList.take 0 ++ news ++ cur.toList.drop (0 + news.length)).toArray 145 (0, 0))) (hnews : news = vals.drop k) (hlen : news.length = n - k) (hcl : cur.size = c) (hvl : vals.length = n) (hk : k ≤ n) (hnc : n ≤ c) (hcm : c ≤ maxLen) :
    ∃ v', Ending.returned (.slice (some ⟨g, 0, none⟩) (n - k) c) = .returned v' ∧ (W1.setCells g (n - k) (List.replicate (n - (n - k)) (.slice none 0 0))).ownsRow 0 145 1 v' (n - k) (vals.drop k) ∧ v'.ownBlock = (Value.slice (some ⟨g, 0, none⟩) n c).ownBlock ∧
      Ch (fun q => (Value.slice (some ⟨g, 0, none⟩) n c).ownBlock = some q) w (W1.setCells g (n - k) (List.replicate (n - (n - k)) (.slice none 0 0))) := by
  have hr2 := setCells_row (List.replicate (n - (n - k)) (.slice none 0 0)) (n - k) W1 _ hr1 (by simp; omega)
  have c1 : Ch (fun q => q = g) w W1 := by
    have := ch_setCells g w.drew 0 news
    rw [hW]
    exact ⟨this.os, this.tape, this.output, this.size, this.block⟩
  refine ⟨_, rfl, ⟨by rw [← hnews, hlen]; omega, .inr ⟨g, c, _, rfl, Nat.zero_le _, hr2, by omega, hcm, ?_, ?_⟩⟩, rfl, ?_⟩
  · simp
    omega
  · rw [← hnews]
    simp only [List.take_zero, List.nil_append, Nat.zero_add, Nat.mul_one, List.append_assoc]
    rw [List.take_append_of_le_length (by simp; omega), List.take_take, Nat.min_self, List.take_append_of_le_length (by omega), ← hlen, List.take_length]
  · refine (c1.trans (ch_setCells g W1 _ _) (fun _ _ h => h)).mono (fun q _ hq => ?_)
    subst hq
    rfl
set_option maxRecDepth 100000 in
set_option maxHeartbeats 1000000 in
theorem delete_any (w : World) (v : Value) (n k : Nat) (vals : List Value) (hown : w.ownsRow 0 145 1 v n vals) (hk : k ≤ n) (hn : n ≤ 1000) (h1 : ∀ u ∈ vals, u.oneCell' = true) :
    Calls Tryz.prog 161 #[v, .int .i64 0, .int .i64 (k : Int)] w fun e w' => ∃ v', e = .returned v' ∧ w'.ownsRow 0 145 1 v' (n - k) (vals.drop k) ∧ v'.ownBlock = v.ownBlock ∧ Ch (fun q => v.ownBlock = some q) w w' := by
  obtain ⟨A, c, rfl⟩ := own_shape hown
  have hcc : n ≤ c ∧ c ≤ maxLen := by
    obtain ⟨A0, _, hv, _, hc, hm, _⟩ := Sl.of_own (X := fun _ => False) hown (fun _ _ _ h => h)
    obtain ⟨_, _, e⟩ := Value.slice.inj hv
    omega
  obtain ⟨hnc, hcm⟩ := hcc
  simp only [maxLen] at hcm
  have HO := Lib.hid hown
  by_cases h0 : k = 0
  · subst h0
    have hkc : (0 : Int) ≤ (n : Int) := by omega
    clear hown h1
    go_enter Tryz.func161, Tryz.ntmps161
    go_wp2
    all_goals
      go_ret
      exact ⟨_, rfl, by simpa using HO.out, rfl, Ch.refl _ _⟩
  · rcases hown.2 with ⟨_, h0'⟩ | ⟨g, cap, cur, hv, hg, hr, h2, h3, h4, h5⟩
    · omega
    · obtain ⟨e1, _, e3⟩ := Value.slice.inj hv
      subst e1; subst e3
      obtain ⟨i0, hi0, hz0, hz1, hz2⟩ := info_parts info_rec
      have hvl : vals.length = n := by have := hown.1; omega
      have hcl : cur.size = c := by omega
      obtain ⟨news, hnews⟩ : ∃ news, news = vals.drop k := ⟨_, rfl⟩
      have hlen : news.length = n - k := by rw [hnews, List.length_drop, hvl]
      obtain ⟨Ad, hA, hsrc⟩ : ∃ Ad : Addr, (if c = k then some (⟨g, 0, none⟩ : Addr) else some ⟨g, 0 + k, none⟩) = some Ad ∧ Hid (∀ t u, news[t]? = some u → w.drew.cell? (Ad.add t) = some u) := by
        by_cases h : c = k
        · refine ⟨⟨g, 0, none⟩, by simp [h], Lib.hid (fun t u hu => ?_)⟩
          have h0 : news.length = 0 := by rw [hlen]; omega
          rw [List.length_eq_zero_iff.1 h0] at hu
          simp at hu
        · refine ⟨⟨g, 0 + k, none⟩, by simp [h], Lib.hid (fun t u hu => ?_)⟩
          have ht : t < n - k := by
            have := (List.getElem?_eq_some_iff.1 hu).1
            rwa [hlen] at this
          rw [hnews, List.getElem?_drop] at hu
          have ha : (⟨g, 0 + k, none⟩ : Addr).add t = ⟨g, k + t, none⟩ := by unfold Addr.add; split <;> simp_all
          rw [ha]
          show w.cell? _ = _
          rw [cell_of_row w g (k + t) cur _ (0, 0) hr, ← hu, ← h5]
          rw [List.getElem?_take, if_pos (by omega)]
          simp
      have HV := Lib.hid hnews
      have s1 : Hid (news.length = (n - k) * 1) := Lib.hid (by rw [Nat.mul_one]; exact hlen)
      have s2 : Hid (∀ u ∈ news, u.oneCell' = true) := Lib.hid (by
        intro u hu
        rw [hnews] at hu
        exact h1 u (List.mem_of_mem_drop hu))
      have s3 : Hid (∀ t, t < news.length → (w.drew.cell? ⟨g, 0 + 0 * 1 + t, none⟩).isSome = true ∧ w.drew.frozen? ⟨g, 0 + 0 * 1 + t, none⟩ = false) := Lib.hid (by
        intro t ht
        rw [hlen] at ht
        constructor
        · show (w.cell? _).isSome = true
          rw [cell_of_row w g _ cur _ (0, 0) hr]
          simp; omega
        · show w.frozen? _ = false
          simp [World.frozen?, hr])
      obtain ⟨W1, hW1⟩ : ∃ W1, W1 = w.drew.setCells g (0 + 0 * 1) news := ⟨_, rfl⟩
      have hr1 : W1.heap[g]? = some (.cells (cur.toList.take 0 ++ news ++ cur.toList.drop (0 + news.length)).toArray 145 (0, 0)) := by
        rw [hW1]
        exact setCells_row news 0 w.drew cur hr (by omega)
      have hne : ¬ (c = n - k) := by omega
      have hcl1 : ∀ ty, (Builtin.clear_ #[96] ty #[.slice (some ⟨g, n - k, none⟩) (n - (n - k)) (c - (n - k))]).run Tryz.prog W1 = .ok (.tuple #[]) (W1.setCells g (n - k) (List.replicate (n - (n - k)) (.slice none 0 0))) :=
        fun ty => Lib.run_clear_slice W1 _ _ ty _ Tryz.underlying96 (fun w => by kernel_rfl) rfl rfl g (n - k) _ _ (by omega) (fun t ht => by
          rw [cell_of_row W1 g _ _ _ (0, 0) hr1]
          simp
          omega) (fun t ht => by simp [World.frozen?, hr1])
      have HW : Hid (W1 = w.drew.setCells g (0 + 0 * 1) news) := Lib.hid hW1
      have HR1 := Lib.hid hr1
      have HR := Lib.hid (And.intro hr (And.intro hlen (And.intro hcl (And.intro h5 hvl))))
      have hkc : k ≤ c := by omega
      clear hW1 hr1 hr hlen hcl h5 hvl hown h1 hnews h2 h3 h4
      go_enter Tryz.func161, Tryz.ntmps161
      go_wp2_with fail
      go_region_law ((refine step_append_room rfl (.tmp 22) (.tmp 25) 96 rfl 145 i0 1 Tryz.underlying96 hi0 hz1 g 0 0 c (by simp [Act.eval, Act.put]) Ad (n - k) (c - k) news (by simp [Act.eval, Act.put]; simpa using hA) s1.out hsrc.out s2.out (by omega) s3.out ?_; rw [← HW.out]))
      go_wp2
      all_goals
        go_ret
        obtain ⟨q1, q2, q3, q4, q5⟩ := HR.out
        first
          | exact del_end q1 HW.out HR1.out HV.out q2 q3 q5 hk hnc (by simp only [maxLen]; omega)
          | (have hck : c = k := by assumption
             subst hck
             exact del_end q1 HW.out HR1.out HV.out q2 q3 q5 hk hnc (by simp only [maxLen]; omega))
end Go.Proofs.YtobphijbhghgmaaGreat.Kd

/-
  Contract of the program's topic: trim; one topic of many turned.
-/
namespace Go.Proofs.YtobphijbhghgmaaGreat.Ae
set_option linter.unusedSimpArgs false
open Go Go.RowKit Ck Kw Ga Kf Km Kd Pm Pz Tm Tn Tq Aa Ab Ac Ad
attribute [local go_sem ↓] Go.wp_at_zero Go.wp_at_succ
set_option linter.unusedVariables false

/-- What trim answers, and the topic behind it. -/
def triS (t : Tp) (k : Int) : (Int × Int) × Tp :=
  if k < t.base ∨ t.next < k then ((0, 72), t) else ((k, 0), { t with base := k, recs := t.recs.drop (k - t.base).toNat })
theorem tri_end {w w1 w2 : World} {T R : Nat → Prop} {g mg j : Nat} {t : Tp} {v v2 : Value} {vals : List Value} (h : Tg w1 T R g t v mg) (hR : ∀ k, R k → ¬ T k) (hb : Below w.heap.size w w1)
    (h1 : w1.ownsRow 0 145 1 v t.recs.length vals) (h2 : ∀ i (hi : i < t.recs.length), ∃ u, vals[i]? = some u ∧ Sl w1 (fun k => ¬ R k) 1 u t.recs[i].length (BVs t.recs[i])) (hj : j ≤ t.recs.length)
    (ho : w2.ownsRow 0 145 1 v2 (t.recs.length - j) (vals.drop j)) (hv : v2.ownBlock = v.ownBlock) (c : Ch (fun q => v.ownBlock = some q) w1 w2) (k : Int) :
    Tdid T R g { t with base := k, recs := t.recs.drop j } w ((w2.setCell ⟨g, 1, none⟩ v2).setCell ⟨g, 0, none⟩ (.int .i64 k)) := by
  have hff := own_far h1 h.blk (by decide)
  have q2 := h.blk.ch c hff
  have hc23 : Ch (fun k => k = g) w2 ((w2.setCell ⟨g, 1, none⟩ v2).setCell ⟨g, 0, none⟩ (.int .i64 k)) := ((Ch.refl (fun k => k = g) w2).setCell (p := ⟨g, 1, none⟩) (fun _ => rfl) _).setCell (p := ⟨g, 0, none⟩) (fun _ => rfl) _
  have hvl : vals.length = t.recs.length := by have := h1.1; omega
  refine ⟨⟨v2, mg, ⟨(q2.set_ 1 _).set_ 0 _, ⟨vals.drop j, ?_, fun i hi => ?_⟩, (h.gs.ch c (fun e => ?_)).ch hc23 (fun e => ?_), .inl h.tg, fun q hq => .inl (h.tv q (by rw [← hv, hq])), .inl h.tm⟩⟩, ?_⟩
  · have := own_ch ho hc23 (fun q hq e => hff (by rw [← hv, hq, e]))
    simpa using this
  · have hi' : i + j < t.recs.length := by simp only [List.length_drop] at hi; omega
    obtain ⟨u, hu, hs⟩ := h2 (j + i) (by omega)
    refine ⟨u, by rw [List.getElem?_drop]; exact hu, ?_⟩
    have e : (t.recs.drop j)[i] = t.recs[j + i] := List.getElem_drop
    simp only [e]
    exact (hs.ch c (fun k _ hk hr => hR k hr (h.tv k hk))).ch hc23 (fun k _ hk hr => hR k hr (by rw [hk]; exact h.tg))
  · obtain ⟨D, hD, -⟩ := h.gs
    exact map_row hD h1 e
  · obtain ⟨D, hD, -⟩ := h.gs
    exact map_far hD h.blk e
  · exact ((Ch.of_below hb (Nat.le_refl _)).trans (c.mono (T := T) (fun k _ hk => h.tv k hk)) (fun _ _ h => h)).trans (hc23.mono (T := T) (fun k _ hk => by rw [hk]; exact h.tg)) (fun _ _ h => h)
set_option maxRecDepth 100000 in
set_option maxHeartbeats 300000 in
theorem trim_any (w : World) (T R : Nat → Prop) (g : Nat) (t : Tp) (v : Value) (mg : Nat) (k : Int) (h : Tg w T R g t v mg) (hf : FitT t) (hR : ∀ k, R k → ¬ T k) :
    Calls Tryz.prog 142 #[.pointer (some ⟨g, 0, none⟩), .int .i64 k] w fun e w' => e = .returned (.tuple #[.int .i64 (triS t k).1.1, .int .i64 (triS t k).1.2]) ∧ Tdid T R g (triS t k).2 w w' := by
  have HN := Lib.hid (next_any w T R g t v mg h hf.base hf.next)
  have HT := Lib.hid h
  obtain ⟨vals, h1, h2⟩ := h.recs
  obtain ⟨Ar, cr, rfl⟩ := own_shape h1
  have c0 : w.cell? ⟨g, 0, none⟩ = some (.int .i64 t.base) := h.blk.cell 0
  have c1 : w.cell? ⟨g, 1, none⟩ = some (.slice Ar t.recs.length cr) := h.blk.cell 1
  have hb0 := hf.base
  have hb1 := hf.next
  have hfew := hf.few
  have HNX : Hid (t.next = t.base + (t.recs.length : Int)) := Lib.hid rfl
  simp only [maxNum] at hb1
  have HV := Lib.hid (And.intro h1 h2)
  have HR := Lib.hid hR
  clear h h1 h2 hf hR
  by_cases q1 : k < t.base
  · have e : triS t k = ((0, 72), t) := by rw [triS, if_pos (.inl q1)]
    rw [e]
    clear e
    go_enter Tryz.func142, Tryz.ntmps142
    go_wp2_with fail
    go_ret2
    exact ⟨rfl, tdid_refl HT.out (Below.refl _ _)⟩
  · have q1' : t.base ≤ k := by omega
    by_cases q2 : t.next < k
    · have e : triS t k = ((0, 72), t) := by rw [triS, if_pos (.inr q2)]
      rw [e]
      clear e q1
      go_enter Tryz.func142, Tryz.ntmps142
      go_wp2_with fail
      refine HN.out.mono ?_
      rintro e w1 ⟨rfl, hb⟩
      have HB := Lib.hid hb
      clear hb
      go_wp2_with fail
      go_ret2
      exact ⟨rfl, tdid_refl HT.out HB.out⟩
    · have q2' : k ≤ t.next := by omega
      have e : triS t k = ((k, 0), { t with base := k, recs := t.recs.drop (k - t.base).toNat }) := by rw [triS, if_neg (by omega)]
      rw [e]
      have hj : (k - t.base).toNat ≤ t.recs.length := by have := HNX.out; omega
      have hk : k = t.base + ((k - t.base).toNat : Int) := by omega
      generalize (k - t.base).toNat = j at *
      subst hk
      have hw : IntKind.i64.wrap (t.base + (j : Int) - t.base) = (j : Int) := by
        rw [show t.base + (j : Int) - t.base = (j : Int) from by omega]
        exact Ga.wrap64 (by omega) (by omega)
      have hw2 : t.base + (j : Int) - t.base = (j : Int) := by omega
      have hw3 : IntKind.i64.wrap (j : Int) = (j : Int) := Ga.wrap64 (by omega) (by omega)
      have HJ := Lib.hid hj
      clear e q1 q2
      go_enter Tryz.func142, Tryz.ntmps142
      go_wp2_with fail
      refine HN.out.mono ?_
      rintro e w1 ⟨rfl, hb⟩
      have HB := Lib.hid hb
      have HT1 := Lib.hid (HT.out.later hb)
      clear c0 c1
      have c0 : w1.cell? ⟨g, 0, none⟩ = some (.int .i64 t.base) := HT1.out.blk.cell 0
      have c1 : w1.cell? ⟨g, 1, none⟩ = some (.slice Ar t.recs.length cr) := HT1.out.blk.cell 1
      have HV1 : Hid (w1.ownsRow 0 145 1 (.slice Ar t.recs.length cr) t.recs.length vals ∧ (∀ i (hi : i < t.recs.length), ∃ u, vals[i]? = some u ∧ Sl w1 (fun k => ¬ R k) 1 u t.recs[i].length (BVs t.recs[i]))) := Lib.hid ⟨own_below HV.out.1 HB.out, fun i hi => by
        obtain ⟨u, hu, hs⟩ := HV.out.2 i hi
        exact ⟨u, hu, hs.after HB.out⟩⟩
      have HONE : Hid (∀ u ∈ vals, u.oneCell' = true) := Lib.hid (by
        intro u hu
        obtain ⟨i, hi, rfl⟩ := List.getElem_of_mem hu
        obtain ⟨u', hu', h3⟩ := HV.out.2 i (by have := HV.out.1.1; omega)
        obtain ⟨B, d, rfl, -⟩ := h3
        rw [List.getElem?_eq_getElem hi] at hu'
        rw [Option.some.inj hu']
        rfl)
      have HD := Lib.hid (delete_any w1.drew _ _ j vals (show w1.drew.ownsRow 0 _ 1 _ _ _ from HV1.out.1) HJ.out (by omega) HONE.out)
      clear hb hj
      go_wp2_with fail
      go_region_law (first
        | (go_simp; go_at_call 161; refine HD.out.mono ?_; rintro e w2 ⟨v2, rfl, ho2, hv2, hc2⟩; obtain ⟨A2, c2, rfl⟩ := own_shape ho2; have hc2' : Ch (fun q => (Value.slice Ar t.recs.length cr).ownBlock = some q) w1 w2 := ch_of_drew hc2; have q2 := HT1.out.blk.ch hc2' (own_far HV1.out.1 HT1.out.blk (by decide)); have j0 := q2.cell 0; have j1 := q2.cell 1; have f0 := q2.frozen 0; have f1 := q2.frozen 1; simp only [List.getElem?_toArray, List.getElem?_cons_zero, List.getElem?_cons_succ] at j0 j1))
      all_goals
        go_wp2
        go_ret2
        exact ⟨rfl, tri_end HT1.out HR.out HB.out HV1.out.1 HV1.out.2 HJ.out ho2 hv2 hc2' _⟩
end Go.Proofs.YtobphijbhghgmaaGreat.Ae

/-
  Contract of the program's topics: run.
-/
namespace Go.Proofs.YtobphijbhghgmaaGreat.Af
set_option linter.unusedSimpArgs false
open Go Go.RowKit Ck Kw Ga Kf Km Kd Pm Pz Pe Pg Tm Tn Tq Aa Ab Ac Ad Ae
attribute [local go_sem ↓] Go.wp_at_zero Go.wp_at_succ
set_option linter.unusedVariables false

theorem upd_const {L : List Tp} (h : RT L) {x : Tp} (hx : x ∈ L) (f : Tp → Tp) : updT L x.n f = updT L x.n (fun _ => f x) := by
  unfold updT
  refine List.map_congr_left fun t ht => ?_
  by_cases e : t.n = x.n
  · rw [if_pos e, if_pos e, rt_one h ht hx e]
  · rw [if_neg e, if_neg e]
theorem upd_same {L : List Tp} (h : RT L) {x : Tp} (hx : x ∈ L) : updT L x.n (fun _ => x) = L := by
  unfold updT
  have : ∀ t ∈ L, (if t.n = x.n then x else t) = t := fun t ht => by
    by_cases e : t.n = x.n
    · rw [if_pos e, rt_one h ht hx e]
    · rw [if_neg e]
  rw [List.map_congr_left this]
  simp
theorem mem_upd {L : List Tp} (h : RT L) {x x' t : Tp} (hx : x ∈ L) (hn : x'.n = x.n) (ht : t ∈ updT L x.n (fun _ => x')) : t = x' ∨ (t ∈ L ∧ t.n ≠ x.n) := by
  simp only [updT, List.mem_map] at ht
  obtain ⟨u, hu, rfl⟩ := ht
  by_cases e : u.n = x.n
  · rw [if_pos e]; exact .inl rfl
  · rw [if_neg e]; exact .inr ⟨hu, e⟩
theorem find_upd {L : List Tp} {x x' : Tp} (hx : x ∈ L) (hn : x'.n = x.n) (s : Tx) : (findT (updT L x.n (fun _ => x')) s).isSome = (findT L s).isSome := by
  rw [Bool.eq_iff_iff, isSome_find, isSome_find]
  have : (updT L x.n (fun _ => x')).map (·.n) = L.map (·.n) := by
    simp only [updT, List.map_map]
    refine List.map_congr_left fun t ht => ?_
    simp only [Function.comp]
    by_cases e : t.n = x.n
    · rw [if_pos e, hn, e]
    · rw [if_neg e]
  rw [this]
/-- One topic is turned. -/
theorem tp_upd {w w' : World} {S R : Nat → Prop} {p m : Nat} {s : St} {D : DataW Unit} {G : Tx → Nat} {V : Tx → Value} {M : Tx → Nat} {F : Tx → Nat → Prop} {x x' : Tp} (h : TP w S R p m s D G V M F) (hx : x ∈ s.L) (hn : x'.n = x.n) (hT : Tdid (F x.n) R (G x.n) x' w w')
    (hg : GoodS ⟨updT s.L x.n (fun _ => x'), s.last⟩) : Did S R p ⟨updT s.L x.n (fun _ => x'), s.last⟩ w w' := by
  obtain ⟨⟨v', mg', hT⟩, c⟩ := hT
  have hrt := h.good.L.rises
  have hplt : p < w.heap.size := h.blk.lt
  have hmlt : m < w.heap.size := h.own.lt
  have hFS : ∀ k, F x.n k → S k := fun k hk => (h.sub x hx k hk).1
  refine ⟨TP.shut (m := m) (D := D) (G := G) (V := fun t => if t = x.n then v' else V t) (M := fun t => if t = x.n then mg' else M t) (F := fun t => if t = x.n then Up (F x.n) w w' else F t)
    ⟨h.blk.ch c (fun hk => (h.sub x hx _ hk).2.1 rfl), .inl h.sp, map_ch h.own c (fun hk => (h.sub x hx _ hk).2.2.1 rfl), ⟨fun t => by rw [h.tells.1, find_upd hx hn], fun t ht zd => ?_⟩, ⟨.inl h.sm.1, h.sm.2⟩, fun t ht => ?_, fun t ht k hk => ?_, fun t ht u hu hne k hk hk' => ?_, fun k hk => ?_, hg⟩, c.mono (fun k _ hk => hFS k hk)⟩
  · rcases mem_upd hrt hx hn ht with rfl | ⟨ht, hne⟩
    · rw [hn]; exact h.tells.2 x hx zd
    · exact h.tells.2 t ht zd
  · rcases mem_upd hrt hx hn ht with rfl | ⟨ht, hne⟩
    · rw [hn]
      simp only [if_pos]
      exact hT
    · simp only [if_neg hne]
      exact (h.top t ht).ch c (fun k h1 h2 => h.apart t ht x hx hne k h1 h2) (fun k hk h2 => (h.rs k hk).1 (hFS k h2))
  · rcases mem_upd hrt hx hn ht with rfl | ⟨ht, hne⟩
    · rw [hn] at hk
      simp only [if_pos] at hk
      rcases hk with hk | ⟨h1, h2⟩
      · have := h.sub x hx k hk
        exact ⟨.inl this.1, this.2.1, this.2.2.1, Nat.lt_of_lt_of_le this.2.2.2 c.size⟩
      · exact ⟨.inr ⟨h1, h2⟩, by omega, by omega, h2⟩
    · simp only [if_neg hne] at hk
      have := h.sub t ht k hk
      exact ⟨.inl this.1, this.2.1, this.2.2.1, Nat.lt_of_lt_of_le this.2.2.2 c.size⟩
  · rcases mem_upd hrt hx hn ht with rfl | ⟨ht1, hne1⟩
    · rcases mem_upd hrt hx hn hu with rfl | ⟨hu1, hne2⟩
      · exact hne rfl
      · rw [hn] at hk
        simp only [if_pos] at hk
        simp only [if_neg hne2] at hk'
        rcases hk with hk | ⟨g1, g2⟩
        · exact h.apart x hx u hu1 (fun e => hne2 e.symm) k hk hk'
        · have := (h.sub u hu1 k hk').2.2.2; omega
    · simp only [if_neg hne1] at hk
      rcases mem_upd hrt hx hn hu with rfl | ⟨hu1, hne2⟩
      · rw [hn] at hk'
        simp only [if_pos] at hk'
        rcases hk' with hk' | ⟨g1, g2⟩
        · exact h.apart t ht1 x hx hne1 k hk hk'
        · have := (h.sub t ht1 k hk).2.2.2; omega
      · simp only [if_neg hne2] at hk'
        exact h.apart t ht1 u hu1 hne k hk hk'
  · obtain ⟨r1, r2⟩ := h.rs k hk
    refine ⟨fun hu => ?_, Nat.lt_of_lt_of_le r2 c.size⟩
    rcases hu with hu | hu
    · exact r1 hu
    · omega
/-- What an operation that may be comes to, without the places. -/
theorem does_0 {L : List Tp} {o : O} (hc : check o = 0) (hk : o.kind = 0) : doesS L o = ((0, 0), [], L) := by rw [doesS, if_neg (by omega), if_pos hk]
theorem does_1 {L : List Tp} {o : O} (hc : check o = 0) (hk : o.kind = 1) : doesS L o = (((crS L o.topic).1, 0), [], (crS L o.topic).2) := by
  rw [doesS, if_neg (by omega), if_neg (by omega), if_pos hk, crS]
  split
  · rfl
  · split
    · rfl
    · rfl
theorem does_no {L : List Tp} {o : O} (hc : check o = 0) (hk0 : o.kind ≠ 0) (hk1 : o.kind ≠ 1) (hf : findT L o.topic = none) : doesS L o = ((4, 0), [], L) := by
  rw [doesS, if_neg (by omega), if_neg hk0, if_neg hk1, hf]
theorem does_2 {L : List Tp} {o : O} {x : Tp} (hr : RT L) (hc : check o = 0) (hk : o.kind = 2) (hf : findT L o.topic = some x) :
    (doesS L o).1 = ((pubS x o.recs).1.2, (pubS x o.recs).1.1) ∧ (doesS L o).2.2 = updT L x.n (fun _ => (pubS x o.recs).2) ∧ (doesS L o).2.1 = if (pubS x o.recs).1.2 = 0 then placed o.topic (pubS x o.recs).1.1 o.recs else [] := by
  obtain ⟨hx, hn⟩ := findT_some hf
  rw [doesS, if_neg (by omega), if_neg (by omega), if_neg (by omega), hf]
  simp only [if_pos hk, pubS]
  split
  · exact ⟨rfl, (upd_same hr hx).symm, rfl⟩
  · refine ⟨rfl, ?_, rfl⟩
    simp only
    rw [← hn, upd_const hr hx]
theorem does_3 {L : List Tp} {o : O} {x : Tp} (hr : RT L) (hc : check o = 0) (hk : o.kind = 3) (hf : findT L o.topic = some x) :
    (doesS L o).1 = ((comS x o.group o.off).1.2, (comS x o.group o.off).1.1) ∧ (doesS L o).2.2 = updT L x.n (fun _ => (comS x o.group o.off).2) ∧ (doesS L o).2.1 = [] := by
  obtain ⟨hx, hn⟩ := findT_some hf
  rw [doesS, if_neg (by omega), if_neg (by omega), if_neg (by omega), hf]
  simp only [if_neg (show ¬ o.kind = 2 by omega), if_pos hk, comS]
  split
  · exact ⟨rfl, (upd_same hr hx).symm, rfl⟩
  · split
    · exact ⟨rfl, (upd_same hr hx).symm, rfl⟩
    · refine ⟨rfl, ?_, rfl⟩
      simp only
      rw [← hn, upd_const hr hx]
theorem does_4 {L : List Tp} {o : O} {x : Tp} (hr : RT L) (hc : check o = 0) (hk : o.kind = 4) (hf : findT L o.topic = some x) :
    (doesS L o).1 = ((triS x o.off).1.2, (triS x o.off).1.1) ∧ (doesS L o).2.2 = updT L x.n (fun _ => (triS x o.off).2) ∧ (doesS L o).2.1 = [] := by
  obtain ⟨hx, hn⟩ := findT_some hf
  rw [doesS, if_neg (by omega), if_neg (by omega), if_neg (by omega), hf]
  simp only [if_neg (show ¬ o.kind = 2 by omega), if_neg (show ¬ o.kind = 3 by omega), triS]
  split
  · exact ⟨rfl, (upd_same hr hx).symm, rfl⟩
  · refine ⟨rfl, ?_, rfl⟩
    simp only
    rw [← hn, upd_const hr hx]
theorem pub_n (x : Tp) (rs : List Tx) : (pubS x rs).2.n = x.n := by unfold pubS; split <;> rfl
theorem com_n (x : Tp) (s : Tx) (k : Int) : (comS x s k).2.n = x.n := by
  unfold comS
  split
  · rfl
  · split <;> rfl
theorem tri_n (x : Tp) (k : Int) : (triS x k).2.n = x.n := by unfold triS; split <;> rfl
end Go.Proofs.YtobphijbhghgmaaGreat.Af

/-
  Contract of the program's topics: run, kind by kind.
-/
namespace Go.Proofs.YtobphijbhghgmaaGreat.Ag
set_option linter.unusedSimpArgs false
open Go Go.RowKit Ck Kw Ga Kf Km Kd Pm Pz Pe Pg Py Tm Tn Tq Aa Ab Ac Ad Ae Af
attribute [local go_sem ↓] Go.wp_at_zero Go.wp_at_succ
set_option linter.unusedVariables false

theorem Tz.more {w : World} {S S' R : Nat → Prop} {p : Nat} {s : St} (h : Tz w S R p s) (hs : ∀ k, S k → S' k) (hr : ∀ k, R k → ¬ S' k) : Tz w S' R p s := by
  obtain ⟨m, D, G, V, M, F, h⟩ := h
  exact ⟨m, D, G, V, M, F, h.blk, hs _ h.sp, h.own, h.tells, ⟨hs _ h.sm.1, h.sm.2⟩, h.top, fun t ht k hk => ⟨hs _ (h.sub t ht k hk).1, (h.sub t ht k hk).2⟩, h.apart, fun k hk => ⟨hr k hk, (h.rs k hk).2⟩, h.good⟩
theorem Tz.rlt {w : World} {S R : Nat → Prop} {p : Nat} {s : St} (h : Tz w S R p s) : ∀ k, R k → ¬ S k ∧ k < w.heap.size := by
  obtain ⟨m, D, G, V, M, F, h⟩ := h
  exact h.rs
theorem did_lift {w w1 w2 : World} {S R : Nat → Prop} {p : Nat} {s : St} (b : Below w.heap.size w w1) (hr : ∀ k, R k → ¬ S k ∧ k < w.heap.size) (h : Did S R p s w1 w2) : Did S R p s w w2 := by
  have hs := b.size
  refine ⟨Tz.more h.1 (fun k hk => ?_) (fun k hk hu => ?_), (Ch.of_below b (Nat.le_refl _)).trans h.2 (fun _ _ h => h)⟩
  · rcases hk with hk | ⟨h1, h2⟩
    · exact .inl hk
    · exact .inr ⟨by omega, h2⟩
  · obtain ⟨r1, r2⟩ := hr k hk
    rcases hu with hu | ⟨h1, h2⟩
    · exact r1 hu
    · omega
theorem op_new (w : World) (o : O) (A : Option Addr) (c : Nat) : OB (w.alloc (.cells (OC o A c) 98)) w.heap.size o A c := Blk.new w _ _
theorem op_below (w : World) (x : Obj) : Below w.heap.size w (w.alloc x) := (Below.refl _ w).alloc (Nat.le_refl _) _
theorem Ins.later {w w' : World} {R : Nat → Prop} {A : Option Addr} {c : Nat} {rs : List Tx} (h : Ins w R A c rs) (b : Below w.heap.size w w') : Ins w' R A c rs := by
  obtain ⟨vals, h1, h2⟩ := h
  refine ⟨vals, h1.after b, fun i hi => ?_⟩
  obtain ⟨u, hu, hs⟩ := h2 i hi
  exact ⟨u, hu, hs.after b⟩
/-- What run leaves. -/
def Ran (S R : Nat → Prop) (p : Nat) (s : St) (o : O) (w : World) (e : Ending) (w' : World) : Prop :=
  e = .returned (.tuple #[.int .i64 (doesS s.L o).1.2, .int .i64 (doesS s.L o).1.1]) ∧ Did S R p ⟨(doesS s.L o).2.2, s.last⟩ w w'
set_option maxRecDepth 100000 in
set_option maxHeartbeats 1000000 in
theorem run_0 (w : World) (S R : Nat → Prop) (p : Nat) (s : St) (o : O) (A : Option Addr) (c : Nat) (hk : o.kind = 0) (hc : check o = 0) (h : Tz w S R p s) (hi : Ins w R A c o.recs) :
    Calls Tryz.prog 112 #[.pointer (some ⟨p, 0, none⟩), OV o A c] w (Ran S R p s o w) := by
  have HRL := Lib.hid (Tz.rlt h)
  have hal := op_below w (.cells (OC o A c) 98)
  have HAL := Lib.hid hal
  have HZ := Lib.hid (h.later hal)
  have hob := op_new w o A c
  obtain ⟨a0, a1, a2, a3, a4⟩ := hob.cells
  have hgood := (doesS_good h.good.L o).1
  have HGS : Hid (GoodS ⟨(doesS s.L o).2.2, s.last⟩) := Lib.hid ⟨hgood, h.good.eight, h.good.a⟩
  have HIN := Lib.hid (Ins.later hi hal)
  have HL4 := Lib.hid (check_lens hc)
  have HD := Lib.hid (does_0 (L := s.L) hc hk)
  clear hal hob hgood h hi hc
  unfold Ran
  rw [HD.out]
  obtain ⟨kind, topic, group, off, recs⟩ := o
  simp only at hk
  subst hk
  unfold OV
  unfold OC at HAL HZ HIN a0 a1 a2 a3 a4
  simp only at HAL HZ HIN a0 a1 a2 a3 a4 ⊢
  go_enter Tryz.func112, Tryz.ntmps112
  go_wp2_with fail
  go_ret2
  exact ⟨rfl, did_lift HAL.out HRL.out (did_refl HZ.out)⟩
set_option maxRecDepth 100000 in
set_option maxHeartbeats 1000000 in
theorem run_1 (w : World) (S R : Nat → Prop) (p : Nat) (s : St) (o : O) (A : Option Addr) (c : Nat) (hk : o.kind = 1) (hc : check o = 0) (h : Tz w S R p s) (hi : Ins w R A c o.recs) :
    Calls Tryz.prog 112 #[.pointer (some ⟨p, 0, none⟩), OV o A c] w (Ran S R p s o w) := by
  have HRL := Lib.hid (Tz.rlt h)
  have hal := op_below w (.cells (OC o A c) 98)
  have HAL := Lib.hid hal
  have HZ := Lib.hid (h.later hal)
  have hob := op_new w o A c
  obtain ⟨a0, a1, a2, a3, a4⟩ := hob.cells
  have hgood := (doesS_good h.good.L o).1
  have HGS : Hid (GoodS ⟨(doesS s.L o).2.2, s.last⟩) := Lib.hid ⟨hgood, h.good.eight, h.good.a⟩
  have HIN := Lib.hid (Ins.later hi hal)
  have HL4 := Lib.hid (check_lens hc)
  have HD := Lib.hid (does_1 (L := s.L) hc hk)
  have hlen := (HL4.out.1 (by rw [hk]; rfl))
  have HC := Lib.hid (create_any _ S R p s o.topic (by omega) HZ.out (fun h1 h2 => by
    have := HGS.out
    rw [HD.out, crS, h1, if_neg (by simp), if_neg (by omega)] at this
    exact this))
  clear hal hob hgood h hi hc hlen
  unfold Ran
  rw [HD.out]
  obtain ⟨kind, topic, group, off, recs⟩ := o
  simp only at hk
  subst hk
  unfold OV
  unfold OC at HAL HZ HIN HC a0 a1 a2 a3 a4
  simp only at HAL HZ HIN HC a0 a1 a2 a3 a4 ⊢
  go_enter Tryz.func112, Tryz.ntmps112
  go_wp2_with fail
  refine HC.out.mono ?_
  rintro e w2 ⟨rfl, hd⟩
  go_wp2_with fail
  go_ret2
  exact ⟨rfl, did_lift HAL.out HRL.out hd⟩
set_option maxRecDepth 100000 in
set_option maxHeartbeats 1000000 in
theorem run_2 (w : World) (S R : Nat → Prop) (p : Nat) (s : St) (o : O) (A : Option Addr) (c : Nat) (hk : o.kind = 2) (hc : check o = 0) (h : Tz w S R p s) (hi : Ins w R A c o.recs) :
    Calls Tryz.prog 112 #[.pointer (some ⟨p, 0, none⟩), OV o A c] w (Ran S R p s o w) := by
  have HRL := Lib.hid (Tz.rlt h)
  have hal := op_below w (.cells (OC o A c) 98)
  have HAL := Lib.hid hal
  have HZ := Lib.hid (h.later hal)
  have hob := op_new w o A c
  obtain ⟨a0, a1, a2, a3, a4⟩ := hob.cells
  have hgood := (doesS_good h.good.L o).1
  have HGS : Hid (GoodS ⟨(doesS s.L o).2.2, s.last⟩) := Lib.hid ⟨hgood, h.good.eight, h.good.a⟩
  have HIN := Lib.hid (Ins.later hi hal)
  have HL4 := Lib.hid (check_lens hc)
  have hlen := (HL4.out.1 (by rw [hk]; rfl))
  obtain ⟨m, D, G, V, M, F, hP⟩ := HZ.out
  have HF := Lib.hid (find_on _ S R p m s D G V M F o.topic (by omega) hP)
  have HP := Lib.hid hP
  have hrt := h.good.L.rises
  cases hf : findT s.L o.topic with
  | none =>
    have HD := Lib.hid (does_no (L := s.L) hc (by omega) (by omega) hf)
    rw [hf] at HF
    unfold PV at HF
    simp only [Option.map_none, Option.isSome_none] at HF
    clear hal hob hgood h hi hc hlen hP hf hrt
    unfold Ran
    rw [HD.out]
    obtain ⟨kind, topic, group, off, recs⟩ := o
    simp only at hk
    subst hk
    unfold OV
    unfold OC at HAL HZ HIN HF HP a0 a1 a2 a3 a4
    simp only at HAL HZ HIN HF HP a0 a1 a2 a3 a4 ⊢
    go_enter Tryz.func112, Tryz.ntmps112
    go_wp2_with fail
    refine HF.out.mono ?_
    rintro e w2 ⟨rfl, rfl⟩
    go_wp2_with fail
    go_ret2
    exact ⟨rfl, did_lift HAL.out HRL.out (did_refl HZ.out)⟩
  | some x =>
    have hD := does_2 hrt hc hk hf
    obtain ⟨hx, hn⟩ := findT_some hf
    have hfit := h.good.L.fit x hx
    have HD := Lib.hid hD
    have HX := Lib.hid hx
    rw [hf] at HF
    unfold PV at HF
    simp only [Option.map_some, Option.isSome_some] at HF
    have hFR : ∀ k, R k → ¬ F x.n k ∧ k < (w.alloc (.cells (OC o A c) 98)).heap.size := fun k hk => ⟨fun hF => (hP.rs k hk).1 (hP.sub x hx k hF).1, (hP.rs k hk).2⟩
    have HC := Lib.hid (publish_any _ _ R _ x _ _ A c o.recs (hP.top x hx) hfit hFR HIN.out (by have := (HL4.out.2.2.2 (by rw [hk]; rfl)).2.1; omega))
    clear hal hob hgood h hi hc hlen hP hf hrt hD hx hfit hFR hn
    unfold Ran
    rw [HD.out.1, HD.out.2.1]
    obtain ⟨kind, topic, group, off, recs⟩ := o
    simp only at hk
    subst hk
    unfold OV
    unfold OC at HAL HZ HIN HF HP HC a0 a1 a2 a3 a4
    simp only at HAL HZ HIN HF HP HC HD a0 a1 a2 a3 a4 ⊢
    go_enter Tryz.func112, Tryz.ntmps112
    go_wp2_with fail
    refine HF.out.mono ?_
    rintro e w2 ⟨rfl, rfl⟩
    go_wp2_with fail
    refine HC.out.mono ?_
    rintro e w3 ⟨rfl, ht⟩
    go_wp2_with fail
    go_ret2
    refine ⟨rfl, did_lift HAL.out HRL.out (tp_upd HP.out HX.out (pub_n _ _) ht ?_)⟩
    rw [← HD.out.2.1]
    exact HGS.out
set_option maxRecDepth 100000 in
set_option maxHeartbeats 1000000 in
theorem run_3 (w : World) (S R : Nat → Prop) (p : Nat) (s : St) (o : O) (A : Option Addr) (c : Nat) (hk : o.kind = 3) (hc : check o = 0) (h : Tz w S R p s) (hi : Ins w R A c o.recs) :
    Calls Tryz.prog 112 #[.pointer (some ⟨p, 0, none⟩), OV o A c] w (Ran S R p s o w) := by
  have HRL := Lib.hid (Tz.rlt h)
  have hal := op_below w (.cells (OC o A c) 98)
  have HAL := Lib.hid hal
  have HZ := Lib.hid (h.later hal)
  have hob := op_new w o A c
  obtain ⟨a0, a1, a2, a3, a4⟩ := hob.cells
  have hgood := (doesS_good h.good.L o).1
  have HGS : Hid (GoodS ⟨(doesS s.L o).2.2, s.last⟩) := Lib.hid ⟨hgood, h.good.eight, h.good.a⟩
  have HIN := Lib.hid (Ins.later hi hal)
  have HL4 := Lib.hid (check_lens hc)
  have hlen := (HL4.out.1 (by rw [hk]; rfl))
  obtain ⟨m, D, G, V, M, F, hP⟩ := HZ.out
  have HF := Lib.hid (find_on _ S R p m s D G V M F o.topic (by omega) hP)
  have HP := Lib.hid hP
  have hrt := h.good.L.rises
  cases hf : findT s.L o.topic with
  | none =>
    have HD := Lib.hid (does_no (L := s.L) hc (by omega) (by omega) hf)
    rw [hf] at HF
    unfold PV at HF
    simp only [Option.map_none, Option.isSome_none] at HF
    clear hal hob hgood h hi hc hlen hP hf hrt
    unfold Ran
    rw [HD.out]
    obtain ⟨kind, topic, group, off, recs⟩ := o
    simp only at hk
    subst hk
    unfold OV
    unfold OC at HAL HZ HIN HF HP a0 a1 a2 a3 a4
    simp only at HAL HZ HIN HF HP a0 a1 a2 a3 a4 ⊢
    go_enter Tryz.func112, Tryz.ntmps112
    go_wp2_with fail
    refine HF.out.mono ?_
    rintro e w2 ⟨rfl, rfl⟩
    go_wp2_with fail
    go_ret2
    exact ⟨rfl, did_lift HAL.out HRL.out (did_refl HZ.out)⟩
  | some x =>
    have hD := does_3 hrt hc hk hf
    obtain ⟨hx, hn⟩ := findT_some hf
    have hfit := h.good.L.fit x hx
    have HD := Lib.hid hD
    have HX := Lib.hid hx
    rw [hf] at HF
    unfold PV at HF
    simp only [Option.map_some, Option.isSome_some] at HF
    have hFR : ∀ k, R k → ¬ F x.n k ∧ k < (w.alloc (.cells (OC o A c) 98)).heap.size := fun k hk => ⟨fun hF => (hP.rs k hk).1 (hP.sub x hx k hF).1, (hP.rs k hk).2⟩
    have HC := Lib.hid (commit_any _ _ R _ x _ _ o.group o.off (by have := HL4.out.2.1 (by rw [hk]; rfl); omega) (hP.top x hx) hfit ((okT_iff x).1 (h.good.L.ok x hx)).2.2.2 (fun k hk => (hFR k hk).1))
    clear hal hob hgood h hi hc hlen hP hf hrt hD hx hfit hFR hn
    unfold Ran
    rw [HD.out.1, HD.out.2.1]
    obtain ⟨kind, topic, group, off, recs⟩ := o
    simp only at hk
    subst hk
    unfold OV
    unfold OC at HAL HZ HIN HF HP HC a0 a1 a2 a3 a4
    simp only at HAL HZ HIN HF HP HC HD a0 a1 a2 a3 a4 ⊢
    go_enter Tryz.func112, Tryz.ntmps112
    go_wp2_with fail
    refine HF.out.mono ?_
    rintro e w2 ⟨rfl, rfl⟩
    go_wp2_with fail
    refine HC.out.mono ?_
    rintro e w3 ⟨rfl, ht⟩
    go_wp2_with fail
    go_ret2
    refine ⟨rfl, did_lift HAL.out HRL.out (tp_upd HP.out HX.out (com_n _ _ _) ht ?_)⟩
    rw [← HD.out.2.1]
    exact HGS.out
set_option maxRecDepth 100000 in
set_option maxHeartbeats 1000000 in
theorem run_4 (w : World) (S R : Nat → Prop) (p : Nat) (s : St) (o : O) (A : Option Addr) (c : Nat) (hk : o.kind = 4) (hc : check o = 0) (h : Tz w S R p s) (hi : Ins w R A c o.recs) :
    Calls Tryz.prog 112 #[.pointer (some ⟨p, 0, none⟩), OV o A c] w (Ran S R p s o w) := by
  have HRL := Lib.hid (Tz.rlt h)
  have hal := op_below w (.cells (OC o A c) 98)
  have HAL := Lib.hid hal
  have HZ := Lib.hid (h.later hal)
  have hob := op_new w o A c
  obtain ⟨a0, a1, a2, a3, a4⟩ := hob.cells
  have hgood := (doesS_good h.good.L o).1
  have HGS : Hid (GoodS ⟨(doesS s.L o).2.2, s.last⟩) := Lib.hid ⟨hgood, h.good.eight, h.good.a⟩
  have HIN := Lib.hid (Ins.later hi hal)
  have HL4 := Lib.hid (check_lens hc)
  have hlen := (HL4.out.1 (by rw [hk]; rfl))
  obtain ⟨m, D, G, V, M, F, hP⟩ := HZ.out
  have HF := Lib.hid (find_on _ S R p m s D G V M F o.topic (by omega) hP)
  have HP := Lib.hid hP
  have hrt := h.good.L.rises
  cases hf : findT s.L o.topic with
  | none =>
    have HD := Lib.hid (does_no (L := s.L) hc (by omega) (by omega) hf)
    rw [hf] at HF
    unfold PV at HF
    simp only [Option.map_none, Option.isSome_none] at HF
    clear hal hob hgood h hi hc hlen hP hf hrt
    unfold Ran
    rw [HD.out]
    obtain ⟨kind, topic, group, off, recs⟩ := o
    simp only at hk
    subst hk
    unfold OV
    unfold OC at HAL HZ HIN HF HP a0 a1 a2 a3 a4
    simp only at HAL HZ HIN HF HP a0 a1 a2 a3 a4 ⊢
    go_enter Tryz.func112, Tryz.ntmps112
    go_wp2_with fail
    refine HF.out.mono ?_
    rintro e w2 ⟨rfl, rfl⟩
    go_wp2_with fail
    go_ret2
    exact ⟨rfl, did_lift HAL.out HRL.out (did_refl HZ.out)⟩
  | some x =>
    have hD := does_4 hrt hc hk hf
    obtain ⟨hx, hn⟩ := findT_some hf
    have hfit := h.good.L.fit x hx
    have HD := Lib.hid hD
    have HX := Lib.hid hx
    rw [hf] at HF
    unfold PV at HF
    simp only [Option.map_some, Option.isSome_some] at HF
    have hFR : ∀ k, R k → ¬ F x.n k ∧ k < (w.alloc (.cells (OC o A c) 98)).heap.size := fun k hk => ⟨fun hF => (hP.rs k hk).1 (hP.sub x hx k hF).1, (hP.rs k hk).2⟩
    have HC := Lib.hid (trim_any _ _ R _ x _ _ o.off (hP.top x hx) hfit (fun k hk => (hFR k hk).1))
    clear hal hob hgood h hi hc hlen hP hf hrt hD hx hfit hFR hn
    unfold Ran
    rw [HD.out.1, HD.out.2.1]
    obtain ⟨kind, topic, group, off, recs⟩ := o
    simp only at hk
    subst hk
    unfold OV
    unfold OC at HAL HZ HIN HF HP HC a0 a1 a2 a3 a4
    simp only at HAL HZ HIN HF HP HC HD a0 a1 a2 a3 a4 ⊢
    go_enter Tryz.func112, Tryz.ntmps112
    go_wp2_with fail
    refine HF.out.mono ?_
    rintro e w2 ⟨rfl, rfl⟩
    go_wp2_with fail
    refine HC.out.mono ?_
    rintro e w3 ⟨rfl, ht⟩
    go_wp2_with fail
    go_ret2
    refine ⟨rfl, did_lift HAL.out HRL.out (tp_upd HP.out HX.out (tri_n _ _) ht ?_)⟩
    rw [← HD.out.2.1]
    exact HGS.out
theorem run_any (w : World) (S R : Nat → Prop) (p : Nat) (s : St) (o : O) (A : Option Addr) (c : Nat) (hc : check o = 0) (h : Tz w S R p s) (hi : Ins w R A c o.recs) :
    Calls Tryz.prog 112 #[.pointer (some ⟨p, 0, none⟩), OV o A c] w (Ran S R p s o w) := by
  rcases kind_cases (check_ok hc).1 with e | e | e | e | e
  · exact run_0 w S R p s o A c e hc h hi
  · exact run_1 w S R p s o A c e hc h hi
  · exact run_2 w S R p s o A c e hc h hi
  · exact run_3 w S R p s o A c e hc h hi
  · exact run_4 w S R p s o A c e hc h hi
end Go.Proofs.YtobphijbhghgmaaGreat.Ag

/-
  Contract of the program's topic: commit.
-/
import Derived.Test.YtcmknopgoiabbaaAc
namespace Go.Proofs.Ytcmknopgoiabbaa.Ad
set_option linter.unusedSimpArgs false
open Go Go.RowKit Ck Kw Ga Kf Km Pm Pz Tm Tn Tq Aa Ab Ac
attribute [local go_sem ↓] Go.wp_at_zero Go.wp_at_succ
set_option linter.unusedVariables false

theorem pos_cons (g : Gp) (gs : List Gp) (s : Tx) : pos (g :: gs) s = if g.n = s then some g.pos else pos gs s := by
  unfold pos
  rw [List.find?_cons]
  by_cases e : g.n = s
  · simp [e]
  · rw [decide_eq_false e, if_neg e]
theorem pos_ins {gs : List Gp} (h : RG gs) (n : Tx) (k : Int) (s : Tx) : pos (insG n k gs) s = if s = n then some k else pos gs s := by
  induction gs with
  | nil =>
    simp only [insG, pos_cons]
    by_cases e : s = n
    · subst e; simp
    · rw [if_neg (fun h => e h.symm), if_neg e]
  | cons f gs ih =>
    have hc := List.pairwise_cons.1 h
    have ih := ih hc.2
    unfold insG
    split
    · rename_i hlt
      rw [pos_cons, pos_cons, ih]
      by_cases e : f.n = s
      · have : s ≠ n := fun h => by rw [← h, ← e] at hlt; exact List.lt_irrefl _ hlt
        rw [if_pos e, if_neg this, if_pos e]
      · rw [if_neg e, if_neg e]
    · split
      · rename_i hn he
        rw [pos_cons, pos_cons]
        by_cases e : s = n
        · subst e; simp
        · rw [if_neg (fun h => e h.symm), if_neg e, if_neg (fun h => e (h.symm.trans he))]
      · rename_i hn he
        rw [pos_cons]
        by_cases e : s = n
        · subst e; simp
        · rw [if_neg (fun h => e h.symm), if_neg e]
theorem isSome_pos {gs : List Gp} {x : Tx} : (pos gs x).isSome = true ↔ x ∈ gs.map (·.n) := by
  rw [List.mem_map]
  constructor
  · intro h
    rcases Classical.em (∃ a, a ∈ gs ∧ a.n = x) with h' | h'
    · exact h'
    · rw [pos_none.2 (fun g hg e => h' ⟨g, hg, e⟩)] at h; cases h
  · rintro ⟨t, ht, rfl⟩
    cases hf : pos gs t.n with
    | none => exact absurd rfl (pos_none.1 hf t ht)
    | some _ => rfl
theorem rg_nodup {gs : List Gp} (h : RG gs) : (gs.map (·.n)).Nodup := by
  have h1 : (gs.map (·.n)).Pairwise (· < ·) := List.pairwise_map.2 h
  exact h1.imp (fun {a b} hab e => by rw [e] at hab; exact List.lt_irrefl _ hab)
theorem gs_size {w : World} {m n : Nat} {D : DataW Unit} {gs : List Gp} (h : w.ownsMap Try.prog 9 inElem m n D) (hT : TellsG D gs) (hg : RG gs) : Maps.size D = gs.length := by
  rw [size_names h (rg_nodup hg) (fun x => by rw [hT.1, isSome_pos]), List.length_map]
theorem zero_i64 (w : World) : (zeroValue 2).run Try.prog w = .ok (.int .i64 0) w := by kernel_rfl
theorem glook {w : World} {m n : Nat} {D : DataW Unit} {gs : List Gp} (h : w.ownsMap Try.prog 9 inElem m n D) (hT : TellsG D gs) (x : Tx) (hx : x.length ≤ 140737488355328) :
    (Instr.lookup 69 (.map (some m)) (.string ⟨x.toArray⟩) true).run Try.prog w = .ok (.tuple #[.int .i64 ((pos gs x).getD 0), .bool (pos gs x).isSome]) w := by
  obtain ⟨v, ps, hrun, hv⟩ := h.look_ok law_str Try.underlying69 (zero_i64 w) (zd := .lit (.int .i64 0)) (zp := []) (inElem_mk 0) (key_str x (by simp only [maxLen]; omega))
  rw [hT.1 x] at hrun
  rw [hrun]
  cases hf : pos gs x with
  | some k =>
    rw [hT.2 x k hf] at hv
    rw [inElem_at hv]
    rfl
  | none =>
    rw [has_atKey (by rw [hT.1, hf]; rfl)] at hv
    rw [inElem_at hv]
    rfl
theorem tells_put {w : World} {m n : Nat} {D : DataW Unit} {gs : List Gp} (h : w.ownsMap Try.prog 9 inElem m n D) (hT : TellsG D gs) (hg : RG gs) (x : Tx) (k : Int) : TellsG (D.put (.string x) (.lit (.int .i64 k))) (insG x k gs) := by
  refine ⟨fun s => ?_, fun s j hj zd => ?_⟩
  · rw [has_put h.isMap, pos_ins hg, hT.1]
    by_cases e : s = x
    · subst e; simp
    · have : (x == s) = false := by rw [beq_eq_false_iff_ne]; exact fun h => e h.symm
      rw [this, if_neg e, Bool.false_or]
  · rw [pos_ins hg] at hj
    by_cases e : s = x
    · subst e
      rw [if_pos rfl] at hj
      rw [at_put_same h.isMap, Option.some.inj hj]
    · rw [if_neg e] at hj
      rw [at_put_other e]
      exact hT.2 s j hj zd
/-- What commit answers, and the topic behind it. -/
def comS (t : Tp) (x : Tx) (k : Int) : (Int × Int) × Tp :=
  if k < (pos t.gs x).getD 0 ∨ t.next < k then ((0, 72), t) else if pos t.gs x = none ∧ 8 ≤ t.gs.length then ((0, 6), t) else ((k, 0), { t with gs := insG x k t.gs })
theorem com_end {w w1 w2 : World} {T R : Nat → Prop} {g mg : Nat} {t : Tp} {v : Value} {D : DataW Unit} {x : Tx} {k : Int} (h : Tg w1 T R g t v mg) (hR : ∀ k, R k → ¬ T k) (hb : Below w.heap.size w w1) (hD : w1.ownsMap Try.prog 9 inElem mg (Maps.size D) D) (hT : TellsG D t.gs) (hg : RG t.gs) {n : Nat}
    (ho : w2.ownsMap Try.prog 9 inElem mg n (D.put (.string x) (.lit (.int .i64 k)))) (c : Ch (fun j => j = mg) w1 w2) : Tdid T R g { t with gs := insG x k t.gs } w w2 := by
  obtain ⟨vals, h1, h2⟩ := h.recs
  refine ⟨⟨v, mg, ⟨h.blk.ch c (fun e => map_far hD h.blk e.symm), h.recs.ch c (fun q hq e => map_row hD h1 (by rw [hq, e])) (fun q hq e => hR q hq (by rw [e]; exact h.tm)), ⟨_, own_tight ho, tells_put hD hT hg x k⟩, .inl h.tg, fun q hq => .inl (h.tv q hq), .inl h.tm⟩⟩, ?_⟩
  exact (Ch.of_below hb (Nat.le_refl _)).trans (c.mono (T := T) (fun k _ hk => by rw [hk]; exact h.tm)) (fun _ _ h => h)

set_option maxRecDepth 100000 in
set_option maxHeartbeats 1000000 in
theorem commit_any (w : World) (T R : Nat → Prop) (g : Nat) (t : Tp) (v : Value) (mg : Nat) (x : Tx) (k : Int) (hx : x.length ≤ 140737488355328) (h : Tg w T R g t v mg) (hf : FitT t) (hg : RG t.gs) (hR : ∀ k, R k → ¬ T k) :
    Calls Try.prog 42 #[.pointer (some ⟨g, 0, none⟩), .string ⟨x.toArray⟩, .int .i64 k] w fun e w' => e = .returned (.tuple #[.int .i64 (comS t x k).1.1, .int .i64 (comS t x k).1.2]) ∧ Tdid T R g (comS t x k).2 w w' := by
  have HN := Lib.hid (next_any w T R g t v mg h hf.base hf.next)
  have HT := Lib.hid h
  obtain ⟨D, hD, hT⟩ := h.gs
  have c2 : w.cell? ⟨g, 2, none⟩ = some (.map (some mg)) := h.blk.cell 2
  have e2 := glook hD hT x hx
  have hsz := gs_size hD hT hg
  have hfew := hf.groups
  have HK := Lib.hid (key_str x (by simp only [maxLen]; omega))
  have HDT := Lib.hid (And.intro hD hT)
  have HRG := Lib.hid hg
  have HR := Lib.hid hR
  clear h hD hT hf hx hg hR
  by_cases q1 : k < (pos t.gs x).getD 0
  · have e : comS t x k = ((0, 72), t) := by rw [comS, if_pos (.inl q1)]
    rw [e]
    clear e
    go_enter Try.func42, Try.ntmps42
    go_wp2_with fail
    go_ret2
    exact ⟨rfl, tdid_refl HT.out (Below.refl _ _)⟩
  · have q1' : (pos t.gs x).getD 0 ≤ k := by omega
    by_cases q2 : t.next < k
    · have e : comS t x k = ((0, 72), t) := by rw [comS, if_pos (.inr q2)]
      rw [e]
      clear e q1
      go_enter Try.func42, Try.ntmps42
      go_wp2_with fail
      refine HN.out.mono ?_
      rintro e w1 ⟨rfl, hb⟩
      have HB := Lib.hid hb
      have HT1 := Lib.hid (HT.out.later hb)
      have c2 : w1.cell? ⟨g, 2, none⟩ = some (.map (some mg)) := HT1.out.blk.cell 2
      have HD1 := Lib.hid (map_ch HDT.out.1 (Ch.of_below (S := fun _ => False) hb (Nat.le_refl _)) (fun h => h))
      clear hb
      go_wp2_with fail
      go_ret2
      exact ⟨rfl, tdid_refl HT.out HB.out⟩
    · have q2' : k ≤ t.next := by omega
      have HSZ := Lib.hid hsz
      have HDL : Hid (Maps.size D < maxLen) := Lib.hid (by rw [hsz]; simp only [maxLen]; omega)
      cases hp : pos t.gs x with
      | none =>
        rw [hp] at e2 q1'
        simp only [Option.getD_none, Option.isSome_none] at e2 q1'
        by_cases h8 : 8 ≤ t.gs.length
        · have e : comS t x k = ((0, 6), t) := by rw [comS, if_neg (by rw [hp]; simp only [Option.getD_none]; omega), if_pos ⟨hp, h8⟩]
          rw [e]
          have hll : (8 : Int) ≤ (t.gs.length : Int) := by omega
          clear e q1 q2 hp h8 hsz
          go_enter Try.func42, Try.ntmps42
          go_wp2_with fail
          refine HN.out.mono ?_
          rintro e w1 ⟨rfl, hb⟩
          have HB := Lib.hid hb
          have HT1 := Lib.hid (HT.out.later hb)
          have c2 : w1.cell? ⟨g, 2, none⟩ = some (.map (some mg)) := HT1.out.blk.cell 2
          have HD1 := Lib.hid (map_ch HDT.out.1 (Ch.of_below (S := fun _ => False) hb (Nat.le_refl _)) (fun h => h))
          clear hb
          have hle := HD1.out.len Try.underlying69 3
          rw [HSZ.out] at hle
          go_wp2_with fail
          go_ret2
          exact ⟨rfl, tdid_refl HT.out HB.out⟩
        · have e : comS t x k = ((k, 0), { t with gs := insG x k t.gs }) := by rw [comS, if_neg (by rw [hp]; simp only [Option.getD_none]; omega), if_neg (by omega)]
          rw [e]
          have hll : (t.gs.length : Int) < (8 : Int) := by omega
          clear e q1 q2 hp h8 hsz
          go_enter Try.func42, Try.ntmps42
          go_wp2_with fail
          refine HN.out.mono ?_
          rintro e w1 ⟨rfl, hb⟩
          have HB := Lib.hid hb
          have HT1 := Lib.hid (HT.out.later hb)
          have c2 : w1.cell? ⟨g, 2, none⟩ = some (.map (some mg)) := HT1.out.blk.cell 2
          have HD1 := Lib.hid (map_ch HDT.out.1 (Ch.of_below (S := fun _ => False) hb (Nat.le_refl _)) (fun h => h))
          clear hb
          have hle := HD1.out.len Try.underlying69 3
          rw [HSZ.out] at hle
          go_wp2_with (first
            | (at_mapUpdate; refine wpList_mapUpdate_in (H := Unit) _ rfl _ _ _ 69 rfl 9 2 law_str Try.underlying69 inElem mg (Maps.size D) D rfl HD1.out HDL.out _ _ (.string x) rfl rfl HK.out (.lit (.int .i64 k)) [] (inElem_mk k) ?_; intro w2 hmap2 hturn2))
          go_ret2
          exact ⟨rfl, com_end HT1.out HR.out HB.out HD1.out HDT.out.2 HRG.out hmap2 (Ch.of_grown hturn2.grown (fun g hg _ => (Option.some.inj hg).symm))⟩
      | some j =>
        have e : comS t x k = ((k, 0), { t with gs := insG x k t.gs }) := by rw [comS, if_neg (by omega), if_neg (fun h => by rw [hp] at h; cases h.1)]
        rw [e]
        rw [hp] at e2 q1'
        simp only [Option.getD_some, Option.isSome_some] at e2 q1'
        clear e q1 q2 hp hsz
        go_enter Try.func42, Try.ntmps42
        go_wp2_with fail
        refine HN.out.mono ?_
        rintro e w1 ⟨rfl, hb⟩
        have HB := Lib.hid hb
        have HT1 := Lib.hid (HT.out.later hb)
        have c2 : w1.cell? ⟨g, 2, none⟩ = some (.map (some mg)) := HT1.out.blk.cell 2
        have HD1 := Lib.hid (map_ch HDT.out.1 (Ch.of_below (S := fun _ => False) hb (Nat.le_refl _)) (fun h => h))
        clear hb
        have hle := HD1.out.len Try.underlying69 3
        rw [HSZ.out] at hle
        go_wp2_with (first
          | (at_mapUpdate; refine wpList_mapUpdate_in (H := Unit) _ rfl _ _ _ 69 rfl 9 2 law_str Try.underlying69 inElem mg (Maps.size D) D rfl HD1.out HDL.out _ _ (.string x) rfl rfl HK.out (.lit (.int .i64 k)) [] (inElem_mk k) ?_; intro w2 hmap2 hturn2))
        go_ret2
        exact ⟨rfl, com_end HT1.out HR.out HB.out HD1.out HDT.out.2 HRG.out hmap2 (Ch.of_grown hturn2.grown (fun g hg _ => (Option.some.inj hg).symm))⟩
end Go.Proofs.Ytcmknopgoiabbaa.Ad

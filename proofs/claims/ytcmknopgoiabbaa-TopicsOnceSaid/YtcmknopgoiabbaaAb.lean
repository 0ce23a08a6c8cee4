/-
  Contracts of the program's topics: newTopic, New, create.
-/
import Derived.Test.YtcmknopgoiabbaaAa
namespace Go.Proofs.Ytcmknopgoiabbaa.Ab
set_option linter.unusedSimpArgs false
open Go Go.RowKit Ck Kw Ga Kf Km Pm Pz Tm Tn Tq Aa
attribute [local go_sem ↓] Go.wp_at_zero Go.wp_at_succ
set_option linter.unusedVariables false

theorem gs_nil {w : World} {m : Nat} (h : w.ownsMap Try.prog 9 inElem m 0 (.map [])) : Gs w m [] := ⟨.map [], h.mono (Nat.zero_le _), fun _ => rfl, fun s k h => by simp [pos] at h⟩
theorem newtopic_any (w : World) : Calls Try.prog 58 #[] w fun e w' => ∃ g mg, e = .returned (.pointer (some ⟨g, 0, none⟩)) ∧ (∀ (n : Tx) (R : Nat → Prop), Tg w' (New w w') R g ⟨n, 0, [], []⟩ (.slice none 0 0) mg) ∧ Below w.heap.size w w' := by
  have hmm := @run_makeMap Try.prog
  go_enter Try.func58, Try.ntmps58
  go_wp2
  go_ret
  refine ⟨_, w.heap.size, rfl, fun n R => ?_, ?_⟩
  · exact ⟨Blk.new_at (by simp) rfl, Rs.nil _ _, gs_nil (((World.ownsMap_made w _ _ _).alloc _).mono (by omega)), ⟨by simp, by simp⟩, fun k hk => by simp [Value.ownBlock] at hk, ⟨Nat.le_refl _, by simp; omega⟩⟩
  · exact ((Below.refl _ w).alloc (Nat.le_refl _) _).alloc (by simp) _
theorem tz_none {W : World} {S : Nat → Prop} {p m : Nat} (hb : Blk W p 57 (.map (some m) :: ACs St.zero.last).toArray) (ho : W.ownsMap Try.prog 9 ptrElem m 0 (.map [])) (hp : S p) (hm : S m) (hne : m ≠ p) : Tz W S (fun _ => False) p St.zero :=
  TP.shut (m := m) (D := .map []) (G := fun _ => 0) (V := fun _ => .slice none 0 0) (M := fun _ => 0) (F := fun _ _ => False) ⟨hb, hp, ho, ⟨fun _ => rfl, (fun f hf => (nomatch hf))⟩, ⟨hm, hne⟩, (fun f hf => (nomatch hf)), (fun f hf => (nomatch hf)), (fun f hf => (nomatch hf)), fun k h => h.elim, GoodS.zero⟩
theorem new_any (w : World) : Calls Try.prog 6 #[] w fun e w' => ∃ p, e = .returned (.pointer (some ⟨p, 0, none⟩)) ∧ Tz w' (New w w') (fun _ => False) p St.zero ∧ Below w.heap.size w w' := by
  have hmm := @run_makeMap Try.prog
  go_enter Try.func6, Try.ntmps6
  go_wp2
  go_ret
  refine ⟨_, rfl, ?_, ?_⟩
  · exact tz_none (m := w.heap.size) (Blk.new_at (by simp) rfl) (((World.ownsMap_made w _ _ _).alloc _).mono (by omega)) ⟨by simp, by simp⟩ ⟨Nat.le_refl _, by simp; omega⟩ (by simp)
  · exact ((Below.refl _ w).alloc (Nat.le_refl _) _).alloc (by simp) _

theorem find_ins {L : List Tp} {x : Tp} (h : findT L x.n = none) (s : Tx) : findT (insT x L) s = if s = x.n then some x else findT L s := by
  have hno := findT_none h
  clear h
  induction L with
  | nil =>
    simp only [insT, findT, List.find?_cons, List.find?_nil]
    by_cases e : s = x.n
    · subst e; simp
    · rw [if_neg e, decide_eq_false (fun h => e h.symm)]
  | cons f L ih =>
    have hf := hno f (List.mem_cons_self ..)
    have ih := ih (fun t ht => hno t (List.mem_cons_of_mem _ ht))
    unfold findT at ih ⊢
    rw [insT]
    split
    · rw [List.find?_cons, List.find?_cons]
      by_cases e : f.n = s
      · have : s ≠ x.n := fun h => hf (e.trans h)
        simp [e, this]
      · rw [decide_eq_false e]
        exact ih
    · rw [List.find?_cons]
      by_cases e : s = x.n
      · subst e; simp
      · rw [if_neg e, decide_eq_false (fun h => e h.symm)]
theorem mem_ins_iff {x t : Tp} {L : List Tp} : t ∈ insT x L ↔ t = x ∨ t ∈ L := by
  refine ⟨mem_insT, fun h => ?_⟩
  induction L with
  | nil => rcases h with rfl | h; · simp [insT]
           · cases h
  | cons f L ih =>
    unfold insT
    split
    · rcases h with rfl | h
      · exact List.mem_cons_of_mem _ (ih (.inl rfl))
      · rcases List.mem_cons.1 h with rfl | h
        · exact List.mem_cons_self ..
        · exact List.mem_cons_of_mem _ (ih (.inr h))
    · rcases h with rfl | h
      · exact List.mem_cons_self ..
      · exact List.mem_cons_of_mem _ h
/-- What create answers, and the topics behind it. -/
def crS (L : List Tp) (x : Tx) : Int × List Tp := if (findT L x).isSome then (5, L) else if 8 ≤ L.length then (6, L) else (0, insT ⟨x, 0, [], []⟩ L)
/-- One topic more. -/
theorem tp_add {w w1 w2 : World} {S R : Nat → Prop} {p m g mg : Nat} {s : St} {D : DataW Unit} {G : Tx → Nat} {V : Tx → Value} {M : Tx → Nat} {F : Tx → Nat → Prop} {x : Tx} (h : TP w S R p m s D G V M F) (hf : findT s.L x = none)
    (hg : GoodS ⟨insT ⟨x, 0, [], []⟩ s.L, s.last⟩) (b : Below w.heap.size w w1) (ht : Tg w1 (New w w1) R g ⟨x, 0, [], []⟩ (.slice none 0 0) mg) (c : Ch (fun k => k = m) w1 w2) (ho : w2.ownsMap Try.prog 9 ptrElem m (Maps.size (D.put (.string x) (.lit (.int .i64 (g : Int))))) (D.put (.string x) (.lit (.int .i64 (g : Int))))) :
    TP w2 (Up S w w2) R p m ⟨insT ⟨x, 0, [], []⟩ s.L, s.last⟩ (D.put (.string x) (.lit (.int .i64 (g : Int)))) (fun t => if t = x then g else G t) (fun t => if t = x then .slice none 0 0 else V t) (fun t => if t = x then mg else M t) (fun t => if t = x then New w w1 else F t) := by
  have h1 := h.later b
  have hs1 := b.size
  have hs2 := c.size
  have hml : m < w.heap.size := h.own.lt
  have hpl : p < w.heap.size := h.blk.lt
  have hne := findT_none hf
  refine ⟨h1.blk.ch c (fun e => h.sm.2 e.symm), .inl h.sp, ho, ⟨fun t => ?_, fun t ht' zd => ?_⟩, ⟨.inl h.sm.1, h.sm.2⟩, fun t ht' => ?_, fun t ht' k hk => ?_, fun t ht' u hu hn k hk hk' => ?_, fun k hk => ?_, hg⟩
  · rw [has_put h.own.isMap, find_ins (x := ⟨x, 0, [], []⟩) hf, h.tells.1]
    by_cases e : t = x
    · subst e; simp
    · rw [if_neg e]
      have : (x == t) = false := by rw [beq_eq_false_iff_ne]; exact fun h => e h.symm
      rw [this, Bool.false_or]
  · rcases mem_ins_iff.1 ht' with rfl | ht'
    · rw [at_put_same h.own.isMap]
      simp
    · rw [at_put_other (hne t ht')]
      simp only [if_neg (hne t ht')]
      exact h.tells.2 t ht' zd
  · rcases mem_ins_iff.1 ht' with rfl | ht'
    · simp only [if_pos]
      exact ht.ch c (fun k hk e => by have := hk.1; omega) (fun k hk e => (h.rs k hk).1 (by rw [e]; exact h.sm.1))
    · simp only [if_neg (hne t ht')]
      exact (h1.top t ht').ch c (fun k hk e => (h1.sub t ht' k hk).2.2.1 e) (fun k hk e => (h.rs k hk).1 (by rw [e]; exact h.sm.1))
  · rcases mem_ins_iff.1 ht' with rfl | ht'
    · simp only [if_pos] at hk
      obtain ⟨k1, k2⟩ := hk
      exact ⟨.inr ⟨by omega, by omega⟩, by omega, by omega, by omega⟩
    · simp only [if_neg (hne t ht')] at hk
      have := h.sub t ht' k hk
      exact ⟨.inl this.1, this.2.1, this.2.2.1, by omega⟩
  · rcases mem_ins_iff.1 ht' with rfl | ht'
    · rcases mem_ins_iff.1 hu with rfl | hu
      · exact hn rfl
      · simp only [if_pos] at hk
        simp only [if_neg (hne u hu)] at hk'
        have := (h.sub u hu k hk').2.2.2
        have := hk.1
        omega
    · simp only [if_neg (hne t ht')] at hk
      rcases mem_ins_iff.1 hu with rfl | hu
      · simp only [if_pos] at hk'
        have := (h.sub t ht' k hk).2.2.2
        have := hk'.1
        omega
      · simp only [if_neg (hne u hu)] at hk'
        exact h.apart t ht' u hu hn k hk hk'
  · obtain ⟨r1, r2⟩ := h.rs k hk
    refine ⟨fun hu => ?_, by omega⟩
    rcases hu with hu | hu
    · exact r1 hu
    · omega

/-- Topics s' behind a call that may write S and new blocks. -/
def Did (S R : Nat → Prop) (p : Nat) (s' : St) (w w' : World) : Prop := Tz w' (Up S w w') R p s' ∧ Ch S w w'
theorem up_refl {S : Nat → Prop} {w : World} {k : Nat} : Up S w w k ↔ S k := ⟨fun h => by rcases h with h | h; exact h; omega, .inl⟩
theorem Tz.same {w : World} {S S' R : Nat → Prop} {p : Nat} {s : St} (h : Tz w S R p s) (hs : ∀ k, S' k ↔ S k) : Tz w S' R p s := by
  have : S' = S := funext fun k => propext (hs k)
  rw [this]; exact h
theorem did_refl {w : World} {S R : Nat → Prop} {p : Nat} {s : St} (h : Tz w S R p s) : Did S R p s w w := ⟨Tz.same h (fun _ => up_refl), Ch.refl _ _⟩

set_option maxRecDepth 100000 in
set_option maxHeartbeats 1000000 in
theorem create_any (w : World) (S R : Nat → Prop) (p : Nat) (s : St) (x : Tx) (hx : x.length ≤ 140737488355328) (h : Tz w S R p s) (hg : findT s.L x = none → s.L.length < 8 → GoodS ⟨insT ⟨x, 0, [], []⟩ s.L, s.last⟩) :
    Calls Try.prog 40 #[.pointer (some ⟨p, 0, none⟩), .string ⟨x.toArray⟩] w fun e w' => e = .returned (.int .i64 (crS s.L x).1) ∧ Did S R p ⟨(crS s.L x).2, s.last⟩ w w' := by
  have HZ := Lib.hid h
  obtain ⟨m, D, G, V, M, F, hP⟩ := h
  have c0 := hP.cell0
  have e2 := hP.look x hx
  have hsz := hP.size
  have HP := Lib.hid hP
  have HK := Lib.hid (key_str x (by simp only [maxLen]; omega))
  have hfew := hP.good.L.few
  cases hf : findT s.L x with
  | some t =>
    have e : crS s.L x = (5, s.L) := by rw [crS, hf]; rfl
    rw [e]
    rw [hf] at e2
    unfold PV at e2
    simp only [Option.map_some, Option.isSome_some] at e2
    clear hP hf e hsz hx hg
    go_enter Try.func40, Try.ntmps40
    go_wp2
    go_ret
    exact ⟨rfl, did_refl HZ.out⟩
  | none =>
    rw [hf] at e2
    unfold PV at e2
    simp only [Option.map_none, Option.isSome_none] at e2
    by_cases h8 : 8 ≤ s.L.length
    · have e : crS s.L x = (6, s.L) := by rw [crS, hf, if_neg (by simp), if_pos h8]
      rw [e]
      have hll : (8 : Int) ≤ (s.L.length : Int) := by omega
      have HSZ := Lib.hid hsz
      clear hP hf e hsz hx hg h8
      go_enter Try.func40, Try.ntmps40
      go_wp2_with (at_len; refine wpList_len_own _ rfl _ 52 rfl 9 65 Try.underlying52 ptrElem m _ D rfl HP.out.own ?_; rw [HSZ.out])
      go_ret
      exact ⟨rfl, did_refl HZ.out⟩
    · have e : crS s.L x = (0, insT ⟨x, 0, [], []⟩ s.L) := by rw [crS, hf, if_neg (by simp), if_neg h8]
      rw [e]
      have hll : (s.L.length : Int) < (8 : Int) := by omega
      have HG := Lib.hid (hg hf (by omega))
      have HSZ := Lib.hid hsz
      have HF := Lib.hid hf
      have HDL : Hid (Maps.size D < maxLen) := Lib.hid (by rw [hsz]; simp only [maxLen]; omega)
      clear hP hf e hsz hx hg h8
      go_enter Try.func40, Try.ntmps40
      go_wp2_with (first
        | (at_len; refine wpList_len_own _ rfl _ 52 rfl 9 65 Try.underlying52 ptrElem m _ D rfl HP.out.own ?_; rw [HSZ.out]))
      go_region_held3 (fun w' => w'.cell? ⟨p, 0, none⟩ = some (.map (some m))) (first | exact c0 | exact j0 | exact j1)
        (first
          | (go_at_call 58; refine (newtopic_any _).mono ?_; rintro e w2 ⟨g, mg, rfl, hT2, hb2⟩; have hb2' : Below w.heap.size w w2 := below_of_drew hb2; have hT2' : ∀ (n : Tx) (R : Nat → Prop), Tg w2 (New w w2) R g ⟨n, 0, [], []⟩ (.slice none 0 0) mg := hT2; have j0 := (HP.out.later hb2').cell0; obtain ⟨w3, hst, hmap3, hturn3⟩ := (HP.out.later hb2').own.store law_str Try.underlying52 HDL.out HK.out (ptrElem_mk g); have j1 := ((HP.out.later hb2').blk.ch (Ch.of_grown hturn3.grown (fun g hg _ => (Option.some.inj hg).symm) : Ch (fun k => k = m) w2 w3) (fun e => HP.out.sm.2 e.symm)).cell 0; simp only [List.getElem?_toArray, List.getElem?_cons_zero] at j1))
      all_goals
        go_wp2
        go_ret
        have hc3 : Ch (fun k => k = m) w2 w3 := Ch.of_grown hturn3.grown (fun g hg _ => (Option.some.inj hg).symm)
        have hP3 := tp_add HP.out HF.out HG.out hb2' (hT2' x R) hc3 (own_tight hmap3)
        exact ⟨rfl, hP3.shut, (Ch.of_below hb2' (Nat.le_refl _)).trans (hc3.mono (T := S) (fun k _ hk => by rw [hk]; exact HP.out.sm.1)) (fun _ _ h => h)⟩
end Go.Proofs.Ytcmknopgoiabbaa.Ab

/-
  Layer 7: the program's clone of topics.
-/
import Derived.Test.YtkoedonllfmaaaaGreatVD17
import Derived.Maps.RangeWalk
import Derived.Deep.MidRow
import Derived.Test.YtkoedonllfmaaaaGreatVD03
import Derived.Test.YtkoedonllfmaaaaGreatVD04
import Derived.Test.YtkoedonllfmaaaaGreatVD02
import Derived.Outline
namespace Go.Proofs.YtkoedonllfmaaaaGreat.Xah
set_option linter.unusedSimpArgs false
open Go Go.RowKit Go.Maps Ck Kw Ga Kf Km Pm Pz Tm Tn Tq Aa Ab Ac Xj
attribute [local go_sem ↓] Go.wp_at_zero Go.wp_at_succ
set_option linter.unusedVariables false
set_option maxRecDepth 100000

theorem ranges_ch {H : Type} {P : Program} {k : TypeId} {R : Value → Option (DataW H × List MemPlace)} {w w' : World} {S : Nat → Prop} {b r n cnt : Nat} {D : DataW H} {left : Lit → Bool} (h : w.ranges P k R b r n D left cnt) (c : Ch S w w') (hb : ¬ S b) (hr : ¬ S r) : w'.ranges P k R b r n D left cnt := by
  have h1 := h.owns.lt
  have h2 := h.lt
  obtain ⟨es, clock, since, seen, c0, e1, e2, e3, e4, e5, rest⟩ := h
  exact ⟨es, clock, since, seen, c0, (c.block b h1 hb).trans e1, e2, e3, e4, (c.block r h2 hr).trans e5, rest⟩
/-- The next step of a loop over topics. -/
theorem wpList_next_topics (w : World) {ops : Array Oper} {rest : List Oper} {o : Oper} {a : Act} {Q : Exit → Act → World → Prop} (hg : o.guard = none) (it : Operand) (hop : o.op = Op.next it false)
    (b r n : Nat) (D : DataW Unit) (left : Lit → Bool) (cnt : Nat) (L : List Tp) (G : Tx → Nat) (hT : TellsT D L G)
    (hit : a.eval it = .pointer (some ⟨r, 0, none⟩)) (h : w.ranges Tryz.prog 9 ptrElem b r n D left cnt)
    (hDone : (∀ s : Tx, left (.string s) = false) → wpList Tryz.prog ops Q rest (a.put o.dst (.tuple #[.bool false])) w)
    (hMore : ∀ (f : Tp) (w' : World) (cnt' : Nat), f ∈ L → left (.string f.n) = true → w'.ranges Tryz.prog 9 ptrElem b r n D (fun z => left z && !z.sameKey (.string f.n)) cnt' → cnt' < cnt →
      w.grownBy w' (some r) → w'.heap.size = w.heap.size → (Instr.entry (.pointer (some ⟨r, 0, none⟩))).run Tryz.prog w' = .ok (.tuple #[.string ⟨f.n.toArray⟩, .pointer (some ⟨G f.n, 0, none⟩)]) w' → wpList Tryz.prog ops Q rest (a.put o.dst (.tuple #[.bool true, .string ⟨f.n.toArray⟩, .pointer (some ⟨G f.n, 0, none⟩)])) w') :
    wpList Tryz.prog ops Q (o :: rest) a w := by
  refine wpList_next_ranges w hg it hop 9 law_str ptrElem encStr PV (fun key kl hk => by obtain ⟨x, hx, _⟩ := Maps.keyOf_str Tryz.underlying9 hk; exact ⟨x, hx⟩) (fun v y hv => by obtain ⟨c, hc, _⟩ := ptrElem_inv hv; exact ⟨c, hc⟩) b r n D left cnt hit h (fun _ h0 => hDone (fun s => h0 _)) ?_
  intro x c kl y w' cnt' hkey hlk hv hat hrg hlt hgr hsz hen
  obtain ⟨x', ex, rfl, _⟩ := Maps.keyOf_str Tryz.underlying9 hkey
  obtain rfl : x = x' := encStr_inj ex
  have hin : (findT L x).isSome = true := by rw [← hT.1 x]; exact has_true_of_atKey hat
  obtain ⟨f, hf, rfl⟩ := List.mem_map.1 (isSome_find.1 hin)
  have hy : y.1 = .lit (.int .i64 (G f.n : Int)) := by rw [← hat .nil]; exact hT.2 f hf _
  obtain rfl := pv_at hv hy
  exact hMore f w' cnt' hf hlk hrg hlt hgr hsz hen
theorem nodup_eqT : ∀ {L : List Tp}, (L.map (·.n)).Nodup → ∀ {t u : Tp}, t ∈ L → u ∈ L → t.n = u.n → t = u
  | [], _, _, _, ht, _, _ => nomatch ht
  | x :: L, hn, t, u, ht, hu, e => by
    rw [List.map_cons, List.nodup_cons] at hn
    rcases List.mem_cons.1 ht with h1 | h1
    · rcases List.mem_cons.1 hu with h2 | h2
      · rw [h1, h2]
      · exact (hn.1 (List.mem_map.2 ⟨u, h2, by rw [← e, h1]⟩)).elim
    · rcases List.mem_cons.1 hu with h2 | h2
      · exact (hn.1 (List.mem_map.2 ⟨t, h1, by rw [e, h2]⟩)).elim
      · exact nodup_eqT hn.2 h1 h2 e
/-- The topics that are no longer to come. -/
def gone (left : Lit → Bool) (L : List Tp) : List Tp := L.filter (fun f => !left (.string f.n))
theorem mem_gone {left : Lit → Bool} {L : List Tp} {f : Tp} : f ∈ gone left L ↔ f ∈ L ∧ left (.string f.n) = false := by
  unfold gone
  rw [List.mem_filter]
  simp
theorem gone_step {left : Lit → Bool} {L : List Tp} (hn : (L.map (·.n)).Nodup) {f : Tp} (hf : f ∈ L) (hl : left (.string f.n) = true) (g : Tp) : g ∈ gone (fun z => left z && !z.sameKey (.string f.n)) L ↔ g ∈ gone left L ∨ g = f := by
  rw [mem_gone, mem_gone, sameKey_str]
  constructor
  · rintro ⟨h1, h2⟩
    by_cases e : g.n = f.n
    · exact .inr (nodup_eqT hn h1 hf e)
    · have : (g.n == f.n) = false := by rw [beq_eq_false_iff_ne]; exact e
      rw [this] at h2
      exact .inl ⟨h1, by simpa using h2⟩
  · rintro (⟨h1, h2⟩ | rfl)
    · exact ⟨h1, by rw [h2]; rfl⟩
    · exact ⟨hf, by simp⟩
theorem gone_all {left : Lit → Bool} {L : List Tp} (h : ∀ s : Tx, left (.string s) = false) : gone left L = L := List.filter_eq_self.2 (fun f _ => by rw [h]; rfl)
theorem gone_none {left : Lit → Bool} {L : List Tp} (h : ∀ f ∈ L, left (.string f.n) = true) : gone left L = [] := List.filter_eq_nil_iff.2 (fun f hf => by rw [h f hf]; simp)
theorem gone_good {s : St} (h : GoodS s) (left : Lit → Bool) : GoodS ⟨gone left s.L, s.last⟩ :=
  ⟨⟨Nat.le_trans (List.length_filter_le _ _) h.L.few, fun t ht => h.L.fit t (mem_gone.1 ht).1, fun t ht => h.L.ok t (mem_gone.1 ht).1, List.Pairwise.filter _ h.L.rises⟩, h.eight, h.a⟩
theorem gone_lt {left : Lit → Bool} {L : List Tp} {f : Tp} (hf : f ∈ L) (hl : left (.string f.n) = true) : (gone left L).length < L.length := by
  unfold gone
  rw [List.length_filter_lt_length_iff_exists]
  exact ⟨f, hf, by rw [hl]; simp⟩
theorem gone_no {left : Lit → Bool} {L : List Tp} {x : Tx} (hl : left (.string x) = true) : (findT (gone left L) x).isSome = false := by
  cases he : (findT (gone left L) x).isSome with
  | false => rfl
  | true =>
    obtain ⟨t, ht, e⟩ := List.mem_map.1 (isSome_find.1 he)
    have := (mem_gone.1 ht).2
    rw [e, hl] at this
    cases this
/-- A topic more, in new blocks. -/
theorem tp_cloned {w w1 w2 : World} {S R : Nat → Prop} {p m g mg : Nat} {v : Value} {s s' : St} {D : DataW Unit} {G : Tx → Nat} {V : Tx → Value} {M : Tx → Nat} {F : Tx → Nat → Prop} {f : Tp} (h : TP w S R p m s D G V M F) (hn : (findT s.L f.n).isSome = false) (hL : ∀ x, x ∈ s'.L ↔ x ∈ s.L ∨ x = f) (hlast : s'.last = s.last)
    (hg : GoodS s') (b : Below w.heap.size w w1) (ht : Tg w1 (New w w1) R g f v mg) (c : Ch (fun k => k = m) w1 w2) (ho : w2.ownsMap Tryz.prog 9 ptrElem m (Maps.size (D.put (.string f.n) (.lit (.int .i64 (g : Int))))) (D.put (.string f.n) (.lit (.int .i64 (g : Int))))) :
    TP w2 (Up S w w2) R p m s' (D.put (.string f.n) (.lit (.int .i64 (g : Int)))) (fun t => if t = f.n then g else G t) (fun t => if t = f.n then v else V t) (fun t => if t = f.n then mg else M t) (fun t => if t = f.n then New w w1 else F t) := by
  have h1 := h.later b
  have hs1 := b.size
  have hs2 := c.size
  have hml : m < w.heap.size := h.own.lt
  have hpl : p < w.heap.size := h.blk.lt
  have hne : ∀ x ∈ s.L, x.n ≠ f.n := fun x hx e => by rw [isSome_find.2 (List.mem_map.2 ⟨x, hx, e⟩)] at hn; cases hn
  refine ⟨by rw [hlast]; exact h1.blk.ch c (fun e => h.sm.2 e.symm), .inl h.sp, ho, ⟨fun t => ?_, fun t ht' zd => ?_⟩, ⟨.inl h.sm.1, h.sm.2⟩, fun t ht' => ?_, fun t ht' k hk => ?_, fun t ht' u hu hdf k hk hk' => ?_, fun k hk => ?_, hg⟩
  · rw [has_put h.own.isMap, h.tells.1]
    rw [Bool.eq_iff_iff, Bool.or_eq_true, isSome_find, isSome_find, List.mem_map, List.mem_map]
    constructor
    · rintro (e | ⟨x, hx, e⟩)
      · exact ⟨f, (hL f).2 (.inr rfl), by simpa using e⟩
      · exact ⟨x, (hL x).2 (.inl hx), e⟩
    · rintro ⟨x, hx, e⟩
      rcases (hL x).1 hx with hx | rfl
      · exact .inr ⟨x, hx, e⟩
      · exact .inl (by simpa using e)
  · rcases (hL t).1 ht' with ht' | rfl
    · rw [at_put_other (hne t ht')]
      simp only [if_neg (hne t ht')]
      exact h.tells.2 t ht' zd
    · rw [at_put_same h.own.isMap]
      simp
  · rcases (hL t).1 ht' with ht' | rfl
    · simp only [if_neg (hne t ht')]
      exact (h1.top t ht').ch c (fun k hk e => (h1.sub t ht' k hk).2.2.1 e) (fun k hk e => (h.rs k hk).1 (by rw [e]; exact h.sm.1))
    · simp only [if_pos]
      exact ht.ch c (fun k hk e => by have := hk.1; omega) (fun k hk e => (h.rs k hk).1 (by rw [e]; exact h.sm.1))
  · rcases (hL t).1 ht' with ht' | rfl
    · simp only [if_neg (hne t ht')] at hk
      have := h.sub t ht' k hk
      exact ⟨.inl this.1, this.2.1, this.2.2.1, by omega⟩
    · simp only [if_pos] at hk
      obtain ⟨k1, k2⟩ := hk
      exact ⟨.inr ⟨by omega, by omega⟩, by omega, by omega, by omega⟩
  · rcases (hL t).1 ht' with ht' | rfl
    · simp only [if_neg (hne t ht')] at hk
      rcases (hL u).1 hu with hu | rfl
      · simp only [if_neg (hne u hu)] at hk'
        exact h.apart t ht' u hu hdf k hk hk'
      · simp only [if_pos] at hk'
        have := (h.sub t ht' k hk).2.2.2
        have := hk'.1
        omega
    · simp only [if_pos] at hk
      rcases (hL u).1 hu with hu | rfl
      · simp only [if_neg (hne u hu)] at hk'
        have := (h.sub u hu k hk').2.2.2
        have := hk.1
        omega
      · exact hdf rfl
  · obtain ⟨r1, r2⟩ := h.rs k hk
    refine ⟨fun hu => ?_, by omega⟩
    rcases hu with hu | hu
    · exact r1 hu
    · omega
theorem tp_lt {w : World} {S S' R : Nat → Prop} {p m : Nat} {s : St} {D : DataW Unit} {G : Tx → Nat} {V : Tx → Value} {M : Tx → Nat} {F : Tx → Nat → Prop} (h : TP w S R p m s D G V M F) (hS : ∀ k, k < w.heap.size → S k → S' k) (hR : ∀ k, R k → ¬ S' k) : TP w S' R p m s D G V M F :=
  ⟨h.blk, hS _ h.blk.lt h.sp, h.own, h.tells, ⟨hS _ h.own.lt h.sm.1, h.sm.2⟩, h.top, fun f hf k hk => ⟨hS _ (h.sub f hf k hk).2.2.2 (h.sub f hf k hk).1, (h.sub f hf k hk).2⟩, h.apart, fun k hk => ⟨hR k hk, (h.rs k hk).2⟩, h.good⟩

theorem acs_of {w : World} {S R : Nat → Prop} {p m : Nat} {s : St} {D : DataW Unit} {G : Tx → Nat} {V : Tx → Value} {M : Tx → Nat} {F : Tx → Nat → Prop} (h : TP w S R p m s D G V M F) : w.rangeAt p 1 (ACs s.last) := fun j v hv => by
  have := h.blk.cell (1 + j)
  rw [this, List.getElem?_toArray, Nat.add_comm, List.getElem?_cons_succ]
  exact hv
theorem eight_of {l : List An} (h : l.length = 8) : ∃ a b c d e f g i, l = [a, b, c, d, e, f, g, i] := by
  match l, h with
  | [a, b, c, d, e, f, g, i], _ => exact ⟨a, b, c, d, e, f, g, i, rfl⟩
theorem built_topics {l : List An} (h8 : l.length = 8) (m : Nat) : Tryz.prog.built 66 [(0, .map (some m)), (1, .agg (ACs l).toArray)] = some (.map (some m) :: ACs l).toArray := by
  obtain ⟨a, b, c, d, e, f, g, i, rfl⟩ := eight_of h8
  kernel_rfl

set_option maxHeartbeats 4000000 in
theorem clones_any (w : World) (S R : Nat → Prop) (p : Nat) (s : St) (h : Tz w S R p s) :
    Calls Tryz.prog 12 #[.pointer (some ⟨p, 0, none⟩)] w fun e w' => ∃ p', e = .returned (.pointer (some ⟨p', 0, none⟩)) ∧ Tz w' (New w w') R p' s ∧ Below w.heap.size w w' := by
  have HM := Lib.hid (made_on w S R p s h)
  obtain ⟨m, D, G, V, M, F, hP⟩ := h
  have hsz := hP.size
  obtain ⟨x0, x1, x2, x3, x4, x5, x6, x7, h8⟩ := eight_of hP.good.eight
  have hP8 := Lib.hid h8
  have hmm : ∀ W : World, (Instr.makeMap 61 (some (.int .i64 (s.L.length : Int)))).run Tryz.prog W = .ok (.map (some W.heap.size)) (W.alloc (.map #[] 0)) := fun W => by
    simp [Instr.makeMap, run_underlying Tryz.underlying61, asInt, asIntOf]
  have hbd : ∀ (W : World) (k : Nat), (Instr.build 66 #[(0, .map (some k)), (1, .agg #[.int .i64 x0.time, .int .i64 x0.err, .int .i64 x0.off, .int .i64 x1.time, .int .i64 x1.err, .int .i64 x1.off, .int .i64 x2.time, .int .i64 x2.err, .int .i64 x2.off, .int .i64 x3.time, .int .i64 x3.err, .int .i64 x3.off, .int .i64 x4.time, .int .i64 x4.err, .int .i64 x4.off, .int .i64 x5.time, .int .i64 x5.err, .int .i64 x5.off, .int .i64 x6.time, .int .i64 x6.err, .int .i64 x6.off, .int .i64 x7.time, .int .i64 x7.err, .int .i64 x7.off])]).run Tryz.prog W = .ok (.agg #[.map (some k), .int .i64 x0.time, .int .i64 x0.err, .int .i64 x0.off, .int .i64 x1.time, .int .i64 x1.err, .int .i64 x1.off, .int .i64 x2.time, .int .i64 x2.err, .int .i64 x2.off, .int .i64 x3.time, .int .i64 x3.err, .int .i64 x3.off, .int .i64 x4.time, .int .i64 x4.err, .int .i64 x4.off, .int .i64 x5.time, .int .i64 x5.err, .int .i64 x5.off, .int .i64 x6.time, .int .i64 x6.err, .int .i64 x6.off, .int .i64 x7.time, .int .i64 x7.err, .int .i64 x7.off]) W := fun W k => run_build W _ _ _ (by have := built_topics hP.good.eight k; rw [hP8.out] at this; exact this)
  have HF : Hid (∀ W, Below w.heap.size w W → W.cell? ⟨p, 0, none⟩ = some (.map (some m)) ∧ W.rangeAt p 1 [.int .i64 x0.time, .int .i64 x0.err, .int .i64 x0.off, .int .i64 x1.time, .int .i64 x1.err, .int .i64 x1.off, .int .i64 x2.time, .int .i64 x2.err, .int .i64 x2.off, .int .i64 x3.time, .int .i64 x3.err, .int .i64 x3.off, .int .i64 x4.time, .int .i64 x4.err, .int .i64 x4.off, .int .i64 x5.time, .int .i64 x5.err, .int .i64 x5.off, .int .i64 x6.time, .int .i64 x6.err, .int .i64 x6.off, .int .i64 x7.time, .int .i64 x7.err, .int .i64 x7.off] ∧ (Builtin.len_ #[61] 3 #[.map (some m)]).run Tryz.prog W = .ok (.int .i64 (s.L.length : Int)) W) := Lib.hid fun W hb => by
    have h1 := hP.later hb
    have hra := acs_of h1
    rw [hP8.out] at hra
    refine ⟨h1.cell0, hra, ?_⟩
    rw [h1.own.len Tryz.underlying61, hsz]
  have hi : (Tryz.prog.info? 64).map (·.size) = some ([.int .i64 x0.time, .int .i64 x0.err, .int .i64 x0.off, .int .i64 x1.time, .int .i64 x1.err, .int .i64 x1.off, .int .i64 x2.time, .int .i64 x2.err, .int .i64 x2.off, .int .i64 x3.time, .int .i64 x3.err, .int .i64 x3.off, .int .i64 x4.time, .int .i64 x4.err, .int .i64 x4.off, .int .i64 x5.time, .int .i64 x5.err, .int .i64 x5.off, .int .i64 x6.time, .int .i64 x6.err, .int .i64 x6.off, .int .i64 x7.time, .int .i64 x7.err, .int .i64 x7.off] : List Value).length := by kernel_rfl
  have HB0 : Hid (Below w.heap.size w w.drew) := Lib.hid (below_drewN (Below.refl _ w) 1)
  have HB1 : Hid (Below w.heap.size w (w.drew.alloc (.map #[] 0))) := Lib.hid ((below_drewN (Below.refl _ w) 1).alloc (Nat.le_refl _) _)
  have HP := Lib.hid hP
  have HB2 : Hid (Below w.heap.size w ((w.alloc (.map #[] 0)).alloc (.cells #[.map (some w.heap.size), .int .i64 x0.time, .int .i64 x0.err, .int .i64 x0.off, .int .i64 x1.time, .int .i64 x1.err, .int .i64 x1.off, .int .i64 x2.time, .int .i64 x2.err, .int .i64 x2.off, .int .i64 x3.time, .int .i64 x3.err, .int .i64 x3.off, .int .i64 x4.time, .int .i64 x4.err, .int .i64 x4.off, .int .i64 x5.time, .int .i64 x5.err, .int .i64 x5.off, .int .i64 x6.time, .int .i64 x6.err, .int .i64 x6.off, .int .i64 x7.time, .int .i64 x7.err, .int .i64 x7.off] 66)).drew) := Lib.hid (below_drewN (((Below.refl _ w).alloc (Nat.le_refl _) _).alloc ((Below.refl _ w).alloc (Nat.le_refl _) _).size _) 1)
  have HW : Hid (∀ W2, W2 = ((w.alloc (.map #[] 0)).alloc (.cells #[.map (some w.heap.size), .int .i64 x0.time, .int .i64 x0.err, .int .i64 x0.off, .int .i64 x1.time, .int .i64 x1.err, .int .i64 x1.off, .int .i64 x2.time, .int .i64 x2.err, .int .i64 x2.off, .int .i64 x3.time, .int .i64 x3.err, .int .i64 x3.off, .int .i64 x4.time, .int .i64 x4.err, .int .i64 x4.off, .int .i64 x5.time, .int .i64 x5.err, .int .i64 x5.off, .int .i64 x6.time, .int .i64 x6.err, .int .i64 x6.off, .int .i64 x7.time, .int .i64 x7.err, .int .i64 x7.off] 66)).drew → TP W2 (New w W2) R (w.heap.size + 1) w.heap.size ⟨gone (fun l => Maps.has D l) s.L, s.last⟩ (.map []) (fun _ => 0) (fun _ => .slice none 0 0) (fun _ => 0) (fun _ _ => False) ∧ W2.heap.size = w.heap.size + 2) := Lib.hid fun W2 e => by
    subst e
    refine ⟨?_, by simp⟩
    have hg := gone_good hP.good (fun l => Maps.has D l)
    rw [gone_none (fun f hf => by rw [hP.tells.1]; exact isSome_find.2 (List.mem_map.2 ⟨f, hf, rfl⟩))] at hg ⊢
    rw [hP8.out]
    rw [hP8.out] at hg
    exact ⟨Blk.new_at (by simp) rfl, ⟨by simp, by simp⟩, ((World.ownsMap_made w _ _ _).alloc _).mono (by omega), ⟨fun _ => rfl, (fun f hf => (nomatch hf))⟩, ⟨⟨Nat.le_refl _, by simp; omega⟩, by simp⟩, (fun f hf => (nomatch hf)), (fun f hf => (nomatch hf)), (fun f hf => (nomatch hf)), fun k hk => ⟨fun hn => by have := hn.1; have := (hP.rs k hk).2; omega, by have := (hP.rs k hk).2; simp; omega⟩, hg⟩
  have HRK : Hid (∀ k, R k → k < w.heap.size) := Lib.hid fun k hk => (hP.rs k hk).2
  have b0 := HF.out _ HB0.out
  have b2 := HF.out _ HB2.out
  have b1 := HF.out _ HB1.out
  clear hP hsz h8
  go_enter Tryz.func12, Tryz.ntmps12
  go_wp2_with (go_at_call 17; refine HM.out.mono ?_; rintro e w' ⟨rfl, rfl⟩)
  refine wp_region_held_drew (S := (fun w' => w'.cell? ⟨p, 0, none⟩ = some (.map (some m)) ∧ w'.rangeAt p 1 [.int .i64 x0.time, .int .i64 x0.err, .int .i64 x0.off, .int .i64 x1.time, .int .i64 x1.err, .int .i64 x1.off, .int .i64 x2.time, .int .i64 x2.err, .int .i64 x2.off, .int .i64 x3.time, .int .i64 x3.err, .int .i64 x3.off, .int .i64 x4.time, .int .i64 x4.err, .int .i64 x4.off, .int .i64 x5.time, .int .i64 x5.err, .int .i64 x5.off, .int .i64 x6.time, .int .i64 x6.err, .int .i64 x6.off, .int .i64 x7.time, .int .i64 x7.err, .int .i64 x7.off] ∧ (Builtin.len_ #[61] 3 #[.map (some m)]).run Tryz.prog w' = .ok (.int .i64 (s.L.length : Int)) w')) (by kernel_rfl) ?_ (fun hHeld => ?_)
  · exact b0
  refine wpAnyH_take (i := 0) (v := ?_) rfl (by kernel_rfl) (by kernel_rfl) (by kernel_rfl) (fun _ _ _ h => h) (Or.inl ⟨by rfl, ?_⟩) (by assumption) ?_
  rotate_left
  · (intro w hSw; (try dsimp only at hSw); go_simp; (try with_reducible rfl))
  try simp only [Act.put, List.setIfInBounds_toArray, List.set_cons_zero, List.set_cons_succ]
  refine wpAnyH_take (i := 1) (v := ?_) rfl (by kernel_rfl) (by kernel_rfl) (by kernel_rfl) (fun _ _ _ h => h) (Or.inl ⟨by rfl, ?_⟩) (by assumption) ?_
  rotate_left
  · (intro w hSw; (try dsimp only at hSw); go_simp; (try with_reducible rfl))
  try simp only [Act.put, List.setIfInBounds_toArray, List.set_cons_zero, List.set_cons_succ]
  refine wpAnyH_take (i := 2) (v := ?_) rfl (by kernel_rfl) (by kernel_rfl) (by kernel_rfl) (fun _ _ _ h => h) (Or.inl ⟨by rfl, ?_⟩) (by assumption) ?_
  rotate_left
  · (intro w hSw; (try dsimp only at hSw); go_simp; (try with_reducible rfl))
  try simp only [Act.put, List.setIfInBounds_toArray, List.set_cons_zero, List.set_cons_succ]
  refine wpAnyH_take (i := 3) (v := ?_) rfl (by kernel_rfl) (by kernel_rfl) (by kernel_rfl) (fun _ _ _ h => h) (Or.inl ⟨by rfl, ?_⟩) (by assumption) ?_
  rotate_left
  · (intro w hSw; (try dsimp only at hSw); go_simp; (try with_reducible rfl))
  try simp only [Act.put, List.setIfInBounds_toArray, List.set_cons_zero, List.set_cons_succ]
  refine wpAnyH_take (i := 4) (v := ?_) rfl (by kernel_rfl) (by kernel_rfl) (by kernel_rfl) (fun _ _ _ h => h) (Or.inl ⟨by rfl, ?_⟩) (by assumption) ?_
  rotate_left
  · (intro w hSw; (try dsimp only at hSw); go_simp; (try with_reducible rfl))
  try simp only [Act.put, List.setIfInBounds_toArray, List.set_cons_zero, List.set_cons_succ]
  refine wpAnyH_take (i := 6) (v := ?_) rfl (by kernel_rfl) (by kernel_rfl) (by kernel_rfl) (fun _ _ _ h => h) (Or.inl ⟨by rfl, ?_⟩) (by assumption) ?_
  rotate_left
  · (intro w hSw; (try dsimp only at hSw); go_simp; (try with_reducible rfl))
  try simp only [Act.put, List.setIfInBounds_toArray, List.set_cons_zero, List.set_cons_succ]
  refine wpAnyH_take (i := 7) (v := ?_) rfl (by kernel_rfl) (by kernel_rfl) (by kernel_rfl) (fun _ _ _ h => h) (Or.inl ⟨by rfl, ?_⟩) (by assumption) ?_
  rotate_left
  · (intro w hSw; (try dsimp only at hSw); go_simp; (try with_reducible rfl))
  try simp only [Act.put, List.setIfInBounds_toArray, List.set_cons_zero, List.set_cons_succ]
  refine wpAnyH_take (i := 8) (v := ?_) rfl (by kernel_rfl) (by kernel_rfl) (by kernel_rfl) (fun _ _ _ h => h) (Or.inl ⟨by rfl, ?_⟩) (by assumption) ?_
  rotate_left
  · (intro w hSw; (try dsimp only at hSw); go_simp; (try with_reducible rfl))
  try simp only [Act.put, List.setIfInBounds_toArray, List.set_cons_zero, List.set_cons_succ]
  refine wpAnyH_take (i := 9) rfl (by kernel_rfl) (by kernel_rfl) (by kernel_rfl) (fun _ _ _ h => h) (yieldsIf_load_mid (by rfl) _ _ rfl p 1 rfl [.int .i64 x0.time, .int .i64 x0.err, .int .i64 x0.off, .int .i64 x1.time, .int .i64 x1.err, .int .i64 x1.off, .int .i64 x2.time, .int .i64 x2.err, .int .i64 x2.off, .int .i64 x3.time, .int .i64 x3.err, .int .i64 x3.off, .int .i64 x4.time, .int .i64 x4.err, .int .i64 x4.off, .int .i64 x5.time, .int .i64 x5.err, .int .i64 x5.off, .int .i64 x6.time, .int .i64 x6.err, .int .i64 x6.off, .int .i64 x7.time, .int .i64 x7.err, .int .i64 x7.off] _ (fun w hS => hS.2.1) Tryz.underlying64 rfl hi) (by assumption) ?_
  try simp only [Act.put, List.setIfInBounds_toArray, List.set_cons_zero, List.set_cons_succ]
  refine wpAnyH_ready (rs := [5]) (by kernel_rfl) (by simp) ?_
  refine AllReadyH.cons rfl (fun K hK => ?_) AllReadyH.nil
  go_simp
  refine hK.out _ _ ?_ (fun hHeld => ?_)
  · exact b1
  clear hK K
  try simp only [Act.put, List.setIfInBounds_toArray, List.set_cons_zero, List.set_cons_succ]
  refine wpAnyH_take (i := 10) (v := ?_) rfl (by kernel_rfl) (by kernel_rfl) (by kernel_rfl) (fun _ _ _ h => h) (Or.inl ⟨by rfl, ?_⟩) (by assumption) ?_
  rotate_left
  · (intro w hSw; (try dsimp only at hSw); go_simp; (try with_reducible rfl))
  try simp only [Act.put, List.setIfInBounds_toArray, List.set_cons_zero, List.set_cons_succ]
  refine wpAnyH_ready (rs := [11]) (by kernel_rfl) (by simp) ?_
  refine AllReadyH.cons rfl (fun K hK => ?_) AllReadyH.nil
  go_simp
  refine hK.out _ _ ?_ (fun hHeld => ?_)
  · exact b2
  clear hK K
  try simp only [Act.put, List.setIfInBounds_toArray, List.set_cons_zero, List.set_cons_succ]
  refine wpAnyH_take (i := 12) (v := ?_) rfl (by kernel_rfl) (by kernel_rfl) (by kernel_rfl) (fun _ _ _ h => h) (Or.inl ⟨by rfl, ?_⟩) (by assumption) ?_
  rotate_left
  · (intro w hSw; (try dsimp only at hSw); go_simp; (try with_reducible rfl))
  try simp only [Act.put, List.setIfInBounds_toArray, List.set_cons_zero, List.set_cons_succ]
  refine wpAnyH_done (by kernel_rfl) ?_ _
  generalize hW2 : ((w.alloc (.map #[] 0)).alloc (.cells #[.map (some w.heap.size), .int .i64 x0.time, .int .i64 x0.err, .int .i64 x0.off, .int .i64 x1.time, .int .i64 x1.err, .int .i64 x1.off, .int .i64 x2.time, .int .i64 x2.err, .int .i64 x2.off, .int .i64 x3.time, .int .i64 x3.err, .int .i64 x3.off, .int .i64 x4.time, .int .i64 x4.err, .int .i64 x4.off, .int .i64 x5.time, .int .i64 x5.err, .int .i64 x5.off, .int .i64 x6.time, .int .i64 x6.err, .int .i64 x6.off, .int .i64 x7.time, .int .i64 x7.err, .int .i64 x7.off] 66)).drew = W2 at b2 ⊢
  obtain ⟨hN, hsz2⟩ := HW.out W2 hW2.symm
  have hB2 : Below w.heap.size w W2 := by rw [← hW2]; exact HB2.out
  have HN := Lib.hid hN
  have HB := Lib.hid hB2
  have HSZ2 := Lib.hid hsz2
  clear hW2 hN hB2 hsz2 b0 b1 HB0 HB1 HB2 HW
  have b2 := b2.1
  go_wp2_with (at_range; refine wpList_range_own _ rfl _ 61 rfl 9 83 law_str Tryz.underlying61 _ m (Maps.size D) D rfl (HP.out.later HB.out).own ?_; intro w0 hrg0 hg0 hs0)
  have hb0 : Below W2.heap.size W2 w0 := below_of_grown hg0 (fun k hk => by cases hk)
  have hbw : Below w.heap.size w w0 := hb0.mono (by have := HB.out.size; omega) |> HB.out.trans
  have hrl : W2.heap.size = w.heap.size + 2 := HSZ2.out
  have hml : m < w.heap.size := HP.out.own.lt
  have hpl : p < w.heap.size := HP.out.blk.lt
  have hN0 : TP w0 (fun k => New w w0 k ∧ k ≠ W2.heap.size) R (w.heap.size + 1) w.heap.size ⟨gone (fun l => Maps.has D l) s.L, s.last⟩ (.map []) (fun _ => 0) (fun _ => .slice none 0 0) (fun _ => 0) (fun _ _ => False) :=
    tp_lt ((tp_lt HN.out (S' := fun k => New w W2 k ∧ k ≠ W2.heap.size) (fun k hk hs => ⟨hs, by omega⟩) (fun k hk hs => by have := HRK.out k hk; have := hs.1.1; omega)).later hb0) (fun k _ hk => ⟨⟨hk.1.1, by have := hk.1.2; have := hb0.size; omega⟩, hk.2⟩) (fun k hk hs => by have := HRK.out k hk; have := hs.1.1; omega)
  rw [hrl] at hrg0 hN0 ⊢
  clear hg0 hb0 hrl
  go_frame
  go_loopw [4, 5] (fun _ _ wr => ∃ (left : Lit → Bool) (cnt : Nat) (D' : DataW Unit) (G' : Tx → Nat) (V' : Tx → Value) (M' : Tx → Nat) (T' : Tx → Nat → Prop), TP wr (fun k => New w wr k ∧ k ≠ (w.heap.size + 2)) R (w.heap.size + 1) w.heap.size ⟨gone left s.L, s.last⟩ D' G' V' M' T' ∧ wr.ranges Tryz.prog 9 ptrElem m (w.heap.size + 2) (Maps.size D) D left cnt ∧ Below w.heap.size w wr)
    (fun _ _ wr => wr.rangeLeft m (w.heap.size + 2))
  case atStart => exact ⟨_, _, _, _, _, _, _, hN0, hrg0, hbw⟩
  case round =>
    obtain ⟨left, cnt, D', G', V', M', T', hPr, hrg, hbr⟩ := hrel
    go_wp2_with (at_next; refine wpList_next_topics _ rfl _ rfl m (w.heap.size + 2) (Maps.size D) D left cnt s.L G HP.out.tells rfl hrg ?_ ?_)
    · intro h0
      rw [gone_all h0] at hPr
      have HPr := Lib.hid hPr
      have HBr := Lib.hid hbr
      clear hPr hrg hbr
      go_wp2
      go_ret
      exact ⟨_, rfl, (tp_lt HPr.out (S' := New w wr) (fun k _ hk => hk.1) (fun k hk hs => by have := HRK.out k hk; have := hs.1; omega)).shut, HBr.out⟩
    · intro f w1 cnt1 hf hl hrg1 hlt hg1 hs1 hen
      have hc1 : Ch (fun k => k = (w.heap.size + 2)) wr w1 := Ch.of_grown hg1 (fun g hg _ => (Option.some.inj hg).symm)
      have hrlt : (w.heap.size + 2) < w1.heap.size := hrg1.lt
      have hb1 : Below w.heap.size w w1 := by
        refine ⟨by rw [hg1.os]; exact hbr.os, by rw [hg1.tape]; exact hbr.tape, by rw [hg1.output]; exact hbr.output, Nat.le_trans hbr.size hg1.size, fun i hi => ?_⟩
        rw [hg1.block i (Nat.lt_of_lt_of_le hi hbr.size) (fun e => by have := Option.some.inj e; omega)]
        exact hbr.block i hi
      have hP1 : TP w1 (fun k => New w w1 k ∧ k ≠ (w.heap.size + 2)) R (w.heap.size + 1) w.heap.size ⟨gone left s.L, s.last⟩ D' G' V' M' T' :=
        tp_lt (hPr.ch hc1 (fun k hk e => hk.2 e) (fun k hk e => by have := HRK.out k hk; omega)) (fun k _ hk => ⟨⟨hk.1.1, by have := hk.1.2; have := hc1.size; omega⟩, hk.2⟩) (fun k hk hs => by have := HRK.out k hk; have := hs.1.1; omega)
      have hTo : Tg w1 (F f.n) R (G f.n) f (V f.n) (M f.n) := (HP.out.later hb1).top f hf
      have hszD : Maps.size D' = (gone left s.L).length := hPr.size
      have hlen : (gone left s.L).length < s.L.length := gone_lt hf hl
      have hfew := HP.out.good.L.few
      have hno := gone_no (L := s.L) hl
      have hnm := (HP.out.good.L.fit f hf).n
      have hkey := key_str f.n (by simp only [maxLen]; omega)
      have q0 : w1.cell? ⟨w.heap.size + 1, 0, none⟩ = some (.map (some w.heap.size)) := hP1.cell0
      have hdl : Maps.size D' < maxLen := by rw [hszD]; simp only [maxLen]; omega
      have HP1 := Lib.hid hP1
      have HRG := Lib.hid hrg1
      have HRO := Lib.hid hrg
      have HB1 := Lib.hid hb1
      have HTO := Lib.hid hTo
      have HFW := Lib.hid (HP.out.good.L.fit f hf).few
      have HSZ := Lib.hid hdl
      have HNO := Lib.hid hno
      have HK := Lib.hid hkey
      have HLT := Lib.hid (And.intro hlt (And.intro hrlt hl))
      clear hPr hrg hbr hg1 hs1 hc1 hrlt hb1 hP1 hTo hszD hlen hno hkey hrg1 hlt hdl hl hfew hnm
      go_wp2_with fail
      go_region_held3 (fun w' => w'.cell? ⟨w.heap.size + 1, 0, none⟩ = some (.map (some w.heap.size))) (first | exact q0 | exact j0 | exact j1)
        (first
          | (go_at_call 30; refine (tclone_any _ _ R _ f _ _ (show Tg w1.drew (F f.n) R (G f.n) f (V f.n) (M f.n) from HTO.out.ch (Ch.of_below (S := fun _ => False) (below_drew0 w1) (Nat.le_refl _)) (fun _ _ h => h) (fun _ _ h => h)) HFW.out).mono ?_; rintro e w2 ⟨g', v', mg', rfl, hT2, hb2⟩; have hb2' : Below w1.heap.size w1 w2 := below_of_drew hb2; have j0 := (HP1.out.later hb2').cell0; obtain ⟨w3, hst, hmap3, hturn3⟩ := (own_tight (HP1.out.later hb2').own).store law_str Tryz.underlying61 HSZ.out HK.out (ptrElem_mk g'); have j1 := ((HP1.out.later hb2').blk.ch (Ch.of_grown hturn3.grown (fun g hg _ => (Option.some.inj hg).symm) : Ch (fun k => k = w.heap.size) w2 w3) (fun e => by omega)).cell 0; simp only [List.getElem?_toArray, List.getElem?_cons_zero] at j1))
      have hc3 : Ch (fun k => k = w.heap.size) w2 w3 := Ch.of_grown hturn3.grown (fun g hg _ => (Option.some.inj hg).symm)
      have hs2 := hb2'.size
      have hs3 := hc3.size
      have hT2' : Tg w2 (New w1 w2) R g' f v' mg' := hT2
      have hP3 := tp_cloned (s' := ⟨gone (fun z => left z && !z.sameKey (.string f.n)) s.L, s.last⟩) HP1.out HNO.out (fun x => gone_step HP.out.names hf HLT.out.2.2 x) rfl (gone_good HP.out.good _) hb2' hT2' hc3 (own_tight hmap3)
      have hrg3 := ranges_ch (ranges_ch HRG.out (Ch.of_below (S := fun _ => False) hb2' (Nat.le_refl _)) (fun h => h) (fun h => h)) hc3 (fun e => by omega) (fun e => by omega)
      have hlt1 := HLT.out.2.1
      have hsw := HB1.out.size
      have hc13 : Ch (fun k => k = w.heap.size) w1 w3 := (Ch.of_below (S := fun k => k = w.heap.size) hb2' (Nat.le_refl _)).trans hc3 (fun _ _ h => h)
      have hb3 : Below w.heap.size w w3 := by
        refine ⟨hc13.os.trans HB1.out.os, hc13.tape.trans HB1.out.tape, hc13.output.trans HB1.out.output, Nat.le_trans hsw hc13.size, fun i hi => ?_⟩
        rw [hc13.block i (by omega) (fun e => by omega)]
        exact HB1.out.block i hi
      go_roundw
      case rel =>
        refine ⟨_, _, _, _, _, _, _, _, _, _, _, _, _, _, ?_, rfl⟩
        exact ⟨_, cnt1, _, _, _, _, _, tp_lt hP3 (fun k hk3 hk => by
          rcases hk with ⟨h, h2⟩ | ⟨g1, g2⟩
          · exact ⟨⟨h.1, hk3⟩, h2⟩
          · exact ⟨⟨by omega, hk3⟩, by omega⟩) (fun k hk hs => by have := HRK.out k hk; have := hs.1.1; omega), hrg3, hb3⟩
      case measure => rw [hrg3.left_eq, HRO.out.left_eq]; exact HLT.out.1
end Go.Proofs.YtkoedonllfmaaaaGreat.Xah

/-
  Words for memory of the document's topics; the contract of its at.
-/
namespace Go.Proofs.YtkoedonllfmaaaaGreat.Ta
set_option linter.unusedSimpArgs false
open Go Go.RowKit Ck Kw Ga Kf Pm Tm Tn Tq
attribute [local go_sem ↓] Go.wp_at_zero Go.wp_at_succ
set_option linter.unusedVariables false

/-- A topic, and where its records and its groups are. -/
abbrev Tw := Tp × Value × Value
/-- A topic's cells, a group's, an answer's. -/
def TC (x : Tw) : List Value := [.string ⟨x.1.n.toArray⟩, .int .i64 x.1.base, x.2.1, x.2.2]
def GC (g : Gp) : List Value := [.string ⟨g.n.toArray⟩, .int .i64 g.pos]
def AC (a : An) : List Value := [.int .i64 a.time, .int .i64 a.err, .int .i64 a.off]
def TCs (l : List Tw) : List Value := l.flatMap TC
def GCs (l : List Gp) : List Value := l.flatMap GC
def ACs (l : List An) : List Value := l.flatMap AC
theorem TC_len (x : Tw) : (TC x).length = 4 := rfl
theorem GC_len (x : Gp) : (GC x).length = 2 := rfl
theorem AC_len (x : An) : (AC x).length = 3 := rfl
/-- A topic's records and groups in memory, outside blocks X. -/
structure TwOk (w : World) (X : Nat → Prop) (x : Tw) : Prop where
  recs : Ls w X x.2.1 x.1.recs
  gs : Sl w X 2 x.2.2 x.1.gs.length (GCs x.1.gs)
/-- Block q is the document's topics, laid open: l its topics; all its blocks but the records' and the groups' are in S. -/
structure TParts (w : World) (S : Nat → Prop) (q : Nat) (l : List Tw) (last : List An) (lv : Value) : Prop where
  blk : Blk w q 35 (lv :: ACs last).toArray
  row : w.ownsRow 0 74 4 lv l.length (TCs l)
  sq : S q
  slv : ∀ k, lv.ownBlock = some k → S k
  each : ∀ x ∈ l, TwOk w (fun k => ¬ S k ∨ k = q ∨ lv.ownBlock = some k) x
/-- Block q is the document's topics. -/
def Tk (w : World) (S : Nat → Prop) (q : Nat) (s : St) : Prop := ∃ l lv, l.map (·.1) = s.L ∧ TParts w S q l s.last lv
section
variable {w w' : World} {S T : Nat → Prop} {q : Nat} {l : List Tw} {last : List An} {lv : Value} {s : St}
theorem TwOk.ch {X : Nat → Prop} {x : Tw} (h : TwOk w X x) (c : Ch T w w') (hd : ∀ k, k < w.heap.size → T k → X k) : TwOk w' X x := ⟨h.recs.ch c hd, h.gs.ch c hd⟩
theorem TParts.ch (h : TParts w S q l last lv) (c : Ch T w w') (hd : ∀ k, S k → T k → False) : TParts w' S q l last lv :=
  ⟨h.blk.ch c (fun ht => hd _ h.sq ht), own_ch h.row c (fun k hk ht => hd _ (h.slv k hk) ht), h.sq, h.slv, fun x hx => (h.each x hx).ch c (fun k _ ht => .inl (fun hs => hd _ hs ht))⟩
theorem TParts.later (h : TParts w S q l last lv) (b : Below w.heap.size w w') : TParts w' S q l last lv :=
  h.ch (Ch.of_below (S := fun _ => False) b (Nat.le_refl _)) (fun _ _ h => h)
theorem Tk.ch (h : Tk w S q s) (c : Ch T w w') (hd : ∀ k, S k → T k → False) : Tk w' S q s := by
  obtain ⟨l, lv, e, h⟩ := h
  exact ⟨l, lv, e, h.ch c hd⟩
theorem Tk.later (h : Tk w S q s) (b : Below w.heap.size w w') : Tk w' S q s := by
  obtain ⟨l, lv, e, h⟩ := h
  exact ⟨l, lv, e, h.later b⟩
theorem TParts.shape (h : TParts w S q l last lv) : ∃ A c, lv = .slice A l.length c ∧ l.length ≤ c := by
  obtain ⟨A, c, rfl⟩ := own_shape h.row
  obtain ⟨A0, c0, hv, _, hc, _⟩ := Sl.of_own (X := fun _ => False) h.row (fun _ _ _ h => h)
  have := (Value.slice.inj hv).2.2
  exact ⟨A, c, rfl, by omega⟩
/-- The cells of the i-th topic. -/
structure TAt (w : World) (ad : Addr) (i : Nat) (x : Tw) : Prop where
  a0 : w.cell? (ad.add (i * 4)) = some (.string ⟨x.1.n.toArray⟩)
  a1 : w.cell? ⟨(ad.add (i * 4)).block, (ad.add (i * 4)).off + 1, none⟩ = some (.int .i64 x.1.base)
  a2 : w.cell? ⟨(ad.add (i * 4)).block, (ad.add (i * 4)).off + 2, none⟩ = some x.2.1
  a3 : w.cell? ⟨(ad.add (i * 4)).block, (ad.add (i * 4)).off + 3, none⟩ = some x.2.2
  f0 : w.frozen? (ad.add (i * 4)) = false
  f1 : w.frozen? ⟨(ad.add (i * 4)).block, (ad.add (i * 4)).off + 1, none⟩ = false
  f2 : w.frozen? ⟨(ad.add (i * 4)).block, (ad.add (i * 4)).off + 2, none⟩ = false
  f3 : w.frozen? ⟨(ad.add (i * 4)).block, (ad.add (i * 4)).off + 3, none⟩ = false
theorem TParts.at_ {A : Option Addr} {c i : Nat} (h : TParts w S q l last (.slice A l.length c)) (hi : i < l.length) : ∃ ad, A = some ad ∧ ad = ⟨ad.block, 0, none⟩ ∧ ad.block ≠ q ∧ TAt w ad i l[i] := by
  have hfar := own_far h.row h.blk (by decide)
  rcases h.row.2 with ⟨_, h0⟩ | ⟨g, cap, cur, hv, hb, hr, h1, h2, h3, h4⟩
  · omega
  · obtain ⟨e1, _, _⟩ := Value.slice.inj hv
    subst e1
    have hcell : ∀ j, j < 4 → w.cell? ⟨g, i * 4 + j, none⟩ = (TC l[i])[j]? := fun j hj => by
      rw [cell_of_row w g _ cur _ (0, 0) hr, ← flat_get TC_len l i hi j hj, show l.flatMap TC = TCs l from rfl, ← h4, List.getElem?_take, if_pos (by omega)]
      simp
    have hfz : ∀ j, w.frozen? ⟨g, j, none⟩ = false := fun j => by simp [World.frozen?, hr]
    refine ⟨⟨g, 0, none⟩, rfl, rfl, fun e => hfar (by show some g = some q; rw [← e]), ?_⟩
    have ha := add_zero' (ad := ⟨g, 0, none⟩) rfl (i * 4)
    refine ⟨?_, ?_, ?_, ?_, ?_, ?_, ?_, ?_⟩ <;> rw [ha]
    · exact hcell 0 (by omega)
    · exact hcell 1 (by omega)
    · exact hcell 2 (by omega)
    · exact hcell 3 (by omega)
    · exact hfz _
    · exact hfz _
    · exact hfz _
    · exact hfz _
end

theorem find_first {L : List Tp} {s : Tx} {k : Nat} (hk : k < L.length) (h0 : ∀ j, j < k → ∀ f, L[j]? = some f → f.n ≠ s) (h : L[k].n = s) : findT L s = some L[k] := by
  unfold findT
  rw [List.find?_eq_some_iff_getElem]
  refine ⟨by simpa using h, k, hk, rfl, fun j hj => ?_⟩
  have := h0 j hj L[j] (List.getElem?_eq_getElem (by omega))
  simpa using this
theorem find_never {L : List Tp} {s : Tx} (h0 : ∀ j, j < L.length → ∀ f, L[j]? = some f → f.n ≠ s) : findT L s = none := by
  unfold findT
  rw [List.find?_eq_none]
  intro f hf
  obtain ⟨j, hj, e⟩ := List.mem_iff_getElem.1 hf
  have := h0 j hj f (by rw [List.getElem?_eq_getElem hj, e])
  simpa using this
theorem rows_at {L : List Tp} {l : List Tw} (h : l.map (·.1) = L) {k : Nat} (hk : k < l.length) : L[k]? = some l[k].1 := by rw [← h]; simp [hk]
theorem rows_len {L : List Tp} {l : List Tw} (h : l.map (·.1) = L) : L.length = l.length := by rw [← h, List.length_map]
theorem find_at {L : List Tp} {s : Tx} {k : Nat} {f : Tp} (hk : L[k]? = some f) (h0 : ∀ j, j < k → ∀ f, L[j]? = some f → f.n ≠ s) (h : f.n = s) : findT L s = some f := by
  obtain ⟨hl, e⟩ := List.getElem?_eq_some_iff.1 hk
  rw [← e]
  exact find_first hl h0 (by rw [e]; exact h)

set_option maxHeartbeats 400000 in
theorem rat_any (w : World) (S : Nat → Prop) (q : Nat) (m : St) (s : Tx) (h : Tk w S q m) (hfew : m.L.length ≤ 8) :
    Calls Tryz.prog 48 #[.pointer (some ⟨q, 0, none⟩), .string ⟨s.toArray⟩] w fun e w' => (∃ z, e = .returned (.int .i64 z) ∧ ((∃ (i : Nat) (f : Tp), findT m.L s = some f ∧ m.L[i]? = some f ∧ z = i) ∨ (findT m.L s = none ∧ z = -1))) ∧ w = w' := by
  obtain ⟨l, lv, hL, hP⟩ := h
  rw [rows_len hL] at hfew
  obtain ⟨A, c, rfl, -⟩ := hP.shape
  have c0 : w.cell? ⟨q, 0, none⟩ = some (.slice A l.length c) := by have := hP.blk.cell 0; simpa using this
  have HP := Lib.hid hP
  have HL := Lib.hid hL
  clear hP hL
  go_enter Tryz.func48, Tryz.ntmps48
  go_wp2
  go_loop [5] (fun i => ∃ k : Nat, k ≤ l.length ∧ i = .int .i64 k ∧ ∀ j, j < k → ∀ f, m.L[j]? = some f → f.n ≠ s) (fun i => l.length - (intOf i).toNat)
  case atStart => exact ⟨0, Nat.zero_le _, rfl, fun j hj => absurd hj (by omega)⟩
  case round =>
    obtain ⟨k, hk, rfl, hz⟩ := hrel
    have HZ := Lib.hid hz
    clear hz
    by_cases hlt : k < l.length
    · obtain ⟨ad, rfl, -, -, hf⟩ := HP.out.at_ hlt
      have a0 := hf.a0
      clear hf
      by_cases heq : l[k].1.n = s
      · have hbq : (l[k].1.n == s) = true := by rw [heq]; exact beq_self_eq_true _
        have HF := Lib.hid (find_at (rows_at HL.out hlt) HZ.out heq)
        clear heq
        go_wp2
        go_ret
        exact ⟨⟨_, rfl, .inl ⟨k, _, HF.out, rows_at HL.out hlt, rfl⟩⟩, rfl⟩
      · have hbq : (l[k].1.n == s) = false := by rw [beq_eq_false_iff_ne]; exact heq
        have HE := Lib.hid heq
        clear heq
        go_wp2
        go_round
        case rel =>
          refine ⟨k + 1, by omega, by go_num, fun j hj f hf => ?_⟩
          by_cases hjk : j < k
          · exact HZ.out j hjk f hf
          · obtain rfl : j = k := by omega
            rw [rows_at HL.out hlt] at hf
            injection hf with hf
            rw [← hf]
            exact HE.out
        case measure => simp [intOf]; omega
    · have hke : k = l.length := by omega
      have HN := Lib.hid (find_never (L := m.L) (s := s) (fun j hj => HZ.out j (by rw [rows_len HL.out] at hj; omega)))
      go_wp2
      go_ret
      exact ⟨⟨_, rfl, .inr ⟨HN.out, rfl⟩⟩, rfl⟩
end Go.Proofs.YtkoedonllfmaaaaGreat.Ta

/-
  Layer 9 (block): what a sound batch puts; Execute of a sound batch; lists of batches in memory.
-/
import Derived.Test.YtobphijbhghgmaaGreatP18
import Derived.Test.YtobphijbhghgmaaGreatP08
import Derived.Test.YtobphijbhghgmaaGreatP13
import Derived.Lib.MinMax
import Derived.Test.YtobphijbhghgmaaGreatP12
import Derived.Test.YtobphijbhghgmaaGreatP07
import Derived.BigQuiet
import Derived.Laws.StructEq
import Derived.Outline
namespace Go.Proofs.YtobphijbhghgmaaGreat.Ya
set_option linter.unusedSimpArgs false
open Go Go.RowKit Ck Kw Ga Kf Pm Pz Pe Qb Qg Tm Tn Tq Aa Ah Aj Al Ik Ja Jm Jb Ma Za Zb Zt Zc Zg Zh Zi Zk Zl Zm Zw Zx Zy
open Im (num isIn add sum)
attribute [local go_sem ↓] Go.wp_at_zero Go.wp_at_succ
set_option linter.unusedVariables false
set_option maxRecDepth 100000

theorem placed_mem (n : Tx) : ∀ (rs : List Tx) (k : Int) (x : Pl3), x ∈ placed n k rs → x.1 = n ∧ x.2.2 ∈ rs ∧ x.2.1 < k + (rs.length : Int)
  | [], k, x, h => by cases h
  | r :: rs, k, x, h => by
    rcases List.mem_cons.1 h with rfl | h
    · exact ⟨rfl, List.mem_cons_self, by simp only [List.length_cons]; omega⟩
    · obtain ⟨h1, h2, h3⟩ := placed_mem n rs (k + 1) x h
      exact ⟨h1, List.mem_cons_of_mem _ h2, by simp only [List.length_cons]; omega⟩
theorem does_ok {L : List Tp} (o : O) : ∀ x ∈ (doesS L o).2.1, okPl x := by
  intro x hx
  unfold doesS at hx
  split at hx
  · cases hx
  · rename_i hc0
    have hc : check o = 0 := Classical.byContradiction hc0
    split at hx
    · cases hx
    · split at hx
      · split at hx
        · cases hx
        · split at hx <;> cases hx
      · split at hx
        · cases hx
        · rename_i k0 k1 _ t hf
          split at hx
          · rename_i k2
            split at hx
            · cases hx
            · rename_i hn
              obtain ⟨l1, l2, l3, l4⟩ := check_lens hc
              obtain ⟨p1, p2, p3⟩ := placed_mem _ _ _ _ hx
              have hT : hasT o.kind = true := by rw [k2]; rfl
              have h64 := l1 hT
              have hr : ∀ y ∈ o.recs, y.length ≤ 64 := by
                obtain ⟨hk, _, hbn, hbr, hbo⟩ := check_ok hc
                have : areRecs o.recs = true := by
                  simpa [badRecs, k2, hasR] using hbr
                exact (recs_len this).2.2
              have h5 := hr _ p2
              have h6 : x.1.length ≤ 64 := by rw [p1]; exact h64
              have h7 : t.next + (o.recs.length : Int) ≤ maxNum := by
                rcases Int.lt_or_le (maxNum - (o.recs.length : Int)) t.next with q | q
                · exact absurd (Or.inr q) hn
                · omega
              simp only [maxNum] at h7
              exact ⟨by omega, by omega, by omega, by omega⟩
          · split at hx
            · split at hx
              · cases hx
              · split at hx <;> cases hx
            · split at hx <;> cases hx
theorem app_ok (s : St) (c t : Int) (o : O) : ∀ x ∈ (appS s c t o).2.1, okPl x := by
  intro x hx
  unfold appS at hx
  split at hx
  · cases hx
  · simp only at hx
    split at hx
    · cases hx
    · split at hx
      · cases hx
      · exact does_ok o x hx
theorem appL_ok : ∀ (l : List Sd) (a : List Pl3 × St), (∀ x ∈ a.1, okPl x) → ∀ x ∈ (l.foldl appF a).1, okPl x
  | [], a, h => h
  | d :: l, a, h => appL_ok l (appF a d) (fun x hx => by
    rcases List.mem_append.1 hx with hx | hx
    · exact h x hx
    · exact app_ok _ _ _ _ x hx)
theorem put_ok (s : St) (l : List Sd) : ∀ x ∈ (appL s l).1, okPl x := appL_ok l ([], s) (fun x hx => by cases hx)
theorem plB_len {x : Pl3} (h : okPl x) : (plB x).length ≤ 2000030 := by
  obtain ⟨h1, h2, h3, h4⟩ := h
  have e1 := Cm.encB_len x.1
  have e2 := (Cm.enc_len x.1.length).1
  have e3 := (Cm.enc_len (max x.2.1 0).toNat).1
  have e4 := Cm.encB_len x.2.2
  have e5 := (Cm.enc_len x.2.2.length).1
  unfold plB
  simp only [List.length_append]
  omega
theorem exec_any (w : World) (S X : Nat → Prop) (p t : Nat) (L : List Tx) (s : St) (last : H) (b : List Sd) (vb : Value) (k : TS w S p t L s) (hb : BI w X vb b) (hX : ∀ k, S k → X k) (hr : ∀ x ∈ b, x.q.o.recs.length ≤ 140737488355328) (h4 : b.length ≤ 4) :
    Calls Tryz.prog 24 #[.pointer (some ⟨p, 0, none⟩), .pointer (some ⟨t, 0, none⟩), HV last, vb] w (ExecD w S p t L s last b) :=
  exec_gen w S X p t L s last b vb k hb hX hr (by omega) (fun W S' L' hbi hts hS' => apply_gen W S' _ p t L' s b vb hts hbi hS' hr (by omega) (put_ok s b)) (by have := Zu.put_len s b; omega) (fun x hx => by
    obtain ⟨y, hy, rfl⟩ := List.mem_map.1 hx
    have := plB_len (put_ok s b y hy)
    omega)
/-- Lists of batches in memory. -/
def LB (w : World) (X : Nat → Prop) (v : Value) (ls : List (List Sd)) : Prop :=
  ∃ vals, Sl w X 1 v ls.length vals ∧ ∀ i (h : i < ls.length), ∃ A c, vals[i]? = some (.slice A ls[i].length c) ∧ BI w X (.slice A ls[i].length c) ls[i]
section
variable {w w' : World} {X Y S : Nat → Prop} {v : Value} {ls : List (List Sd)}
theorem LB.ch (h : LB w X v ls) (c : Ch S w w') (hd : ∀ k, k < w.heap.size → S k → X k) : LB w' X v ls := by
  obtain ⟨vals, h1, h2⟩ := h
  exact ⟨vals, h1.ch c hd, fun i hi => by obtain ⟨A, c', h3, h4⟩ := h2 i hi; exact ⟨A, c', h3, h4.ch c hd⟩⟩
theorem LB.after (h : LB w X v ls) (b : Below w.heap.size w w') : LB w' X v ls := by
  obtain ⟨vals, h1, h2⟩ := h
  exact ⟨vals, h1.after b, fun i hi => by obtain ⟨A, c', h3, h4⟩ := h2 i hi; exact ⟨A, c', h3, h4.after b⟩⟩
theorem LB.weaken (h : LB w X v ls) (hk : ∀ b, b < w.heap.size → Y b → X b) : LB w Y v ls := by
  obtain ⟨vals, h1, h2⟩ := h
  exact ⟨vals, h1.weaken hk, fun i hi => by obtain ⟨A, c', h3, h4⟩ := h2 i hi; exact ⟨A, c', h3, h4.weaken hk⟩⟩
theorem LB.at_ {A : Option Addr} {n c i : Nat} (h : LB w X (.slice A n c) ls) (hi : i < ls.length) : ∃ ad Ab cb, A = some ad ∧ w.cell? (ad.add i) = some (.slice Ab ls[i].length cb) ∧ BI w X (.slice Ab ls[i].length cb) ls[i] := by
  obtain ⟨vals, ⟨A', c', hv, hl, hc, hm, hx⟩, h3⟩ := h
  injection hv with e1 e2 e3
  subst e1
  obtain ⟨Ab, cb, h4, h5⟩ := h3 i hi
  obtain ⟨ad, hA, hb, hX, hcell⟩ := hx (by omega)
  exact ⟨ad, Ab, cb, hA, hcell i _ h4, h5⟩
theorem LB.shape (h : LB w X v ls) : ∃ A c, v = .slice A ls.length c := by
  obtain ⟨vals, ⟨A, c, hv, _⟩, _⟩ := h
  exact ⟨A, c, hv⟩
end
/-- Within runs. -/
structure RI (w : World) (S N : Nat → Prop) (p t : Nat) (L L' : List Tx) (s : St) (bs : List (List Sd)) (h : H) (hs : List H) (vo : Value) (W : World) : Prop where
  st : ST w S N p t L' s W
  low : ∀ k, N k → w.heap.size ≤ k
  row : W.ownsRow w.heap.size 24 5 vo (bs.length + 1) (flatH (hs.reverse ++ [h]))
  own : ∀ g, vo.ownBlock = some g → N g
  rp : Zu.RP L' bs s h hs
  hc : hcheck h = 0
  up : ∃ K, L' = L ++ K ∧ K.length ≤ 2 + 50 * bs.length
theorem info_hdr : (Tryz.prog.info? 24).map (fun i => (i.zero, i.size, i.bytes)) = some (some (.agg #[.int .i64 0, .int .i64 0, .int .i64 0, .int .i64 0, .int .i64 0]), 5, 40) := by kernel_rfl
section
variable {w W W' : World} {S N : Nat → Prop} {p t : Nat} {L L' L2 : List Tx} {s s2 : St} {bs : List (List Sd)} {h : H} {hs : List H} {vo : Value} {W2 : World}
theorem RI.more (k : RI w S N p t L L' s bs h hs vo W) (b : Below W.heap.size W W') : RI w S (fun k => N k ∨ (W.heap.size ≤ k ∧ k < W'.heap.size)) p t L L' s bs h hs vo W' := by
  have hs0 := k.st.size
  exact ⟨k.st.more b, fun q hq => hq.elim (k.low q) (fun e => by omega), own_below k.row b, fun g hg => .inl (k.own g hg), k.rp, k.hc, k.up⟩
/-- A batch was executed; its header is appended. -/
theorem RI.next {b : List Sd} {v' : Value} (k : RI w S N p t L L' s bs h hs vo W) (hb : bcheck b = 0) (hbs : bs.length ≤ 100) (hL : L.length + 6000 ≤ 1048576) (hst : ST w S N p t (execT L' s h b) (execS L' s h b) W')
    (happ : Appended W' w.heap.size 24 5 vo (bs.length + 1 + 1) (flatH (hs.reverse ++ [h]) ++ (HC (execR L' s h b).1).toList) v' W2) : RI w S (fun k => N k ∨ (W'.heap.size ≤ k ∧ k < W2.heap.size)) p t L (execT L' s h b) (execS L' s h b) (b :: bs) (execR L' s h b).1 (h :: hs) v' W2 := by
  obtain ⟨K, hK, hKl⟩ := k.up
  have hLl : L'.length ≤ L.length + 5002 := by rw [hK, List.length_append]; omega
  obtain ⟨e1, e2, e3, K2, e4, e5⟩ := Zu.exec_run k.rp k.hc hb (by omega) (by omega)
  have c : Ch (fun k => vo.ownBlock = some k) W' W2 := Ch.of_grown happ.2.1 (fun g hg _ => hg)
  have hs0 := hst.size
  refine ⟨st_grow hst c (fun q hq => ⟨k.own q hq, k.low q (k.own q hq)⟩), fun q hq => hq.elim (k.low q) (fun e => by omega), ?_, fun g hg => ?_, e2, e3, K ++ K2, by rw [e4, hK, List.append_assoc], by simp only [List.length_append, List.length_cons]; omega⟩
  · have := happ.1
    unfold flatH at *
    simp only [List.reverse_cons, List.flatMap_append, List.flatMap_cons, List.flatMap_nil, List.append_nil, List.length_cons] at this ⊢
    exact this
  · rcases happ.2.2 with hv | hv
    · exact .inl (k.own g (by rw [← hv]; exact hg))
    · rw [hv] at hg
      injection hg with hg
      have hlt := (happ.1.lt g (by rw [hv, hg])).2
      exact .inr ⟨by omega, hlt⟩
end
end Go.Proofs.YtobphijbhghgmaaGreat.Ya

/-
  Layer 9 (block): opening lists of batches under the form's reach.
-/
namespace Go.Proofs.YtobphijbhghgmaaGreat.Yo
set_option linter.unusedSimpArgs false
open Go Go.RowKit Go.ChangeShapes Go.WideShapes Go.ChangeAt Go.Deep Ck Kf Kp Pm Pe Py Lk Jm Ja Jb Jo Ya
set_option linter.unusedVariables false
set_option maxRecDepth 100000

section
variable {H : Type} {enc : TypeId × Value → H}
theorem cells_bat : Tryz.prog.cellsOf 52 = 1 := by kernel_rfl
theorem bytes_bat : Tryz.prog.bytesOf 52 = 24 := by kernel_rfl
/-- What the form's reach says of a batch. -/
def okB (b : List Sd) : Prop := b.length * 104 ≤ 140737488351232 ∧ ∀ y ∈ b, far y.q.o 140737488351232 ∧ wfS y.s
theorem okB.plain {b : List Sd} (h : okB b) : b.length ≤ 140737488355328 ∧ ∀ x ∈ b, x.q.o.recs.length ≤ 140737488355328 :=
  ⟨by have := h.1; omega, fun x hx => by have := (h.2 x hx).1.2.2.1; omega⟩
theorem open_batches {w : World} {fuel : Nat} {base : Nat} {v : Value} {x : DataW H × List MemPlace} (h : DataW.trod enc Tryz.prog w base (fun _ => true) true fuel 44 [v] = some x) (hR : ∀ n ∈ x.1.weights Tryz.prog 44, n ≤ 140737488351232) :
    ∃ ls : List (List Sd), LB w (fun k => w.heap.size ≤ k) v ls ∧ ls.length * 24 ≤ 140737488351232 ∧ ∀ b ∈ ls, okB b := by
  rcases open_slice1 Tryz.underlying44 cells_bat h with ⟨hcs, rfl⟩ | ⟨a, len, cap, m, n, V, D, Pl, hcs, _, hl, hm, hmm, rfl, hx⟩
  · obtain rfl : v = .slice none 0 0 := by simpa using hcs
    exact ⟨[], ⟨[], Sl.nil _ _ _, fun i hi => absurd hi (by simp)⟩, by simp, fun b hb => absurd hb (by simp)⟩
  · obtain rfl : v = .slice (some a) len cap := by simpa using hcs
    simp only [if_true] at hmm
    have each : ∀ r, ∃ b : List Sd, r < len → w.cell? (a.add r) = some (V r) ∧ BI w (fun k => w.heap.size ≤ k) (V r) b ∧ okB b := by
      intro r
      by_cases hr : r < len
      · obtain ⟨hc, ht⟩ := hx r (by omega)
        obtain ⟨b, hb1, hb2, hb3⟩ := open_batch ht (fun n hn => hR n (by
          simp only [DataW.weights, Tryz.underlying44, List.mem_cons, List.mem_append]
          exact .inr (.inl (all_mem hn (List.mem_map.2 ⟨r, by simpa using hr, rfl⟩)))))
        exact ⟨b, fun _ => ⟨hc, hb1, hb2, hb3⟩⟩
      · exact ⟨[], fun h => absurd h hr⟩
    obtain ⟨f, hf⟩ := Classical.axiomOfChoice each
    refine ⟨(List.range len).map f, ⟨(List.range len).map V, ?_, fun i hi => ?_⟩, ?_, fun l hl2 => ?_⟩
    · refine ⟨some a, cap, by simp, by simp, by simpa using hl, hm, fun hn => ?_⟩
      have hn' : 0 < len := by simpa using hn
      have h0 := (hf 0 hn').1
      refine ⟨a, rfl, by have := World.block_lt_of_cell? w _ h0; rw [Ck.add_block] at this; exact this, by have := World.block_lt_of_cell? w _ h0; rw [Ck.add_block] at this; omega, fun j u hu => ?_⟩
      have hj : j < ((List.range len).map V).length := (List.getElem?_eq_some_iff.1 hu).1
      simp only [List.length_map, List.length_range] at hj
      rw [(hf j hj).1, ← hu]
      simp [hj]
    · have hi' : i < len := by simpa using hi
      have hb := (hf i hi').2.1
      obtain ⟨A, c, hv, -⟩ := hb.shape
      refine ⟨A, c, ?_, ?_⟩
      · simp [hi', hv]
      · simp only [List.getElem_map, List.getElem_range]
        rw [← hv]
        exact hb
    · have := hR _ (by simp only [DataW.weights, Tryz.underlying44]; exact List.mem_cons_self)
      rw [bytes_bat] at this
      simp only [List.length_map, List.length_range] at this ⊢
      omega
    · obtain ⟨i, hi, rfl⟩ := List.mem_map.1 hl2
      have hi' : i < len := by simpa using hi
      exact (hf i hi').2.2
end
end Go.Proofs.YtobphijbhghgmaaGreat.Yo

/-
  Layer 9 (block): the contract of bullalaw09.runs.
-/
namespace Go.Proofs.YtobphijbhghgmaaGreat.Yr
set_option linter.unusedSimpArgs false
open Go Go.RowKit Ck Kw Ga Kf Pm Pz Pe Qb Qg Tm Tn Tq Aa Ah Aj Al Ik Ja Jm Jb Ma Za Zb Zt Zc Zg Zh Zi Zk Zl Zm Zw Zx Zy Ya
open Im (num isIn add sum)
attribute [local go_sem ↓] Go.wp_at_zero Go.wp_at_succ
set_option linter.unusedVariables false
set_option maxRecDepth 100000

theorem one_hdr {w : World} {X : Nat → Prop} {cs : Array Value} (h5 : cs.size = 5) (hX : ¬ X w.heap.size) : Sl (w.alloc (.cells cs 24)) X 5 (.slice (some ⟨w.heap.size, 0, none⟩) 1 1) 1 cs.toList := by
  refine ⟨_, _, rfl, by simp [h5], Nat.le_refl _, by simp [maxLen], fun _ => ⟨_, rfl, by simp, hX, fun j u hu => ?_⟩⟩
  have ha : (⟨w.heap.size, 0, none⟩ : Addr).add j = ⟨w.heap.size, j, none⟩ := by unfold Addr.add; split <;> simp_all
  rw [ha, Blk.cell (Blk.new w 24 _) j]
  simpa using hu
/-- What runs leaves. -/
def Ran (w : World) (S : Nat → Prop) (p : Nat) (L : List Tx) (ls : List (List Sd)) (e : Ending) (w' : World) : Prop :=
  ∃ vo L' s h hs K S', e = .returned (.tuple #[vo, .bool true]) ∧ Zu.RP L' ls.reverse s h hs ∧ hcheck h = 0 ∧ L' = L ++ K ∧ K.length ≤ 2 + 50 * ls.length ∧ w'.ownsRow w.heap.size 24 5 vo (ls.length + 1) (flatH (hs.reverse ++ [h])) ∧ Tb w' S' p L' ∧ (∀ k, S' k → (S k ∧ k < w.heap.size) ∨ w.heap.size ≤ k) ∧ (∀ g, vo.ownBlock = some g → ¬ S' g) ∧ Ch (fun k => S k ∧ k < w.heap.size) w w'
theorem ran_of {w W : World} {S N : Nat → Prop} {p t : Nat} {L L' : List Tx} {s : St} {ls bs : List (List Sd)} {h : H} {hs : List H} {vo : Value} (k : RI w S N p t L L' s bs h hs vo W) (hbs : bs = ls.reverse) : Ran w S p L ls (.returned (.tuple #[vo, .bool true])) W := by
  subst hbs
  obtain ⟨K, hK, hKl⟩ := k.up
  have hr := k.row
  rw [List.length_reverse] at hKl hr
  obtain ⟨⟨S', hts, hS'⟩, hch, hloc⟩ := k.st
  refine ⟨vo, L', s, h, hs, K, S', rfl, k.rp, k.hc, hK, hKl, hr, Zh.TS.tb hts, fun q hq => ?_, fun g hg hq => (hS' g hq).2 (k.own g hg), hch⟩
  exact (hS' q hq).1
theorem ri_start {w w1 w3 w4 : World} {S : Nat → Prop} {p t : Nat} {L : List Tx} {vo : Value} {N : Nat → Prop} (hL : L.length + 6000 ≤ 1048576) (ht1 : Tb w1 (Up (fun k => S k ∧ k < w.heap.size) w w1) p (genT L)) (hc1 : Ch (fun k => S k ∧ k < w.heap.size) w w1) (b3 : Below w1.heap.size w1 w3) (b4 : Below w3.heap.size w3 w4) (hz : Tz w4 (New w3 w4) (fun _ => False) t St.zero)
    (hrow : w4.ownsRow w.heap.size 24 5 vo 1 (HC (genR L).1).toList) (hN : ∀ k, N k → w1.heap.size ≤ k ∧ k < w3.heap.size) (hv : ∀ g, vo.ownBlock = some g → N g) : RI w S N p t L (genT L) St.zero [] (genR L).1 [] vo w4 := by
  obtain ⟨g1, g2, g3, K, g4, g5⟩ := Zu.gen_run (L := L) (by omega)
  have hs1 := hc1.size
  have hs3 := b3.size
  have hs4 := b4.size
  have hts := ts_new (Tb.after ht1 b3) b4 hz
  refine ⟨⟨⟨_, hts, fun k hk => ?_⟩, (hc1.trans (Ch.of_below b3 (Nat.le_refl _)) (fun _ _ h => h)).trans (Ch.of_below b4 (Nat.le_refl _)) (fun _ _ h => h), fun k hk => by have := hN k hk; omega⟩, fun k hk => by have := hN k hk; omega, ?_, hv, g2, g3, K, g4, by simp only [List.length_nil]; omega⟩
  · rcases hk with hk | hk
    · rcases hk.1 with q | q
      · exact ⟨.inl q, fun h => by have := hN k h; have := q.2; omega⟩
      · have q1 : w.heap.size ≤ k := q.1
        have q2 : k < w1.heap.size := q.2
        exact ⟨.inr q1, fun h => by have := hN k h; omega⟩
    · exact ⟨.inr (by omega), fun h => by have := hN k h; omega⟩
  · simpa [flatH] using hrow
set_option maxHeartbeats 16000000 in
theorem runs_any (w : World) (S : Nat → Prop) (B p : Nat) (L : List Tx) (v : Value) (ls : List (List Sd)) (h : Tb w S p L) (hS : ∀ k, S k → B ≤ k) (hB : B ≤ w.heap.size) (hv : LB w (fun k => B ≤ k) v ls) (hc : ∀ b ∈ ls, bcheck b = 0) (hr : ∀ b ∈ ls, ∀ x ∈ b, x.q.o.recs.length ≤ 140737488355328) (hn : ls.length ≤ 30) (hL : L.length + 6000 ≤ 1048576) :
    Calls Tryz.prog 19 #[.pointer (some ⟨p, 0, none⟩), v] w (Ran w S p L ls) := by
  obtain ⟨Av, cv, rfl⟩ := hv.shape
  have HT := Lib.hid (Tb.tight h)
  have HLB := Lib.hid hv
  have HS := Lib.hid hS
  have HC' := Lib.hid hc
  have HR := Lib.hid hr
  have HST := Lib.hid fun (w1 w3 w4 : World) (t : Nat) (vo : Value) (N : Nat → Prop) ht1 hc1 b3 b4 hz hrow hN hv => ri_start (w := w) (w1 := w1) (w3 := w3) (w4 := w4) (S := S) (p := p) (t := t) (L := L) (vo := vo) (N := N) hL ht1 hc1 b3 b4 hz hrow hN hv
  have HGN := Lib.hid (genesis_any w _ p L (Tb.tight h))
  have hg0 : (genR L).2 = 0 := (Zu.gen_run (L := L) (by omega)).1
  rw [hg0] at HGN
  have HFIN : Hid (∀ (N : Nat → Prop) (t : Nat) (L' : List Tx) (s : St) (h : H) (hs : List H) (vo : Value) (W : World), RI w S N p t L L' s ls.reverse h hs vo W → Ran w S p L ls (.returned (.tuple #[vo, .bool true])) W) := Lib.hid fun N t L' s h hs vo W k => ran_of k rfl
  generalize Ran w S p L ls = Q at *
  obtain ⟨i0, hi0, hz0, hz1, hz2⟩ := info_parts info_hdr
  clear h hS hv hc hr hg0
  generalize hgl : (genR L).1 = g at *
  generalize hgt : genT L = T1 at *
  unfold HV at HGN
  unfold HC at *
  go_enter Tryz.func19, Tryz.ntmps19
  go_wp2_with fail
  refine HGN.out.mono ?_
  rintro e w1 ⟨rfl, ht1, hc1⟩
  have hb2 := op_below w1 (.cells #[.int .i64 g.seq, .int .i64 g.prev, .int .i64 g.batch, .int .i64 g.root, .int .i64 g.state] 24)
  have hb3 : Below w1.heap.size w1 ((w1.alloc (.cells #[.int .i64 g.seq, .int .i64 g.prev, .int .i64 g.batch, .int .i64 g.root, .int .i64 g.state] 24)).alloc (.cells #[.int .i64 g.seq, .int .i64 g.prev, .int .i64 g.batch, .int .i64 g.root, .int .i64 g.state] 24)) := hb2.trans ((op_below _ _).mono (by simp))
  have hk3 : Blk ((w1.alloc (.cells #[.int .i64 g.seq, .int .i64 g.prev, .int .i64 g.batch, .int .i64 g.root, .int .i64 g.state] 24)).alloc (.cells #[.int .i64 g.seq, .int .i64 g.prev, .int .i64 g.batch, .int .i64 g.root, .int .i64 g.state] 24)) w1.heap.size 24 #[.int .i64 g.seq, .int .i64 g.prev, .int .i64 g.batch, .int .i64 g.root, .int .i64 g.state] := Blk.alloc (Blk.new w1 _ _) _
  have hz3 : ((w1.alloc (.cells #[.int .i64 g.seq, .int .i64 g.prev, .int .i64 g.batch, .int .i64 g.root, .int .i64 g.state] 24)).alloc (.cells #[.int .i64 g.seq, .int .i64 g.prev, .int .i64 g.batch, .int .i64 g.root, .int .i64 g.state] 24)).heap.size = w1.heap.size + 2 := by simp
  have hrow3 : ((w1.alloc (.cells #[.int .i64 g.seq, .int .i64 g.prev, .int .i64 g.batch, .int .i64 g.root, .int .i64 g.state] 24)).alloc (.cells #[.int .i64 g.seq, .int .i64 g.prev, .int .i64 g.batch, .int .i64 g.root, .int .i64 g.state] 24)).ownsRow w.heap.size 24 5 (.slice (some ⟨w1.heap.size + 1, 0, none⟩) 1 1) 1 (#[.int .i64 g.seq, .int .i64 g.prev, .int .i64 g.batch, .int .i64 g.root, .int .i64 g.state] : Array Value).toList := by
    have := World.ownsRow_lit (base := w.heap.size) (e := 24) (size := 5) (w1.alloc (.cells #[.int .i64 g.seq, .int .i64 g.prev, .int .i64 g.batch, .int .i64 g.root, .int .i64 g.state] 24)) #[.int .i64 g.seq, .int .i64 g.prev, .int .i64 g.batch, .int .i64 g.root, .int .i64 g.state] 1 (Nat.le_trans hc1.size hb2.size) (by simp [maxLen]) rfl
    simpa using this
  have HB3 := Lib.hid hb3
  have HZ3 := Lib.hid hz3
  have HW3 := Lib.hid hrow3
  have HT1 := Lib.hid (And.intro ht1 hc1)
  clear ht1 hc1 hb2 hb3 hk3 hz3 hrow3 HGN
  go_wp2_with fail
  generalize hw3 : (w1.alloc (.cells #[.int .i64 g.seq, .int .i64 g.prev, .int .i64 g.batch, .int .i64 g.root, .int .i64 g.state] 24)).alloc (.cells #[.int .i64 g.seq, .int .i64 g.prev, .int .i64 g.batch, .int .i64 g.root, .int .i64 g.state] 24) = w3 at *
  clear hw3
  refine (Ab.new_any w3).mono ?_
  rintro e w4 ⟨t, rfl, hz4, hb4⟩
  have HRI := Lib.hid (HST.out w1 w3 w4 t _ (fun k => k = w1.heap.size + 1) HT1.out.1 HT1.out.2 HB3.out hb4 hz4 (own_below HW3.out hb4) (fun k hk => by have := HZ3.out; omega) (fun q hq => by simp only [Value.ownBlock, Option.some.injEq] at hq; exact hq.symm))
  clear hz4 hb4 HST HW3 HT1 HB3 HZ3
  generalize w1.heap.size + 1 = gv at *
  generalize w1.heap.size = gg at *
  go_wp2_with fail
  go_loopw [8, 28] (fun vo j wr => ∃ (i : Nat) (N : Nat → Prop) (L' : List Tx) (s : St) (h : H) (hs : List H), i ≤ ls.length ∧ j = .int .i64 i ∧ RI w S N p t L L' s (ls.take i).reverse h hs vo wr) (fun _ j _ => ls.length - (intOf j).toNat)
  case atStart => exact ⟨0, _, _, _, _, _, Nat.zero_le _, rfl, HRI.out⟩
  case round =>
    obtain ⟨i, N, L', s, h, hs, hi, rfl, hri⟩ := hrel
    clear HRI
    have hti : (ls.take i).reverse.length = i := by rw [List.length_reverse, List.length_take]; omega
    have hrow := hri.row
    rw [hti] at hrow
    have hsl : hs.reverse.length = i := by rw [List.length_reverse, hri.rp.seq.2, hti]
    obtain ⟨go, co, rfl⟩ := ownsRow_succ hrow
    have HRO := Lib.hid hrow
    have HI := Lib.hid hri
    by_cases hlt : i < ls.length
    · have hlb := HLB.out.ch hri.st.ch (fun k _ hk => HS.out k hk.1)
      obtain ⟨ad, Ab, cb, rfl, a0, hbi⟩ := hlb.at_ hlt
      have hin : (i : Int) < (ls.length : Int) := by omega
      have HC1 := Lib.hid (HC'.out _ (List.getElem_mem hlt))
      have HR1 := Lib.hid (HR.out _ (List.getElem_mem hlt))
      have HTK : Hid ((ls.take (i + 1)).reverse = ls[i] :: (ls.take i).reverse) := Lib.hid (by rw [List.take_succ_eq_append_getElem hlt, List.reverse_append]; rfl)
      have HBI := Lib.hid hbi
      have HTI := Lib.hid hti
      obtain ⟨K0, hK0, hK1⟩ := hri.up
      have hLl : L'.length + 50 ≤ 1048576 := by rw [hK0, List.length_append]; rw [hti] at hK1; omega
      have HEX := Lib.hid (Zu.exec_run (b := ls[i]) hri.rp hri.hc HC1.out (by rw [hti]; omega) hLl)
      have cc : ∀ j u, j < 5 → ((HC h).toList)[j]? = some u → wr.cell? ⟨go, i * 5 + j, none⟩ = some u := fun j u hj hu => by
        rw [World.ownsRow.cellAt hrow (i * 5 + j) (by omega)]
        unfold flatH
        rw [← hsl, flat_get HC_len (hs.reverse ++ [h]) hs.reverse.length (by simp) j hj]
        simpa using hu
      have c0 : wr.cell? ⟨go, i * 5, none⟩ = some (.int .i64 h.seq) := cc 0 _ (by omega) rfl
      have c1 := cc 1 _ (by omega) (rfl : ((HC h).toList)[1]? = some (.int .i64 h.prev))
      have c2 := cc 2 _ (by omega) (rfl : ((HC h).toList)[2]? = some (.int .i64 h.batch))
      have c3 := cc 3 _ (by omega) (rfl : ((HC h).toList)[3]? = some (.int .i64 h.root))
      have c4 := cc 4 _ (by omega) (rfl : ((HC h).toList)[4]? = some (.int .i64 h.state))
      generalize ls[i] = b at *
      have HRUN := Lib.hid (hri.st.run (P := Tryz.prog) (f := 24) (args := #[.pointer (some ⟨p, 0, none⟩), .pointer (some ⟨t, 0, none⟩), HV h, .slice Ab b.length cb]) (Q := fun e _ => ∃ vp va, e = .returned (.tuple #[HV (execR L' s h b).1, vp, va, .int .i64 0])) (L' := execT L' s h b) (s' := execS L' s h b) (fun S' hts hfr => (exec_any wr S' (fun k => B ≤ k) p t L' s h b _ hts HBI.out (fun k hk => by
        rcases (hfr k hk).1 with q | q
        · exact HS.out k q.1
        · omega) HR1.out (bcheck_ok HC1.out).1).mono (fun e w' he => by
        obtain ⟨vp, va, e1, _, e2, e3⟩ := he
        rw [HEX.out.1] at e1
        exact ⟨⟨vp, va, e1⟩, e2, e3⟩)))
      clear hlb hbi hti hrow hsl hri cc hK0 hK1 hLl
      unfold HV HC at HRUN
      go_wp2_with fail
      refine HRUN.out.mono ?_
      rintro e w2 ⟨⟨vp, va, rfl⟩, hst2, hc2⟩
      have hrow2 := own_ch HRO.out hc2 (fun q hq hf => hf.2 (HI.out.own q hq))
      have HRO2 := Lib.hid hrow2
      have HST2 := Lib.hid hst2
      have HS2 := Lib.hid hst2.size
      clear hst2 hc2 hrow2 HRUN c0 c1 c2 c3 c4 a0
      generalize hxh : (execR L' s h b).1 = x at *
      have HXH := Lib.hid hxh
      clear hxh
      have b3 : Below w2.heap.size w2 ((w2.alloc (.cells #[.int .i64 x.seq, .int .i64 x.prev, .int .i64 x.batch, .int .i64 x.root, .int .i64 x.state] 24)).alloc (.cells #[.int .i64 x.seq, .int .i64 x.prev, .int .i64 x.batch, .int .i64 x.root, .int .i64 x.state] 24)) := (op_below w2 _).trans ((op_below _ _).mono (by simp))
      have HB3 := Lib.hid b3
      clear b3
      have hsz : (w2.alloc (.cells #[.int .i64 x.seq, .int .i64 x.prev, .int .i64 x.batch, .int .i64 x.root, .int .i64 x.state] 24)).heap.size = w2.heap.size + 1 := by simp
      have hs1 : Sl ((w2.alloc (.cells #[.int .i64 x.seq, .int .i64 x.prev, .int .i64 x.batch, .int .i64 x.root, .int .i64 x.state] 24)).alloc (.cells #[.int .i64 x.seq, .int .i64 x.prev, .int .i64 x.batch, .int .i64 x.root, .int .i64 x.state] 24)) (fun _ => False) 5 (.slice (some ⟨w2.heap.size + 1, 0, none⟩) 1 1) 1 (#[.int .i64 x.seq, .int .i64 x.prev, .int .i64 x.batch, .int .i64 x.root, .int .i64 x.state] : Array Value).toList := by
        have q := one_hdr (w := w2.alloc (.cells #[.int .i64 x.seq, .int .i64 x.prev, .int .i64 x.batch, .int .i64 x.root, .int .i64 x.state] 24)) (X := fun _ => False) (cs := #[.int .i64 x.seq, .int .i64 x.prev, .int .i64 x.batch, .int .i64 x.root, .int .i64 x.state]) rfl (fun h => h)
        rw [hsz] at q
        exact q
      have HS1 := Lib.hid hs1
      clear hs1 hsz
      go_wp2_with (at_builtin; go_loud (refine wpList_append_sh _ rfl (.tmp 49) (.tmp 51) _ rfl w.heap.size 24 i0 _ 5 40 Tryz.underlying46 hi0 hz0 hz1 hz2 rfl (by omega) (.slice (some ⟨go, 0, none⟩) (i + 1) co) (i + 1) (flatH (hs.reverse ++ [h])) rfl (own_below HRO2.out HB3.out) (fun _ => False) (.slice (some ⟨w2.heap.size + 1, 0, none⟩) 1 1) 1 (#[.int .i64 x.seq, .int .i64 x.prev, .int .i64 x.batch, .int .i64 x.root, .int .i64 x.state] : Array Value).toList rfl HS1.out (by simp [Value.oneCell']) (by simp only [maxLen]; omega) (by omega) (Nat.le_trans HS2.out HB3.out.size) ?_); intro A5 c5 w5 happ)
      go_roundw
      case rel =>
        have hst5 := HST2.out.later HB3.out
        rw [show i + 1 + 1 = (ls.take i).reverse.length + 1 + 1 from by rw [HTI.out]] at happ
        have R := HI.out.next (b := b) HC1.out (by rw [HTI.out]; omega) hL hst5 (by rw [HXH.out]; exact happ)
        rw [← HTK.out, HXH.out] at R
        rw [HTI.out] at R
        exact ⟨i + 1, _, _, _, _, _, by omega, by go_num, R⟩
      case measure => simp [intOf]; omega
    · have hke : i = ls.length := by omega
      subst hke
      rw [List.take_length] at HI
      clear hlt hi hti hrow hsl hri HRO
      go_wp2_with fail
      exact HFIN.out _ _ _ _ _ _ _ _ HI.out
end Go.Proofs.YtobphijbhghgmaaGreat.Yr

/-
  Layer 9 (block): the contract of bullalaw09.sound.
-/
namespace Go.Proofs.YtobphijbhghgmaaGreat.Ys
set_option linter.unusedSimpArgs false
open Go Go.RowKit Ck Kw Ga Kf Pm Pz Pe Qb Qg Ik Ja Jm Jb Jc Je Ya
attribute [local go_sem ↓] Go.wp_at_zero Go.wp_at_succ
set_option linter.unusedVariables false
set_option maxRecDepth 100000

def snd (b : List Sd) : Bool := bcheck b == 0
def soundL (ls : List (List Sd)) : List (List Sd) := (ls.take 30).filter snd
theorem sound_len (ls : List (List Sd)) : (soundL ls).length ≤ 30 := Nat.le_trans (List.length_filter_le _ _) (by rw [List.length_take]; omega)
theorem sound_ok {ls : List (List Sd)} : ∀ b ∈ soundL ls, bcheck b = 0 ∧ b ∈ ls := fun b hb => by
  obtain ⟨h1, h2⟩ := List.mem_filter.1 hb
  exact ⟨by simpa [snd] using h2, List.mem_of_mem_take h1⟩
theorem info_bat : (Tryz.prog.info? 52).map (fun i => (i.zero, i.size, i.bytes)) = some (some (.slice none 0 0), 1, 24) := by kernel_rfl
theorem slice_lb (A : Option Addr) (n c k : Nat) (hk : k ≤ c) (W : World) : (Instr.slice 44 (.slice A n c) none (some (.int .i64 (k : Int))) none).run Tryz.prog W = .ok (.slice A k c) W := by
  have he : ∀ W : World, (sizeOf (Tryz.prog.elem 44)).run Tryz.prog W = .ok 1 W := fun _ => by kernel_rfl
  rw [run_slice_h W 44 A n c (by kernel_rfl) .i64 k (by omega) (by omega), he]
  simp only [Result.andThen_ok, sliced, Int.toNat_natCast]
  congr 2
  by_cases h0 : c = 0
  · simp [h0]
  · rw [if_neg h0]
    cases A with
    | none => simp
    | some a => simp [Addr.add]
/-- Batches' values. -/
def VB (w : World) (X : Nat → Prop) (vals : List Value) (ls : List (List Sd)) : Prop :=
  vals.length = ls.length ∧ ∀ i (h : i < ls.length), ∃ A c, vals[i]? = some (.slice A ls[i].length c) ∧ BI w X (.slice A ls[i].length c) ls[i]
section
variable {w w' : World} {X : Nat → Prop} {vals : List Value} {ls : List (List Sd)}
theorem VB.nil : VB w X [] [] := ⟨rfl, fun i h => absurd h (by simp)⟩
theorem VB.ch {S : Nat → Prop} (h : VB w X vals ls) (c : Ch S w w') (hd : ∀ k, k < w.heap.size → S k → X k) : VB w' X vals ls :=
  ⟨h.1, fun i hi => by obtain ⟨A, c', h3, h4⟩ := h.2 i hi; exact ⟨A, c', h3, h4.ch c hd⟩⟩
theorem VB.after (h : VB w X vals ls) (b : Below w.heap.size w w') : VB w' X vals ls :=
  ⟨h.1, fun i hi => by obtain ⟨A, c', h3, h4⟩ := h.2 i hi; exact ⟨A, c', h3, h4.after b⟩⟩
theorem VB.snoc {b : List Sd} {A : Option Addr} {c : Nat} (h : VB w X vals ls) (hb : BI w X (.slice A b.length c) b) : VB w X (vals ++ [.slice A b.length c]) (ls ++ [b]) := by
  obtain ⟨h1, h2⟩ := h
  refine ⟨by simp [h1], fun i hi => ?_⟩
  by_cases hlt : i < ls.length
  · obtain ⟨A', c', h3, h4⟩ := h2 i hlt
    have e : (ls ++ [b])[i] = ls[i] := List.getElem_append_left hlt
    rw [e]
    exact ⟨A', c', by rw [List.getElem?_append_left (by omega)]; exact h3, h4⟩
  · have hi' : i = ls.length := by simp only [List.length_append, List.length_singleton] at hi; omega
    subst hi'
    have e : (ls ++ [b])[ls.length] = b := by simp
    rw [e]
    exact ⟨A, c, by rw [List.getElem?_append_right (by omega), h1]; simp, hb⟩
end
/-- What sound leaves. -/
def Sounded (w : World) (X : Nat → Prop) (ls : List (List Sd)) (e : Ending) (w' : World) : Prop :=
  ∃ v vals, e = .returned v ∧ w'.ownsRow w.heap.size 52 1 v (soundL ls).length vals ∧ VB w' X vals (soundL ls) ∧ Below w.heap.size w w'
set_option maxHeartbeats 16000000 in
theorem sound_any (w : World) (X : Nat → Prop) (A : Option Addr) (c : Nat) (ls : List (List Sd)) (h : LB w X (.slice A ls.length c) ls) (hX : ∀ k, w.heap.size ≤ k → X k) (hl : ∀ b ∈ ls, b.length ≤ 140737488355328 ∧ ∀ x ∈ b, x.q.o.recs.length ≤ 140737488355328) (hn : ls.length ≤ 140737488355328) :
    Calls Tryz.prog 18 #[.slice A ls.length c] w (Sounded w X ls) := by
  obtain ⟨k, hk1, hk2, hk3, hk4⟩ : ∃ k : Nat, min (ls.length : Int) 30 = (k : Int) ∧ k ≤ ls.length ∧ k ≤ 30 ∧ (ls.take 30).length = k := ⟨min ls.length 30, by omega, by omega, by omega, by rw [List.length_take]; omega⟩
  have hcap : ls.length ≤ c := by
    obtain ⟨vals, ⟨A', c', hv, _, hc, _⟩, _⟩ := h
    obtain ⟨_, _, e⟩ := Value.slice.inj hv
    omega
  have hsl := slice_lb A ls.length c k (by omega)
  have HLB := Lib.hid h
  have HXX := Lib.hid hX
  have HL := Lib.hid hl
  have HTK : Hid (∀ i (hi : i < k) (hi2 : i < ls.length), (ls.take 30).take (i + 1) = (ls.take 30).take i ++ [ls[i]]) := Lib.hid fun i hi hi2 => by
    rw [List.take_succ_eq_append_getElem (by rw [hk4]; exact hi)]
    simp
  have HTE : Hid ((ls.take 30).take k = ls.take 30) := Lib.hid (by rw [← hk4, List.take_length])
  obtain ⟨i0, hi0, hz0, hz1, hz2⟩ := info_parts info_bat
  clear h hX hl hcap hk4
  go_enter Tryz.func18, Tryz.ntmps18
  go_wp2_with fail
  go_loopw [3, 12] (fun vo j wr => ∃ (i : Nat) (vals : List Value), i ≤ k ∧ j = .int .i64 i ∧ wr.ownsRow w.heap.size 52 1 vo (((ls.take 30).take i).filter snd).length vals ∧ VB wr X vals (((ls.take 30).take i).filter snd) ∧ Below w.heap.size w wr) (fun _ j _ => k - (intOf j).toNat)
  case atStart => exact ⟨0, [], Nat.zero_le _, rfl, World.ownsRow_nil _ _ _ _, VB.nil, Below.refl _ _⟩
  case round =>
    obtain ⟨i, vals, hi, rfl, hown, hvb, hb⟩ := hrel
    have HQ := Lib.hid (And.intro hown (And.intro hvb hb))
    obtain ⟨Ao, co, rfl⟩ := own_shape hown
    by_cases hlt : i < k
    · obtain ⟨ad, Ab, cb, rfl, a0, hbi⟩ := (HLB.out.after hb).at_ (i := i) (by omega)
      have hin : (i : Int) < (k : Int) := by omega
      have htk := HTK.out i hlt (by omega)
      obtain ⟨hl1, hl2⟩ := HL.out _ (List.getElem_mem (show i < ls.length by omega))
      generalize ls[i] = b at *
      have HCB := Lib.hid (rcbatch_any wr X _ b hbi hl2 hl1)
      have HBI := Lib.hid hbi
      have hml : (((ls.take 30).take i).filter snd).length ≤ i := Nat.le_trans (List.length_filter_le _ _) (by rw [List.length_take]; omega)
      by_cases hc : bcheck b = 0
      · have e1 : (bcheck b == 0) = true := by rw [hc]; rfl
        have hfl : ((ls.take 30).take (i + 1)).filter snd = ((ls.take 30).take i).filter snd ++ [b] := by rw [htk, List.filter_append]; simp [snd, e1]
        have HFL := Lib.hid hfl
        clear htk hfl hl1 hl2 hbi hown hvb hb hc
        generalize (((ls.take 30).take i).filter snd) = fl at *
        go_wp2_with fail
        refine HCB.out.mono ?_
        rintro e w1 ⟨rfl, hb1⟩
        have HB1 := Lib.hid hb1
        have HO1 := Lib.hid (own_below HQ.out.1 hb1)
        have hb2 := op_below w1 (.cells #[.slice Ab b.length cb] 52)
        have HO2 := Lib.hid (own_below HO1.out hb2)
        have HB2 := Lib.hid (HQ.out.2.2.trans ((hb1.trans (hb2.mono hb1.size)).mono HQ.out.2.2.size))
        have HV2 := Lib.hid ((HQ.out.2.1.after (hb1.trans (hb2.mono hb1.size))).snoc (HBI.out.after (hb1.trans (hb2.mono hb1.size))))
        clear hb1 hb2 HCB a0
        go_wp2_with (at_builtin; go_loud (refine wpList_append_sh _ rfl (.tmp 19) (.tmp 21) _ rfl w.heap.size 52 i0 _ 1 24 Tryz.underlying44 hi0 hz0 hz1 hz2 rfl (by omega) (.slice Ao fl.length co) fl.length vals rfl HO2.out (fun _ => False) _ 1 [.slice Ab b.length cb] rfl (Ib.one_sv _ _ _ _ (fun h => h)) (by simp [Value.oneCell']) (by simp only [maxLen]; omega) (by omega) HB2.out.size ?_); intro A5 c5 w5 happ)
        go_roundw
        case rel =>
          have b5 := HB2.out.grown happ.2.1 HB2.out.size (fun g hg => (HO2.out.lt g hg).1)
          refine ⟨i + 1, vals ++ [.slice Ab b.length cb], by omega, by go_num, ?_, ?_, b5⟩
          · rw [HFL.out, List.length_append]; exact happ.1
          · rw [HFL.out]
            exact HV2.out.ch (Ch.of_grown happ.2.1 (fun g hg _ => hg) : Ch (fun k => (Value.slice Ao fl.length co).ownBlock = some k) _ w5) (fun q _ hq => HXX.out q (HO2.out.lt q hq).1)
        case measure => simp [intOf]; omega
      · have e1 : (bcheck b == 0) = false := beq_eq_false_iff_ne.2 hc
        have hfl : ((ls.take 30).take (i + 1)).filter snd = ((ls.take 30).take i).filter snd := by rw [htk, List.filter_append]; simp [snd, e1]
        have HFL := Lib.hid hfl
        clear htk hfl hl1 hl2 hbi hown hvb hb hc
        go_wp2_with fail
        refine HCB.out.mono ?_
        rintro e w1 ⟨rfl, hb1⟩
        have HB1 := Lib.hid hb1
        clear hb1 HCB a0
        go_wp2_with fail
        go_roundw
        case rel =>
          refine ⟨i + 1, vals, by omega, by go_num, ?_, ?_, HQ.out.2.2.trans (HB1.out.mono HQ.out.2.2.size)⟩
          · rw [HFL.out]; exact own_below HQ.out.1 HB1.out
          · rw [HFL.out]; exact HQ.out.2.1.after HB1.out
        case measure => simp [intOf]; omega
    · have hke : i = k := by omega
      subst hke
      have HQ2 : Hid (Sounded w X ls (.returned (.slice Ao (((ls.take 30).take i).filter snd).length co)) wr) := by
        rw [HTE.out] at hown hvb ⊢
        exact Lib.hid ⟨_, vals, rfl, hown, hvb, hb⟩
      clear hown hvb hb
      go_wp2_with fail
      go_ret
      exact HQ2.out
end Go.Proofs.YtobphijbhghgmaaGreat.Ys

/-
  Layer 8 (request): the contracts of the document's SameRequest and Same.
-/
namespace Go.Proofs.YtobphijbhghgmaaGreat.Jk
set_option linter.unusedSimpArgs false
open Go Go.RowKit Ck Kw Ga Kf Pm Pe Pg Pk Qb Qs Lk Ld Jm Ja Jb Jc
attribute [local go_sem ↓] Go.wp_at_zero Go.wp_at_succ
set_option linter.unusedVariables false
set_option maxRecDepth 100000

theorem sameO_dec (a b : O) : sameO a b = decide (a = b) := rfl
theorem Q_ext {x y : Q} (h1 : x.client = y.client) (h2 : x.time = y.time) (h3 : x.o = y.o) : x = y := by cases x; cases y; simp_all
theorem Sd_ext {x y : Sd} (h1 : x.q = y.q) (h2 : x.s = y.s) : x = y := by cases x; cases y; simp_all

set_option maxHeartbeats 4000000 in
theorem sameq_any (x y : Q) (A B : Option Addr) (c d : Nat) (X Y : Nat → Prop) (w : World) (ha : Ls w X (.slice A x.o.recs.length c) x.o.recs) (hb : Ls w Y (.slice B y.o.recs.length d) y.o.recs) (hl : x.o.recs.length ≤ 140737488355328) :
    Calls Tryz.prog 45 #[QV x A c, QV y B d] w fun e w' => e = .returned (.bool (decide (x = y))) ∧ Below w.heap.size w w' := by
  have b2 : Below w.heap.size w ((w.alloc (.cells (QC x A c) 100)).alloc (.cells (QC y B d) 100)) := (op_below w _).trans ((op_below _ _).mono (by simp))
  have k1 : QB ((w.alloc (.cells (QC x A c) 100)).alloc (.cells (QC y B d) 100)) w.heap.size x A c := Blk.alloc (Blk.new w _ _) _
  have k2 : QB ((w.alloc (.cells (QC x A c) 100)).alloc (.cells (QC y B d) 100)) (w.heap.size + 1) y B d := Blk.new_at (by simp) rfl
  have HS := Lib.hid (rsame_any x.o y.o (OV x.o A c) (OV y.o B d) X Y _ ⟨A, c, rfl, ha.after b2⟩ ⟨B, d, rfl, hb.after b2⟩ hl)
  obtain ⟨a0, a1, a2, a3, a4, a5, a6⟩ := k1.cells
  obtain ⟨b0, b1, b2', b3, b4, b5, b6⟩ := k2.cells
  have HB := Lib.hid b2
  clear b2 k1 k2 ha hb
  unfold OV at HS
  unfold QV
  unfold QC at *
  by_cases h1 : x.client = y.client
  · have e1 : (x.client == y.client) = true := by rw [h1]; exact beq_self_eq_true _
    by_cases h2 : x.time = y.time
    · have e2 : (x.time == y.time) = true := by rw [h2]; exact beq_self_eq_true _
      have HR : Hid (decide (x = y) = sameO x.o y.o) := Lib.hid (by rw [sameO_dec, decide_eq_decide]; exact ⟨fun h => by rw [h], fun h => Q_ext h1 h2 h⟩)
      clear h1 h2
      go_enter Tryz.func45, Tryz.ntmps45
      go_wp2_with fail
      refine HS.out.mono ?_
      rintro e w3 ⟨rfl, hb3⟩
      have HB3 := Lib.hid (HB.out.trans (hb3.mono HB.out.size))
      clear hb3
      go_wp2_with fail
      go_ret
      exact ⟨by rw [HR.out]; rfl, HB3.out⟩
    · have e2 : (x.time == y.time) = false := beq_eq_false_iff_ne.2 h2
      have HR : Hid (decide (x = y) = false) := Lib.hid (decide_eq_false (fun h => h2 (by rw [h])))
      clear h1 h2
      go_enter Tryz.func45, Tryz.ntmps45
      go_wp2_with fail
      go_ret
      exact ⟨by rw [HR.out]; rfl, HB.out⟩
  · have e1 : (x.client == y.client) = false := beq_eq_false_iff_ne.2 h1
    have HR : Hid (decide (x = y) = false) := Lib.hid (decide_eq_false (fun h => h1 (by rw [h])))
    clear h1
    go_enter Tryz.func45, Tryz.ntmps45
    go_wp2_with fail
    go_ret
    exact ⟨by rw [HR.out]; rfl, HB.out⟩

theorem at9_later {w w' : World} {ad : Addr} {d : Sd} {A : Option Addr} {c : Nat} (h : At9 w ad d A c) (b : Below w.heap.size w w') : At9 w' ad d A c := by
  have k : ∀ {a : Addr} {v : Value}, w.cell? a = some v → w'.cell? a = some v := fun {a v} hc => by rw [b.cell (World.block_lt_of_cell? w _ hc)]; exact hc
  obtain ⟨a0, a1, a2, a3, a4, a5, a6, a7, a8⟩ := h
  exact ⟨k a0, k a1, k a2, k a3, k a4, k a5, k a6, k a7, k a8⟩
/-- Two batches stand there. -/
structure S2 (w0 : World) (X Y : Nat → Prop) (va vb : Value) (l m : List Sd) (W : World) : Prop where
  below : Below w0.heap.size w0 W
  one : BI W X va l
  two : BI W Y vb m
theorem S2.later {w0 W W' : World} {X Y : Nat → Prop} {va vb : Value} {l m : List Sd} (h : S2 w0 X Y va vb l m W) (b : Below W.heap.size W W') : S2 w0 X Y va vb l m W' := ⟨h.below.trans (b.mono h.below.size), h.one.after b, h.two.after b⟩

set_option maxHeartbeats 8000000 in
theorem rsameb_any (w : World) (X Y : Nat → Prop) (va vb : Value) (l m : List Sd) (ha : BI w X va l) (hb : BI w Y vb m) (hr : ∀ x ∈ l, x.q.o.recs.length ≤ 140737488355328) (hl63 : l.length ≤ 140737488355328) :
    Calls Tryz.prog 22 #[va, vb] w fun e w' => e = .returned (.bool (decide (l = m))) ∧ Below w.heap.size w w' := by
  obtain ⟨A, c, rfl, -⟩ := ha.shape
  obtain ⟨B, d, rfl, -⟩ := hb.shape
  have HA := Lib.hid (show S2 w X Y _ _ l m w from ⟨Below.refl _ w, ha, hb⟩)
  have HR := Lib.hid hr
  clear ha hb hr
  by_cases hlen : l.length = m.length
  · have hn : ((l.length : Int) != (m.length : Int)) = false := by simp [hlen]
    have HLEN := Lib.hid hlen
    have hge := guard_sign
    have hqe := run_neq_sign
    clear hlen
    go_enter Tryz.func22, Tryz.ntmps22
    go_wp2_with fail
    go_loopw [5] (fun j wr => ∃ k : Nat, k ≤ l.length ∧ j = .int .i64 k ∧ l.take k = m.take k ∧ S2 w X Y (.slice A l.length c) (.slice B m.length d) l m wr) (fun j _ => l.length - (intOf j).toNat)
    case atStart => exact ⟨0, Nat.zero_le _, rfl, rfl, HA.out⟩
    case round =>
      obtain ⟨k, hk, rfl, htk, hs⟩ := hrel
      clear HA
      by_cases hlt : k < l.length
      · have hlt2 : k < m.length := by have := HLEN.out; omega
        obtain ⟨ad, Ar, cr, rfl, hat1, hls1⟩ := hs.one.at_ hlt
        obtain ⟨bd, Br, dr, rfl, hat2, hls2⟩ := hs.two.at_ hlt2
        have hrl := HR.out _ (List.getElem_mem hlt)
        have HN1 := Lib.hid (show l[k] = m[k] → l.take (k + 1) = m.take (k + 1) from fun h => by rw [List.take_succ_eq_append_getElem hlt, List.take_succ_eq_append_getElem hlt2, htk, h])
        have HN2 := Lib.hid (show l[k] ≠ m[k] → decide (l = m) = false from fun h => decide_eq_false (fun e => h (by subst e; rfl)))
        have hkp : (0 : Int) ≤ (k : Int) := by omega
        have hkl : (k : Int) < (l.length : Int) := by omega
        have hkm : (k : Int) < (m.length : Int) := by omega
        generalize l[k] = x at *
        generalize m[k] = y at *
        have HS := Lib.hid fun (n : Nat) => sameq_any x.q y.q Ar Br cr dr X Y (wr.drewN n) (hls1.after (below_drewN (Below.refl _ _) n)) (hls2.after (below_drewN (Below.refl _ _) n)) hrl
        have HSS := Lib.hid hs
        have HAT1 := Lib.hid hat1
        have HAT2 := Lib.hid hat2
        obtain ⟨a0, a1, a2, a3, a4, a5, a6, a7, a8⟩ := hat1
        obtain ⟨b0, b1, b2, b3, b4, b5, b6, b7, b8⟩ := hat2
        unfold QV QC at HS
        clear htk hs hls1 hls2 hlt hlt2
        by_cases hsg : x.s = y.s
        · have hqq : ∀ W : World, (binOp .neq 102 (.agg #[.int .i64 x.s.1, .int .i64 x.s.2]) (.agg #[.int .i64 y.s.1, .int .i64 y.s.2])).run Tryz.prog W = .ok (.bool false) W := fun W => by rw [hqe, show sgB (x.s.1, x.s.2) (y.s.1, y.s.2) = true from by rw [hsg]; exact sgB_yes _]; rfl
          have HSG := Lib.hid hsg
          clear hsg hqe
          by_cases hq : x.q = y.q
          · have HS1 := Lib.hid fun n => (HS.out n).mono (fun e w' h => show e = .returned (.bool true) ∧ _ from ⟨by rw [h.1, decide_eq_true hq], h.2⟩)
            have HT := Lib.hid (HN1.out (Sd_ext hq HSG.out))
            clear hq HS HN1 HN2
            go_wp2_with fail
            go_region_held3 (fun w' => (w'.cell? (ad.add (k * 9)) = some (.int .i64 x.q.client) ∧ w'.cell? ⟨(ad.add (k * 9)).block, (ad.add (k * 9)).off + 1, none⟩ = some (.int .i64 x.q.time) ∧ w'.cell? ⟨(ad.add (k * 9)).block, (ad.add (k * 9)).off + 2, none⟩ = some (.int .i64 x.q.o.kind) ∧ w'.cell? ⟨(ad.add (k * 9)).block, (ad.add (k * 9)).off + 3, none⟩ = some (.string ⟨x.q.o.topic.toArray⟩) ∧ w'.cell? ⟨(ad.add (k * 9)).block, (ad.add (k * 9)).off + 4, none⟩ = some (.string ⟨x.q.o.group.toArray⟩) ∧ w'.cell? ⟨(ad.add (k * 9)).block, (ad.add (k * 9)).off + 5, none⟩ = some (.int .i64 x.q.o.off) ∧ w'.cell? ⟨(ad.add (k * 9)).block, (ad.add (k * 9)).off + 6, none⟩ = some (.slice Ar x.q.o.recs.length cr) ∧ w'.cell? ⟨(ad.add (k * 9)).block, (ad.add (k * 9)).off + 7, none⟩ = some (.int .i64 x.s.1) ∧ w'.cell? ⟨(ad.add (k * 9)).block, (ad.add (k * 9)).off + 8, none⟩ = some (.int .i64 x.s.2)) ∧ (w'.cell? (bd.add (k * 9)) = some (.int .i64 y.q.client) ∧ w'.cell? ⟨(bd.add (k * 9)).block, (bd.add (k * 9)).off + 1, none⟩ = some (.int .i64 y.q.time) ∧ w'.cell? ⟨(bd.add (k * 9)).block, (bd.add (k * 9)).off + 2, none⟩ = some (.int .i64 y.q.o.kind) ∧ w'.cell? ⟨(bd.add (k * 9)).block, (bd.add (k * 9)).off + 3, none⟩ = some (.string ⟨y.q.o.topic.toArray⟩) ∧ w'.cell? ⟨(bd.add (k * 9)).block, (bd.add (k * 9)).off + 4, none⟩ = some (.string ⟨y.q.o.group.toArray⟩) ∧ w'.cell? ⟨(bd.add (k * 9)).block, (bd.add (k * 9)).off + 5, none⟩ = some (.int .i64 y.q.o.off) ∧ w'.cell? ⟨(bd.add (k * 9)).block, (bd.add (k * 9)).off + 6, none⟩ = some (.slice Br y.q.o.recs.length dr) ∧ w'.cell? ⟨(bd.add (k * 9)).block, (bd.add (k * 9)).off + 7, none⟩ = some (.int .i64 y.s.1) ∧ w'.cell? ⟨(bd.add (k * 9)).block, (bd.add (k * 9)).off + 8, none⟩ = some (.int .i64 y.s.2))) (first | exact ⟨HAT1.out, HAT2.out⟩ | exact ⟨HA3.out, HB3.out⟩)
              (first
              | (go_at_call 45; refine (HS1.out 1).mono ?_; rintro e w3 ⟨rfl, hb3⟩; have HS3 := Lib.hid (HSS.out.later (Ga.below_of_drew hb3)); have HA3 := Lib.hid (at9_later HAT1.out (Ga.below_of_drew hb3)); have HB3 := Lib.hid (at9_later HAT2.out (Ga.below_of_drew hb3)); clear hb3))
            all_goals
              go_wp2_with fail
              go_roundw
              case rel => exact ⟨k + 1, by omega, by go_num, HT.out, HS3.out⟩
              case measure => simp [intOf]; omega
          · have HS1 := Lib.hid fun n => (HS.out n).mono (fun e w' h => show e = .returned (.bool false) ∧ _ from ⟨by rw [h.1, decide_eq_false hq], h.2⟩)
            have HT := Lib.hid (HN2.out (fun h => hq (by rw [h])))
            clear hq HS HN1 HN2
            go_wp2_with fail
            go_region_held3 (fun w' => (w'.cell? (ad.add (k * 9)) = some (.int .i64 x.q.client) ∧ w'.cell? ⟨(ad.add (k * 9)).block, (ad.add (k * 9)).off + 1, none⟩ = some (.int .i64 x.q.time) ∧ w'.cell? ⟨(ad.add (k * 9)).block, (ad.add (k * 9)).off + 2, none⟩ = some (.int .i64 x.q.o.kind) ∧ w'.cell? ⟨(ad.add (k * 9)).block, (ad.add (k * 9)).off + 3, none⟩ = some (.string ⟨x.q.o.topic.toArray⟩) ∧ w'.cell? ⟨(ad.add (k * 9)).block, (ad.add (k * 9)).off + 4, none⟩ = some (.string ⟨x.q.o.group.toArray⟩) ∧ w'.cell? ⟨(ad.add (k * 9)).block, (ad.add (k * 9)).off + 5, none⟩ = some (.int .i64 x.q.o.off) ∧ w'.cell? ⟨(ad.add (k * 9)).block, (ad.add (k * 9)).off + 6, none⟩ = some (.slice Ar x.q.o.recs.length cr) ∧ w'.cell? ⟨(ad.add (k * 9)).block, (ad.add (k * 9)).off + 7, none⟩ = some (.int .i64 x.s.1) ∧ w'.cell? ⟨(ad.add (k * 9)).block, (ad.add (k * 9)).off + 8, none⟩ = some (.int .i64 x.s.2)) ∧ (w'.cell? (bd.add (k * 9)) = some (.int .i64 y.q.client) ∧ w'.cell? ⟨(bd.add (k * 9)).block, (bd.add (k * 9)).off + 1, none⟩ = some (.int .i64 y.q.time) ∧ w'.cell? ⟨(bd.add (k * 9)).block, (bd.add (k * 9)).off + 2, none⟩ = some (.int .i64 y.q.o.kind) ∧ w'.cell? ⟨(bd.add (k * 9)).block, (bd.add (k * 9)).off + 3, none⟩ = some (.string ⟨y.q.o.topic.toArray⟩) ∧ w'.cell? ⟨(bd.add (k * 9)).block, (bd.add (k * 9)).off + 4, none⟩ = some (.string ⟨y.q.o.group.toArray⟩) ∧ w'.cell? ⟨(bd.add (k * 9)).block, (bd.add (k * 9)).off + 5, none⟩ = some (.int .i64 y.q.o.off) ∧ w'.cell? ⟨(bd.add (k * 9)).block, (bd.add (k * 9)).off + 6, none⟩ = some (.slice Br y.q.o.recs.length dr) ∧ w'.cell? ⟨(bd.add (k * 9)).block, (bd.add (k * 9)).off + 7, none⟩ = some (.int .i64 y.s.1) ∧ w'.cell? ⟨(bd.add (k * 9)).block, (bd.add (k * 9)).off + 8, none⟩ = some (.int .i64 y.s.2))) (first | exact ⟨HAT1.out, HAT2.out⟩ | exact ⟨HA3.out, HB3.out⟩)
              (first
              | (go_at_call 45; refine (HS1.out 1).mono ?_; rintro e w3 ⟨rfl, hb3⟩; have HS3 := Lib.hid (HSS.out.later (Ga.below_of_drew hb3)); have HA3 := Lib.hid (at9_later HAT1.out (Ga.below_of_drew hb3)); have HB3 := Lib.hid (at9_later HAT2.out (Ga.below_of_drew hb3)); clear hb3))
            all_goals
              go_wp2_with fail
              go_ret
              exact ⟨by rw [HT.out]; rfl, HS3.out.below⟩
        · have hqq : ∀ W : World, (binOp .neq 102 (.agg #[.int .i64 x.s.1, .int .i64 x.s.2]) (.agg #[.int .i64 y.s.1, .int .i64 y.s.2])).run Tryz.prog W = .ok (.bool true) W := fun W => by rw [hqe, show sgB (x.s.1, x.s.2) (y.s.1, y.s.2) = false from sgB_no hsg]; rfl
          have HT := Lib.hid (HN2.out (fun h => hsg (by rw [h])))
          clear hsg hqe HS HN1 HN2
          go_wp2_with fail
          go_quiet (fail)
          go_wp2_with fail
          go_ret
          exact ⟨by rw [HT.out]; rfl, below_drewN HSS.out.below _⟩
      · have hke : k = l.length := by omega
        have HN : Hid (decide (l = m) = true) := Lib.hid (by
          rw [hke, List.take_length, HLEN.out, List.take_length] at htk
          exact decide_eq_true htk)
        have HSS := Lib.hid hs
        clear htk hs
        go_wp2_with fail
        go_ret
        exact ⟨by rw [HN.out]; rfl, HSS.out.below⟩
  · have hn : ((l.length : Int) != (m.length : Int)) = true := by simp only [bne_iff_ne, ne_eq]; omega
    have HN : Hid (decide (l = m) = false) := Lib.hid (decide_eq_false (fun h => hlen (by rw [h])))
    clear hlen
    go_enter Tryz.func22, Tryz.ntmps22
    go_wp2_with fail
    go_ret
    exact ⟨by rw [HN.out]; rfl, HA.out.below⟩
end Go.Proofs.YtobphijbhghgmaaGreat.Jk

/-
  Layer 9 (block): slices.EqualFunc at lists of batches.
-/
namespace Go.Proofs.YtobphijbhghgmaaGreat.Ye
set_option linter.unusedSimpArgs false
open Go Go.RowKit Ck Kw Ga Kf Pm Pz Pe Qb Qg Ik Ja Jm Jb Jc Je Jk Ya
attribute [local go_sem ↓] Go.wp_at_zero Go.wp_at_succ
set_option linter.unusedVariables false

set_option maxRecDepth 100000 in
set_option maxHeartbeats 4000000 in
theorem equalfuncs_any (w : World) (X Y : Nat → Prop) (A B : Option Addr) (c d n m : Nat) (ls ks : List (List Sd)) (hn : n = ls.length) (hm : m = ks.length) (ha : LB w X (.slice A n c) ls) (hb : LB w Y (.slice B m d) ks) (hr : ∀ b ∈ ls, b.length ≤ 140737488355328 ∧ ∀ x ∈ b, x.q.o.recs.length ≤ 140737488355328) (hl : ls.length ≤ 1000000) :
    Calls Tryz.prog 21 #[.slice A n c, .slice B m d, .func (.func 22) #[] #[]] w fun e w' => e = .returned (.bool (decide (ls = ks))) ∧ Below w.heap.size w w' := by
  subst hn; subst hm
  have HA := Lib.hid ha
  have HB := Lib.hid hb
  have HR := Lib.hid hr
  clear ha hb hr
  by_cases hlen : ls.length = ks.length
  · have h1 : ((ls.length : Int) != (ks.length : Int)) = false := by simp [hlen]
    have HLEN := Lib.hid hlen
    have hle : ls.length ≤ ks.length := by omega
    clear hlen
    go_enter Tryz.func21, Tryz.ntmps21
    go_wp2_with fail
    go_loopw [17] (fun i wr => ∃ k : Nat, k ≤ ls.length ∧ i = .int .i64 k ∧ ls.take k = ks.take k ∧ Below w.heap.size w wr) (fun i _ => ls.length - (intOf i).toNat)
    case atStart => exact ⟨0, Nat.zero_le _, rfl, rfl, Below.refl _ _⟩
    case round =>
      obtain ⟨k, hk, rfl, hz, hbw⟩ := hrel
      have HBW := Lib.hid hbw
      have HZ := Lib.hid hz
      clear hz
      by_cases hlt : k < ls.length
      · have hlt2 : k < ks.length := by omega
        obtain ⟨ad, B1, d1, rfl, hc1, hx1⟩ := (HA.out.after HBW.out).at_ hlt
        obtain ⟨ad2, B2, d2, rfl, hc2, hx2⟩ := (HB.out.after HBW.out).at_ hlt2
        obtain ⟨hr1, hr2⟩ := HR.out _ (List.getElem_mem hlt)
        have hsm := rsameb_any wr X Y _ _ ls[k] ks[k] hx1 hx2 hr2 hr1
        by_cases heq : ls[k] = ks[k]
        · have hbq : decide (ls[k] = ks[k]) = true := decide_eq_true heq
          have HE : Hid (Calls Tryz.prog 22 #[.slice B1 ls[k].length d1, .slice B2 ks[k].length d2] wr fun e w' => e = .returned (.bool true) ∧ Below wr.heap.size wr w') := Lib.hid (hsm.mono fun _ _ h => ⟨by rw [h.1, hbq], h.2⟩)
          have HN := Lib.hid (show ls.take (k + 1) = ks.take (k + 1) by rw [List.take_succ_eq_append_getElem hlt, List.take_succ_eq_append_getElem hlt2, HZ.out, heq])
          clear hx1 hx2 heq hbq hsm hr1 hr2 hbw
          go_wp2_with fail
          refine HE.out.mono ?_
          rintro e w' ⟨rfl, hb1⟩
          have HB1 := Lib.hid (HBW.out.trans (hb1.mono HBW.out.size))
          clear hb1
          go_wp2_with fail
          go_roundw
          case rel => exact ⟨k + 1, by omega, by go_num, HN.out, HB1.out⟩
          case measure => simp [intOf]; omega
        · have hbq : decide (ls[k] = ks[k]) = false := decide_eq_false heq
          have HE : Hid (Calls Tryz.prog 22 #[.slice B1 ls[k].length d1, .slice B2 ks[k].length d2] wr fun e w' => e = .returned (.bool false) ∧ Below wr.heap.size wr w') := Lib.hid (hsm.mono fun _ _ h => ⟨by rw [h.1, hbq], h.2⟩)
          have HN := Lib.hid (show decide (ls = ks) = false by
            simp only [decide_eq_false_iff_not]
            intro e
            subst e
            exact heq rfl)
          clear hx1 hx2 heq hbq hsm hr1 hr2 hbw
          go_wp2_with fail
          refine HE.out.mono ?_
          rintro e w' ⟨rfl, hb1⟩
          have HB1 := Lib.hid (HBW.out.trans (hb1.mono HBW.out.size))
          clear hb1
          go_wp2_with fail
          go_ret
          exact ⟨by rw [HN.out]; rfl, HB1.out⟩
      · have hke : k = ls.length := by omega
        have HN := Lib.hid (show decide (ls = ks) = true by
          have h := HZ.out
          rw [hke, List.take_length, HLEN.out, List.take_length] at h
          simp [h])
        go_wp2_with fail
        go_ret
        exact ⟨by rw [HN.out]; rfl, HBW.out⟩
  · have h1 : ((ls.length : Int) != (ks.length : Int)) = true := by simp only [bne_iff_ne, ne_eq]; omega
    have HN := Lib.hid (show decide (ls = ks) = false by
      simp only [decide_eq_false_iff_not]
      intro e
      subst e
      exact hlen rfl)
    clear hlen
    go_enter Tryz.func21, Tryz.ntmps21
    go_wp2_with fail
    go_ret
    exact ⟨by rw [HN.out]; rfl, Below.refl _ _⟩

end Go.Proofs.YtobphijbhghgmaaGreat.Ye

/-
  Layer 9 (block): equality of headers; the walk of live.
-/
namespace Go.Proofs.YtobphijbhghgmaaGreat.Zn
set_option linter.unusedSimpArgs false
open Go Go.RowKit Ck Kw Ga Kf Pm Pe Qb Tm Tn Tq Ik Aa Ja Jm Jb Jn Ma Za Zb Ze Zt Zc Zg Zh Zi Zj Zk Zl Zm
open Im (num isIn add sum)
attribute [local go_sem ↓] Go.wp_at_zero Go.wp_at_succ
set_option linter.unusedVariables false
set_option maxRecDepth 100000

theorem guard_hdr : Tryz.prog.eqGuardType Tryz.prog.depth 24 = false := by kernel_rfl
theorem stood_hdr : Tryz.prog.stoodInHeld 24 = false := by kernel_rfl
theorem fields_hdr : Tryz.prog.underlying 24 = some (.struct (Tryz.prog.fieldsOf 24)) := by kernel_rfl
theorem hdr_ext {a b : H} (h0 : a.seq = b.seq) (h1 : a.prev = b.prev) (h2 : a.batch = b.batch) (h3 : a.root = b.root) (h4 : a.state = b.state) : a = b := by
  obtain ⟨_, _, _, _, _⟩ := a
  obtain ⟨_, _, _, _, _⟩ := b
  simp only at h0 h1 h2 h3 h4
  subst h0; subst h1; subst h2; subst h3; subst h4
  rfl
theorem run_equalIn_hdr (W : World) (d : Nat) (a b : H) : (Op.equalIn (d + 1 + 1) 24 (HV a) (HV b)).run Tryz.prog W = .ok (decide (a = b)) W := by
  unfold HV HC
  rw [run_equalIn_struct W (d + 1) 24 _ _ fields_hdr stood_hdr]
  have hf : (Tryz.prog.fieldsOf 24).toList = [{ name := "Seq", type := 2, offset := 0, embedded := false, tag := "", pkgPath := "", byteOffset := 0 }, { name := "Prev", type := 22, offset := 1, embedded := false, tag := "", pkgPath := "", byteOffset := 8 }, { name := "Batch", type := 22, offset := 2, embedded := false, tag := "", pkgPath := "", byteOffset := 16 }, { name := "Root", type := 22, offset := 3, embedded := false, tag := "", pkgPath := "", byteOffset := 24 }, { name := "State", type := 22, offset := 4, embedded := false, tag := "", pkgPath := "", byteOffset := 32 }] := by kernel_rfl
  rw [hf]
  have h1 := fun (x y : Int) (W : World) => run_equalIn_int (P := Tryz.prog) W d 2 .i64 .i64 x y Tryz.underlying2
  have h2 := fun (x y : Int) (W : World) => run_equalIn_int (P := Tryz.prog) W d 22 .i64 .i64 x y Tryz.underlying22
  have p0 : ∀ (u0 u1 u2 u3 u4 : Value) (W : World), (part 2 #[u0, u1, u2, u3, u4] 0).run Tryz.prog W = .ok u0 W := fun u0 u1 u2 u3 u4 W => by simp [part, isAgg, run_underlying Tryz.underlying2]
  have p1 : ∀ (u0 u1 u2 u3 u4 : Value) (W : World), (part 22 #[u0, u1, u2, u3, u4] 1).run Tryz.prog W = .ok u1 W := fun u0 u1 u2 u3 u4 W => by simp [part, isAgg, run_underlying Tryz.underlying22]
  have p2 : ∀ (u0 u1 u2 u3 u4 : Value) (W : World), (part 22 #[u0, u1, u2, u3, u4] 2).run Tryz.prog W = .ok u2 W := fun u0 u1 u2 u3 u4 W => by simp [part, isAgg, run_underlying Tryz.underlying22]
  have p3 : ∀ (u0 u1 u2 u3 u4 : Value) (W : World), (part 22 #[u0, u1, u2, u3, u4] 3).run Tryz.prog W = .ok u3 W := fun u0 u1 u2 u3 u4 W => by simp [part, isAgg, run_underlying Tryz.underlying22]
  have p4 : ∀ (u0 u1 u2 u3 u4 : Value) (W : World), (part 22 #[u0, u1, u2, u3, u4] 4).run Tryz.prog W = .ok u4 W := fun u0 u1 u2 u3 u4 W => by simp [part, isAgg, run_underlying Tryz.underlying22]
  by_cases e0 : a.seq = b.seq
  · by_cases e1 : a.prev = b.prev
    · by_cases e2 : a.batch = b.batch
      · by_cases e3 : a.root = b.root
        · by_cases e4 : a.state = b.state
          · have e : a = b := hdr_ext e0 e1 e2 e3 e4
            subst e
            simp [Op.eqFields, p0, p1, p2, p3, p4, h1, h2, Result.andThen]
          · have e : ¬ a = b := fun e => e4 (by rw [e])
            simp [Op.eqFields, p0, p1, p2, p3, p4, h1, h2, Result.andThen, e0, e1, e2, e3, e4, e]
        · have e : ¬ a = b := fun e => e3 (by rw [e])
          simp [Op.eqFields, p0, p1, p2, p3, h1, h2, Result.andThen, e0, e1, e2, e3, e]
      · have e : ¬ a = b := fun e => e2 (by rw [e])
        simp [Op.eqFields, p0, p1, p2, h1, h2, Result.andThen, e0, e1, e2, e]
    · have e : ¬ a = b := fun e => e1 (by rw [e])
      simp [Op.eqFields, p0, p1, h1, h2, Result.andThen, e0, e1, e]
  · have e : ¬ a = b := fun e => e0 (by rw [e])
    simp [Op.eqFields, p0, h1, h2, Result.andThen, e0, e]
theorem run_eql_hdr (W : World) (a b : H) : (binOp .eql 24 (HV a) (HV b)).run Tryz.prog W = .ok (.bool (decide (a = b))) W := by
  have h := run_equalIn_hdr W 9998 a b
  unfold HV HC at *
  rw [run_eql_struct, show (10000 : Nat) = 9998 + 1 + 1 from rfl, h]
  rfl
theorem run_neq_hdr (W : World) (a b : H) : (binOp .neq 24 (HV a) (HV b)).run Tryz.prog W = .ok (.bool (!decide (a = b))) W := by
  have h := run_equalIn_hdr W 9998 a b
  unfold HV HC at *
  rw [run_neq_struct, show (10000 : Nat) = 9998 + 1 + 1 from rfl, h]
  rfl

/-- The first headers. -/
def h0 : H := ⟨0, 0, 0, 1, 2⟩
def h1 : H := ⟨1, 4, 3, 1, 2⟩
theorem gen_h0 : genR [] = (h0, 0) := by decide +kernel
theorem exec_h1 : execR (genT []) St.zero h0 [] = (h1, 0) := by decide +kernel
theorem exec_s1 : execS (genT []) St.zero h0 [] = St.zero := by decide +kernel
theorem chain_h0 : chainB (execT (genT []) St.zero h0 []) [h0, h1] = true := by decide +kernel
theorem chain_h1 : chainB (execT (genT []) St.zero h0 []) [h1, h0] = false := by decide +kernel
end Go.Proofs.YtobphijbhghgmaaGreat.Zn

/-
  Layer 9 (block): the contract of apply, over any batch.
-/
import Derived.Test.YtobphijbhghgmaaGreatP17
import Derived.Deep.DeepCutAuto
import Derived.Test.YtobphijbhghgmaaGreatP01
import Derived.Deep.Quiet
import Derived.Deep.QuietTactic
import Derived.BigQuiet
import Derived.Deep.RegionHeld3
namespace Go.Proofs.YtobphijbhghgmaaGreat.Zx
set_option linter.unusedSimpArgs false
open Go Go.RowKit Ck Kw Ga Kf Pm Pe Qb Qg Tm Tn Tq Aa Ah Aj Al Ik Ja Jm Jb Ma Za Zb Zt Zc Zg Zh Zi Zk Zw
open Im (num isIn add sum)
attribute [local go_sem ↓] Go.wp_at_zero Go.wp_at_succ
set_option linter.unusedVariables false
set_option maxRecDepth 100000

theorem st_apply {w0 W : World} {S N X : Nat → Prop} {p t : Nat} {L : List Tx} {s : St} (h : ST w0 S N p t L s W) (client time : Int) (o : O) {A : Option Addr} {c : Nat} (hls : Ls W X (.slice A o.recs.length c) o.recs) (hl : o.recs.length ≤ 140737488355328) :
    Calls Tryz.prog 70 #[.pointer (some ⟨t, 0, none⟩), RV client time o A c] W fun e w' => ∃ v B, e = .returned (.tuple #[.agg #[.int .i64 (appS s client time o).1.1, .int .i64 (appS s client time o).1.2], v, .bool (appS s client time o).2.2.1]) ∧ W.heap.size ≤ B ∧ Ps w' B v (appS s client time o).2.1 ∧ ST w0 S (fun k => N k ∨ (B ≤ k ∧ k < w'.heap.size)) p t L (appS s client time o).2.2.2 w' ∧ Ch (Fr w0 S N) W w' := by
  obtain ⟨⟨S', h1, h2⟩, h3, h4⟩ := h
  refine (TS.apply (client := client) (time := time) (o := o) (s' := (appS s client time o).2.2.2) (k := (appS s client time o).1.1) (off := (appS s client time o).1.2) (b := (appS s client time o).2.2.1) (pl := (appS s client time o).2.1) h1 hls hl rfl).mono ?_
  rintro e w' ⟨v, B, he, hB, hps, hts, hc⟩
  have hs := hc.size
  have hs0 := h3.size
  refine ⟨v, B, he, hB, hps, ⟨⟨_, hts, fun k hk => ?_⟩, h3.trans hc (fun k hk hX => ?_), fun k hk => ?_⟩, hc.mono (fun k _ hk => h2 k hk.1)⟩
  · rcases hk with hk | hk
    · refine ⟨(h2 k hk.1).1, fun h => ?_⟩
      rcases h with h | h
      · exact (h2 k hk.1).2 h
      · have := hk.2; omega
    · refine ⟨.inr (by omega), fun h => ?_⟩
      rcases h with h | h
      · have := h4 k h; omega
      · omega
  · rcases (h2 k hX.1).1 with q | q
    · exact q
    · omega
  · rcases hk with hk | hk
    · have := h4 k hk; omega
    · exact hk.2
/-- Placed records, in rows of one's own, all of it in N. -/
def PO (base : Nat) (N : Nat → Prop) (vp : Value) (pl : List Pl3) (W : World) : Prop :=
  ∃ l : List Pq, l.map (·.1) = pl ∧ W.ownsRow base 150 3 vp pl.length (PCs l) ∧ (∀ g, vp.ownBlock = some g → N g) ∧ ∀ x ∈ l, W.ownsRow base 5 1 x.2 x.1.2.2.length (BVs x.1.2.2) ∧ ∀ g, x.2.ownBlock = some g → N g
/-- Answers, in a row of one's own, in N. -/
def AO (base : Nat) (N : Nat → Prop) (va : Value) (n : Nat) (W : World) : Prop :=
  ∃ vals, W.ownsRow base 136 5 va n vals ∧ ∀ g, va.ownBlock = some g → N g
section
variable {base : Nat} {N N' X : Nat → Prop} {vp va : Value} {pl pl2 : List Pl3} {n : Nat} {W W' : World}
theorem PO.ch (h : PO base N vp pl W) (c : Ch X W W') (hx : ∀ k, N k → ¬ X k) (hn : ∀ k, N k → N' k) : PO base N' vp pl W' := by
  obtain ⟨l, h1, h2, h3, h4⟩ := h
  exact ⟨l, h1, own_ch h2 c (fun g hg => hx g (h3 g hg)), fun g hg => hn g (h3 g hg), fun x hx' => ⟨own_ch (h4 x hx').1 c (fun g hg => hx g ((h4 x hx').2 g hg)), fun g hg => hn g ((h4 x hx').2 g hg)⟩⟩
theorem AO.ch (h : AO base N va n W) (c : Ch X W W') (hx : ∀ k, N k → ¬ X k) (hn : ∀ k, N k → N' k) : AO base N' va n W' := by
  obtain ⟨vals, h1, h2⟩ := h
  exact ⟨vals, own_ch h1 c (fun g hg => hx g (h2 g hg)), fun g hg => hn g (h2 g hg)⟩
/-- Rows of unlike types lie in unlike blocks. -/
theorem rows_apart {b1 b2 s1 s2 n1 n2 : Nat} {t1 t2 : TypeId} {u1 u2 : Value} {x1 x2 : List Value} (h1 : W.ownsRow b1 t1 s1 u1 n1 x1) (h2 : W.ownsRow b2 t2 s2 u2 n2 x2) (ht : t1 ≠ t2) : ∀ g, u2.ownBlock = some g → u1.ownBlock ≠ some g := fun g hg h => by
  rcases h1.2 with ⟨rfl, _⟩ | ⟨g1, _, _, rfl, _, r1, _⟩
  · simp [Value.ownBlock] at h
  · rcases h2.2 with ⟨rfl, _⟩ | ⟨g2, _, _, rfl, _, r2, _⟩
    · simp [Value.ownBlock] at hg
    · simp only [Value.ownBlock, Option.some.injEq] at h hg
      subst h; subst hg
      rw [r1] at r2
      simp only [Option.some.injEq, Obj.cells.injEq] at r2
      exact ht r2.2.1
/-- What was put is appended. -/
theorem PO.app {v2 v' : Value} {B : Nat} (h : PO base N vp pl W) (hp : Ps W B v2 pl2) (hB : base ≤ B) (hv2 : ∀ k, B ≤ k → k < W.heap.size → N k) {l2 : List Pq} (hl2 : l2.map (·.1) = pl2) (hl3 : ∀ x ∈ l2, W.ownsRow B 5 1 x.2 x.1.2.2.length (BVs x.1.2.2)) {l1 : List Pq} (hl1 : l1.map (·.1) = pl) (hr1 : W.ownsRow base 150 3 vp pl.length (PCs l1)) (h3 : ∀ g, vp.ownBlock = some g → N g) (h4 : ∀ x ∈ l1, W.ownsRow base 5 1 x.2 x.1.2.2.length (BVs x.1.2.2) ∧ ∀ g, x.2.ownBlock = some g → N g)
    (happ : Appended W base 150 3 vp (pl.length + pl2.length) (PCs l1 ++ PCs l2) v' W') : PO base (fun k => N k ∨ (W.heap.size ≤ k ∧ k < W'.heap.size)) v' (pl ++ pl2) W' := by
  obtain ⟨ho, hg, hv⟩ := happ
  have c : Ch (fun k => vp.ownBlock = some k) W W' := Ch.of_grown hg (fun g hg _ => hg)
  have hs := hg.size
  refine ⟨l1 ++ l2, by rw [List.map_append, hl1, hl2], ?_, fun g hg' => ?_, fun x hx => ?_⟩
  · rw [List.length_append]
    unfold PCs at *
    rw [List.flatMap_append]
    exact ho
  · rcases hv with hv | hv
    · exact .inl (h3 g (by rw [← hv]; exact hg'))
    · rw [hv] at hg'
      injection hg' with hg'
      have hlt := (ho.lt g (by rw [hv, hg'])).2
      exact .inr ⟨by omega, hlt⟩
  · rcases List.mem_append.1 hx with hx | hx
    · obtain ⟨q1, q2⟩ := h4 x hx
      exact ⟨own_ch q1 c (rows_apart hr1 q1 (by decide)), fun g hg => .inl (q2 g hg)⟩
    · have q1 := hl3 x hx
      refine ⟨own_ch (own_base q1 hB) c (rows_apart hr1 q1 (by decide)), fun g hg => .inl (hv2 g (q1.lt g hg).1 (q1.lt g hg).2)⟩
theorem AO.app {v' u : Value} {vals news : List Value} (hr : W.ownsRow base 136 5 va n vals) (h2 : ∀ g, va.ownBlock = some g → N g) (happ : Appended W base 136 5 va (n + 1) (vals ++ news) v' W') : AO base (fun k => N k ∨ (W.heap.size ≤ k ∧ k < W'.heap.size)) v' (n + 1) W' := by
  obtain ⟨ho, hg, hv⟩ := happ
  refine ⟨_, ho, fun g hg' => ?_⟩
  rcases hv with hv | hv
  · exact .inl (h2 g (by rw [← hv]; exact hg'))
  · rw [hv] at hg'
    injection hg' with hg'
    have hlt := (ho.lt g (by rw [hv, hg'])).2
    exact .inr ⟨by omega, hlt⟩
end
/-- Within apply. -/
structure AI (w0 : World) (S N : Nat → Prop) (p t : Nat) (L : List Tx) (s : St) (pl : List Pl3) (vp va : Value) (n : Nat) (W : World) : Prop where
  st : ST w0 S N p t L s W
  low : ∀ k, N k → w0.heap.size ≤ k
  po : PO w0.heap.size N vp pl W
  ao : AO w0.heap.size N va n W
section
variable {w0 W W' : World} {S N N' : Nat → Prop} {p t : Nat} {L : List Tx} {s : St} {pl pl2 : List Pl3} {vp va : Value} {n : Nat}
theorem AI.start (h : TS w0 S p t L s) : AI w0 S (fun _ => False) p t L s [] (.slice none 0 0) (.slice none 0 0) 0 w0 :=
  ⟨(ST.start h (Below.refl _ _)).less (fun _ h => h.elim), fun _ h => h.elim, ⟨[], rfl, World.ownsRow_nil _ _ _ _, fun g hg => by simp [Value.ownBlock] at hg, fun x hx => by cases hx⟩, ⟨[], World.ownsRow_nil _ _ _ _, fun g hg => by simp [Value.ownBlock] at hg⟩⟩
theorem AI.more (h : AI w0 S N p t L s pl vp va n W) (b : Below W.heap.size W W') : AI w0 S (fun k => N k ∨ (W.heap.size ≤ k ∧ k < W'.heap.size)) p t L s pl vp va n W' := by
  have c : Ch (fun _ => False) W W' := Ch.of_below b (Nat.le_refl _)
  have hs := h.st.size
  exact ⟨h.st.more b, fun k hk => hk.elim (h.low k) (fun q => by omega), h.po.ch c (fun _ _ h => h) (fun _ h => .inl h), h.ao.ch c (fun _ _ h => h) (fun _ h => .inl h)⟩
theorem AI.less (h : AI w0 S N p t L s pl vp va n W) (hn : ∀ k, N' k → N k) (hp : PO w0.heap.size N' vp pl W) (ha : AO w0.heap.size N' va n W) : AI w0 S N' p t L s pl vp va n W := ⟨h.st.less hn, fun k hk => h.low k (hn k hk), hp, ha⟩
theorem st_grow {X : Nat → Prop} (h : ST w0 S N p t L s W) (c : Ch X W W') (hx : ∀ k, X k → N k ∧ w0.heap.size ≤ k) : ST w0 S (fun k => N k ∨ (W.heap.size ≤ k ∧ k < W'.heap.size)) p t L s W' := by
  obtain ⟨⟨S', h1, h2⟩, h3, h4⟩ := h
  have hs := c.size
  refine ⟨⟨_, h1.tight.ch c (fun k hk hX => (h2 k hk.1).2 (hx k hX).1), fun k hk => ⟨(h2 k hk.1).1, fun h => ?_⟩⟩, h3.trans c (fun k hk hX => by have := (hx k hX).2; omega), fun k hk => ?_⟩
  · rcases h with h | h
    · exact (h2 k hk.1).2 h
    · have := hk.2; omega
  · rcases hk with hk | hk
    · have := h4 k hk; omega
    · exact hk.2
theorem AI.asked {s' : St} (h : AI w0 S N p t L s pl vp va n W) (hst : ST w0 S N' p t L s' W') (hc : Ch (Fr w0 S N) W W') (hn : ∀ k, N k → N' k) (hlow : ∀ k, N' k → w0.heap.size ≤ k) : AI w0 S N' p t L s' pl vp va n W' :=
  ⟨hst, hlow, h.po.ch hc (fun k hk hf => hf.2 hk) hn, h.ao.ch hc (fun k hk hf => hf.2 hk) hn⟩
theorem AI.placed {B : Nat} {v2 v' : Value} (h : AI w0 S N p t L s pl vp va n W) (hB : w0.heap.size ≤ B) (hv2 : ∀ k, B ≤ k → k < W.heap.size → N k) {l1 l2 : List Pq} (hl2 : l2.map (·.1) = pl2) (hl3 : ∀ x ∈ l2, W.ownsRow B 5 1 x.2 x.1.2.2.length (BVs x.1.2.2)) (hp2 : Ps W B v2 pl2) (hl1 : l1.map (·.1) = pl) (hr1 : W.ownsRow w0.heap.size 150 3 vp pl.length (PCs l1)) (h3 : ∀ g, vp.ownBlock = some g → N g) (h4 : ∀ x ∈ l1, W.ownsRow w0.heap.size 5 1 x.2 x.1.2.2.length (BVs x.1.2.2) ∧ ∀ g, x.2.ownBlock = some g → N g)
    (happ : Appended W w0.heap.size 150 3 vp (pl.length + pl2.length) (PCs l1 ++ PCs l2) v' W') : AI w0 S (fun k => N k ∨ (W.heap.size ≤ k ∧ k < W'.heap.size)) p t L s (pl ++ pl2) v' va n W' := by
  have c : Ch (fun k => vp.ownBlock = some k) W W' := Ch.of_grown happ.2.1 (fun g hg _ => hg)
  have hs0 := h.st.size
  refine ⟨st_grow h.st c (fun k hk => ⟨h3 k hk, h.low k (h3 k hk)⟩), fun k hk => hk.elim (h.low k) (fun q => by omega), h.po.app hp2 hB hv2 hl2 hl3 hl1 hr1 h3 h4 happ, ?_⟩
  obtain ⟨vals, q1, q2⟩ := h.ao
  exact ⟨vals, own_ch q1 c (rows_apart hr1 q1 (by decide)), fun g hg => .inl (q2 g hg)⟩
theorem AI.answered {v' : Value} {vals news : List Value} (h : AI w0 S N p t L s pl vp va n W) (hr : W.ownsRow w0.heap.size 136 5 va n vals) (h2 : ∀ g, va.ownBlock = some g → N g) (happ : Appended W w0.heap.size 136 5 va (n + 1) (vals ++ news) v' W') : AI w0 S (fun k => N k ∨ (W.heap.size ≤ k ∧ k < W'.heap.size)) p t L s pl vp v' (n + 1) W' := by
  have c : Ch (fun k => va.ownBlock = some k) W W' := Ch.of_grown happ.2.1 (fun g hg _ => hg)
  have hs0 := h.st.size
  refine ⟨st_grow h.st c (fun k hk => ⟨h2 k hk, h.low k (h2 k hk)⟩), fun k hk => hk.elim (h.low k) (fun q => by omega), ?_, AO.app (u := v') hr h2 happ⟩
  obtain ⟨l, p1, p2, p3, p4⟩ := h.po
  exact ⟨l, p1, own_ch p2 c (rows_apart hr p2 (by decide)), fun g hg => .inl (p3 g hg), fun x hx => ⟨own_ch (p4 x hx).1 c (rows_apart hr (p4 x hx).1 (by decide)), fun g hg => .inl ((p4 x hx).2 g hg)⟩⟩
end
end Go.Proofs.YtobphijbhghgmaaGreat.Zx

/-
  Layer 9 (block): the contract of apply, over any batch: the walk.
-/
namespace Go.Proofs.YtobphijbhghgmaaGreat.Zy
set_option linter.unusedSimpArgs false
open Go Go.RowKit Ck Kw Ga Kf Pm Pe Qb Qg Tm Tn Tq Aa Ah Aj Al Ik Ja Jm Jb Ma Za Zb Zt Zc Zg Zh Zi Zk Zw Zx
open Im (num isIn add sum)
attribute [local go_sem ↓] Go.wp_at_zero Go.wp_at_succ
set_option linter.unusedVariables false
set_option maxRecDepth 100000

theorem info_plc : (Tryz.prog.info? 150).map (fun i => (i.zero, i.size, i.bytes)) = some (some (.agg #[.string ⟨#[]⟩, .int .i64 0, .slice none 0 0]), 3, 48) := by kernel_rfl
theorem info_ans : (Tryz.prog.info? 136).map (fun i => (i.zero, i.size, i.bytes)) = some (some (.agg #[.int .i64 0, .int .i64 0, .int .i64 0, .int .i64 0, .bool false]), 5, 40) := by kernel_rfl
theorem one_ans {w : World} {X : Nat → Prop} {cs : Array Value} (h5 : cs.size = 5) (hX : ¬ X w.heap.size) : Sl (w.alloc (.cells cs 136)) X 5 (.slice (some ⟨w.heap.size, 0, none⟩) 1 1) 1 cs.toList := by
  refine ⟨_, _, rfl, by simp [h5], Nat.le_refl _, by simp [maxLen], fun _ => ⟨_, rfl, by simp, hX, fun j u hu => ?_⟩⟩
  have ha : (⟨w.heap.size, 0, none⟩ : Addr).add j = ⟨w.heap.size, j, none⟩ := by unfold Addr.add; split <;> simp_all
  rw [ha, Blk.cell (Blk.new w 136 _) j]
  simpa using hu
theorem pcs_one (l : List Pq) : ∀ u ∈ PCs l, (∀ x ∈ l, x.2.oneCell' = true) → u.oneCell' = true := by
  intro u hu hx
  obtain ⟨x, hxl, hu⟩ := List.mem_flatMap.1 hu
  simp only [PC, List.mem_cons, List.not_mem_nil, or_false] at hu
  rcases hu with rfl | rfl | rfl
  · rfl
  · rfl
  · exact hx x hxl
theorem own_one {w : World} {b : Nat} {t : TypeId} {sz n : Nat} {v : Value} {xs : List Value} (h : w.ownsRow b t sz v n xs) : v.oneCell' = true := by
  obtain ⟨A, c, rfl⟩ := own_shape h
  rfl
theorem PO.rd {w w' : World} {base : Nat} {N : Nat → Prop} {vp : Value} {pl : List Pl3} (h : PO base N vp pl w) (b : Below w.heap.size w w') : PRd w' (fun _ => False) vp pl := by
  obtain ⟨l, h1, h2, h3, h4⟩ := h
  exact ⟨l, h1, Sl.of_own (own_below h2 b) (fun _ _ _ h => h), fun x hx => Sl.of_own (own_below (h4 x hx).1 b) (fun _ _ _ h => h)⟩
set_option maxHeartbeats 16000000 in
theorem apply_gen (W : World) (S X : Nat → Prop) (p t : Nat) (L : List Tx) (s : St) (b : List Sd) (vb : Value) (k : TS W S p t L s) (hb : BI W X vb b) (hX : ∀ k, S k → X k) (hr : ∀ x ∈ b, x.q.o.recs.length ≤ 140737488355328) (hlen : b.length ≤ 250) (hok : ∀ x ∈ (appL s b).1, okPl x) :
    Calls Tryz.prog 49 #[.pointer (some ⟨t, 0, none⟩), vb] W (Aply W S p t L s b) := by
  obtain ⟨Ab, cb, rfl⟩ : ∃ A c, vb = .slice A b.length c := by obtain ⟨A, c, h, -⟩ := hb.shape; exact ⟨A, c, h⟩
  have HAI := Lib.hid (AI.start k)
  have HBI := Lib.hid hb
  have HX := Lib.hid hX
  have HR := Lib.hid hr
  have HOK := Lib.hid hok
  have HS0 : Hid (appL s (b.take 0) = ([], s)) := Lib.hid rfl
  obtain ⟨i0, hi0, hz0, hz1, hz2⟩ := info_parts info_plc
  obtain ⟨i1, hi1, hy0, hy1, hy2⟩ := info_parts info_ans
  clear k hb hX hr hok
  go_enter Tryz.func49, Tryz.ntmps49
  go_wp2_with fail
  go_loopw [6, 7, 15] (fun vp va j wr => ∃ (i : Nat) (N : Nat → Prop), i ≤ b.length ∧ j = .int .i64 i ∧ (i = 0 → vp = .slice none 0 0 ∧ va = .slice none 0 0) ∧ AI W S N p t L (appL s (b.take i)).2 (appL s (b.take i)).1 vp va i wr) (fun _ _ j _ => b.length - (intOf j).toNat)
  case atStart => exact ⟨0, _, Nat.zero_le _, rfl, fun _ => ⟨rfl, rfl⟩, by rw [HS0.out]; exact HAI.out⟩
  case round =>
    obtain ⟨i, N, hi, rfl, hnil, hai⟩ := hrel
    have HA := Lib.hid hai
    have HNIL := Lib.hid hnil
    obtain ⟨Ap, cp, rfl⟩ : ∃ A c, u6 = .slice A (appL s (b.take i)).1.length c := by
      obtain ⟨l, -, h2, -⟩ := hai.po
      exact own_shape h2
    obtain ⟨Aa', ca, rfl⟩ : ∃ A c, u7 = .slice A i c := by
      obtain ⟨l, h2, -⟩ := hai.ao
      exact own_shape h2
    clear hai hnil HAI
    by_cases hlt : i < b.length
    · have hbi := HBI.out.ch HA.out.st.ch (fun k _ hk => HX.out k hk.1)
      obtain ⟨ad, Ar, cr, rfl, ⟨a0, a1, a2, a3, a4, a5, a6, a7, a8⟩, hls⟩ := hbi.at_ hlt
      have hin : (i : Int) < (b.length : Int) := by omega
      have HRI := Lib.hid (HR.out _ (List.getElem_mem hlt))
      have hnx := appL_next s hlt
      have hpl4 := Zu.put_len s (b.take i)
      have hti : (b.take i).length = i := by rw [List.length_take]; omega
      rw [hti] at hpl4
      have hpa := (Tr.app_pl (appL s (b.take i)).2 b[i].q.client b[i].q.time b[i].q.o).2
      have HNX := Lib.hid hnx
      generalize b[i] = d at *
      have bs := op_below wr (.cells (DC d Ar cr) 104)
      have HG : Hid (Blk (wr.alloc (.cells (DC d Ar cr) 104)) wr.heap.size 104 (DC d Ar cr)) := Lib.hid (Blk.new wr _ _)
      have HA1 := Lib.hid (HA.out.more bs)
      have HLS := Lib.hid (hls.after bs)
      clear hbi hnx hls bs hti
      generalize hpl : (appL s (b.take i)).1 = pl at *
      have HPLQ := Lib.hid hpl
      clear hpl
      unfold DC at *
      go_wp2_with fail
      clear a0 a1 a2 a3 a4 a5 a6 a7 a8
      refine (st_apply HA1.out.st d.q.client d.q.time d.q.o HLS.out HRI.out).mono ?_
      rintro e w2 ⟨v2, B, rfl, hB, hps, hst, hc⟩
      have hlow1 := HA1.out.low
      have hg2 := HG.out.ch hc (fun hf => hf.2 (.inr ⟨Nat.le_refl _, HG.out.lt⟩))
      have hwr := HA.out.st.size
      have hb1 := (op_below wr (.cells #[.int .i64 d.q.client, .int .i64 d.q.time, .int .i64 d.q.o.kind, .string ⟨d.q.o.topic.toArray⟩, .string ⟨d.q.o.group.toArray⟩, .int .i64 d.q.o.off, .slice Ar d.q.o.recs.length cr, .int .i64 d.s.1, .int .i64 d.s.2] 104)).size
      have ha2 := HA1.out.asked hst hc (fun k hk => .inl hk) (fun k hk => hk.elim (hlow1 k) (fun q => by omega))
      generalize happS : appS (appL s (b.take i)).2 d.q.client d.q.time d.q.o = ap at *
      obtain ⟨⟨k1, k2⟩, pl2, dn, s2⟩ := ap
      simp only at hps hst ha2 hpa ⊢
      have HAP := Lib.hid happS
      clear happS
      have br := op_below w2 (.cells #[.int .i64 k1, .int .i64 k2] 69)
      have HRS : Hid (Blk (w2.alloc (.cells #[.int .i64 k1, .int .i64 k2] 69)) w2.heap.size 69 #[.int .i64 k1, .int .i64 k2]) := Lib.hid (Blk.new w2 _ _)
      have HG3 := Lib.hid (hg2.below br hg2.lt)
      have HA3 := Lib.hid (ha2.more br)
      have HP3 := Lib.hid (hps.later br)
      have HBB : Hid (W.heap.size ≤ B) := Lib.hid (by simp at hB; omega)
      obtain ⟨Av, cv, rfl⟩ : ∃ A c, v2 = .slice A pl2.length c := by obtain ⟨l, -, h2, -⟩ := hps; exact own_shape h2
      clear hps hst ha2 hc hg2 br hb1 hwr hlow1 hB HA1 HG HLS
      obtain ⟨l1, hl1, hr1, hn1, he1⟩ := HA3.out.po
      obtain ⟨l2, hl2, hr2, he2⟩ := HP3.out
      have HL1 := Lib.hid (And.intro hl1 (And.intro hr1 (And.intro hn1 he1)))
      have HL2 := Lib.hid (And.intro hl2 (And.intro hr2 he2))
      have ho1 : ∀ u ∈ PCs l2, u.oneCell' = true := fun u hu => pcs_one l2 u hu (fun x hx => own_one (he2 x hx))
      clear hl1 hr1 hn1 he1 hl2 hr2 he2
      have HG4 := Lib.hid (fun (w4 : World) (hg : (w2.alloc (.cells #[.int .i64 k1, .int .i64 k2] 69)).grownBy w4 (Value.slice Ap pl.length cp).ownBlock) => Blk.grown HG3.out hg (fun e => Kw.own_far HL1.out.2.1 HG3.out (by decide) e.symm))
      have HR4 := Lib.hid (fun (w4 : World) (hg : (w2.alloc (.cells #[.int .i64 k1, .int .i64 k2] 69)).grownBy w4 (Value.slice Ap pl.length cp).ownBlock) => Blk.grown HRS.out hg (fun e => Kw.own_far HL1.out.2.1 HRS.out (by decide) e.symm))
      have HV2 := Lib.hid (fun (k : Nat) (h1 : B ≤ k) (h2 : k < (w2.alloc (.cells #[.int .i64 k1, .int .i64 k2] 69)).heap.size) => show ((N k ∨ (wr.heap.size ≤ k ∧ k < (wr.alloc (.cells #[.int .i64 d.q.client, .int .i64 d.q.time, .int .i64 d.q.o.kind, .string ⟨d.q.o.topic.toArray⟩, .string ⟨d.q.o.group.toArray⟩, .int .i64 d.q.o.off, .slice Ar d.q.o.recs.length cr, .int .i64 d.s.1, .int .i64 d.s.2] 104)).heap.size)) ∨ (B ≤ k ∧ k < w2.heap.size)) ∨ (w2.heap.size ≤ k ∧ k < (w2.alloc (.cells #[.int .i64 k1, .int .i64 k2] 69)).heap.size) from by
        rcases Nat.lt_or_ge k w2.heap.size with q | q
        · exact .inl (.inr ⟨h1, q⟩)
        · exact .inr ⟨q, h2⟩)
      go_wp2_with (first
        | (at_builtin; refine wpList_append_sh _ rfl (.tmp 27) (.tmp 28) _ rfl W.heap.size 150 i0 _ 3 48 Tryz.underlying61 hi0 hz0 hz1 hz2 rfl (by omega) (.slice Ap pl.length cp) pl.length (PCs l1) rfl HL1.out.2.1 (fun _ => False) _ pl2.length (PCs l2) rfl (Sl.of_own HL2.out.2.1 (fun _ _ _ h => h)) ho1 (by simp only [maxLen]; omega) (by omega) HA3.out.st.size ?_; intro A4 c4 w4 happ; have hg4 := HG4.out w4 happ.2.1; have hr4 := HR4.out w4 happ.2.1; have s0 : w4.cell? ⟨wr.heap.size, 0, none⟩ = some (.int .i64 d.q.client) := hg4.cell 0; have s1 : w4.cell? ⟨wr.heap.size, 1, none⟩ = some (.int .i64 d.q.time) := hg4.cell 1; have r0 : w4.cell? ⟨w2.heap.size, 0, none⟩ = some (.int .i64 k1) := hr4.cell 0; have r1 : w4.cell? ⟨w2.heap.size, 1, none⟩ = some (.int .i64 k2) := hr4.cell 1; have HA4 := Lib.hid (HA3.out.placed HBB.out HV2.out HL2.out.1 HL2.out.2.2 HP3.out HL1.out.1 HL1.out.2.1 HL1.out.2.2.1 HL1.out.2.2.2 happ); clear hg4 hr4 happ; obtain ⟨vals, q1, q2⟩ := HA4.out.ao; have HQ := Lib.hid (And.intro q1 q2); clear q1 q2)
        | (at_builtin; go_loud (refine wpList_append_sh _ rfl (.tmp 30) (.tmp 40) _ rfl W.heap.size 136 i1 _ 5 40 Tryz.underlying62 hi1 hy0 hy1 hy2 rfl (by omega) (.slice Aa' i ca) i vals rfl (own_below HQ.out.1 (op_below w4 _)) (fun _ => False) _ 1 [.int .i64 d.q.client, .int .i64 d.q.time, .int .i64 k1, .int .i64 k2, .bool dn] rfl (one_ans rfl (fun h => h)) (by simp [Value.oneCell']) (by simp only [maxLen]; omega) (by omega) (Nat.le_trans HA4.out.st.size (op_below w4 _).size) ?_); intro A5 c5 w5 happ2))
      go_roundw
      case rel =>
        have R := (HA4.out.more (op_below w4 _)).answered (own_below HQ.out.1 (op_below w4 _)) (fun g hg => .inl (HQ.out.2 g hg)) happ2
        have e1 : (appL s (b.take (i + 1))).1 = pl ++ pl2 := by rw [HNX.out, ← HPLQ.out]; simp only [appF, HAP.out]
        have e2 : (appL s (b.take (i + 1))).2 = s2 := by rw [HNX.out]; simp only [appF, HAP.out]
        rw [← e1, ← e2] at R
        exact ⟨i + 1, _, by omega, by go_num, fun h => by omega, R⟩
      case measure => simp [intOf]; omega
    · have hke : i = b.length := by omega
      subst hke
      rw [List.take_length] at HA
      clear hlt hi
      have hpo := HA.out.po
      have hpn := Zu.put_len s b
      rw [List.take_length] at *
      go_wp2_with fail
      go_ret2
      refine ⟨⟨_, _, rfl, fun hb0 => HNIL.out (by rw [hb0]; rfl), fun W' hb' => leaves_any W' (fun _ => False) _ _ (PO.rd hpo hb') HOK.out (by have := Zu.put_len s b; omega)⟩, HA.out.st.fin.1, HA.out.st.fin.2⟩
end Go.Proofs.YtobphijbhghgmaaGreat.Zy

/-
  A region that draws its order, whose first three operations are quiet and whose fourth waits for them and is waited for by all others: the three in any order, the fourth, and behind it one walk of quiet operations.
-/
namespace Go.Proofs.YtobphijbhghgmaaGreat.Kz
set_option linter.unusedSimpArgs false
set_option linter.unusedVariables false
open Go Go.RowKit

section
variable {P : Program} {ops : Array Oper} {Q : Exit → Act → World → Prop}

theorem any_step {n : Nat} {L : Array Bool} {a : Act} {w : World} {is : List Nat} (hr : Region.ready .any ops L = is) (hne : is ≠ []) (h : ∀ i ∈ is, wpOp P ops Q i (wpAny P .any ops Q n (L.setIfInBounds i true)) a w) : wpAny P .any ops Q (n + 1) L a w :=
  ⟨fun h0 => absurd (hr.symm.trans h0) hne, fun i hi => h i (by rw [← hr]; exact hi)⟩

/-- The operation yields v here, in the very world. -/
def Y (P : Program) (ops : Array Oper) (o : Oper) (v : Value) (w : World) (b : Act) : Prop := Region.wanted o (yielded ops b.tmps) = true ∧ (execOp b.eval o).run P w = .ok (.value v) w

theorem op_of_Y {i : Nat} {o : Oper} {v : Value} {w : World} {b : Act} {K : Act → World → Prop} (hi : ops[i]? = some o) (hy : Y P ops o v w b) (h : K (b.put o.dst v) w) : wpOp P ops Q i K b w := by
  unfold wpOp
  simp only [hi, hy.1, if_true]
  left
  unfold Oper.wp
  rw [hy.2]
  exact h

theorem Y_load {o : Oper} {ty : TypeId} {x : Operand} {w : World} {b : Act} {g : Nat} {t : TypeId} {cs : Array Value} {fr : Nat × Nat} {d : TypeDesc} (hg : o.guard = none) (ho : o.op = .load ty x) (hx : b.eval x = .pointer (some ⟨g, 0, none⟩)) (hh : w.heap[g]? = some (.cells cs t fr))
    (hu : P.underlying ty = some d) (hd : (match d with | .struct _ | .array _ _ => true | _ => false) = true) (hi : (P.info? ty).map (·.size) = some cs.size) : Y P ops o (.agg cs) w b := by
  refine ⟨by simp [Region.wanted, hg], ?_⟩
  unfold execOp
  simp only [ho, hx, Instr.loadAt, Instr.sureAddr, Sem.run_bind, Sem.run_pure, Result.andThen_ok, run_loadVar_row w g t ty cs fr d hh hu hd hi]
/-- A call of a Go function. -/
theorem op_of_call {i j : Nat} {o : Oper} {f : FuncId} {args : Array Value} {w : World} {b : Act} {K : Act → World → Prop} (hi : ops[i]? = some o) (hd : o.dst = some j) (hw : Region.wanted o (yielded ops b.tmps) = true) (hx : (execOp b.eval o).run P w = .ok (.enter f args) w)
    (h : Calls P f args w fun e w' => ∃ v, e = .returned v ∧ K (b.put (some j) v) w') : wpOp P ops Q i K b w := by
  unfold wpOp
  simp only [hi, hw, if_true]
  left
  unfold Oper.wp
  rw [hx]
  exact h.mono fun e w' ⟨v, he, hk⟩ => by subst he; rw [← hd] at hk; exact hk
/-- BEHIND IT ONE WALK OF QUIET OPERATIONS, from a place on. -/
theorem any_quiet {C : World → Prop} (hs : Region.noSelect ops = true) (l : List Oper) (k : Nat) (L : Array Bool) (a : Act) (w : World) (hl : ∀ j, l[j]? = ops[k + j]?) (hB : Region.lexFrom .any ops l.length k L = true) (hC : C w)
    (h : wpQuiet P ops C (fun a' => ∀ w', C w' → Q .normal a' w') l a) : wpAny P .any ops Q l.length L a w :=
  wpAny_of_quiet (Q := fun a' => ∀ w', C w' → Q .normal a' w') (fun _ w' hw' h => h w' hw') _ _ _ _ hC (wpAnyQ_lex hs l k L a hl hB h)
end

end Go.Proofs.YtobphijbhghgmaaGreat.Kz

/-
  Layer 9 (block): the contracts of Genesis, standsOn and Chain.
-/
namespace Go.Proofs.YtobphijbhghgmaaGreat.Zl
set_option linter.unusedSimpArgs false
open Go Go.RowKit Ck Kw Ga Kf Pm Pe Qb Tm Tn Tq Ik Aa Ja Jm Jb Jn Ma Za Zb Ze Zt Zc Zg Zh Zi Zj Zk
open Im (num isIn add sum)
attribute [local go_sem ↓] Go.wp_at_zero Go.wp_at_succ
set_option linter.unusedVariables false
set_option maxRecDepth 100000

theorem exec_nil (w : World) (S : Nat → Prop) (p t : Nat) (L : List Tx) (s : St) (last : H) (k : TS w S p t L s) :
    Calls Tryz.prog 24 #[.pointer (some ⟨p, 0, none⟩), .pointer (some ⟨t, 0, none⟩), HV last, .slice none 0 0] w (ExecD w S p t L s last []) :=
  exec_gen w S S p t L s last [] (.slice none 0 0) k (bi_nil w S) (fun _ h => h) (fun x hx => absurd hx (by simp)) (by simp) (fun W S' L' _ hts _ => apply_nil W S' p t L' s hts) (by simp [appL_nil]) (by simp [appL_nil])

/-- The header ahead of all blocks, and the table behind it. -/
def genR (L : List Tx) : H × Int := endR L H.zero [] St.zero
def genT (L : List Tx) : List Tx := endT L [] St.zero
set_option maxHeartbeats 4000000 in
theorem genesis_any (w : World) (S : Nat → Prop) (p : Nat) (L : List Tx) (h : Tb w S p L) :
    Calls Tryz.prog 23 #[.pointer (some ⟨p, 0, none⟩)] w (Asks S p (.returned (.tuple #[HV (genR L).1, .int .i64 (genR L).2])) (genT L) w) := by
  have HT := Lib.hid (Tb.tight h)
  have HB0 := Lib.hid (op_below w (.cells ZH 24))
  have HG0 : Hid (Blk (w.alloc (.cells ZH 24)) w.heap.size 24 ZH) := Lib.hid (Blk.new w _ _)
  have HM := Lib.hid (mtab_yes (w.alloc (.cells ZH 24)) _ p L (Tb.after h HB0.out))
  have HEN := Lib.hid fun (W : World) (S' : Nat → Prop) (t : Nat) (k : TS W S' p t L St.zero) => end_any W S' p t L St.zero H.zero (.slice none 0 0) [] k (fun W _ => leaves_nil W) (by simp) (by simp)
  have HR : Hid (genR L = endR L H.zero [] St.zero ∧ genT L = endT L [] St.zero) := Lib.hid ⟨rfl, rfl⟩
  generalize genR L = gr at *
  generalize genT L = gt at *
  generalize endR L H.zero [] St.zero = er at *
  generalize endT L [] St.zero = et at *
  obtain ⟨hr1, hr2⟩ := HR.out
  subst hr1
  subst hr2
  obtain ⟨gh, ge⟩ := gr
  simp only at HEN ⊢
  clear h HR
  unfold HV at *
  unfold HC ZH at *
  simp only [H.zero] at HEN
  go_enter Tryz.func23, Tryz.ntmps23
  go_wp2_with fail
  refine HM.out.mono ?_
  rintro e w1 ⟨rfl, hb1⟩
  have HB1 := Lib.hid (HB0.out.trans (hb1.mono HB0.out.size))
  have HG1 := Lib.hid (HG0.out.below hb1 HG0.out.lt)
  clear hb1 HM HG0 HB0
  go_wp2_with fail
  refine (Ab.new_any w1).mono ?_
  rintro e w2 ⟨t, rfl, hz2, hb2⟩
  have HTS := Lib.hid (ts_new (Tb.after HT.out HB1.out) hb2 hz2)
  have HB2 := Lib.hid (HB1.out.trans (hb2.mono HB1.out.size))
  have HG2 := Lib.hid (HG1.out.below hb2 HG1.out.lt)
  have HLT := Lib.hid HG1.out.lt
  have HLT2 := Lib.hid HG2.out.lt
  clear hz2 hb2 HG1
  go_wp2_with fail
  refine (HEN.out w2 _ t HTS.out).mono ?_
  rintro e w3 ⟨rfl, hts3, hc3⟩
  have hg3 := HG2.out.ch hc3 (fun hf => by have := HLT.out; rcases hf with hf | hf <;> omega)
  have HT3 := Lib.hid (Zh.TS.tb hts3)
  have HC3 := Lib.hid hc3
  have hc3' := hc3
  obtain ⟨⟨r0, r1, r2, r3, r4⟩, ⟨z0, z1, z2, z3, z4⟩⟩ := Blk.cells5 hg3
  have HG3 := Lib.hid hg3
  clear hts3 hc3 hg3 HEN HG2 HTS hc3'
  go_wp2_with fail
  refine bodyPost_ret (results_row_tmp rfl _ _ w.heap.size 24 #[.int .i64 gh.seq, .int .i64 gh.prev, .int .i64 gh.batch, .int .i64 gh.root, .int .i64 gh.state] (0, 0) _ rfl (blk5 HG3.out) Tryz.underlying24 rfl size_hdr) rfl ?_
  have c5 : Ch (fun k => k = w.heap.size) w3 (((((w3.setCell ⟨w.heap.size, 0, none⟩ (.int .i64 gh.seq)).setCell ⟨w.heap.size, 1, none⟩ (.int .i64 gh.prev)).setCell ⟨w.heap.size, 2, none⟩ (.int .i64 gh.batch)).setCell ⟨w.heap.size, 3, none⟩ (.int .i64 gh.root)).setCell ⟨w.heap.size, 4, none⟩ (.int .i64 gh.state)) :=
    (((((Ch.refl (fun k => k = w.heap.size) w3).setCell (p := ⟨w.heap.size, 0, none⟩) (fun _ => rfl) _).setCell (p := ⟨w.heap.size, 1, none⟩) (fun _ => rfl) _).setCell (p := ⟨w.heap.size, 2, none⟩) (fun _ => rfl) _).setCell (p := ⟨w.heap.size, 3, none⟩) (fun _ => rfl) _).setCell (p := ⟨w.heap.size, 4, none⟩) (fun _ => rfl) _
  have hs2 := HB2.out.size
  have hs1 := HB1.out.size
  have hs3 := HC3.out.size
  have hs5 := c5.size
  have hlt := HLT.out
  have hlt2 := HLT2.out
  refine ⟨rfl, ?_, ?_⟩
  · refine (Tb.tight (Tb.ch HT3.out c5 (fun k hk hX => ?_))).weaken (fun k hk => ?_)
    · subst hX
      rcases hk with hk | hk
      · rcases hk with hk | hk
        · have := hk.1.2; omega
        · have := hk.1; omega
      · have := hk.1; omega
    · obtain ⟨hk, hk2⟩ := hk
      rcases hk with hk | hk
      · rcases hk with hk | hk
        · exact .inl hk.1.1
        · exact .inr ⟨by omega, hk2⟩
      · exact .inr ⟨by omega, hk2⟩
  · refine ((Ch.of_below (S := S) HB2.out (Nat.le_refl _)).trans HC3.out (fun k hk hX => ?_)).trans c5 (fun k hk hX => by omega)
    have hX' : ((S k ∧ k < w.heap.size) ∧ k < w1.heap.size) ∨ (w1.heap.size ≤ k ∧ k < w2.heap.size) := hX
    rcases hX' with hX | hX
    · exact hX.1.1
    · have : k < w.heap.size := hk
      omega

set_option maxHeartbeats 4000000 in
theorem stands_any (w : World) (S : Nat → Prop) (p : Nat) (L : List Tx) (h ahead : H) (k : Tb w S p L) (hq : hcheck ahead = 0) :
    Calls Tryz.prog 44 #[.pointer (some ⟨p, 0, none⟩), HV h, HV ahead] w fun e w' => e = .returned (.bool (stands L h ahead)) ∧ Below w.heap.size w w' := by
  have b2 : Below w.heap.size w ((w.alloc (.cells (HC h) 24)).alloc (.cells (HC ahead) 24)) := (op_below w _).trans ((op_below _ _).mono (by simp))
  have k0 : Blk ((w.alloc (.cells (HC h) 24)).alloc (.cells (HC ahead) 24)) w.heap.size 24 (HC h) := Blk.alloc (Blk.new w _ _) _
  have k1 : Blk ((w.alloc (.cells (HC h) 24)).alloc (.cells (HC ahead) 24)) (w.heap.size + 1) 24 (HC ahead) := Blk.new_at (by simp) rfl
  have HBY := Lib.hid (hbytes_any ((w.alloc (.cells (HC h) 24)).alloc (.cells (HC ahead) 24)) ahead)
  have HB2 := Lib.hid b2
  have HK0 := Lib.hid k0
  have HK1 := Lib.hid k1
  have HT := Lib.hid k
  have HQL := Lib.hid (hform_len ahead)
  have HSD : Hid (stands L h ahead = (isIn L (hform ahead) && (h.prev == (num L (hform ahead) : Int)) && (h.seq == ahead.seq + 1))) := Lib.hid rfl
  obtain ⟨q0, q1⟩ := (hcheck_ok.1 hq).1
  have hwr : IntKind.i64.wrap (ahead.seq + 1) = ahead.seq + 1 := Ga.wrap64 (by omega) (by omega)
  unfold HByt at HBY
  rw [hq] at HBY
  clear b2 k0 k1 k hq q0 q1
  generalize stands L h ahead = sb at *
  generalize hform ahead = hf at *
  obtain ⟨⟨a0, a1, a2, a3, a4⟩, -⟩ := Blk.cells5 HK1.out
  unfold HV at *
  unfold HC at *
  go_enter Tryz.func44, Tryz.ntmps44
  go_wp2_with fail
  generalize ((w.alloc (.cells #[.int .i64 h.seq, .int .i64 h.prev, .int .i64 h.batch, .int .i64 h.root, .int .i64 h.state] 24)).alloc (.cells #[.int .i64 ahead.seq, .int .i64 ahead.prev, .int .i64 ahead.batch, .int .i64 ahead.root, .int .i64 ahead.state] 24)) = w0 at *
  refine HBY.out.mono ?_
  rintro e w1 ⟨v1, rfl, hs1, hb1⟩
  obtain ⟨A1, c1, rfl, -⟩ := id hs1
  have HB1 := Lib.hid (HB2.out.trans (hb1.mono HB2.out.size))
  have HLK := Lib.hid (Ia.look_yes w1 S _ p L A1 c1 hf (Tb.after HT.out HB1.out) hs1 (by have := HQL.out; omega))
  have hk0 := HK0.out.below hb1 HK0.out.lt
  have hk1 := HK1.out.below hb1 HK1.out.lt
  clear a0 a1 a2 a3 a4 hs1 hb1 HBY
  go_wp2_with fail
  refine HLK.out.mono ?_
  rintro e w2 ⟨rfl, n, rfl⟩
  have HBn := Lib.hid (below_drewN HB1.out n)
  have hk0' := hk0.below (below_drewN (Below.refl _ w1) n) hk0.lt
  have hk1' := hk1.below (below_drewN (Below.refl _ w1) n) hk1.lt
  obtain ⟨⟨a0, a1, a2, a3, a4⟩, -⟩ := Blk.cells5 hk0'
  obtain ⟨⟨b0, b1, b2, b3, b4⟩, -⟩ := Blk.cells5 hk1'
  clear hk0 hk1 hk0' hk1' HLK HK0 HK1
  generalize w1.drewN n = w2 at *
  cases hi : isIn L hf with
  | false =>
    have HR : Hid (sb = false) := Lib.hid (by rw [HSD.out, hi]; rfl)
    clear hi HSD
    go_wp2_with fail
    go_ret
    exact ⟨by rw [HR.out]; rfl, HBn.out⟩
  | true =>
    by_cases h1 : h.prev = (num L hf : Int)
    · have d1 : (h.prev == (num L hf : Int)) = true := by rw [h1]; exact beq_self_eq_true _
      by_cases h2 : h.seq = ahead.seq + 1
      · have d2 : (h.seq == ahead.seq + 1) = true := by rw [h2]; exact beq_self_eq_true _
        have HR : Hid (sb = true) := Lib.hid (by rw [HSD.out, hi, d1, d2]; rfl)
        clear hi h1 h2 HSD
        generalize (num L hf : Int) = z at *
        go_wp2_with fail
        go_ret
        exact ⟨by rw [HR.out]; rfl, HBn.out⟩
      · have d2 : (h.seq == ahead.seq + 1) = false := beq_eq_false_iff_ne.2 h2
        have HR : Hid (sb = false) := Lib.hid (by rw [HSD.out, hi, d1, d2]; rfl)
        clear hi h1 h2 HSD
        generalize (num L hf : Int) = z at *
        go_wp2_with fail
        go_ret
        exact ⟨by rw [HR.out]; rfl, HBn.out⟩
    · have d1 : (h.prev == (num L hf : Int)) = false := beq_eq_false_iff_ne.2 h1
      have HR : Hid (sb = false) := Lib.hid (by rw [HSD.out, hi, d1]; rfl)
      clear hi h1 HSD
      generalize (num L hf : Int) = z at *
      go_wp2_with fail
      go_ret
      exact ⟨by rw [HR.out]; rfl, HBn.out⟩
end Go.Proofs.YtobphijbhghgmaaGreat.Zl

/-
  A region that draws its order, whose first operation is a load and whose second a call that waits for it, the rest waiting for both: the two in turn, and behind them one walk of quiet operations.
-/
namespace Go.Proofs.YtobphijbhghgmaaGreat.Kq
set_option linter.unusedSimpArgs false
set_option linter.unusedVariables false
open Go Go.RowKit Kz

section
variable {P : Program} {ops : Array Oper} {Q : Exit → Act → World → Prop}
/-- A CALL BEHIND A LOAD. -/
theorem one_call {n : Nat} {a : Act} {w : World} {o0 o1 : Oper} {i0 i1 : Nat} {v0 v1 : Value} {f : FuncId} {x0 : Array Value} {L : Array Bool} {D : World → Prop}
    (h0 : ops[0]? = some o0) (h1 : ops[1]? = some o1) (d0 : o0.dst = some i0) (d1 : o1.dst = some i1)
    (r : Region.ready .any ops L = [0]) (r0 : Region.ready .any ops (L.setIfInBounds 0 true) = [1])
    (y0 : Y P ops o0 v0 w a)
    (c1 : Region.wanted o1 (yielded ops (a.put (some i0) v0).tmps) = true ∧ (execOp (a.put (some i0) v0).eval o1).run P w = .ok (.enter f x0) w)
    (k1 : Calls P f x0 w fun e w' => e = .returned v1 ∧ D w')
    (hend : ∀ W, D W → wpAny P .any ops Q n ((L.setIfInBounds 0 true).setIfInBounds 1 true) ((a.put (some i0) v0).put (some i1) v1) W) : wpAny P .any ops Q (n + 2) L a w := by
  refine any_step r (by simp) fun i hi => ?_
  simp only [List.mem_cons, List.not_mem_nil, or_false] at hi
  subst hi
  refine op_of_Y h0 y0 ?_
  rw [d0]
  refine any_step r0 (by simp) fun i hi => ?_
  simp only [List.mem_cons, List.not_mem_nil, or_false] at hi
  subst hi
  exact op_of_call h1 d1 c1.1 c1.2 (k1.mono fun e w' ⟨he, hc⟩ => ⟨_, he, hend w' hc⟩)
theorem any_quiet2 {o0 o1 : Oper} {l : List Oper} {L : Array Bool} {a : Act} {w : World} (hs : Region.noSelect (o0 :: o1 :: l).toArray = true) (hB : Region.lexFrom .any (o0 :: o1 :: l).toArray l.length 2 L = true)
    (h : wpQuiet P (o0 :: o1 :: l).toArray (fun w' => ∃ n, w' = w.drewN n) (fun a' => ∀ w', (∃ n, w' = w.drewN n) → Q .normal a' w') l a) : wpAny P .any (o0 :: o1 :: l).toArray Q l.length L a w :=
  any_quiet hs l 2 L a w (fun j => by simp [Nat.add_comm 2 j]) hB ⟨0, rfl⟩ h
end
end Go.Proofs.YtobphijbhghgmaaGreat.Kq

/-
  Layer 9 (block): the contract of Chain.
-/
namespace Go.Proofs.YtobphijbhghgmaaGreat.Zm
set_option linter.unusedSimpArgs false
open Go Go.RowKit Ck Kw Ga Kf Pm Pe Qb Tm Tn Tq Ik Aa Ja Jm Jb Jn Ma Za Zb Ze Zt Zc Zg Zh Zi Zj Zk Zl
open Im (num isIn add sum)
attribute [local go_sem ↓] Go.wp_at_zero Go.wp_at_succ
set_option linter.unusedVariables false
set_option maxRecDepth 100000

theorem HC_len (h : H) : (HC h).toList.length = 5 := rfl
def flatH (l : List H) : List Value := l.flatMap fun h => (HC h).toList
def At5 (w : World) (ad : Addr) (h : H) : Prop :=
  w.cell? ad = some (.int .i64 h.seq) ∧ w.cell? ⟨ad.block, ad.off + 1, none⟩ = some (.int .i64 h.prev) ∧ w.cell? ⟨ad.block, ad.off + 2, none⟩ = some (.int .i64 h.batch) ∧ w.cell? ⟨ad.block, ad.off + 3, none⟩ = some (.int .i64 h.root) ∧ w.cell? ⟨ad.block, ad.off + 4, none⟩ = some (.int .i64 h.state)
theorem hs_at {w : World} {X : Nat → Prop} {A : Option Addr} {n c i : Nat} {l : List H} (h : Sl w X 5 (.slice A n c) l.length (flatH l)) (hi : i < l.length) : ∃ ad, A = some ad ∧ At5 w (ad.add (i * 5)) l[i] := by
  obtain ⟨A', c', hv, hl, hc, hm, hx⟩ := h
  obtain ⟨e1, _, _⟩ := Value.slice.inj hv
  subst e1
  obtain ⟨ad, hA, hb, hX, hcell⟩ := hx (by omega)
  refine ⟨ad, hA, ?_⟩
  have hg : ∀ j, j < 5 → (flatH l)[i * 5 + j]? = ((HC l[i]).toList)[j]? := fun j hj => flat_get HC_len l i hi j hj
  have hof : ∀ j u, j < 5 → ((HC l[i]).toList)[j]? = some u → w.cell? ((ad.add (i * 5)).add j) = some u := fun j u hj hu => by
    rw [Ck.add_add]
    exact hcell _ _ (by rw [hg j hj]; exact hu)
  generalize ad.add (i * 5) = a at hof ⊢
  have ha : ∀ j, 0 < j → a.add j = ⟨a.block, a.off + j, none⟩ := fun j hj => by unfold Addr.add; rw [if_neg (by omega)]
  have h0 : a.add 0 = a := by unfold Addr.add; rw [if_pos rfl]
  refine ⟨?_, ?_, ?_, ?_, ?_⟩
  · have := hof 0 _ (by omega) rfl; rwa [h0] at this
  · have := hof 1 _ (by omega) rfl; rwa [ha _ (by omega)] at this
  · have := hof 2 _ (by omega) rfl; rwa [ha _ (by omega)] at this
  · have := hof 3 _ (by omega) rfl; rwa [ha _ (by omega)] at this
  · have := hof 4 _ (by omega) rfl; rwa [ha _ (by omega)] at this
theorem getD_of {l : List H} {i : Nat} (hi : i < l.length) : l.getD i H.zero = l[i] := by simp [List.getD, hi]
theorem range_all {f : Nat → Bool} {i : Nat} (h : (List.range i).all f = true) (k : f i = true) : (List.range (i + 1)).all f = true := by
  rw [List.range_succ, List.all_append, h]; simp [k]
theorem range_no {f : Nat → Bool} {i n : Nat} (hi : i < n) (k : f i = false) : (List.range n).all f = false := by
  rw [List.all_eq_false]
  exact ⟨i, List.mem_range.2 hi, by simp [k]⟩
theorem chk_zero {L : List Tx} {l : List H} (hi : 0 < l.length) : chk L l 0 = (hcheck l[0] == 0) := by
  unfold chk
  rw [getD_of hi]
  simp
theorem chk_succ {L : List Tx} {l : List H} {j : Nat} (hi : j + 1 < l.length) : chk L l (j + 1) = ((hcheck l[j + 1] == 0) && stands L l[j + 1] (l[j]'(by omega))) := by
  unfold chk
  rw [getD_of hi, Nat.add_sub_cancel, getD_of (by omega : j < l.length)]
  simp
theorem chk_ok {L : List Tx} {l : List H} {i j : Nat} (h : (List.range i).all (chk L l) = true) (hj : j < i) (hl : j < l.length) : hcheck l[j] = 0 := by
  have := List.all_eq_true.1 h j (List.mem_range.2 hj)
  unfold chk at this
  rw [getD_of hl, Bool.and_eq_true] at this
  simpa using this.1

/-- Within a round: the header's own block. -/
structure CK (w0 : World) (g : Nat) (h : H) (W : World) : Prop where
  below : Below w0.heap.size w0 W
  one : Blk W g 24 (HC h)
theorem CK.later {w0 W W' : World} {g : Nat} {h : H} (k : CK w0 g h W) (b : Below W.heap.size W W') : CK w0 g h W' := ⟨k.below.trans (b.mono k.below.size), k.one.below b k.one.lt⟩

set_option maxHeartbeats 16000000 in
theorem chain_any (w : World) (S X : Nat → Prop) (p : Nat) (L : List Tx) (A : Option Addr) (c : Nat) (l : List H) (h : Tb w S p L) (hl : Sl w X 5 (.slice A l.length c) l.length (flatH l)) (hn : l.length ≤ 140737488355328) :
    Calls Tryz.prog 20 #[.pointer (some ⟨p, 0, none⟩), .slice A l.length c] w fun e w' => e = .returned (.bool (chainB L l)) ∧ Below w.heap.size w w' := by
  have HM := Lib.hid (mtab_yes w S p L h)
  have HT := Lib.hid h
  have HL := Lib.hid hl
  have HCB : Hid (chainB L l = (List.range l.length).all (chk L l)) := Lib.hid rfl
  have HCK := Lib.hid hcheck_any
  have HSO := Lib.hid fun (W : World) (x y : H) (b : Below w.heap.size w W) (hq : hcheck y = 0) => stands_any W S p L x y (Tb.after h b) hq
  unfold HV at HCK HSO
  generalize chainB L l = cb at *
  clear h hl
  go_enter Tryz.func20, Tryz.ntmps20
  go_wp2_with fail
  refine HM.out.mono ?_
  rintro e w1 ⟨rfl, hb1⟩
  have HB1 := Lib.hid hb1
  clear hb1 HM
  go_wp2_with fail
  go_loopw [12] (fun j wr => ∃ i : Nat, i ≤ l.length ∧ j = .int .i64 i ∧ (List.range i).all (chk L l) = true ∧ Below w.heap.size w wr) (fun j _ => l.length - (intOf j).toNat)
  case atStart => exact ⟨0, Nat.zero_le _, rfl, rfl, HB1.out⟩
  case round =>
    obtain ⟨i, hi, rfl, hall, hb⟩ := hrel
    have HALL := Lib.hid hall
    have HB := Lib.hid hb
    clear hall hb HB1
    by_cases hlt : i < l.length
    · obtain ⟨ad, rfl, a0, a1, a2, a3, a4⟩ := hs_at (HL.out.after HB.out) hlt
      have hin : (i : Int) < (l.length : Int) := by omega
      have HNO := Lib.hid fun (k : chk L l i = false) => range_no hlt k
      have HYES := Lib.hid fun (k : chk L l i = true) => range_all HALL.out k
      have HLJ : Hid (∀ j, j < l.length → At5 wr (ad.add (j * 5)) (l.getD j H.zero)) := Lib.hid fun j hj => by
        obtain ⟨ad', hA, hat⟩ := hs_at (HL.out.after HB.out) hj
        obtain rfl : ad = ad' := Option.some.inj hA
        rw [getD_of hj]
        exact hat
      have HZ0 := Lib.hid fun (e : i = 0) => show chk L l i = (hcheck l[i] == 0) by subst e; exact chk_zero hlt
      have HZ1 := Lib.hid fun (j : Nat) (e : i = j + 1) => show chk L l i = ((hcheck l[i] == 0) && stands L l[i] (l.getD j H.zero)) by subst e; rw [getD_of (by omega : j < l.length)]; exact chk_succ hlt
      have HOKY := Lib.hid fun (j : Nat) (e : i = j + 1) => show hcheck (l.getD j H.zero) = 0 by rw [getD_of (by omega : j < l.length)]; exact chk_ok HALL.out (by omega) (by omega)
      generalize hx : l[i] = x at *
      have hck := CK.mk (HB.out.trans ((op_below wr (.cells (HC x) 24)).mono HB.out.size)) (Blk.new wr 24 (HC x))
      have HLJ2 : Hid (∀ j, j < l.length → At5 (wr.alloc (.cells (HC x) 24)) (ad.add (j * 5)) (l.getD j H.zero)) := Lib.hid fun j hj => by
        obtain ⟨ad', hA, hat⟩ := hs_at (HL.out.after (HB.out.trans ((op_below wr (.cells (HC x) 24)).mono HB.out.size))) hj
        obtain rfl : ad = ad' := Option.some.inj hA
        rw [getD_of hj]
        exact hat
      have HK := Lib.hid hck
      clear hx hck HLJ
      unfold HC at *
      go_wp2_with fail
      generalize wr.alloc (.cells #[.int .i64 x.seq, .int .i64 x.prev, .int .i64 x.batch, .int .i64 x.root, .int .i64 x.state] 24) = w2 at *
      generalize wr.heap.size = g at *
      clear a0 a1 a2 a3 a4
      have HKD := Lib.hid (HK.out.later (below_drewN (Below.refl _ w2) 1))
      have HCX2 : Hid (Calls Tryz.prog 16 #[.agg #[.int .i64 x.seq, .int .i64 x.prev, .int .i64 x.batch, .int .i64 x.root, .int .i64 x.state]] w2.drew fun e w' => e = .returned (.int .i64 (hcheck x)) ∧ CK w g x w') := Lib.hid ((HCK.out w2.drew x).mono fun e w' hh => ⟨hh.1, HKD.out.later hh.2⟩)
      by_cases hc : hcheck x = 0
      · have e1 : (hcheck x == 0) = true := by rw [hc]; rfl
        have e2 : (hcheck x != 0) = false := by rw [bne, e1]; rfl
        cases i with
        | zero =>
          have HY : Hid ((List.range 1).all (chk L l) = true) := Lib.hid (HYES.out (by rw [HZ0.out rfl, e1]))
          rw [hc] at HCX2
          refine wp_region_any (by kernel_rfl) ?_
          refine Kq.one_call (D := CK w g x) (n := 16) (i0 := 17) (i1 := 18) (v0 := .agg #[.int .i64 x.seq, .int .i64 x.prev, .int .i64 x.batch, .int .i64 x.root, .int .i64 x.state]) (v1 := .int .i64 0) (f := 16) (x0 := #[.agg #[.int .i64 x.seq, .int .i64 x.prev, .int .i64 x.batch, .int .i64 x.root, .int .i64 x.state]]) rfl rfl rfl rfl (by kernel_rfl) (by kernel_rfl) (Kz.Y_load rfl rfl rfl (show w2.drew.heap[g]? = _ from HKD.out.one) Tryz.underlying24 rfl (by kernel_rfl)) ?_ HCX2.out ?_
          · refine ⟨rfl, ?_⟩
            simp only [Act.put]
            go_simp
          intro w4 hk4
          have HK4 := Lib.hid hk4
          clear hk4
          refine Kq.any_quiet2 (by kernel_rfl) (by kernel_rfl) ?_
          simp only [Act.put, List.setIfInBounds_toArray, List.set_cons_succ, List.set_cons_zero]
          repeat (go_big_quiet_step (fail))
          refine wpQuiet_nil ?_
          intro _ hw'
          obtain ⟨nq, hw''⟩ := hw'
          subst hw''
          all_goals
            go_wp2_with fail
            go_roundw
            case rel => exact ⟨1, by omega, by go_num, HY.out, below_drewN HK4.out.below _⟩
            case measure => simp [intOf]; omega
        | succ j =>
          have HOK := Lib.hid (HOKY.out j rfl)
          have hjl : j < l.length := by omega
          have HJ := Lib.hid (HLJ2.out j hjl)
          have hjn : (j : Int) < (l.length : Int) := by omega
          have HZJ := Lib.hid (HZ1.out j rfl)
          have hsb : ((j + 1 : Nat) : Int) - 1 = (j : Int) := by omega
          generalize l.getD j H.zero = y at *
          rw [e1, Bool.true_and] at HZJ
          have HNJ := Lib.hid fun (k : stands L x y = false) => HNO.out (by rw [HZJ.out, k])
          have HYJ := Lib.hid fun (k : stands L x y = true) => HYES.out (by rw [HZJ.out, k])
          obtain ⟨b0, b1, b2, b3, b4⟩ := HJ.out
          have hst : ∀ W, Below w2.heap.size w2 W → W.cell? ⟨g, 0, none⟩ = some (.int .i64 x.seq) ∧ W.cell? ⟨g, 1, none⟩ = some (.int .i64 x.prev) ∧ W.cell? ⟨g, 2, none⟩ = some (.int .i64 x.batch) ∧ W.cell? ⟨g, 3, none⟩ = some (.int .i64 x.root) ∧ W.cell? ⟨g, 4, none⟩ = some (.int .i64 x.state) ∧ W.cell? (ad.add (j * 5)) = some (.int .i64 y.seq) ∧ W.cell? ⟨(ad.add (j * 5)).block, (ad.add (j * 5)).off + 1, none⟩ = some (.int .i64 y.prev) ∧ W.cell? ⟨(ad.add (j * 5)).block, (ad.add (j * 5)).off + 2, none⟩ = some (.int .i64 y.batch) ∧ W.cell? ⟨(ad.add (j * 5)).block, (ad.add (j * 5)).off + 3, none⟩ = some (.int .i64 y.root) ∧ W.cell? ⟨(ad.add (j * 5)).block, (ad.add (j * 5)).off + 4, none⟩ = some (.int .i64 y.state) := fun W hb => by
            obtain ⟨x0, x1, x2, x3, x4⟩ := (Blk.cells5 (HK.out.one.below hb HK.out.one.lt)).1
            exact ⟨x0, x1, x2, x3, x4, (hb.cell (World.block_lt_of_cell? _ _ b0)).trans b0, (hb.cell (World.block_lt_of_cell? _ _ b1)).trans b1, (hb.cell (World.block_lt_of_cell? _ _ b2)).trans b2, (hb.cell (World.block_lt_of_cell? _ _ b3)).trans b3, (hb.cell (World.block_lt_of_cell? _ _ b4)).trans b4⟩
          have HST := Lib.hid hst
          have HCX3 : Hid (Calls Tryz.prog 16 #[.agg #[.int .i64 x.seq, .int .i64 x.prev, .int .i64 x.batch, .int .i64 x.root, .int .i64 x.state]] w2.drew fun e w' => e = .returned (.int .i64 0) ∧ Below w2.heap.size w2 w') := Lib.hid (by
            have h := HCK.out w2.drew x
            rw [hc] at h
            exact h.mono fun e w' hh => ⟨hh.1, Ga.below_of_drew hh.2⟩)
          have HSZ : Hid (∀ W, Below w2.heap.size w2 W → Calls Tryz.prog 44 #[.pointer (some ⟨p, 0, none⟩), .agg #[.int .i64 x.seq, .int .i64 x.prev, .int .i64 x.batch, .int .i64 x.root, .int .i64 x.state], .agg #[.int .i64 y.seq, .int .i64 y.prev, .int .i64 y.batch, .int .i64 y.root, .int .i64 y.state]] W fun e w' => e = .returned (.bool (stands L x y)) ∧ Below w2.heap.size w2 w') := Lib.hid fun W hb => (HSO.out W x y (HK.out.later hb).below HOK.out).mono fun e w' hh => ⟨hh.1, hb.trans (hh.2.mono hb.size)⟩
          have hd0 := below_drewN (Below.refl w2.heap.size w2) 1
          have HD0 := Lib.hid hd0
          clear hst b0 b1 b2 b3 b4 HZJ HZ0 HZ1 HNO HYES HOKY HLJ2 HJ
          clear HCX2 HKD hd0 HOK HCK HSO e1 e2 hc
          have hwj2 : IntKind.i64.wrap (j : Int) = (j : Int) := Ga.wrap64 (by omega) (by omega)
          have hjz : decide ((0 : Int) < (j : Int) + 1) = true := decide_eq_true (by omega)
          have hwj : IntKind.i64.wrap ((j : Int) + 1 - 1) = (j : Int) := by rw [show (j : Int) + 1 - 1 = (j : Int) by omega]; exact Ga.wrap64 (by omega) (by omega)
          cases hsv : stands L x y with
          | false =>
            have HR : Hid (cb = false) := Lib.hid (by rw [HCB.out]; exact HNJ.out hsv)
            rw [hsv] at HSZ
            clear HNJ HYJ hsv
            go_region_held3 (fun w' => w'.cell? ⟨g, 0, none⟩ = some (.int .i64 x.seq) ∧ w'.cell? ⟨g, 1, none⟩ = some (.int .i64 x.prev) ∧ w'.cell? ⟨g, 2, none⟩ = some (.int .i64 x.batch) ∧ w'.cell? ⟨g, 3, none⟩ = some (.int .i64 x.root) ∧ w'.cell? ⟨g, 4, none⟩ = some (.int .i64 x.state) ∧ w'.cell? (ad.add (j * 5)) = some (.int .i64 y.seq) ∧ w'.cell? ⟨(ad.add (j * 5)).block, (ad.add (j * 5)).off + 1, none⟩ = some (.int .i64 y.prev) ∧ w'.cell? ⟨(ad.add (j * 5)).block, (ad.add (j * 5)).off + 2, none⟩ = some (.int .i64 y.batch) ∧ w'.cell? ⟨(ad.add (j * 5)).block, (ad.add (j * 5)).off + 3, none⟩ = some (.int .i64 y.root) ∧ w'.cell? ⟨(ad.add (j * 5)).block, (ad.add (j * 5)).off + 4, none⟩ = some (.int .i64 y.state))
              (first | exact HST.out _ HB5.out | exact HST.out _ HB4.out | exact HST.out _ HD0.out)
              (first
              | (go_at_call 16; refine HCX3.out.mono ?_; rintro e w4 ⟨rfl, hb4⟩; have HB4 := Lib.hid hb4; clear hb4)
              | (go_at_call 44; refine (HSZ.out _ HB4.out).mono ?_; rintro e w5 ⟨rfl, hb5⟩; have HB5 := Lib.hid hb5; clear hb5))
            all_goals
              go_wp2_with fail
              go_ret
              exact ⟨by rw [HR.out]; rfl, (HK.out.later HB5.out).below⟩
          | true =>
            have HY := Lib.hid (HYJ.out hsv)
            rw [hsv] at HSZ
            clear HNJ HYJ hsv
            go_region_held3 (fun w' => w'.cell? ⟨g, 0, none⟩ = some (.int .i64 x.seq) ∧ w'.cell? ⟨g, 1, none⟩ = some (.int .i64 x.prev) ∧ w'.cell? ⟨g, 2, none⟩ = some (.int .i64 x.batch) ∧ w'.cell? ⟨g, 3, none⟩ = some (.int .i64 x.root) ∧ w'.cell? ⟨g, 4, none⟩ = some (.int .i64 x.state) ∧ w'.cell? (ad.add (j * 5)) = some (.int .i64 y.seq) ∧ w'.cell? ⟨(ad.add (j * 5)).block, (ad.add (j * 5)).off + 1, none⟩ = some (.int .i64 y.prev) ∧ w'.cell? ⟨(ad.add (j * 5)).block, (ad.add (j * 5)).off + 2, none⟩ = some (.int .i64 y.batch) ∧ w'.cell? ⟨(ad.add (j * 5)).block, (ad.add (j * 5)).off + 3, none⟩ = some (.int .i64 y.root) ∧ w'.cell? ⟨(ad.add (j * 5)).block, (ad.add (j * 5)).off + 4, none⟩ = some (.int .i64 y.state))
              (first | exact HST.out _ HB5.out | exact HST.out _ HB4.out | exact HST.out _ HD0.out)
              (first
              | (go_at_call 16; refine HCX3.out.mono ?_; rintro e w4 ⟨rfl, hb4⟩; have HB4 := Lib.hid hb4; clear hb4)
              | (go_at_call 44; refine (HSZ.out _ HB4.out).mono ?_; rintro e w5 ⟨rfl, hb5⟩; have HB5 := Lib.hid hb5; clear hb5))
            all_goals
              go_wp2_with fail
              go_roundw
              case rel => exact ⟨j + 1 + 1, by omega, by go_num, HY.out, (HK.out.later HB5.out).below⟩
              case measure => simp [intOf]; omega
      · have e1 : (hcheck x == 0) = false := beq_eq_false_iff_ne.2 hc
        have e2 : (hcheck x != 0) = true := by rw [bne, e1]; rfl
        have HR : Hid (cb = false) := Lib.hid (by
          rw [HCB.out]
          apply HNO.out
          cases i with
          | zero => rw [HZ0.out rfl, e1]
          | succ j => rw [HZ1.out j rfl, e1]; rfl)
        clear hc
        refine wp_region_any (by kernel_rfl) ?_
        refine Kq.one_call (D := CK w g x) (n := 16) (i0 := 17) (i1 := 18) (v0 := .agg #[.int .i64 x.seq, .int .i64 x.prev, .int .i64 x.batch, .int .i64 x.root, .int .i64 x.state]) (v1 := .int .i64 (hcheck x)) (f := 16) (x0 := #[.agg #[.int .i64 x.seq, .int .i64 x.prev, .int .i64 x.batch, .int .i64 x.root, .int .i64 x.state]]) rfl rfl rfl rfl (by kernel_rfl) (by kernel_rfl) (Kz.Y_load rfl rfl rfl (show w2.drew.heap[g]? = _ from HKD.out.one) Tryz.underlying24 rfl (by kernel_rfl)) ?_ HCX2.out ?_
        · refine ⟨rfl, ?_⟩
          simp only [Act.put]
          go_simp
        intro w4 hk4
        have HK4 := Lib.hid hk4
        clear hk4
        refine Kq.any_quiet2 (by kernel_rfl) (by kernel_rfl) ?_
        simp only [Act.put, List.setIfInBounds_toArray, List.set_cons_succ, List.set_cons_zero]
        repeat (go_big_quiet_step (fail))
        refine wpQuiet_nil ?_
        intro _ hw'
        obtain ⟨nq, hw''⟩ := hw'
        subst hw''
        all_goals
          go_wp2_with fail
          go_ret
          exact ⟨by rw [HR.out]; rfl, below_drewN HK4.out.below _⟩
    · have hie : i = l.length := by omega
      subst hie
      have HR : Hid (cb = true) := Lib.hid (by rw [HCB.out]; exact HALL.out)
      go_wp2_with fail
      go_ret
      exact ⟨by rw [HR.out]; rfl, HB.out⟩
end Go.Proofs.YtobphijbhghgmaaGreat.Zm

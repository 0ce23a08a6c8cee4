/-
  The walk of TopicsStays.
-/
import Derived.Test.YtcmknopgoiabbaaAo
import Derived.Test.YtcmknopgoiabbaaTr
import Derived.Test.YtcmknopgoiabbaaW4
namespace Go.Proofs.Ytcmknopgoiabbaa.Ap
set_option linter.unusedSimpArgs false
open Go Go.RowKit Ck Kw Ci Ga Kf Km Kd Pm Pz Pe Pg Py Qb Qg Tm Tn Tq To Tr Aa Ab Ac Ad Ae Af Ag Ah Ai Aj Al Am An Ao
attribute [local go_sem ↓] Go.wp_at_zero Go.wp_at_succ
set_option linter.unusedVariables false

theorem law_equal_any (w : World) (X Y : Nat → Prop) (va vb : Value) (n m : Nat) (l k : List UInt8) (ha : Sl w X 1 va n (BVs l)) (hb : Sl w Y 1 vb m (BVs k)) :
    Calls Try.prog 12 #[va, vb] w fun e w' => e = .returned (.bool (l == k)) ∧ w = w' := by
  have HE := Lib.hid (equal_any w X Y va vb n m l k ha hb)
  obtain ⟨A, c, rfl, -⟩ := ha
  obtain ⟨B, d, rfl, -⟩ := hb
  go_enter Try.func12, Try.ntmps12
  go_wp2_with fail
  refine HE.out.mono ?_
  rintro e w' ⟨rfl, rfl⟩
  go_wp2_with fail
  go_ret
  exact ⟨rfl, rfl⟩
theorem _root_.Go.Proofs.Ytcmknopgoiabbaa.An.On.bounds {N : Nat → Prop} {p : Nat} {w : World} {s : St} (h : On N w p s) (x : Tx) (hx : x.length ≤ 140737488355328) : Calls Try.prog 10 #[.pointer (some ⟨p, 0, none⟩), .string ⟨x.toArray⟩] w fun e w' => e = .returned (.tuple #[.int .i64 (boundsT s.L x).1, .int .i64 (boundsT s.L x).2.1, .int .i64 (boundsT s.L x).2.2]) ∧ Below w.heap.size w w' := by
  obtain ⟨S, R, h1, -⟩ := h
  exact bounds_any w S R p s x hx h1
theorem atm_new {w : World} {m : Nat} {K : Nat → Prop} (h : w.ownsMap Try.prog 9 slElem m 0 (.map [])) (hk : K m) : AtM w K m 0 (fun _ => []) (.map []) (fun _ => .slice none 0 0) :=
  ⟨h, hk, fun x _ => ⟨rfl, rfl⟩, fun x hx => absurd rfl hx, fun x hx => absurd rfl hx, fun x y _ hx => absurd rfl hx⟩
/-- What a request leaves, whatever it comes to. -/
theorem _root_.Go.Proofs.Ytcmknopgoiabbaa.An.On.ask {N : Nat → Prop} {p : Nat} {w : World} {s : St} {X : Nat → Prop} (h : On N w p s) (hN : ∀ k, N k → k < w.heap.size) (r : Rq) {A : Option Addr} {c : Nat} (hls : Ls w X (.slice A r.o.recs.length c) r.o.recs) (hl : r.o.recs.length ≤ 140737488355328) :
    Calls Try.prog 7 #[.pointer (some ⟨p, 0, none⟩), RV r.client r.time r.o A c] w fun e w' => ∃ v B, e = .returned (.tuple #[.agg #[.int .i64 (appS s r.client r.time r.o).1.1, .int .i64 (appS s r.client r.time r.o).1.2], v, .bool (appS s r.client r.time r.o).2.2.1]) ∧ w.heap.size ≤ B ∧ Ps w' B v (appS s r.client r.time r.o).2.1 ∧ On (fun k => N k ∨ (B ≤ k ∧ k < w'.heap.size)) w' p (appS s r.client r.time r.o).2.2.2 ∧ Ch (fun k => ¬ N k ∧ k < w.heap.size) w w' :=
  h.asked hN hls hl rfl
/-- Ahead of request k. -/
structure SI (w : World) (p m k : Nat) (wr : World) (s : St) (f : Log) (K : Nat → Prop) (n : Nat) (D : DataW Unit) (V : Tx → Value) : Prop where
  below : Below w.heap.size w wr
  on : On (fun q => q < w.heap.size ∨ K q) wr p s
  at_ : AtM wr K m n f D V
  kb : ∀ q, K q → w.heap.size ≤ q ∧ q < wr.heap.size
  log : LogOk s.L f
  num : n ≤ 4 * k
  len : ∀ x, (f x).length ≤ 4 * k
/-- What is kept behind a request's answer: K, the request itself, and all from B on. -/
def K1 (K : Nat → Prop) (g B : Nat) (wq : World) (q : Nat) : Prop := K q ∨ q = g ∨ (B ≤ q ∧ q < wq.heap.size)
/-- Behind a request's answer, the first j of its places noted. -/
structure PJ (w : World) (p m k g B : Nat) (K : Nat → Prop) (r : Rq) (A : Option Addr) (c : Nat) (v : Value) (pl : List (Tx × Int × Tx)) (s : St) (f : Log) (j : Nat) (wq : World) (n : Nat) (D : DataW Unit) (V : Tx → Value) : Prop where
  below : Below w.heap.size w wq
  on : On (fun q => q < w.heap.size ∨ K1 K g B wq q) wq p s
  at_ : AtM wq (K1 K g B wq) m n (note f (pl.take j)) D V
  kb : ∀ q, K1 K g B wq q → w.heap.size ≤ q ∧ q < wq.heap.size
  ps : Ps wq B v pl
  req : Blk wq g 31 (RC r.client r.time r.o A c)
  num : n ≤ 4 * k + j
  len : ∀ x, (note f (pl.take j) x).length ≤ 4 * k + j
  bb : B ≤ wq.heap.size
/-- The j-th place. -/
theorem ps_at {w : World} {B : Nat} {Av : Option Addr} {cv : Nat} {pl : List (Tx × Int × Tx)} (h : Ps w B (.slice Av pl.length cv) pl) {j : Nat} (hj : j < pl.length) :
    ∃ g u, Av = some ⟨g, 0, none⟩ ∧ w.cell? ⟨g, j * 3, none⟩ = some (.string ⟨pl[j].1.toArray⟩) ∧ w.cell? ⟨g, j * 3 + 1, none⟩ = some (.int .i64 pl[j].2.1) ∧ w.cell? ⟨g, j * 3 + 2, none⟩ = some u ∧ w.ownsRow B 5 1 u pl[j].2.2.length (BVs pl[j].2.2) := by
  obtain ⟨l, hl, hr, he⟩ := h
  have hll : l.length = pl.length := by rw [← hl, List.length_map]
  have hjl : j < l.length := by omega
  have hx : l[j].1 = pl[j] := by
    have : (l.map (·.1))[j]? = pl[j]? := by rw [hl]
    rw [List.getElem?_map, List.getElem?_eq_getElem hjl, List.getElem?_eq_getElem hj] at this
    exact Option.some.inj this
  obtain ⟨g, c, hv, hb, hlt⟩ := hr.form (by omega)
  obtain ⟨rfl, _, rfl⟩ := Value.slice.inj hv
  have key : ∀ i, i < 3 → w.cell? ⟨g, j * 3 + i, none⟩ = (PC l[j])[i]? := fun i hi => by
    obtain ⟨u, hu⟩ : ∃ u, (PC l[j])[i]? = some u := ⟨_, List.getElem?_eq_getElem (l := PC l[j]) (by rw [PC_len l[j]]; exact hi)⟩
    rw [hu]
    have hc := hr.cells (g := g) rfl (j * 3 + i) u (by rw [show PCs l = l.flatMap PC from rfl, flat_get PC_len l j hjl i hi]; exact hu)
    have ha : (⟨g, 0, none⟩ : Addr).add (j * 3 + i) = ⟨g, j * 3 + i, none⟩ := by unfold Addr.add; split <;> simp_all
    rw [ha] at hc
    exact hc
  have k0 := key 0 (by omega)
  have k1 := key 1 (by omega)
  have k2 := key 2 (by omega)
  have hy := he _ (List.getElem_mem hjl)
  rw [hx] at hy
  refine ⟨g, l[j].2, rfl, ?_, ?_, ?_, hy⟩
  · rw [Nat.add_zero] at k0; rw [k0, ← hx]; rfl
  · rw [k1, ← hx]; rfl
  · rw [k2]; rfl
theorem info_rec : (Try.prog.info? 44).map (fun i => (i.zero, i.size, i.bytes)) = some (some (.slice none 0 0), 1, 24) := by kernel_rfl
theorem pj_start0 {w wr wa w4 w5 : World} {p m k B n : Nat} {K : Nat → Prop} {r : Rq} {A : Option Addr} {c : Nat} {v : Value} {pl : List (Tx × Int × Tx)} {s s' : St} {f : Log} {D : DataW Unit} {V : Tx → Value}
    (h : SI w p m k wr s f K n D V) (ba : Below wr.heap.size wr wa) (ra : Blk wa wr.heap.size 31 (RC r.client r.time r.o A c)) (hB : wa.heap.size ≤ B) (hB4 : B ≤ w4.heap.size) (hp : Ps w4 B v pl)
    (ho : On (fun q => ((q < w.heap.size ∨ K q) ∨ (wr.heap.size ≤ q ∧ q < wa.heap.size)) ∨ (B ≤ q ∧ q < w4.heap.size)) w4 p s') (hc : Ch (fun q => ¬ ((q < w.heap.size ∨ K q) ∨ (wr.heap.size ≤ q ∧ q < wa.heap.size)) ∧ q < wa.heap.size) wa w4) (b5 : Below w4.heap.size w4 w5) :
    PJ w p m k wr.heap.size B K r A c v pl s' f 0 w5 n D V := by
  have h1 := h.below.size
  have h2 := ba.size
  have h3 := ra.lt
  have h4 := hc.size
  have h5 := b5.size
  have hb1 : Below w.heap.size w wa := h.below.trans (ba.mono h1)
  have hb4 : Below w.heap.size w w4 := hb1.trans (hc.below (fun q hq hh => hh.1 (.inl (.inl hq))) (by omega))
  have hat : AtM w5 K m n f D V := ((h.at_.later ba).ch hc (fun q hq hh => hh.1 (.inl (.inr hq)))).later b5
  refine ⟨hb4.trans (b5.mono (by omega)), (ho.skip b5).weaken (fun q hq => ?_), (hat.more (fun q hq => .inl hq)), fun q hq => ?_, hp.later b5, (ra.ch hc (fun hh => hh.1 (.inr ⟨Nat.le_refl _, h3⟩))).below b5 (by omega), by have := h.num; omega, fun x => by have := h.len x; exact this, by omega⟩
  · rcases hq with hq | hq | hq | hq
    · exact .inl (.inl (.inl (.inl hq)))
    · exact .inl (.inl (.inl (.inr hq)))
    · subst hq; exact .inl (.inl (.inr ⟨Nat.le_refl _, h3⟩))
    · rcases Nat.lt_or_ge q w4.heap.size with h | h
      · exact .inl (.inr ⟨hq.1, h⟩)
      · exact .inr ⟨h, hq.2⟩
  · rcases hq with hq | hq | hq
    · have := h.kb q hq; exact ⟨this.1, by omega⟩
    · subst hq; exact ⟨h1, by omega⟩
    · exact ⟨by omega, hq.2⟩
theorem pj_start {w wr wa w4 w5 : World} {p m k B n : Nat} {K : Nat → Prop} {r : Rq} {A : Option Addr} {c : Nat} {v : Value} {pl : List (Tx × Int × Tx)} {s s' : St} {f : Log} {D : DataW Unit} {V : Tx → Value}
    (h : SI w p m k wr s f K n D V) (ba : Below wr.heap.size wr wa) (ra : Blk wa wr.heap.size 31 (RC r.client r.time r.o A c)) (hB : wa.heap.size ≤ B) (hp : Ps w4 B v pl)
    (ho : On (fun q => ((q < w.heap.size ∨ K q) ∨ (wr.heap.size ≤ q ∧ q < wa.heap.size)) ∨ (B ≤ q ∧ q < w4.heap.size)) w4 p s') (hc : Ch (fun q => ¬ ((q < w.heap.size ∨ K q) ∨ (wr.heap.size ≤ q ∧ q < wa.heap.size)) ∧ q < wa.heap.size) wa w4) (b5 : Below w4.heap.size w4 w5) :
    PJ w p m k wr.heap.size (min B w4.heap.size) K r A c v pl s' f 0 w5 n D V :=
  pj_start0 h ba ra (by have := hc.size; omega) (by omega) (hp.base (by omega)) (ho.weaken (fun q hq => by
    rcases hq with hq | hq
    · exact .inl hq
    · exact .inr ⟨by omega, hq.2⟩)) hc b5
theorem on_skipc {N X : Nat → Prop} {p : Nat} {w w' : World} {s : St} (h : On N w p s) (c : Ch X w w') (hx : ∀ k, X k → N k) : On (fun k => N k ∨ (w.heap.size ≤ k ∧ k < w'.heap.size)) w' p s := by
  have h2 := h.ch c hx
  obtain ⟨S, R, h1, h2, h3⟩ := h
  refine ⟨S, R, h1.ch c (fun k hk hX => (h2 k hk).1 (hx k hX)) (fun k hk hX => h3 k hk (hx k hX)), fun k hk => ⟨fun h => ?_, Nat.lt_of_lt_of_le (h2 k hk).2 c.size⟩, fun k hk h => ?_⟩
  · rcases h with h | h
    · exact (h2 k hk).1 h
    · have := (h2 k hk).2; omega
  · rcases h with h | h
    · exact h3 k hk h
    · have := (Tz.rlt h1 k hk).2; omega
theorem types_far {w : World} {b b' : Nat} {t t' : TypeId} {z z' n n' : Nat} {v v' : Value} {xs xs' : List Value} (h : w.ownsRow b t z v n xs) (h' : w.ownsRow b' t' z' v' n' xs') (ht : t ≠ t') : ∀ g, v.ownBlock = some g → v'.ownBlock ≠ some g := by
  intro g hg hg'
  rcases h.2 with ⟨rfl, _⟩ | ⟨g1, _, _, rfl, _, r1, _⟩
  · simp [Value.ownBlock] at hg
  · rcases h'.2 with ⟨rfl, _⟩ | ⟨g2, _, _, rfl, _, r2, _⟩
    · simp [Value.ownBlock] at hg'
    · simp only [Value.ownBlock, Option.some.injEq] at hg hg'
      subst hg; subst hg'
      rw [r1] at r2
      simp only [Option.some.injEq, Obj.cells.injEq] at r2
      exact ht r2.2.1
theorem pj_step {w wr wb wc w6 w7 : World} {p m k g B n j nn : Nat} {K : Nat → Prop} {r : Rq} {A : Option Addr} {c : Nat} {v u v6 : Value} {pl : List (Tx × Int × Tx)} {s' : St} {f fj : Log} {D z6 : DataW Unit} {V : Tx → Value} {x : Tx × Int × Tx} {vals : List Value}
    (h : PJ w p m k g B K r A c v pl s' f j wr n D V) (hfj : note f (pl.take j) = fj) (hnt : note f (pl.take (j + 1)) = note1 fj x) (b1 : Below wr.heap.size wr wb) (b2 : Below wb.heap.size wb wc) (hu : wr.ownsRow B 5 1 u x.2.2.length (BVs x.2.2))
    (hr : wb.ownsRow 0 44 1 (V x.1) (fj x.1).length vals) (he : ∀ i (hi : i < (fj x.1).length), ∃ u, vals[i]? = some u ∧ wb.ownsRow 0 5 1 u (fj x.1)[i].length (BVs (fj x.1)[i]) ∧ ∀ k, u.ownBlock = some k → K1 K g B wr k)
    (hnn : nn = (fj x.1).length + 1) (happ : Appended wc 0 44 1 (V x.1) nn (vals ++ [u]) v6 w6) (hz : slElem v6 = some (z6, [])) (hm : w7.ownsMap Try.prog 9 slElem m (n + 1) (D.put (.string x.1) z6)) (hg : w6.grownBy w7 (some m)) :
    PJ w p m k g B K r A c v pl s' f (j + 1) w7 (n + 1) (D.put (.string x.1) z6) (fun y => if y = x.1 then v6 else V y) := by
  have s1 := b1.size
  have s2 := b2.size
  have s3 := happ.2.1.size
  have s4 := hg.size
  have hbb := h.bb
  have c7 : Ch (fun q => q = m) w6 w7 := Ch.of_grown hg (fun g hg _ => (Option.some.inj hg).symm)
  have hrc : wc.ownsRow 0 44 1 (V x.1) (fj x.1).length vals := own_below hr b2
  have c6 : Ch (fun q => (V x.1).ownBlock = some q) wc w6 := Ch.of_grown happ.2.1 (fun g hg _ => hg)
  have hat := h.at_
  rw [hfj] at hat
  have hkv : ∀ q, (V x.1).ownBlock = some q → K1 K g B wr q := fun q hq => by
    obtain ⟨_, _, h2, _⟩ := hat.at_ x.1
    exact h2 q hq
  have bc : Below wr.heap.size wr wc := b1.trans (b2.mono s1)
  have c67 : Ch (fun q => (V x.1).ownBlock = some q ∨ q = m) wc w7 := (c6.mono (fun q _ hq => .inl hq)).trans c7 (fun q _ hq => .inr hq)
  have call : Ch (fun q => (V x.1).ownBlock = some q ∨ q = m) wr w7 := (Ch.of_below bc (Nat.le_refl _)).trans c67 (fun _ _ h => h)
  have hput := AtM.put (u := u) hat bc (fun q hq => (h.kb q hq).2) hrc (fun i hi => by
    obtain ⟨q, q1, q2, q3⟩ := he i hi
    exact ⟨q, q1, own_below q2 b2, q3⟩) (own_base (own_below hu bc) (Nat.zero_le _)) (fun q hq => .inr (.inr ⟨(hu.lt q hq).1, (hu.lt q hq).2⟩)) hnn happ hz hm c7
  have hX : ∀ q, ((V x.1).ownBlock = some q ∨ q = m) → K1 K g B wr q := fun q hq => by
    rcases hq with hq | rfl
    · exact hkv q hq
    · exact h.at_.km
  have hmc : wc.ownsMap Try.prog 9 slElem m n D := map_ch hat.own (Ch.of_below (S := fun _ => False) bc (Nat.le_refl _)) (fun h => h)
  refine ⟨h.below.trans (call.below (fun q hq hh => by have := (h.kb q (hX q hh)).1; omega) h.below.size), (on_skipc h.on call (fun q hq => .inr (hX q hq))).weaken (fun q hq => ?_), ?_, fun q hq => ?_, ?_, ?_, by have := h.num; omega, fun y => ?_, by omega⟩
  · rcases hq with hq | hq | hq | hq
    · exact .inl (.inl hq)
    · exact .inl (.inr (.inl hq))
    · exact .inl (.inr (.inr (.inl hq)))
    · rcases Nat.lt_or_ge q wr.heap.size with h' | h'
      · exact .inl (.inr (.inr (.inr ⟨hq.1, h'⟩)))
      · exact .inr ⟨h', hq.2⟩
  · rw [hnt]
    refine hput.more (fun q hq => ?_)
    rcases hq with (hq | hq | hq) | hq
    · exact .inl hq
    · exact .inr (.inl hq)
    · exact .inr (.inr ⟨hq.1, by omega⟩)
    · exact .inr (.inr ⟨by omega, hq.2⟩)
  · have hh := h.below.size
    have h0 := h.kb
    rcases hq with hq | hq | hq
    · have := h0 q (.inl hq); exact ⟨this.1, by omega⟩
    · have := h0 q (.inr (.inl hq)); exact ⟨this.1, by omega⟩
    · refine ⟨?_, hq.2⟩
      rcases Nat.lt_or_ge q wr.heap.size with h' | h'
      · exact (h0 q (.inr (.inr ⟨hq.1, h'⟩))).1
      · omega
  · obtain ⟨l, q1, q2, q3⟩ := h.ps
    have q2' := own_below q2 bc
    refine ⟨l, q1, own_ch q2' c67 (fun q hq hh => ?_), fun y hy => own_ch (own_below (q3 y hy) bc) c67 (fun q hq hh => ?_)⟩
    · rcases hh with hh | hh
      · exact types_far q2' hrc (by decide) q hq hh
      · exact map_row hmc q2' (by rw [hq, hh])
    · have q3' := own_below (q3 y hy) bc
      rcases hh with hh | hh
      · exact types_far q3' hrc (by decide) q hq hh
      · exact map_row hmc q3' (by rw [hq, hh])
  · have hreq := h.req.below bc h.req.lt
    refine hreq.ch c67 (fun hh => ?_)
    rcases hh with hh | hh
    · exact own_far hrc hreq (by decide) hh
    · exact map_far hmc hreq hh.symm
  · have h1 := h.len y
    rw [hfj] at h1
    have h2 := note1_len fj x y
    rw [hnt]
    omega
theorem si_of {w wr w6 : World} {p m k g B n : Nat} {K : Nat → Prop} {r : Rq} {A : Option Addr} {c : Nat} {v : Value} {pl : List (Tx × Int × Tx)} {s' : St} {f : Log} {D : DataW Unit} {V : Tx → Value}
    (h : PJ w p m k g B K r A c v pl s' f pl.length wr n D V) (hl : LogOk s'.L (note f pl)) (h4 : pl.length ≤ 4) (b : Below wr.heap.size wr w6) : SI w p m (k + 1) w6 s' (note f pl) (K1 K g B wr) n D V := by
  have e : pl.take pl.length = pl := List.take_length
  have hat := h.at_
  have hlen := h.len
  rw [e] at hat hlen
  exact ⟨h.below.trans (b.mono h.below.size), h.on.later b, hat.later b, fun q hq => ⟨(h.kb q hq).1, Nat.lt_of_lt_of_le (h.kb q hq).2 b.size⟩, hl, by have := h.num; omega, fun x => by have := hlen x; omega⟩
theorem si_later {w w6 w7 : World} {p m k n : Nat} {K : Nat → Prop} {s : St} {f : Log} {D : DataW Unit} {V : Tx → Value} (h : SI w p m k w6 s f K n D V) (b : Below w6.heap.size w6 w7) : SI w p m k w7 s f K n D V :=
  ⟨h.below.trans (b.mono h.below.size), h.on.later b, h.at_.later b, fun q hq => ⟨(h.kb q hq).1, Nat.lt_of_lt_of_le (h.kb q hq).2 b.size⟩, h.log, h.num, h.len⟩
set_option maxRecDepth 100000 in
set_option maxHeartbeats 8000000 in
theorem stays_any (w : World) (A : Option Addr) (c : Nat) (rs : List Rq) (hr : Rqs w A rs) (hl : rs.length ≤ 1048576) :
    Calls Try.prog 4 #[.slice A rs.length c] w fun e w' => e = .returned (.bool true) ∧ Below w.heap.size w w' := by
  have hmm := @run_makeMap Try.prog
  have HRQ := Lib.hid hr
  clear hr
  go_enter Try.func4, Try.ntmps4
  go_wp2_with fail
  refine (live_any w).mono ?_
  rintro e w1 ⟨rfl, hb1⟩
  have HB1 := Lib.hid hb1
  clear hb1
  go_wp2_with fail
  refine (new_any w1).mono ?_
  rintro e w2 ⟨p, rfl, hz2, hb2⟩
  have HO2 := Lib.hid ((on_new hz2).weaken (N' := fun k => k < w.heap.size) (fun k hk => by have := HB1.out.size; omega))
  have HB2 := Lib.hid (HB1.out.trans (hb2.mono HB1.out.size))
  clear hz2 hb2
  go_wp2_with fail
  have hb3 := op_below w2 (.map #[] 0)
  have hm3 : (w2.alloc (.map #[] 0)).ownsMap Try.prog 9 slElem w2.heap.size 0 (.map []) := World.ownsMap_made w2 _ _ _
  generalize w2.alloc (.map #[] 0) = w3 at hb3 hm3 ⊢
  have hst : SI w p w2.heap.size 0 w3 St.zero (fun _ => []) (fun q => q = w2.heap.size) 0 (.map []) (fun _ => .slice none 0 0) :=
    ⟨HB2.out.trans (hb3.mono HB2.out.size), (HO2.out.skip hb3).weaken (fun q hq => by
      rcases hq with hq | hq
      · exact .inl hq
      · subst hq; exact .inr ⟨Nat.le_refl _, hm3.lt⟩), atm_new hm3 rfl, fun q hq => by subst hq; exact ⟨HB2.out.size, hm3.lt⟩, LogOk.nil, Nat.zero_le _, fun x => by simp⟩
  have HST := Lib.hid hst
  clear hb3 hm3 hst
  go_loopw [24] (fun i wr => ∃ (k : Nat) (s : St) (f : Log) (K : Nat → Prop) (n : Nat) (D : DataW Unit) (V : Tx → Value), k ≤ rs.length ∧ i = .int .i64 k ∧ SI w p w2.heap.size k wr s f K n D V) (fun i _ => rs.length - (intOf i).toNat)
  case atStart => exact ⟨0, _, _, _, _, _, _, Nat.zero_le _, rfl, HST.out⟩
  case round =>
    obtain ⟨k, s, f, K, n, D, V, hk, rfl, hsi⟩ := hrel
    clear HST
    have HSI := Lib.hid hsi
    clear hsi
    by_cases hlt : k < rs.length
    · obtain ⟨ad, Ar, cr, rfl, a0, a1, a2, a3, a4, a5, a6, hls, ht1, ht2⟩ := HRQ.out.at_ HSI.out.below hlt
      generalize rs[k] = r at *
      have hba := op_below wr (.cells (RC r.client r.time r.o Ar cr) 31)
      have hra : Blk (wr.alloc (.cells (RC r.client r.time r.o Ar cr) 31)) wr.heap.size 31 (RC r.client r.time r.o Ar cr) := Blk.new wr _ _
      have HLS := Lib.hid (hls.after hba)
      have HBA := Lib.hid (And.intro hba hra)
      have HT := Lib.hid (And.intro ht1 ht2)
      have hon := HSI.out.on.skip hba
      have HON := Lib.hid hon
      have hN : ∀ q, ((q < w.heap.size ∨ K q) ∨ (wr.heap.size ≤ q ∧ q < (wr.alloc (.cells (RC r.client r.time r.o Ar cr) 31)).heap.size)) → q < (wr.alloc (.cells (RC r.client r.time r.o Ar cr) 31)).heap.size := fun q hq => by
        have h1 := HSI.out.below.size
        have h2 := hba.size
        rcases hq with (hq | hq) | hq
        · omega
        · have := (HSI.out.kb q hq).2; omega
        · exact hq.2
      have HAP := Lib.hid (hon.ask hN r (HLS.out) HT.out.2)
      clear hls ht1 ht2 hba hra hon hN
      unfold RV at HAP
      unfold RC at HAP HLS HBA HON
      go_wp2_with fail
      generalize wr.alloc (.cells #[.int .i64 r.client, .int .i64 r.time, .int .i64 r.o.kind, .string ⟨r.o.topic.toArray⟩, .string ⟨r.o.group.toArray⟩, .int .i64 r.o.off, .slice Ar r.o.recs.length cr] 31) = wa at *
      clear a0 a1 a2 a3 a4 a5 a6
      refine HAP.out.mono ?_
      rintro e w4 ⟨v, B, rfl, hB, hp, ho, hc⟩
      have HST := Lib.hid (app_stays HSI.out.on.good HSI.out.log r.client r.time r.o)
      have HPL := Lib.hid (app_pl s r.client r.time r.o)
      have HGD := Lib.hid (appS_good HSI.out.on.good r.client r.time r.o)
      generalize happ : appS s r.client r.time r.o = ap at *
      obtain ⟨⟨ae, af⟩, pl, ab, s'⟩ := ap
      simp only at hp ho HST HPL HGD ⊢
      have HW4 := Lib.hid (And.intro hB (And.intro hp (And.intro ho hc)))
      clear happ hB hp ho hc
      obtain ⟨Av, cv, rfl⟩ : ∃ Av cv, v = .slice Av pl.length cv := by
        obtain ⟨l', h1, h2, h3⟩ := HW4.out.2.1
        exact own_shape h2
      go_wp2_with fail
      have hb5 := op_below w4 (.cells #[.int .i64 ae, .int .i64 af] 34)
      generalize w4.alloc (.cells #[.int .i64 ae, .int .i64 af] 34) = w5 at hb5 ⊢
      have HPJ := Lib.hid (pj_start (r := r) HSI.out HBA.out.1 HBA.out.2 HW4.out.1 HW4.out.2.1 HW4.out.2.2.1 HW4.out.2.2.2 hb5)
      clear hb5
      generalize wr = wo at *
      go_loopw [37] (fun i wq => ∃ (j n : Nat) (D : DataW Unit) (V : Tx → Value), j ≤ pl.length ∧ i = .int .i64 j ∧ PJ w p w2.heap.size k wo.heap.size (min B w4.heap.size) K r Ar cr (.slice Av pl.length cv) pl s' f j wq n D V) (fun i _ => pl.length - (intOf i).toNat)
      case atStart => exact ⟨0, _, _, _, Nat.zero_le _, rfl, HPJ.out⟩
      case round =>
        obtain ⟨j, n, D, V, hj, rfl, hpj⟩ := hrel
        clear HPJ
        have HPJ := Lib.hid hpj
        clear hpj
        by_cases hjl : j < pl.length
        · obtain ⟨gp, u, rfl, c0, c1, c2, hu⟩ := ps_at HPJ.out.ps hjl
          have HU := Lib.hid hu
          have HEA := Lib.hid (each_at HST.out.1 j hjl)
          have HNM := Lib.hid (HPL.out.1 _ (List.getElem_mem hjl))
          have HNT := Lib.hid (note_take f hjl)
          have hp4 := HPL.out.2
          generalize hfj : note f (pl.take j) = fj at *
          generalize pl[j] = x at *
          obtain ⟨xn, xo, xr⟩ := x
          simp only at c0 c1 HU HEA HNM HNT
          obtain ⟨Au, cu, rfl⟩ := own_shape hu
          have hbb := op_below wr (.cells #[.string ⟨xn.toArray⟩, .int .i64 xo, .slice Au xr.length cu] 46)
          have hxb : Blk (wr.alloc (.cells #[.string ⟨xn.toArray⟩, .int .i64 xo, .slice Au xr.length cu] 46)) wr.heap.size 46 #[.string ⟨xn.toArray⟩, .int .i64 xo, .slice Au xr.length cu] := Blk.new wr _ _
          have hatb := HPJ.out.at_.later hbb
          rw [hfj] at hatb
          have hlk := hatb.look xn (by rw [HNM.out]; exact HT.out.1)
          obtain ⟨vals, hv1, hv2, hv3⟩ := hatb.at_ xn
          obtain ⟨Aq, cq, hq⟩ := own_shape hv1
          rw [hq] at hlk
          have HV := Lib.hid (And.intro hatb (And.intro hv1 (And.intro hv2 hv3)))
          have HQ := Lib.hid hq
          have HB6 := Lib.hid (And.intro hbb hxb)
          have hxo := HEA.out
          subst hxo
          have hlen := HPJ.out.len xn
          rw [hfj] at hlen
          have HFJ := Lib.hid hfj
          clear hu hatb hv1 hv2 hv3 hq hbb hxb hfj
          go_wp2_with fail
          generalize wr.alloc (.cells #[.string ⟨xn.toArray⟩, .int .i64 (((fj xn).length : Nat) : Int), .slice Au xr.length cu] 46) = wb at *
          have x0 := HB6.out.2.cell 0
          have x2 := HB6.out.2.cell 2
          have hba := op_below wb (.cells #[.slice Au xr.length cu] 44)
          have y0 := (HB6.out.2.below hba HB6.out.2.lt).cell 0
          simp only [List.getElem?_toArray, List.getElem?_cons_zero, List.getElem?_cons_succ] at x0 x2 y0
          have hlkA := (HV.out.1.later hba).look xn (by rw [HNM.out]; exact HT.out.1)
          have hlkD := (HV.out.1.later (below_drewN (Below.refl _ wb) 1)).look xn (by rw [HNM.out]; exact HT.out.1)
          have hlkE := ((HV.out.1.later hba).later (below_drewN (Below.refl _ _) 1)).look xn (by rw [HNM.out]; exact HT.out.1)
          rw [HQ.out] at hlkA hlkD hlkE
          have hlkD : (Instr.lookup 43 (.map (some w2.heap.size)) (.string ⟨xn.toArray⟩) false).run Try.prog wb.drew = .ok (.slice Aq (fj xn).length cq) wb.drew := hlkD
          have hlkE : (Instr.lookup 43 (.map (some w2.heap.size)) (.string ⟨xn.toArray⟩) false).run Try.prog (wb.alloc (.cells #[.slice Au xr.length cu] 44)).drew = .ok (.slice Aq (fj xn).length cq) (wb.alloc (.cells #[.slice Au xr.length cu] 44)).drew := hlkE
          obtain ⟨i0, hi0, hy0, hy1, hy2⟩ := info_parts info_rec
          have hHV := HV.out.2.1
          rw [HQ.out] at hHV
          have HVQ := Lib.hid hHV
          have HBA6 := Lib.hid hba
          have HONE : Hid (∀ q ∈ [Value.slice Au xr.length cu], q.oneCell' = true) := Lib.hid (by intro q hq; simp only [List.mem_singleton] at hq; subst hq; rfl)
          have HKEY := Lib.hid (key_str xn (by rw [HNM.out]; have := HT.out.1; simp only [maxLen]; omega))
          have HND : Hid (n < maxLen) := Lib.hid (by have := HPJ.out.num; simp only [maxLen]; omega)
          clear hba hHV c0 c1 c2
          go_region_law (first
            | (refine step_append_sh (by rfl) (.tmp 55) (.tmp 58) _ (by rfl) 0 44 i0 _ 1 24 Try.underlying27 hi0 hy0 hy1 hy2 rfl (by omega) (.slice Aq (fj xn).length cq) (fj xn).length vals (by rfl) (show (wb.alloc (.cells #[.slice Au xr.length cu] 44)).drew.ownsRow 0 44 1 (.slice Aq (fj xn).length cq) (fj xn).length vals from HVQ.out.alloc _) (fun _ => False) _ 1 [.slice Au xr.length cu] (by rfl) (show Sl (wb.alloc (.cells #[.slice Au xr.length cu] 44)).drew (fun _ => False) _ _ _ _ from one_newv wb (fun _ => False) _ _ (fun h => h)) HONE.out (by simp only [maxLen]; omega) (by omega) (Nat.zero_le _) ?_; intro A6 c6 w6 happ; have happ := appended_drew happ; have HAP6 := Lib.hid happ; have hm6 := map_ch (HV.out.1.later HBA6.out).own (Ch.of_grown happ.2.1 (fun g hg _ => hg) : Ch (fun q => (Value.slice Aq (fj xn).length cq).ownBlock = some q) _ w6) (fun e => map_row (HV.out.1.later HBA6.out).own (HVQ.out.alloc _) e); obtain ⟨z6, hz6⟩ := slElem_row happ.1; obtain ⟨w7, hst7, hmap7, hturn7⟩ := hm6.store law_str Try.underlying43 HND.out HKEY.out hz6; have y6 : w6.cell? ⟨wr.heap.size, 0, none⟩ = some (.string ⟨xn.toArray⟩) := ((HB6.out.2.below HBA6.out HB6.out.2.lt).ch (Ch.of_grown happ.2.1 (fun g hg _ => hg) : Ch (fun q => (Value.slice Aq (fj xn).length cq).ownBlock = some q) _ w6) (own_far (HVQ.out.alloc _) (HB6.out.2.below HBA6.out HB6.out.2.lt) (by decide))).cell 0; have HM7 := Lib.hid (And.intro hz6 (And.intro hmap7 hturn7.grown)); clear happ hm6 hz6 hmap7 hturn7))
          all_goals
            have hps := pj_step (x := (xn, (((fj xn).length : Nat) : Int), xr)) (vals := vals) (V := V) (nn := (fj xn).length + 1) HPJ.out HFJ.out HNT.out HB6.out.1 HBA6.out HU.out HV.out.2.1 HV.out.2.2.2 rfl (by rw [HQ.out]; exact HAP6.out) HM7.out.1 HM7.out.2.1 HM7.out.2.2
            have HPS := Lib.hid hps
            clear hps
            go_wp2_with fail
            refine ⟨⟨j + 1, _, _, _, by omega, by go_num, HPS.out⟩, ?_⟩
            simp [intOf]
            omega
        · have hje : j = pl.length := by omega
          subst hje
          have HJ : Hid (note f (pl.take pl.length) = note f pl) := Lib.hid (by rw [List.take_length])
          have hreq := HPJ.out.req
          have b0 := hreq.cell 0
          have b1 := hreq.cell 1
          have b2 := hreq.cell 2
          have b3 := hreq.cell 3
          unfold RC at b0 b1 b2 b3
          simp only [List.getElem?_toArray, List.getElem?_cons_zero, List.getElem?_cons_succ] at b0 b1 b2 b3
          have HBD := Lib.hid (HPJ.out.on.bounds r.o.topic HT.out.1)
          clear hreq
          go_wp2_with fail
          refine HBD.out.mono ?_
          rintro e w6 ⟨rfl, hb6⟩
          have HB6 := Lib.hid hb6
          clear hb6
          have hb3 := (HB6.out.cell (World.block_lt_of_cell? _ _ b3)).trans b3
          cases hft : findT s'.L r.o.topic with
          | none =>
            have HE : Hid (boundsT s'.L r.o.topic = (0, 0, 4)) := Lib.hid (by rw [boundsT, hft])
            rw [HE.out]
            clear hft
            go_wp2_with fail
            refine ⟨⟨k + 1, _, _, _, _, _, _, by omega, by go_num, si_of HPJ.out HST.out.2 HPL.out.2 HB6.out⟩, ?_⟩
            simp [intOf]
            omega
          | some t =>
            have HE : Hid (boundsT s'.L r.o.topic = (t.base, t.next, 0)) := Lib.hid (by rw [boundsT, hft])
            rw [HE.out]
            have hat := HPJ.out.at_.later HB6.out
            rw [HJ.out] at hat
            have hheld := held HST.out.2 hft
            have hlk := hat.look r.o.topic HT.out.1
            obtain ⟨vals, hv1, hv2, hv3⟩ := hat.at_ r.o.topic
            obtain ⟨Aq, cq, hq⟩ := own_shape hv1
            rw [hq] at hlk
            have htg := HGD.out.L.fit t (findT_some hft).1
            have hb0 := htg.base
            have hbn : t.base ≤ t.next := by simp only [Tp.next]; omega
            have hnx := htg.next
            simp only [maxNum] at hnx
            have hlen := HPJ.out.len r.o.topic
            rw [HJ.out] at hlen
            have HV := Lib.hid (And.intro hat (And.intro hv1 (And.intro hv2 hv3)))
            have HQ := Lib.hid hq
            have HHD := Lib.hid hheld
            have HFT := Lib.hid hft
            generalize hF : note f pl r.o.topic = F at *
            have hFn : (F.length : Int) = t.next := HHD.out.1
            rw [← hFn] at hbn hnx ⊢
            have hp4 := HPL.out.2
            clear hat hv1 hv2 hv3 hq htg hft hheld
            obtain ⟨b, hbb⟩ : ∃ b : Nat, t.base = (b : Int) := ⟨t.base.toNat, by omega⟩
            have hrl : F.length = b + t.recs.length := by
              have h1 := HHD.out.2
              rw [hbb, Int.toNat_natCast] at h1
              rw [h1, List.length_drop]
              omega
            have HRD : Hid (∀ q (hq : q < t.recs.length) (hq2 : b + q < F.length), t.recs[q] = F[b + q]) := Lib.hid (fun q hq hq2 => by
              have h1 := HHD.out.2
              rw [hbb, Int.toNat_natCast] at h1
              have : t.recs[q]? = (F.drop b)[q]? := by rw [h1]
              rw [List.getElem?_eq_getElem hq, List.getElem?_drop, List.getElem?_eq_getElem hq2] at this
              exact Option.some.inj this)
            have HGT : Hid (∀ q (hq : q < t.recs.length), getT s'.L r.o.topic ((b : Int) + (q : Int)) = (t.recs[q], 0)) := Lib.hid (fun q hq => by
              rw [getT, HFT.out]
              simp only [hbb, Tp.next]
              rw [if_neg (by omega), show ((b : Int) + (q : Int) - (b : Int)).toNat = q by omega, List.getD_eq_getElem?_getD, List.getElem?_eq_getElem hq]
              rfl)
            rw [hbb] at hb0 hbn ⊢
            have hrr : t.recs.length ≤ 64 := (HGD.out.L.fit t (findT_some HFT.out).1).few
            have HF64 := Lib.hid (HGD.out.L.fit t (findT_some HFT.out).1).each
            go_wp2_with fail
            have HSN := Lib.hid (si_of HPJ.out HST.out.2 HPL.out.2 HB6.out)
            have HOB := Lib.hid (HPJ.out.on.later HB6.out)
            have HR6 := Lib.hid (HPJ.out.req.below HB6.out HPJ.out.req.lt)
            clear hlk b0 b1 b2 b3 hb3
            generalize wr = wq at *
            go_loopw [15] (fun i wi => ∃ q : Nat, q ≤ t.recs.length ∧ i = .int .i64 ((b : Int) + (q : Int)) ∧ Below w6.heap.size w6 wi) (fun i _ => F.length - (intOf i).toNat)
            case atStart => exact ⟨0, Nat.zero_le _, by simp, Below.refl _ _⟩
            case round =>
              obtain ⟨q, hq, rfl, hbi⟩ := hrel
              have HBI := Lib.hid hbi
              clear hbi
              by_cases hql : q < t.recs.length
              · have hq2 : b + q < F.length := by omega
                have hrd := HRD.out q hql hq2
                have hgt := HGT.out q hql
                have ei : ((b : Int) + (q : Int)) = ((b + q : Nat) : Int) := by omega
                rw [ei] at hgt ⊢
                have hrq : t.recs[q].length ≤ 64 := HF64.out _ (List.getElem_mem hql)
                generalize hiq : b + q = iq at *
                have HIQ := Lib.hid hiq
                have HRDq := Lib.hid hrd
                generalize t.recs[q] = rq at *
                clear hrd ei hiq
                have hon := HOB.out.later HBI.out
                have HGE := Lib.hid (hon.get r.o.topic (iq : Int) HT.out.1)
                rw [hgt] at HGE
                have hb3 := (HR6.out.below HBI.out HR6.out.lt).cell 3
                unfold RC at hb3
                simp only [List.getElem?_toArray, List.getElem?_cons_zero, List.getElem?_cons_succ] at hb3
                clear hon hgt
                go_wp2_with fail
                refine HGE.out.mono ?_
                rintro e w8 ⟨v8, rfl, ho8, hb8⟩
                simp only at ho8 ⊢
                obtain ⟨A8, c8, rfl⟩ := own_shape ho8
                have HO8 := Lib.hid ho8
                have hb8' := HBI.out.trans (hb8.mono HBI.out.size)
                have HB8 := Lib.hid hb8'
                have hb3' := (HR6.out.below hb8' HR6.out.lt).cell 3
                unfold RC at hb3'
                simp only [List.getElem?_toArray, List.getElem?_cons_zero, List.getElem?_cons_succ] at hb3'
                have hlk := (HV.out.1.later hb8').look r.o.topic HT.out.1
                rw [HQ.out] at hlk
                have hrow := own_below HV.out.2.1 hb8'
                rw [HQ.out] at hrow
                have hat3 := HV.out.2.2.2
                obtain ⟨u, hu, hub, -⟩ := hat3 iq hq2
                have hub8 := own_below hub hb8'
                obtain ⟨gq, cq', hvq, hbq, hltq⟩ := hrow.form (by omega)
                obtain ⟨rfl, _, rfl⟩ := Value.slice.inj hvq
                have hcq : w8.cell? ⟨gq, iq, none⟩ = some u := by rw [hrow.cellAt iq (by omega), hu]
                obtain ⟨Au, cu, rfl⟩ := own_shape hub8
                have HEQ := Lib.hid (law_equal_any w8 (fun _ => False) (fun _ => False) _ _ _ _ rq F[iq] (Sl.of_own HO8.out (fun _ _ _ h => h)) (Sl.of_own hub8 (fun _ _ _ h => h)))
                have hiq2 : (iq : Int) < (F.length : Int) := by omega
                clear hb8 hb8' hrow hat3 hub hub8 hbq hltq hvq hu ho8
                go_wp2_with fail
                refine HEQ.out.mono ?_
                rintro e w9 ⟨rfl, rfl⟩
                rw [show (rq == F[iq]) = true from by rw [HRDq.out]; exact beq_self_eq_true _]
                go_wp2_with fail
                have hiqq := HIQ.out
                refine ⟨⟨q + 1, by omega, by rw [show ((iq : Int) + 1) = (b : Int) + ((q + 1 : Nat) : Int) from by omega], HB8.out⟩, ?_⟩
                simp [intOf]
                omega
              · have hqe : q = t.recs.length := by omega
                subst hqe
                go_wp2_with fail
                refine ⟨⟨k + 1, _, _, _, _, _, _, by omega, by go_num, si_later HSN.out HBI.out⟩, ?_⟩
                simp [intOf]
                omega
    · have hke : k = rs.length := by omega
      subst hke
      go_wp2_with fail
      go_ret
      exact ⟨rfl, HSI.out.below⟩
end Go.Proofs.Ytcmknopgoiabbaa.Ap

import Derived.Maps.OwnSet
import Derived.Maps.Views
import Derived.Test.YtmhmnkpaijoaaaaGreatS05
namespace Go.Proofs.YtmhmnkpaijoaaaaGreat.Pte
set_option linter.unusedSimpArgs false
open Go Go.RowKit Ck Cf Kw Ga Kf Pm Pe Pg Ik Lk Jm Ja Jb Jf Jg Jl Jn Kc Kj Pra Prb Prc Prd Pre Prf Prn Prr Prx Psg Psh Psx Pta Ptd
set_option linter.unusedVariables false
def okV (x : Pd) : Prop := okP x /\ x.signs.length * 16 <= 140737488351232 /\ x.batch.length * 104 <= 140737488351232 /\ ∀ y ∈ x.batch, Py.far y.q.o 140737488351232
structure OkL (m : List Pd) (n : Nat) : Prop where
  rise : Rise m
  len : m.length <= n
  ok : ∀ p ∈ m, okV p
theorem OkL.nil (n : Nat) : OkL [] n := ⟨rise_nil, by simp, fun p h => by simp at h⟩
theorem put_len (m : List Pd) (x : Pd) : (putP m x).1.length <= m.length + 1 := by
  have hk := kOf_le m x.seq
  unfold putP
  split
  . split
    . split
      . simp
      . simp only [List.length_append, List.length_take, List.length_cons, List.length_drop]
        omega
    . simp only [List.length_append, List.length_take, List.length_cons, List.length_drop]
      omega
  . simp
theorem put_mem {m : List Pd} {x p : Pd} (h : p ∈ (putP m x).1) : p ∈ m \/ p = x := by
  unfold putP at h
  split at h
  . split at h
    . split at h
      . exact .inl h
      . rcases List.mem_append.1 h with h | h
        . exact .inl (List.mem_of_mem_take h)
        . rcases List.mem_cons.1 h with h | h
          . exact .inr h
          . exact .inl (List.mem_of_mem_drop h)
    . rcases List.mem_append.1 h with h | h
      . exact .inl (List.mem_of_mem_take h)
      . rcases List.mem_cons.1 h with h | h
        . exact .inr h
        . exact .inl (List.mem_of_mem_drop h)
  . exact .inl h
theorem OkL.put {m : List Pd} {n : Nat} {x : Pd} (h : OkL m n) (hx : okV x) : OkL (putP m x).1 (n + 1) :=
  ⟨rise_put h.rise x, by have := put_len m x; have := h.len; omega, fun p hp => by
    rcases put_mem hp with hp | rfl
    . exact h.ok p hp
    . exact hx⟩
theorem OkL.slide {m : List Pd} {n : Nat} {low : Int} (h : OkL m n) : OkL (slideP m low) n :=
  ⟨rise_slide h.rise low, Nat.le_trans (List.length_filter_le _ _) h.len, fun p hp => h.ok p (List.mem_filter.1 hp).1⟩
theorem OkL.mono {m : List Pd} {n n' : Nat} (h : OkL m n) (hn : n <= n') : OkL m n' := ⟨h.rise, Nat.le_trans h.len hn, h.ok⟩
theorem pts_old {w : World} {X : Nat -> Prop} {l : List Pd} {rs : List Pl2} (h : Pts w X l rs) {B : Nat} (hB : w.heap.size <= B) : Pts w (fun k => X k \/ B <= k) l rs :=
  ⟨h.1, fun i hi => by obtain ⟨r, h1, h2⟩ := h.2 i hi; exact ⟨r, h1, pi_old h2 hB⟩⟩
theorem pl_old {w : World} {X : Nat -> Prop} {v : Value} {l : List Pd} (h : PL w X v l) {B : Nat} (hB : w.heap.size <= B) : PL w (fun k => X k \/ B <= k) v l := by
  obtain ⟨rs, h1, h2⟩ := h
  exact ⟨rs, pts_old h1 hB, h2.old hB⟩
structure HSt (H : World -> (Nat -> Prop) -> Nat -> List Pd -> Prop) (w : World) (gr : Nat) (K : List (Nat × TypeId × Array Value)) (S : Nat -> Prop) (gh : Nat) (mh mr : List Pd) (W : World) : Prop where
  hh : H W S gh mh
  rh : RH W S gr mr
  lt : ∀ k, S k -> k < W.heap.size
  lo : ∀ k, S k -> w.heap.size <= k
  gs : ¬ S gr
  go : w.heap.size <= gr
  gl : gr < W.heap.size
  hb : Below w.heap.size w W
  ks : ∀ e ∈ K, Blk W e.1 e.2.1 e.2.2 /\ ¬ S e.1 /\ e.1 ≠ gr
section
variable {H : World -> (Nat -> Prop) -> Nat -> List Pd -> Prop} {ok : List Pd -> Pd -> Prop} {okl : List Pd -> Prop} {w W W' : World} {gr gh : Nat} {K : List (Nat × TypeId × Array Value)} {S : Nat -> Prop} {mh mr mh' mr' : List Pd}
theorem rh_old (h : RH W S gr mr) (hg : gr < W.heap.size) : RH W (fun k => S k \/ W.heap.size <= k) gr mr := by
  obtain ⟨v, h1, h2⟩ := h
  exact ⟨v, h1, (pl_old h2 (Nat.le_refl _)).weaken (fun k _ hk => by
    rcases hk with (hk | hk) | hk
    . exact .inl (.inl hk)
    . exact .inr hk
    . exact .inl (.inr hk))⟩
theorem HSt.later (HH : HeldC H ok) (h : HSt H w gr K S gh mh mr W) (b : Below W.heap.size W W') : HSt H w gr K S gh mh mr W' :=
  ⟨HH.ch h.hh (Ch.of_below (S := fun _ => False) b (Nat.le_refl _)) (fun _ _ h => h), h.rh.after b, fun k hk => Nat.lt_of_lt_of_le (h.lt k hk) b.size, h.lo, h.gs, h.go, Nat.lt_of_lt_of_le h.gl b.size, h.hb.trans (b.mono h.hb.size), fun e he => by
    obtain ⟨h1, h2, h3⟩ := h.ks e he
    exact ⟨h1.below b h1.lt, h2, h3⟩⟩
theorem HSt.own (HH : HeldC H ok) (h : HSt H w gr K S gh mh mr W) (hh : H W' (Nw S W.heap.size W'.heap.size) gh mh') (cc : Ch S W W') : HSt H w gr K (Nw S W.heap.size W'.heap.size) gh mh' mr W' := by
  have hs := cc.size
  have nw : ∀ k, k < W.heap.size -> Nw S W.heap.size W'.heap.size k -> S k := fun k hk hx => by
    rcases hx with hx | hx
    . exact hx
    . omega
  refine ⟨hh, ?_, fun k hk => ?_, fun k hk => ?_, fun hx => h.gs (nw _ h.gl hx), h.go, Nat.lt_of_lt_of_le h.gl hs, Psv.ch_under h.hb cc (fun k hk hx => by have := h.lo k hx; omega) (Nat.le_refl _), fun e he => ?_⟩
  . have h1 := (rh_old h.rh h.gl).ch cc h.gs (fun k _ hk => .inl hk)
    obtain ⟨v, h2, h3⟩ := h1
    exact ⟨v, h2, h3.weaken (fun k _ hk => by
      rcases hk with (hk | hk) | hk
      . exact .inl (.inl hk)
      . exact .inl (.inr hk.1)
      . exact .inr hk)⟩
  . rcases hk with hk | hk
    . exact Nat.lt_of_lt_of_le (h.lt k hk) hs
    . exact hk.2
  . rcases hk with hk | hk
    . exact h.lo k hk
    . have := h.hb.size; omega
  . obtain ⟨h1, h2, h3⟩ := h.ks e he
    exact ⟨h1.ch cc h2, fun hx => h2 (nw _ h1.lt hx), h3⟩
theorem HSt.doc (HH : HeldC H ok) (h : HSt H w gr K S gh mh mr W) (hr : RH W' S gr mr') (cc : Ch (fun k => k = gr) W W') : HSt H w gr K S gh mh mr' W' :=
  ⟨HH.ch h.hh cc (fun k hk hx => h.gs (by rw [<- hx]; exact hk)), hr, fun k hk => Nat.lt_of_lt_of_le (h.lt k hk) cc.size, h.lo, h.gs, h.go, Nat.lt_of_lt_of_le h.gl cc.size, Psv.ch_under h.hb cc (fun k hk hx => by have := h.go; omega) (Nat.le_refl _), fun e he => by
    obtain ⟨h1, h2, h3⟩ := h.ks e he
    exact ⟨h1.ch cc (fun hx => h3 hx), h2, h3⟩⟩
theorem HSt.box (HH : HeldC H ok) (h : HSt H w gr K S gh mh mr W) (t : TypeId) (cs : Array Value) : HSt H w gr ((W.heap.size, t, cs) :: K) S gh mh mr (W.alloc (.cells cs t)) := by
  have h1 := h.later HH ((Below.refl _ W).alloc (Nat.le_refl _) (.cells cs t))
  refine ⟨h1.hh, h1.rh, h1.lt, h1.lo, h1.gs, h1.go, h1.gl, h1.hb, fun e he => ?_⟩
  rcases List.mem_cons.1 he with rfl | he
  . exact ⟨Blk.new W _ _, fun hx => by have := h.lt _ hx; simp at this, by have := h.gl; simp; omega⟩
  . exact h1.ks e he
theorem HSt.put (HH : HeldC H ok) (h : HSt H w gr K S gh mh mr W) {X : Nat -> Prop} {x : Pd} {r : Pl2} (hx : PI W X x r) (hok : ok mh x) :
    Calls Tryz.prog 21 #[.pointer (some ⟨gh, 0, none⟩), .agg (PC x r)] W fun e w' => e = .returned (.bool (putP mh x).2) /\ ∃ S', HSt H w gr K S' gh (putP mh x).1 mr w' := by
  refine (HH.put W S X gh mh x r h.hh hx hok).mono ?_
  rintro e w' ⟨he, hh, cc⟩
  exact ⟨he, _, h.own HH hh cc⟩
theorem HSt.slide (HH : HeldC H ok) (HD : HeldD H okl) (h : HSt H w gr K S gh mh mr W) (low : Int) :
    Calls Tryz.prog 19 #[.pointer (some ⟨gh, 0, none⟩), .int .i64 low] W fun e w' => e = .returned (.tuple #[]) /\ ∃ S', HSt H w gr K S' gh (slideP mh low) mr w' := by
  refine (HD.slide W S gh mh low h.hh).mono ?_
  rintro e w' ⟨he, hh, cc⟩
  exact ⟨he, _, h.own HH hh cc⟩
theorem HSt.turn (HH : HeldC H ok) {W1 W2 : World} {g' : Nat} {low : Int} (h : HSt H w gr K S gh mh mr W) (h1 : H W1 (fun k => W.heap.size <= k /\ k < W1.heap.size) g' mh) (b1 : Below W.heap.size W W1) (c2 : Ch S W1 W2) : HSt H w gr K (fun k => W.heap.size <= k /\ k < W1.heap.size) g' mh mr W2 := by
  have h2 := h.later HH b1
  have hs := b1.size
  have hs2 := c2.size
  have hr0 := (rh_old h.rh h.gl).after b1
  have hr := hr0.ch c2 h.gs (fun k _ hk => .inl hk)
  refine ⟨HH.ch h1 c2 (fun k hk hx => by have := h.lt k hx; omega), ?_, fun k hk => Nat.lt_of_lt_of_le hk.2 hs2, fun k hk => by have := h.hb.size; omega, fun hx => by have := h.gl; omega, h.go, Nat.lt_of_lt_of_le h2.gl hs2, Psv.ch_under h2.hb c2 (fun k hk hx => by have := h.lo k hx; omega) (Nat.le_refl _), fun e he => ?_⟩
  . obtain ⟨v, h3, h4⟩ := hr
    exact ⟨v, h3, h4.weaken (fun k _ hk => by
      rcases hk with hk | hk
      . exact .inl (.inr hk.1)
      . exact .inr hk)⟩
  . obtain ⟨h5, h6, h7⟩ := h2.ks e he
    exact ⟨h5.ch c2 h6, fun hx => by have := (h.ks e he).1.lt; omega, h7⟩
end
structure PuD where
  p : Pd
  slide : Bool
  low : Int
  clone : Bool
def PuV (d : PuD) (r : Pl2) : List Value := (PC d.p r).toList ++ [.bool d.slide, .int .i64 d.low, .bool d.clone]
theorem PuV_len (x : PuD × Pl2) : (PuV x.1 x.2).length = 10 := rfl
def flatU (l : List PuD) (rs : List Pl2) : List Value := (l.zip rs).flatMap fun x => PuV x.1 x.2
def PUs (w : World) (X : Nat -> Prop) (v : Value) (l : List PuD) : Prop := ∃ rs, (rs.length = l.length /\ ∀ i (h : i < l.length), ∃ r, rs[i]? = some r /\ PI w X l[i].p r) /\ Sl w X 10 v l.length (flatU l rs)
theorem PUs.after {w w' : World} {X : Nat -> Prop} {v : Value} {l : List PuD} (h : PUs w X v l) (b : Below w.heap.size w w') : PUs w' X v l := by
  obtain ⟨rs, ⟨h1, h2⟩, h3⟩ := h
  exact ⟨rs, ⟨h1, fun i hi => by obtain ⟨r, h4, h5⟩ := h2 i hi; exact ⟨r, h4, h5.after b⟩⟩, h3.after b⟩
theorem PUs.shape {w : World} {X : Nat -> Prop} {v : Value} {l : List PuD} (h : PUs w X v l) : ∃ A c, v = .slice A l.length c := by
  obtain ⟨rs, h1, ⟨A, c, rfl, _⟩⟩ := h
  exact ⟨A, c, rfl⟩
theorem PUs.at_ {w : World} {X : Nat -> Prop} {l : List PuD} {A : Option Addr} {n c i : Nat} (h : PUs w X (.slice A n c) l) (hi : i < l.length) : ∃ (ad : Addr) (r : Pl2), A = some ad /\ At7 w (ad.add (i * 10)) l[i].p r /\ w.cell? ⟨(ad.add (i * 10)).block, (ad.add (i * 10)).off + 7, none⟩ = some (.bool l[i].slide) /\ w.cell? ⟨(ad.add (i * 10)).block, (ad.add (i * 10)).off + 8, none⟩ = some (.int .i64 l[i].low) /\ w.cell? ⟨(ad.add (i * 10)).block, (ad.add (i * 10)).off + 9, none⟩ = some (.bool l[i].clone) /\ PI w X l[i].p r := by
  obtain ⟨rs, ⟨h1, h3⟩, ⟨A', c', hv, hl, hc, hm, hx⟩⟩ := h
  injection hv with e1 e2 e3
  subst e1
  obtain ⟨r, h4, h5⟩ := h3 i hi
  obtain ⟨ad, hA, hb, hX, hcell⟩ := hx (by omega)
  have hz : i < (l.zip rs).length := by rw [List.length_zip]; omega
  have hr : i < rs.length := by omega
  have he : (l.zip rs)[i] = (l[i], r) := by
    rw [List.getElem_zip]
    have : rs[i] = r := by have := List.getElem?_eq_getElem hr; rw [this] at h4; exact Option.some.inj h4
    rw [this]
  have hof : ∀ j u, j < 10 -> (PuV l[i] r)[j]? = some u -> w.cell? ((ad.add (i * 10)).add j) = some u := fun j u hj hu => by
    rw [add_add]
    refine hcell _ _ ?_
    rw [flatU, flat_get PuV_len _ _ hz j hj, he]
    exact hu
  refine ⟨ad, r, hA, ?_⟩
  generalize ad.add (i * 10) = a at hof ⊢
  have ha : ∀ j, 0 < j -> a.add j = ⟨a.block, a.off + j, none⟩ := fun j hj => by unfold Addr.add; rw [if_neg (by omega)]
  have h0 : a.add 0 = a := by unfold Addr.add; rw [if_pos rfl]
  refine ⟨⟨?_, ?_, ?_, ?_, ?_, ?_, ?_⟩, ?_, ?_, ?_, h5⟩
  . have := hof 0 _ (by omega) rfl; rwa [h0] at this
  . have := hof 1 _ (by omega) rfl; rwa [ha _ (by omega)] at this
  . have := hof 2 _ (by omega) rfl; rwa [ha _ (by omega)] at this
  . have := hof 3 _ (by omega) rfl; rwa [ha _ (by omega)] at this
  . have := hof 4 _ (by omega) rfl; rwa [ha _ (by omega)] at this
  . have := hof 5 _ (by omega) rfl; rwa [ha _ (by omega)] at this
  . have := hof 6 _ (by omega) rfl; rwa [ha _ (by omega)] at this
  . have := hof 7 _ (by omega) rfl; rwa [ha _ (by omega)] at this
  . have := hof 8 _ (by omega) rfl; rwa [ha _ (by omega)] at this
  . have := hof 9 _ (by omega) rfl; rwa [ha _ (by omega)] at this
end Go.Proofs.YtmhmnkpaijoaaaaGreat.Pte
namespace Go.Proofs.YtmhmnkpaijoaaaaGreat.Ptj
set_option linter.unusedSimpArgs false
open Go Go.RowKit Ck Cf Kw Ga Kf Pm Pe Pg Ik Lk Jm Ja Jb Jf Jg Jl Jn Kc Kj Pra Prb Pre Prn Prr Prv Prw Prx Pry Prz Psa Psb Psr Psu Psv Psx Pta
set_option linter.unusedVariables false
set_option maxRecDepth 100000
def InR (z : Int) : Prop := -9223372036854775808 <= z /\ z <= 9223372036854775807
theorem keyLits_u8 {n : Nat} {t : TypeId} {a : Int} (ht : Tryz.prog.underlying t = some (.int .u8)) (h : (Lit.int .u8 a).wf = true) : Tryz.prog.keyLits (n + 1) t [.int .u8 a] = some [.int .u8 a] := by
  simp [Program.keyLits, ht, h]
theorem cells_vote : Tryz.prog.cellsOf 95 = 5 := by kernel_rfl
theorem cells_i64 : Tryz.prog.cellsOf 2 = 1 := by kernel_rfl
theorem cells_u8 : Tryz.prog.cellsOf 5 = 1 := by kernel_rfl
theorem keytype_vote : Tryz.prog.keyType 95 = true := by kernel_rfl
def kvv (u : Pso.Vt) : Value := .agg #[.int .i64 u.key, .int .i64 0, .int .i64 u.view, .int .i64 u.seq, .int .u8 0]
def KVL (u : Pso.Vt) : Lit := .string (keyBytes [.int .i64 u.key, .int .i64 0, .int .i64 u.view, .int .i64 u.seq, .int .u8 0])
structure InV (u : Pso.Vt) : Prop where
  k : InR u.key
  v : InR u.view
  s : InR u.seq
theorem key_vote (u : Pso.Vt) (h : InV u) : keyOf Tryz.prog 95 (kvv u) = some (KVL u) := by
  obtain ⟨n, hn⟩ : ∃ n, Tryz.prog.types.size + 1 = n + 1 + 1 := ⟨Tryz.prog.types.size - 1, by have : 0 < Tryz.prog.types.size := of_decide_eq_true (by kernel_rfl); omega⟩
  have hf : (kvv u).formed Tryz.prog 95 = true := by simp [kvv, Value.formed, Tryz.underlying95, cells_vote]
  have hl : Tryz.prog.keyLits (n + 1 + 1) 95 [.int .i64 u.key, .int .i64 0, .int .i64 u.view, .int .i64 u.seq, .int .u8 0] = some [.int .i64 u.key, .int .i64 0, .int .i64 u.view, .int .i64 u.seq, .int .u8 0] := by
    have k1 := Lk.keyLits_int (n := n) (t := 3) Tryz.underlying3 (wf_of h.k.1 h.k.2)
    have k0 := Lk.keyLits_int (n := n) (t := 3) (a := 0) Tryz.underlying3 (wf_of (by decide) (by decide))
    have k2 := Lk.keyLits_int (n := n) (t := 2) Tryz.underlying2 (wf_of h.v.1 h.v.2)
    have k3 := Lk.keyLits_int (n := n) (t := 2) Tryz.underlying2 (wf_of h.s.1 h.s.2)
    have k4 := keyLits_u8 (n := n) (t := 5) (a := 0) Tryz.underlying5 (by decide)
    unfold Program.keyLits
    simp [Tryz.underlying95, cells_vote, cells_int, cells_i64, cells_u8, k0, k1, k2, k3, k4]
  unfold keyOf
  rw [Tryz.underlying95, keytype_vote, hf, hn]
  show (if (true && true) = true then (Tryz.prog.keyLits (n + 1 + 1) 95 [.int .i64 u.key, .int .i64 0, .int .i64 u.view, .int .i64 u.seq, .int .u8 0]).map fun ls => Lit.string (keyBytes ls) else none) = _
  rw [hl]
  rfl
theorem law_vote : Maps.Keyed Tryz.prog 95 :=
  Maps.Keyed.of_law (deep_law_laid (by kernel_rfl) (m := 3) (by omega) (of_decide_eq_true (by kernel_rfl)) (by kernel_rfl) (by rw [Tryz.underlying95]))
theorem KVL_iff {u v : Pso.Vt} (hu : InV u) (hv : InV v) : KVL u = KVL v ↔ Pso.alike u v = true := by
  rw [Pso.alike_iff]
  constructor
  . intro h
    have := law_vote.inj (key_vote u hu) (h ▸ key_vote v hv)
    simp only [kvv, Value.agg.injEq, Array.mk.injEq, List.cons.injEq, Value.int.injEq, true_and, and_true] at this
    exact this
  . rintro ⟨h1, h2, h3⟩
    unfold KVL
    rw [h1, h2, h3]
theorem zero_u8 (w : World) : (zeroValue 5).run Tryz.prog w = .ok (.int .u8 0) w := by kernel_rfl
def NumB (D : DataW Unit) (acc : List Pso.Vt) : Prop := ∀ u, InV u -> Maps.has D (KVL u) = (Pso.hadV acc u).isSome /\ D.atKey (KVL u) (.lit (.int .u8 0)) = .lit (.int .u8 (((Pso.hadV acc u).getD 0 : Nat) : Int))
theorem NumB.empty : NumB (.map []) [] := fun _ _ => ⟨rfl, rfl⟩
theorem had_snoc (acc : List Pso.Vt) (u v : Pso.Vt) : Pso.hadV (acc ++ [v]) u = if Pso.alike u v = true then some v.batch else Pso.hadV acc u := by
  unfold Pso.hadV
  rw [List.reverse_append, List.reverse_singleton, List.singleton_append, List.find?_cons]
  cases Pso.alike u v <;> rfl
theorem NumB.put {D : DataW Unit} {acc : List Pso.Vt} {v : Pso.Vt} (h : NumB D acc) (hD : Maps.IsMap D) (hv : InV v) : NumB (D.put (KVL v) (.lit (.int .u8 (v.batch : Int)))) (acc ++ [v]) := by
  intro u hu
  rw [had_snoc]
  by_cases hs : Pso.alike u v = true
  . have he := (KVL_iff hu hv).2 hs
    rw [if_pos hs, he, Maps.has_put_same hD (law_vote.key (key_vote v hv)), Maps.atKey_put_same hD (law_vote.key (key_vote v hv))]
    exact ⟨rfl, rfl⟩
  . have hne : KVL u ≠ KVL v := fun e => hs ((KVL_iff hu hv).1 e)
    rw [if_neg hs, Maps.has_put_other hne, Maps.atKey_put_other hne]
    exact h u hu
def ofP (u : Vt × Nat) : Pso.Vt := ⟨u.1.key, u.1.kind, u.1.view, u.1.seq, u.2⟩
structure LO (w : World) (gc mm : Nat) (cs : Array Value) (v : Value) (acc : List (Vt × Nat)) (k : Nat) (D : DataW Unit) (W : World) : Prop where
  hb : Below w.heap.size w W
  mo : w.heap.size <= mm
  go : w.heap.size <= gc
  kc : Blk W gc 26 cs
  mp : W.ownsMap Tryz.prog 95 (plainElem Tryz.prog 5) mm k D
  nb : NumB D (acc.map ofP)
  row : W.ownsRow w.heap.size 95 5 v acc.length (acc.flatMap VC)
section
variable {w W W' : World} {gc mm : Nat} {cs : Array Value} {v v' : Value} {acc : List (Vt × Nat)} {k : Nat} {D : DataW Unit}
theorem LO.later (h : LO w gc mm cs v acc k D W) (b : Below W.heap.size W W') : LO w gc mm cs v acc k D W' :=
  ⟨h.hb.trans (b.mono h.hb.size), h.mo, h.go, h.kc.below b h.kc.lt, map_ch h.mp (Ch.of_below (S := fun _ => False) b (Nat.le_refl _)) (fun h => h), h.nb, own_ch h.row (Ch.of_below (S := fun _ => False) b (Nat.le_refl _)) (fun _ _ h => h)⟩
theorem LO.look (h : LO w gc mm cs v acc k D W) (u : Pso.Vt) (hu : InV u) : (Instr.lookup 93 (.map (some mm)) (kvv u) true).run Tryz.prog W = .ok (.tuple #[.int .u8 (((Pso.hadV (acc.map ofP) u).getD 0 : Nat) : Int), .bool (Pso.hadV (acc.map ofP) u).isSome]) W := by
  obtain ⟨x, ps, hrun, hv⟩ := h.mp.look_ok law_vote Tryz.underlying93 (zero_u8 W) (zd := .lit (.int .u8 0)) (zp := []) (plainElem_int Tryz.underlying5 (by decide)) (key_vote u hu)
  rw [(h.nb u hu).2] at hv
  obtain ⟨c, rfl, hc, _⟩ := plainElem_int_inv Tryz.underlying5 hv
  have hc : (DataW.lit (.int .u8 (((Pso.hadV (acc.map ofP) u).getD 0 : Nat) : Int)) : DataW Unit) = .lit (.int .u8 c) := congrArg Prod.fst hc
  injection hc with hc
  injection hc with _ hc
  rw [hrun, (h.nb u hu).1, hc]
theorem LO.keep {k' : Nat} {u : Vt × Nat} {W2 : World} (h : LO w gc mm cs v acc k D W) (hu : InV (ofP u)) (hm : W'.ownsMap Tryz.prog 95 (plainElem Tryz.prog 5) mm k' (D.put (KVL (ofP u)) (.lit (.int .u8 (u.2 : Int))))) (hg : W.grownBy W' (some mm)) (hb : Below W'.heap.size W' W2) (W3 : World) (ha : Appended W2 w.heap.size 95 5 v (acc.length + 1) (acc.flatMap VC ++ VC u) v' W3) : LO w gc mm cs v' (acc ++ [u]) k' (D.put (KVL (ofP u)) (.lit (.int .u8 (u.2 : Int)))) W3 := by
  have c1 : Ch (fun k => k = mm) W W' := Ch.of_grown hg (fun k hk _ => by injection hk with hk; exact hk.symm)
  have hne := map_row h.mp h.row
  have hgc : gc ≠ mm := fun e => by
    obtain ⟨es, clock, hb2, _⟩ := h.mp
    have h2 := h.kc
    unfold Blk at h2
    rw [e, hb2] at h2
    cases h2
  have hkc := (h.kc.ch c1 hgc).below hb (h.kc.ch c1 hgc).lt
  have hr2 := own_ch (own_ch h.row c1 (fun k hk hx => hne (by rw [hk, hx]))) (Ch.of_below (S := fun _ => False) hb (Nat.le_refl _)) (fun _ _ h => h)
  have hm2 := map_ch hm (Ch.of_below (S := fun _ => False) hb (Nat.le_refl _)) (fun h => h)
  have c3 : Ch (fun k => v.ownBlock = some k) W2 W3 := Ch.of_grown ha.2.1 (fun k hk _ => hk)
  have hb1 : Below w.heap.size w W2 := by
    have := Psv.ch_under h.hb c1 (fun k hk hx => by have := h.mo; omega) (Nat.le_refl _)
    exact this.trans (hb.mono this.size)
  refine ⟨Psv.ch_under hb1 c3 (fun k hk hx => by have := (hr2.lt k hx).1; omega) (Nat.le_refl _), h.mo, h.go, hkc.ch c3 (fun hx => ?_), map_ch hm2 c3 (fun hx => hne hx), ?_, ?_⟩
  . exact own_far hr2 hkc (by decide) hx
  . rw [List.map_append]
    exact h.nb.put h.mp.isMap hu
  . rw [List.length_append, List.flatMap_append, List.flatMap_singleton]
    exact ha.1
end
end Go.Proofs.YtmhmnkpaijoaaaaGreat.Ptj
namespace Go.Proofs.YtmhmnkpaijoaaaaGreat.Ptn
set_option linter.unusedSimpArgs false
open Go Go.RowKit Go.ChangeShapes Go.WideShapes Go.ChangeAt Go.Deep Ck Kf Kp Pm Pe Py Lk Jm Ja Jb Jo Jl Pra Prb Prr Prw Psa Pta Pte Ptj
set_option linter.unusedVariables false
set_option maxRecDepth 100000
section
variable {H : Type} {enc : TypeId × Value -> H}
theorem len_le {w : World} {base fuel : Nat} {A : Option Addr} {n c : Nat} {x : DataW H × List MemPlace} {TS TE : TypeId} (hu : Tryz.prog.underlying TS = some (.slice TE))
    (h : DataW.trod enc Tryz.prog w base (fun _ => true) true fuel TS [.slice A n c] = some x) : n <= Rows.uptoBulk x.1 := by
  rcases open_slice hu h with ⟨hcs, rfl⟩ | ⟨a, len, cap, m, nn, D, Pl, hcs, _, hl, hm, hmm, rfl, hx⟩
  . simp only [List.cons.injEq, Value.slice.injEq, and_true] at hcs
    omega
  . simp only [List.cons.injEq, Value.slice.injEq, and_true] at hcs
    have := Bulk.slice_len (H := H) ((List.range len).map D) ((List.range (m - len)).map fun j => D (len + j))
    simp only [List.length_map, List.length_range] at this
    dsimp only
    omega
theorem cells_u8 : Tryz.prog.cellsOf 5 = 1 := by kernel_rfl
end
end Go.Proofs.YtmhmnkpaijoaaaaGreat.Ptn
namespace Go.Proofs.YtmhmnkpaijoaaaaGreat.Psy
set_option linter.unusedSimpArgs false
open Go Go.RowKit Ck Cf Kw Ga Kf Pm Pe Pg Ik Lk Jm Ja Jb Jf Jl Jn Kc Kj Pra Prb Pre Prn Prr Prv Prw Prx Pry Prz Psa Psb Psr Psu Psv Psx
attribute [local go_sem ↓] Go.wp_at_zero Go.wp_at_succ
set_option linter.unusedVariables false
set_option maxRecDepth 100000
set_option maxHeartbeats 100000000 in
theorem live_any {H : World -> (Nat -> Prop) -> Nat -> List Pd -> Prop} {ok : List Pd -> Pd -> Prop} (HBG : BegunC) (HV : ValidC) (HH : HeldC H ok) (hok : ∀ l, l.length <= 1 -> ok l liveGood) : LiveC := by
  intro w
  have HBG := Lib.hid HBG
  have HV := Lib.hid HV
  have HH := Lib.hid HH
  have HOK := Lib.hid hok
  clear hok
  go_enter Tryz.func9, Tryz.ntmps9
  go_wp2_with fail
  generalize hW1 : (w.alloc (.cells #[.int .i64 0, .int .i64 2, .int .i64 0, .int .i64 1, .int .u8 0, .int .i64 1, .int .i64 3, .int .i64 0, .int .i64 1, .int .u8 0, .int .i64 3, .int .i64 3, .int .i64 0, .int .i64 1, .int .u8 0] 95)).alloc (.cells #[.int .i64 1, .slice none 0 0, .slice (some ⟨w.heap.size, 0, none⟩) 3 3, .slice none 0 0, .int .i64 0, .int .i64 0] 26) = W1 at *
  have hb1 : Below w.heap.size w W1 := by
    rw [<- hW1]
    exact ((Below.refl _ w).alloc (Nat.le_refl _) _).alloc (by simp) _
  have hkv : Blk W1 w.heap.size 95 #[.int .i64 0, .int .i64 2, .int .i64 0, .int .i64 1, .int .u8 0, .int .i64 1, .int .i64 3, .int .i64 0, .int .i64 1, .int .u8 0, .int .i64 3, .int .i64 3, .int .i64 0, .int .i64 1, .int .u8 0] := by
    rw [<- hW1]
    exact (Blk.new w _ _).alloc _
  have hci : CI W1 1 (.slice none 0 0) (.slice (some ⟨w.heap.size, 0, none⟩) 3 3) (.slice none 0 0) 0 0 [] liveVs := by
    refine ⟨⟨[], rfl, Sl.nil _ _ _, fun i h => absurd h (by simp)⟩, ?_, fun qs h => by simp at h, by simp, by simp [liveVs], fun v hv => by simp [liveVs] at hv; rcases hv with rfl | rfl | rfl <;> decide⟩
    exact blk_sl (n := 3) hkv (by have := hkv.lt; omega) rfl (by simp only [maxLen]; omega)
  have HBC := Lib.hid (HBG.out W1 1 0 0 _ _ _ _ _ hci)
  have HB1 := Lib.hid hb1
  clear hb1 hkv hci hW1 HBG
  refine HBC.out.mono ?_
  rintro e w2 ⟨hb2, q, p, g, p', g', vb, vd, vs, rfl, hs2⟩
  have HB2 := Lib.hid (HB1.out.trans (hb2.mono HB1.out.size))
  have HS2 : Hid (AtS w2 w2.heap.size q p g p' g' liveB liveV vb vd vs) := Lib.hid hs2
  clear hb2 hs2 HB1 HBC
  go_wp2_with fail
  have hbx : Below w2.heap.size w2 (w2.alloc (.cells #[.int .u8 2, .int .u8 3] 5)) := (Below.refl _ w2).alloc (Nat.le_refl _) _
  have hkx : Blk (w2.alloc (.cells #[.int .u8 2, .int .u8 3] 5)) w2.heap.size 5 #[.int .u8 2, .int .u8 3] := Blk.new w2 _ _
  have HM1 := Lib.hid (made_any (w2.alloc (.cells #[.int .u8 2, .int .u8 3] 5)) w2.heap.size q p g p' g' liveB liveV vb vd vs ⟨0, 1, 0, 0, 1, [2, 3]⟩ (fun _ => False) (some ⟨w2.heap.size, 0, none⟩) 2 [2, 3] (HS2.out.later hbx) (blk_sl (n := 2) hkx (fun h => h) rfl (by simp only [maxLen]; omega)) rfl (by decide) (by decide) (by rw [live_bs]; decide) (by rw [live_bs, live_ds]; rfl) (by rw [live_ss]; decide) (by rw [live_bs]; decide) (by rw [live_ss]; decide) (by decide))
  rw [live_made] at HM1
  have HBX := Lib.hid hbx
  clear hbx hkx
  refine HM1.out.mono ?_
  rintro e w3 ⟨r1, rfl, hb3, hp1⟩
  have HB3 := Lib.hid (HBX.out.trans (hb3.mono HBX.out.size))
  have HP1 := Lib.hid (pi_far hp1)
  clear hb3 hp1 HBX HM1
  unfold PC liveGood
  go_wp2_with fail
  have hk1 : Blk (w3.alloc (.cells #[.int .i64 0, .int .i64 1, .int .i64 1, .int .i64 0, .int .i64 2, .slice r1.1.1 2 r1.1.2, .slice r1.2.1 0 r1.2.2] 41)) w3.heap.size 41 (PC liveGood r1) := Blk.new w3 _ _
  have hb4 : Below w3.heap.size w3 (w3.alloc (.cells #[.int .i64 0, .int .i64 1, .int .i64 1, .int .i64 0, .int .i64 2, .slice r1.1.1 2 r1.1.2, .slice r1.2.1 0 r1.2.2] 41)) := (Below.refl _ w3).alloc (Nat.le_refl _) _
  have hz4 : (w3.alloc (.cells #[.int .i64 0, .int .i64 1, .int .i64 1, .int .i64 0, .int .i64 2, .slice r1.1.1 2 r1.1.2, .slice r1.2.1 0 r1.2.2] 41)).heap.size = w3.heap.size + 1 := by simp
  generalize w3.alloc (.cells #[.int .i64 0, .int .i64 1, .int .i64 1, .int .i64 0, .int .i64 2, .slice r1.1.1 2 r1.1.2, .slice r1.2.1 0 r1.2.2] 41) = w4 at *
  rw [<- hz4]
  have HK1 := Lib.hid hk1
  have HB4 := Lib.hid (HB3.out.trans (hb4.mono HB3.out.size))
  have HP4 := Lib.hid (HP1.out.after hb4)
  have HZ4 : Hid (w3.heap.size < w4.heap.size) := Lib.hid (by omega)
  clear hk1 hb4 hz4 HP1
  generalize w3.heap.size = b1 at *
  have hbx : Below w4.heap.size w4 (w4.alloc (.cells #[.int .u8 2] 5)) := (Below.refl _ w4).alloc (Nat.le_refl _) _
  have hkx : Blk (w4.alloc (.cells #[.int .u8 2] 5)) w4.heap.size 5 #[.int .u8 2] := Blk.new w4 _ _
  have HM1 := Lib.hid (made_any (w4.alloc (.cells #[.int .u8 2] 5)) w2.heap.size q p g p' g' liveB liveV vb vd vs ⟨0, 1, 0, 0, 1, [2]⟩ (fun _ => False) (some ⟨w4.heap.size, 0, none⟩) 1 [2] ((HS2.out.later HB4.out).later hbx) (blk_sl (n := 1) hkx (fun h => h) rfl (by simp only [maxLen]; omega)) rfl (by decide) (by decide) (by rw [live_bs]; decide) (by rw [live_bs, live_ds]; rfl) (by rw [live_ss]; decide) (by rw [live_bs]; decide) (by rw [live_ss]; decide) (by decide))
  rw [live_made2] at HM1
  have HBX := Lib.hid hbx
  clear hbx hkx
  refine HM1.out.mono ?_
  rintro e w5 ⟨r2, rfl, hb5, hp5⟩
  have HB45 := Lib.hid (HBX.out.trans (hb5.mono HBX.out.size))
  have HP5 := Lib.hid (pi_far hp5)
  clear hb5 hp5 HBX HM1
  unfold PC liveBad
  go_wp2_with fail
  have hk2 : Blk (w5.alloc (.cells #[.int .i64 0, .int .i64 1, .int .i64 1, .int .i64 0, .int .i64 2, .slice r2.1.1 1 r2.1.2, .slice r2.2.1 0 r2.2.2] 41)) w5.heap.size 41 (PC liveBad r2) := Blk.new w5 _ _
  have hb6 : Below w5.heap.size w5 (w5.alloc (.cells #[.int .i64 0, .int .i64 1, .int .i64 1, .int .i64 0, .int .i64 2, .slice r2.1.1 1 r2.1.2, .slice r2.2.1 0 r2.2.2] 41)) := (Below.refl _ w5).alloc (Nat.le_refl _) _
  generalize w5.alloc (.cells #[.int .i64 0, .int .i64 1, .int .i64 1, .int .i64 0, .int .i64 2, .slice r2.1.1 1 r2.1.2, .slice r2.2.1 0 r2.2.2] 41) = w6 at *
  have hb46 : Below w4.heap.size w4 w6 := HB45.out.trans (hb6.mono HB45.out.size)
  have h46 := hb46.size
  have hkl := hk2.lt
  have HLV : Hid (LV w6.heap.size w2.heap.size q p g p' g' vb vd vs b1 w5.heap.size r1 r2 w6) := Lib.hid ⟨(HS2.out.later HB4.out).later hb46, HK1.out.below hb46 HK1.out.lt, hk2, ⟨Psu.sl_under (HP4.out.after hb46).1, Psu.bi_under (HP4.out.after hb46).2⟩, ⟨Psu.sl_under (HP5.out.after hb6).1, Psu.bi_under (HP5.out.after hb6).2⟩, by have := HZ4.out; omega, hkl, Nat.le_trans HB4.out.size h46⟩
  have HB6 : Hid (Below w.heap.size w w6) := Lib.hid (HB2.out.trans ((HB4.out.trans (hb46.mono HB4.out.size)).mono HB2.out.size))
  clear hk2 hb6 hb46 h46 hkl HB45 HB4 HB2 HB3 HP4 HP5 HK1 HZ4 HS2
  generalize w5.heap.size = b2 at *
  generalize w2.heap.size = B at *
  refine (HH.out.new w6).mono ?_
  rintro e w7 ⟨gh, rfl, hh7, hb7⟩
  have HL7 := Lib.hid (HLV.out.later hb7)
  have HB7 := Lib.hid (HB6.out.trans (hb7.mono HB6.out.size))
  have HH7 : Hid (H w7 (fun k => w6.heap.size <= k) gh []) := Lib.hid (HH.out.weaken hh7 (fun k _ hk => hk.1))
  have hs67 := hb7.size
  have HW6 : Hid (w.heap.size <= w6.heap.size) := Lib.hid HB6.out.size
  clear hh7 hb7 HLV HB6
  have HN7 : Hid (w6.heap.size <= w7.heap.size) := Lib.hid hs67
  have HLH : Hid (LV w6.heap.size B q p g p' g' vb vd vs b1 b2 r1 r2 w7 /\ H w7 (fun k => w6.heap.size <= k) gh [] /\ w6.heap.size <= w7.heap.size /\ Below w.heap.size w w7) := Lib.hid ⟨HL7.out, HH7.out, HN7.out, HB7.out⟩
  have HBL : Hid (∀ W W' l, (LV w6.heap.size B q p g p' g' vb vd vs b1 b2 r1 r2 W /\ H W (fun k => w6.heap.size <= k) gh l /\ w6.heap.size <= W.heap.size /\ Below w.heap.size w W) -> Below W.heap.size W W' -> (LV w6.heap.size B q p g p' g' vb vd vs b1 b2 r1 r2 W' /\ H W' (fun k => w6.heap.size <= k) gh l /\ w6.heap.size <= W'.heap.size /\ Below w.heap.size w W')) := Lib.hid (fun W W' l h b => ⟨h.1.later b, HH.out.ch h.2.1 (Ch.of_below (S := fun _ => False) b (Nat.le_refl _)) (fun _ _ h => h), Nat.le_trans h.2.2.1 b.size, h.2.2.2.trans (b.mono h.2.2.2.size)⟩)
  have HBP : Hid (∀ W W' l, (LV w6.heap.size B q p g p' g' vb vd vs b1 b2 r1 r2 W /\ w6.heap.size <= W.heap.size /\ Below w.heap.size w W) -> H W' (Nw (fun k => w6.heap.size <= k) W.heap.size W'.heap.size) gh l -> Ch (fun k => w6.heap.size <= k) W W' -> (LV w6.heap.size B q p g p' g' vb vd vs b1 b2 r1 r2 W' /\ H W' (fun k => w6.heap.size <= k) gh l /\ w6.heap.size <= W'.heap.size /\ Below w.heap.size w W')) := Lib.hid (fun W W' l h hh cc => ⟨h.1.ch cc, HH.out.weaken hh (fun k _ hk => by
    rcases hk with hk | hk
    . exact hk
    . have := h.2.1; omega), Nat.le_trans h.2.1 cc.size, h.2.2.trans (cc.below (fun k hk hx => by have := HW6.out; omega) h.2.2.size)⟩)
  have HVG : Hid (∀ W l, (LV w6.heap.size B q p g p' g' vb vd vs b1 b2 r1 r2 W /\ H W (fun k => w6.heap.size <= k) gh l /\ w6.heap.size <= W.heap.size /\ Below w.heap.size w W) -> Calls Tryz.prog 12 #[.pointer (some ⟨p, 0, none⟩), .pointer (some ⟨g, 0, none⟩), .int .i64 1, .agg #[.int .i64 0, .int .i64 1, .int .i64 1, .int .i64 0, .int .i64 2, .slice r1.1.1 2 r1.1.2, .slice r1.2.1 0 r1.2.2]] W fun e w' => e = .returned (.bool true) /\ (LV w6.heap.size B q p g p' g' vb vd vs b1 b2 r1 r2 w' /\ H w' (fun k => w6.heap.size <= k) gh l /\ w6.heap.size <= w'.heap.size /\ Below w.heap.size w w')) := Lib.hid (fun W l h => by
    refine (HV.out W _ _ p g liveV.L liveV.G 1 liveGood r1 h.1.hs.tl h.1.p1 ⟨by decide, by decide, by decide⟩ (by rw [live_G]; decide)).mono ?_
    rintro e w' ⟨rfl, hb⟩
    exact ⟨by rw [live_good], HBL.out _ _ _ h hb⟩)
  have HVB : Hid (∀ W l, (LV w6.heap.size B q p g p' g' vb vd vs b1 b2 r1 r2 W /\ H W (fun k => w6.heap.size <= k) gh l /\ w6.heap.size <= W.heap.size /\ Below w.heap.size w W) -> Calls Tryz.prog 12 #[.pointer (some ⟨p, 0, none⟩), .pointer (some ⟨g, 0, none⟩), .int .i64 1, .agg #[.int .i64 0, .int .i64 1, .int .i64 1, .int .i64 0, .int .i64 2, .slice r2.1.1 1 r2.1.2, .slice r2.2.1 0 r2.2.2]] W fun e w' => e = .returned (.bool false) /\ (LV w6.heap.size B q p g p' g' vb vd vs b1 b2 r1 r2 w' /\ H w' (fun k => w6.heap.size <= k) gh l /\ w6.heap.size <= w'.heap.size /\ Below w.heap.size w w')) := Lib.hid (fun W l h => by
    refine (HV.out W _ _ p g liveV.L liveV.G 1 liveBad r2 h.1.hs.tl h.1.p2 ⟨by decide, by decide, by decide⟩ (by rw [live_G]; decide)).mono ?_
    rintro e w' ⟨rfl, hb⟩
    exact ⟨by rw [live_bad], HBL.out _ _ _ h hb⟩)
  have HP1 : Hid (∀ W, (LV w6.heap.size B q p g p' g' vb vd vs b1 b2 r1 r2 W /\ H W (fun k => w6.heap.size <= k) gh [] /\ w6.heap.size <= W.heap.size /\ Below w.heap.size w W) -> Calls Tryz.prog 21 #[.pointer (some ⟨gh, 0, none⟩), .agg #[.int .i64 0, .int .i64 1, .int .i64 1, .int .i64 0, .int .i64 2, .slice r1.1.1 2 r1.1.2, .slice r1.2.1 0 r1.2.2]] W fun e w' => e = .returned (.bool true) /\ (LV w6.heap.size B q p g p' g' vb vd vs b1 b2 r1 r2 w' /\ H w' (fun k => w6.heap.size <= k) gh [liveGood] /\ w6.heap.size <= w'.heap.size /\ Below w.heap.size w w')) := Lib.hid (fun W h => by
    refine (HH.out.put W _ _ gh [] liveGood r1 h.2.1 h.1.p1 (HOK.out _ (by decide))).mono ?_
    rintro e w' ⟨rfl, hh, cc⟩
    rw [live_put] at hh
    exact ⟨by rw [live_put], HBP.out _ _ _ ⟨h.1, h.2.2⟩ hh cc⟩)
  have HP2 : Hid (∀ W, (LV w6.heap.size B q p g p' g' vb vd vs b1 b2 r1 r2 W /\ H W (fun k => w6.heap.size <= k) gh [liveGood] /\ w6.heap.size <= W.heap.size /\ Below w.heap.size w W) -> Calls Tryz.prog 21 #[.pointer (some ⟨gh, 0, none⟩), .agg #[.int .i64 0, .int .i64 1, .int .i64 1, .int .i64 0, .int .i64 2, .slice r1.1.1 2 r1.1.2, .slice r1.2.1 0 r1.2.2]] W fun e w' => e = .returned (.bool false) /\ (LV w6.heap.size B q p g p' g' vb vd vs b1 b2 r1 r2 w' /\ H w' (fun k => w6.heap.size <= k) gh [liveGood] /\ w6.heap.size <= w'.heap.size /\ Below w.heap.size w w')) := Lib.hid (fun W h => by
    refine (HH.out.put W _ _ gh [liveGood] liveGood r1 h.2.1 h.1.p1 (HOK.out _ (by decide))).mono ?_
    rintro e w' ⟨rfl, hh, cc⟩
    rw [live_put2] at hh
    exact ⟨by rw [live_put2], HBP.out _ _ _ ⟨h.1, h.2.2⟩ hh cc⟩)
  have HLN : Hid (∀ W, (LV w6.heap.size B q p g p' g' vb vd vs b1 b2 r1 r2 W /\ H W (fun k => w6.heap.size <= k) gh [liveGood] /\ w6.heap.size <= W.heap.size /\ Below w.heap.size w W) -> Calls Tryz.prog 28 #[.pointer (some ⟨gh, 0, none⟩)] W fun e w' => e = .returned (.int .i64 1) /\ (LV w6.heap.size B q p g p' g' vb vd vs b1 b2 r1 r2 w' /\ H w' (fun k => w6.heap.size <= k) gh [liveGood] /\ w6.heap.size <= w'.heap.size /\ Below w.heap.size w w')) := Lib.hid (fun W h => by
    refine (HH.out.len W _ gh [liveGood] h.2.1).mono ?_
    rintro e w' ⟨rfl, hb⟩
    exact ⟨rfl, HBL.out _ _ _ h hb⟩)
  clear HBP HV HH HOK HL7 HH7 HN7 hs67
  have HCL : Hid (∀ W, LV w6.heap.size B q p g p' g' vb vd vs b1 b2 r1 r2 W -> (W.cell? ⟨q, 0, none⟩ = some (.pointer (some ⟨p, 0, none⟩)) /\ W.cell? ⟨q, 1, none⟩ = some (.pointer (some ⟨g, 0, none⟩)) /\ W.cell? ⟨b1, 0, none⟩ = some (.int .i64 0) /\ W.cell? ⟨b1, 1, none⟩ = some (.int .i64 1) /\ W.cell? ⟨b1, 2, none⟩ = some (.int .i64 1) /\ W.cell? ⟨b1, 3, none⟩ = some (.int .i64 0) /\ W.cell? ⟨b1, 4, none⟩ = some (.int .i64 2) /\ W.cell? ⟨b1, 5, none⟩ = some (.slice r1.1.1 2 r1.1.2) /\ W.cell? ⟨b1, 6, none⟩ = some (.slice r1.2.1 0 r1.2.2) /\ W.cell? ⟨b2, 0, none⟩ = some (.int .i64 0) /\ W.cell? ⟨b2, 1, none⟩ = some (.int .i64 1) /\ W.cell? ⟨b2, 2, none⟩ = some (.int .i64 1) /\ W.cell? ⟨b2, 3, none⟩ = some (.int .i64 0) /\ W.cell? ⟨b2, 4, none⟩ = some (.int .i64 2) /\ W.cell? ⟨b2, 5, none⟩ = some (.slice r2.1.1 1 r2.1.2) /\ W.cell? ⟨b2, 6, none⟩ = some (.slice r2.2.1 0 r2.2.2))) := Lib.hid (fun W h => by
    obtain ⟨⟨q0, q1⟩, ⟨a0, a1, a2, a3, a4, a5, a6⟩, ⟨d0, d1, d2, d3, d4, d5, d6⟩⟩ := h.cells
    exact ⟨q0, q1, a0, a1, a2, a3, a4, a5, a6, d0, d1, d2, d3, d4, d5, d6⟩)
  have HL8 : Hid (LV w6.heap.size B q p g p' g' vb vd vs b1 b2 r1 r2 w7.drew /\ H w7.drew (fun k => w6.heap.size <= k) gh [] /\ w6.heap.size <= w7.drew.heap.size /\ Below w.heap.size w w7.drew) := Lib.hid (HBL.out _ w7.drew _ HLH.out (below_drewN (Below.refl _ _) 1))
  have C8 := HCL.out _ HL8.out.1
  go_upto_region 6 with fail
  go_region_held3 (fun w' => w'.cell? ⟨q, 0, none⟩ = some (.pointer (some ⟨p, 0, none⟩)) /\ w'.cell? ⟨q, 1, none⟩ = some (.pointer (some ⟨g, 0, none⟩)) /\ w'.cell? ⟨b1, 0, none⟩ = some (.int .i64 0) /\ w'.cell? ⟨b1, 1, none⟩ = some (.int .i64 1) /\ w'.cell? ⟨b1, 2, none⟩ = some (.int .i64 1) /\ w'.cell? ⟨b1, 3, none⟩ = some (.int .i64 0) /\ w'.cell? ⟨b1, 4, none⟩ = some (.int .i64 2) /\ w'.cell? ⟨b1, 5, none⟩ = some (.slice r1.1.1 2 r1.1.2) /\ w'.cell? ⟨b1, 6, none⟩ = some (.slice r1.2.1 0 r1.2.2) /\ w'.cell? ⟨b2, 0, none⟩ = some (.int .i64 0) /\ w'.cell? ⟨b2, 1, none⟩ = some (.int .i64 1) /\ w'.cell? ⟨b2, 2, none⟩ = some (.int .i64 1) /\ w'.cell? ⟨b2, 3, none⟩ = some (.int .i64 0) /\ w'.cell? ⟨b2, 4, none⟩ = some (.int .i64 2) /\ w'.cell? ⟨b2, 5, none⟩ = some (.slice r2.1.1 1 r2.1.2) /\ w'.cell? ⟨b2, 6, none⟩ = some (.slice r2.2.1 0 r2.2.2))
    (first | with_reducible exact C8 | with_reducible exact C9 | with_reducible exact C10 | with_reducible exact C11 | with_reducible exact C12 | with_reducible exact C13 | (go_keep; done))
    (first
    | (go_at_call 28; refine (HLN.out _ HL12.out).mono ?_; rintro e w12 ⟨rfl, hl⟩; have HL13 := Lib.hid hl; have C13 := HCL.out _ hl.1; clear hl)
    | (go_at_call 21; refine (HP2.out _ HL11.out).mono ?_; rintro e w11 ⟨rfl, hl⟩; have HL12 := Lib.hid hl; have C12 := HCL.out _ hl.1; clear hl)
    | (go_at_call 21; refine (HP1.out _ HL10.out).mono ?_; rintro e w10 ⟨rfl, hl⟩; have HL11 := Lib.hid hl; have C11 := HCL.out _ hl.1; clear hl)
    | (go_at_call 12; refine (HVB.out _ _ HL9.out).mono ?_; rintro e w9 ⟨rfl, hl⟩; have HL10 := Lib.hid hl; have C10 := HCL.out _ hl.1; clear hl)
    | (go_at_call 12; refine (HVG.out _ _ HL8.out).mono ?_; rintro e w8 ⟨rfl, hl⟩; have HL9 := Lib.hid hl; have C9 := HCL.out _ hl.1; clear hl))
  all_goals
    go_wp2_with fail
    go_ret
    exact ⟨rfl, HL13.out.2.2.2⟩
end Go.Proofs.YtmhmnkpaijoaaaaGreat.Psy
namespace Go.Proofs.YtmhmnkpaijoaaaaGreat.Pst
set_option linter.unusedSimpArgs false
open Go Go.RowKit Ck Kw Ga Kf Pm Pe Pg Ik Lk Jm Ja Jb Jc Jf Jg Jh Jl Jn Kc Kj Prv Prw Prx Pry Prz Psa Psb Psd Pss
open Im (num isIn add sum)
set_option linter.unusedVariables false
section
variable {w w' : World} {S T : Nat -> Prop} {p g : Nat} {L L' : List (List UInt8)} {G G' : List Sg}
theorem TL.callT {P : Program} {f : FuncId} {args : Array Value} {r : Ending} (h : TL w S p g L G) (hc : ∀ S1, Tb w S1 p L -> Calls P f args w fun e w' => e = r /\ Tb w' (Up S1 w w') p L' /\ Ch S1 w w') : Calls P f args w fun e w' => e = r /\ TL w' (Nw S w.heap.size w'.heap.size) p g L' G /\ Ch S w w' := by
  obtain ⟨S1, S2, h1, h2, h3, h4, h5⟩ := h
  refine (hc S1 h1).mono ?_
  rintro e w' ⟨he, q1, q2⟩
  have hs := q2.size
  refine ⟨he, ⟨Up S1 w w', S2, q1, h2.ch q2 (fun k hk hx => h3 k hx hk), ?_, ?_, ?_⟩, q2.mono (fun k _ hk => (h4 k hk).1)⟩
  . rintro k (hk | hk) hk2
    . exact h3 k hk hk2
    . have := (h5 k hk2).2; omega
  . rintro k (hk | hk)
    . exact ⟨.inl (h4 k hk).1, by have := (h4 k hk).2; omega⟩
    . exact ⟨.inr hk, hk.2⟩
  . intro k hk
    exact ⟨.inl (h5 k hk).1, by have := (h5 k hk).2; omega⟩
theorem TL.callG {P : Program} {f : FuncId} {args : Array Value} {r : Ending} (h : TL w S p g L G) (hc : ∀ S2, Lg w S2 g G -> Calls P f args w fun e w' => e = r /\ Lg w' (Up S2 w w') g G' /\ Ch S2 w w') : Calls P f args w fun e w' => e = r /\ TL w' (Nw S w.heap.size w'.heap.size) p g L G' /\ Ch S w w' := by
  obtain ⟨S1, S2, h1, h2, h3, h4, h5⟩ := h
  refine (hc S2 h2).mono ?_
  rintro e w' ⟨he, q1, q2⟩
  have hs := q2.size
  refine ⟨he, ⟨S1, Up S2 w w', h1.ch q2 (fun k hk hx => h3 k hk hx), q1, ?_, ?_, ?_⟩, q2.mono (fun k _ hk => (h5 k hk).1)⟩
  . rintro k hk2 (hk | hk)
    . exact h3 k hk2 hk
    . have := (h4 k hk2).2; omega
  . intro k hk
    exact ⟨.inl (h4 k hk).1, by have := (h4 k hk).2; omega⟩
  . rintro k (hk | hk)
    . exact ⟨.inl (h5 k hk).1, by have := (h5 k hk).2; omega⟩
    . exact ⟨.inr hk, hk.2⟩
end
structure KF (w0 : World) (q p g p' g' : Nat) (L1 : List (List UInt8)) (G1 : List Sg) (L : List (List UInt8)) (G : List Sg) (bs : List (List Sd)) (ds : List Int) (ss : List Sg) (vb vd vs : Value) (vals : List Value) (vq : Value) (lq : List Value) (lv lg : Value) (c : Nat -> Nat) (W : World) : Prop where
  bg : BG 0 w0 q p g p' g' L1 G1 L G bs ds ss vb vd vs (.slice none 0 0) [] vals [] (SB p g p' g' vb vd vs) vq lq c W
  ls : Ls W (fun k => c k ≠ 2) lv L
  gs : Sl W (fun k => c k ≠ 2) 2 lg G.length (GVs G)
  kp : Blk W p' 58 #[lv]
  kg : Blk W g' 60 #[lg]
  hl : ∀ l ∈ L, l.length <= 140737488355328
  cp : c p' = 2
  cg : c g' = 2
section
variable {w0 W W' : World} {q p g p' g' : Nat} {L1 L : List (List UInt8)} {G1 G : List Sg} {bs : List (List Sd)} {ds : List Int} {ss : List Sg} {vb vd vs : Value} {vals : List Value} {vq : Value} {lq : List Value} {lv lg : Value} {c : Nat -> Nat}
theorem KF.start (h : BG 0 w0 q p g p' g' L1 G1 L G bs ds ss vb vd vs (.slice none 0 0) [] vals [] (SB p g p' g' vb vd vs) vq lq c W) : ∃ lv lg, KF w0 q p g p' g' L1 G1 L G bs ds ss vb vd vs vals vq lq lv lg c W := by
  obtain ⟨S1, S2, ⟨lv, a1, a2, a3, a4, a5⟩, ⟨lg, b1, b2, b3⟩, h3, h4, h5⟩ := h.rt
  exact ⟨lv, lg, h, a3.weaken (fun k hk hc => .inl (fun hs => hc (h4 k hs).1)), b3.weaken (fun k hk hc => .inl (fun hs => hc (h5 k hs).1)), a1, b1, a4, (h4 _ a2).1, (h5 _ b2).1⟩
theorem KF.later (h : KF w0 q p g p' g' L1 G1 L G bs ds ss vb vd vs vals vq lq lv lg c W) (b : Below W.heap.size W W') : KF w0 q p g p' g' L1 G1 L G bs ds ss vb vd vs vals vq lq lv lg c W' :=
  ⟨h.bg.later b, h.ls.after b, h.gs.after b, h.kp.below b h.kp.lt, h.kg.below b h.kg.lt, h.hl, h.cp, h.cg⟩
theorem ls_apart {v : Value} {ls : List (List UInt8)} (hc : Hue W c) (h : Ls W (fun k => c k ≠ 2) v ls) (cc : Ch (fun k => c k = 1) W W') : Ls W' (fun k => paint c 1 W.heap.size W'.heap.size k ≠ 2) v ls :=
  (h.ch cc (fun k _ hk => by rw [hk]; decide)).weaken (fun k hk hx => by
    by_cases hl : k < W.heap.size
    . rwa [paint_old hl] at hx
    . rw [hc k (by omega)]; decide)
theorem sl_apart {v : Value} {n : Nat} {xs : List Value} (hc : Hue W c) (h : Sl W (fun k => c k ≠ 2) 2 v n xs) (cc : Ch (fun k => c k = 1) W W') : Sl W' (fun k => paint c 1 W.heap.size W'.heap.size k ≠ 2) 2 v n xs :=
  (h.ch cc (fun k _ hk => by rw [hk]; decide)).weaken (fun k hk hx => by
    by_cases hl : k < W.heap.size
    . rwa [paint_old hl] at hx
    . rw [hc k (by omega)]; decide)
theorem KF.own {L1' : List (List UInt8)} {G1' : List Sg} (h : KF w0 q p g p' g' L1 G1 L G bs ds ss vb vd vs vals vq lq lv lg c W) (t : TL W' (Nw (fun k => c k = 1) W.heap.size W'.heap.size) p g L1' G1') (cc : Ch (fun k => c k = 1) W W') : KF w0 q p g p' g' L1' G1' L G bs ds ss vb vd vs vals vq lq lv lg (paint c 1 W.heap.size W'.heap.size) W' :=
  ⟨h.bg.own t cc, ls_apart h.bg.hue h.ls cc, sl_apart h.bg.hue h.gs cc, h.kp.ch cc (fun hx => by have := h.cp; omega), h.kg.ch cc (fun hx => by have := h.cg; omega), h.hl, (paint_old h.kp.lt).trans h.cp, (paint_old h.kg.lt).trans h.cg⟩
theorem KF.sum {X : Nat -> Prop} {A : Option Addr} {n : Nat} {b : List UInt8} (h : KF w0 q p g p' g' L1 G1 L G bs ds ss vb vd vs vals vq lq lv lg c W) (hu : Sl W X 1 (.slice A b.length n) b.length (BVs b)) (hb : b.length <= 140737488355328) :
    Calls Tryz.prog 43 #[.pointer (some ⟨p, 0, none⟩), .slice A b.length n] W fun e w' => e = .returned (.int .i64 (sum L1 b : Int)) /\ KF w0 q p g p' g' (add L1 b) G1 L G bs ds ss vb vd vs vals vq lq lv lg (paint c 1 W.heap.size w'.heap.size) w' /\ Ch (fun k => c k = 1) W w' := by
  refine (TL.callT h.bg.tl (fun S1 ht => (Ib.sum_yes W S1 X p L1 A n b ht hu hb).mono (fun e w' hx => hx))).mono ?_
  rintro e w' ⟨he, ht, hc⟩
  exact ⟨he, h.own ht hc, hc⟩
theorem KF.sign {s : Sg} (h : KF w0 q p g p' g' L1 G1 L G bs ds ss vb vd vs vals vq lq lv lg c W) (hs : wfS s) (hG : (G1.length + 1) * 16 <= 140737488355328) :
    Calls Tryz.prog 44 #[.pointer (some ⟨g, 0, none⟩), .int .i64 s.1, .int .i64 s.2] W fun e w' => e = .returned (.tuple #[GV (ans s), .int .i64 (code s)]) /\ KF w0 q p g p' g' L1 (pay G1 s) L G bs ds ss vb vd vs vals vq lq lv lg (paint c 1 W.heap.size w'.heap.size) w' /\ Ch (fun k => c k = 1) W w' := by
  refine (TL.callG h.bg.tl (fun S2 ht => (Lc.sign_any W S2 g G1 s hs ht hG).mono (fun e w' hx => hx))).mono ?_
  rintro e w' ⟨he, ht, hc⟩
  exact ⟨he, h.own ht hc, hc⟩
end
end Go.Proofs.YtmhmnkpaijoaaaaGreat.Pst

import Derived.Maps.OwnSet
import Derived.Maps.Views
import Derived.Maps.RangeWalk
import Derived.Deep.Quiet
import Derived.Deep.QuietTactic
import Derived.BigQuiet
import Derived.Test.YtmhmnkpaijoaaaaGreatS06
namespace Go.Proofs.YtmhmnkpaijoaaaaGreat.Ptp
set_option linter.unusedSimpArgs false
open Go Go.RowKit Ck Cf Kw Ga Kf Pm Pe Pg Ik Lk Jm Ja Jb Jf Jl Jn Kc Kj Pra Prb Pre Prn Prr Prv Prw Prx Pry Prz Psa Psb Psr Psu Psv Psx Pta Ptd Pte
attribute [local go_sem ↓] Go.wp_at_zero Go.wp_at_succ
set_option linter.unusedVariables false
set_option maxRecDepth 100000
def ZH : Array Value := #[.map none]
def NH (W : World) (v : Value) : Prop := v = .pointer none \/ ∃ g, v = .pointer (some ⟨g, 0, none⟩) /\ Blk W g 101 ZH
structure NoneC : Prop where
  get : ∀ (W : World) (v : Value) (n : Int), NH W v -> Calls Tryz.prog 23 #[v, .int .i64 n] W fun e w' => e = .returned (.tuple #[.agg #[.int .i64 0, .int .i64 0, .int .i64 0, .int .i64 0, .int .i64 0, .slice none 0 0, .slice none 0 0], .bool false]) /\ Below W.heap.size W w'
  slide : ∀ (W : World) (v : Value) (n : Int), NH W v -> Calls Tryz.prog 19 #[v, .int .i64 n] W fun e w' => e = .returned (.tuple #[]) /\ Below W.heap.size W w'
  put : ∀ (W : World) (v : Value) (X : Nat -> Prop) (x : Pd) (r : Pl2), NH W v -> PI W X x r -> Calls Tryz.prog 21 #[v, .agg (PC x r)] W fun e w' => e = .returned (.bool false) /\ Below W.heap.size W w'
  all : ∀ (W : World) (v : Value), NH W v -> Calls Tryz.prog 27 #[v] W fun e w' => ∃ A c, e = .returned (.slice A 0 c) /\ Below W.heap.size W w'
  len : ∀ (W : World) (v : Value), NH W v -> Calls Tryz.prog 28 #[v] W fun e w' => e = .returned (.int .i64 0) /\ Below W.heap.size W w'
  clone : ∀ (W : World) (v : Value), NH W v -> Calls Tryz.prog 29 #[v] W fun e w' => e = .returned (.pointer none) /\ Below W.heap.size W w'
  noT : ∀ (W : World) (S X : Nat -> Prop) (g : Nat) (f : Int) (x : Pd) (r : Pl2), Lk.Lg W S g [] -> PI W X x r -> okP x -> Calls Tryz.prog 12 #[.pointer none, .pointer (some ⟨g, 0, none⟩), .int .i64 f, .agg (PC x r)] W fun e w' => e = .returned (.bool false) /\ Below W.heap.size W w'
  noL : ∀ (W : World) (S X : Nat -> Prop) (p : Nat) (f : Int) (x : Pd) (r : Pl2), Ik.Tb W S p [] -> PI W X x r -> okP x -> Calls Tryz.prog 12 #[.pointer (some ⟨p, 0, none⟩), .pointer none, .int .i64 f, .agg (PC x r)] W fun e w' => e = .returned (.bool false) /\ Below W.heap.size W w'
def OwnC (H : World -> (Nat -> Prop) -> Nat -> List Pd -> Prop) : Prop := ∀ (w : World) (S : Nat -> Prop) (g : Nat) (l : List Pd) (n : Int) (x : Pd), H w S g l -> getP l n = some x ->
    Calls Tryz.prog 23 #[.pointer (some ⟨g, 0, none⟩), .int .i64 n] w fun e w' => ∃ r, e = .returned (.tuple #[.agg (PC x r), .bool true]) /\ SS w' (fun k => k < w.heap.size) (.slice r.1.1 x.signs.length r.1.2) x.signs /\ (∀ ad, r.1.1 = some ad -> w'.frozen? ad = false) /\ Below w.heap.size w w'
structure NS (w : World) (gp gz gs : Nat) (x : Pd) (r : Pl2) (W : World) : Prop where
  hb : Below w.heap.size w W
  kp : Blk W gp 41 (PC x r)
  kz : Blk W gz 101 ZH
  ks : Blk W gs 63 #[.pointer none, .pointer (some ⟨gz, 0, none⟩)]
  pi : PI W (fun k => w.heap.size <= k) x r
theorem NS.later {w W W' : World} {gp gz gs : Nat} {x : Pd} {r : Pl2} (h : NS w gp gz gs x r W) (b : Below W.heap.size W W') : NS w gp gz gs x r W' :=
  ⟨h.hb.trans (b.mono h.hb.size), h.kp.below b h.kp.lt, h.kz.below b h.kz.lt, h.ks.below b h.ks.lt, h.pi.after b⟩
end Go.Proofs.YtmhmnkpaijoaaaaGreat.Ptp
namespace Go.Proofs.YtmhmnkpaijoaaaaGreat.Pth
set_option linter.unusedSimpArgs false
open Go Go.RowKit Ck Cf Kw Ga Kf Pm Pe Pg Ik Lk Jm Ja Jb Jf Jg Jl Jn Kc Kj Pra Prb Prc Prd Pre Prf Prn Prr Prx Psg Psh Psx Pta Ptd Pte
set_option linter.unusedVariables false
set_option maxRecDepth 100000
theorem law_i64 : Maps.Keyed Tryz.prog 2 := Maps.int_keyed Tryz.underlying2
theorem key_i64 {n : Int} (h : -9223372036854775808 <= n) (h' : n <= 9223372036854775807) : keyOf Tryz.prog 2 (.int .i64 n) = some (.int .i64 n) := by
  refine Maps.keyOf_int_mk Tryz.underlying2 ?_
  simp only [Lit.wf]
  rw [Bool.and_eq_true, decide_eq_true_eq, decide_eq_true_eq]
  have h1 : IntKind.i64.min = -9223372036854775808 := by decide
  have h2 : IntKind.i64.max = 9223372036854775807 := by decide
  omega
theorem zero_i64 (w : World) : (zeroValue 2).run Tryz.prog w = .ok (.int .i64 0) w := by kernel_rfl
def viewOf (o : Option Pd) : Int := (o.map (·.view)).getD 0
structure NumV (D : DataW Unit) (m : List Pd) : Prop where
  at_ : ∀ n : Int, Maps.has D (.int .i64 n) = (getP m n).isSome /\ D.atKey (.int .i64 n) (.lit (.int .i64 0)) = .lit (.int .i64 (viewOf (getP m n)))
  size : Maps.size D = m.length
theorem NumV.empty : NumV (.map []) [] := ⟨fun _ => ⟨rfl, rfl⟩, rfl⟩
theorem put_new {m : List Pd} {p : Pd} (h : Rise m) (hp : okN p.seq = true) (hg : getP m p.seq = none) : (putP m p).1.length = m.length + 1 := by
  have hk := kOf_le m p.seq
  rw [get_had h] at hg
  unfold putP
  rw [if_pos hp, hg]
  simp only [List.length_append, List.length_take, List.length_cons, List.length_drop]
  omega
theorem put_old {m : List Pd} {p q : Pd} (h : Rise m) (hp : okN p.seq = true) (hg : getP m p.seq = some q) : (putP m p).1.length = m.length := by
  rw [get_had h] at hg
  obtain ⟨q1, q2⟩ := had_some hg
  have hk := (List.getElem?_eq_some_iff.1 q1).1
  unfold putP
  rw [if_pos hp, hg]
  simp only
  split
  . rfl
  . simp only [List.length_append, List.length_take, List.length_cons, List.length_drop]
    omega
theorem NumV.put {D : DataW Unit} {m : List Pd} {p : Pd} (h : NumV D m) (hr : Rise m) (ht : Maps.Tidy D) (hD : Maps.IsMap D) (hp : okN p.seq = true) (hg : ∀ q, getP m p.seq = some q -> q.view < p.view) : NumV (D.put (.int .i64 p.seq) (.lit (.int .i64 p.view))) (putP m p).1 := by
  have hget : ∀ n, getP (putP m p).1 n = if n = p.seq then some p else getP m n := fun n => by
    rw [get_put hr]
    by_cases hn : n = p.seq
    . subst hn
      rw [if_pos ⟨rfl, hp⟩, if_pos rfl]
      cases hh : getP m p.seq with
      | none => rfl
      | some q =>
        have := hg q hh
        simp only
        rw [if_neg (by omega)]
    . rw [if_neg (fun hx => hn hx.1), if_neg hn]
  refine ⟨fun n => ?_, ?_⟩
  . rw [hget]
    by_cases hn : n = p.seq
    . subst hn
      have hr2 := okN_iff.1 hp
      have hk : WideAt.IsKeyLit (.int .i64 p.seq) := law_i64.key (key_i64 (n := p.seq) (by omega) (by omega))
      rw [if_pos rfl, Maps.has_put_same hD hk, Maps.atKey_put_same hD hk]
      exact ⟨rfl, rfl⟩
    . have hne : (Lit.int .i64 n) ≠ Lit.int .i64 p.seq := fun e => hn (by injection e)
      rw [if_neg hn, Maps.has_put_other hne, Maps.atKey_put_other hne]
      exact h.at_ n
  . rw [Maps.size_put ht, (h.at_ p.seq).1, h.size]
    cases hh : getP m p.seq with
    | none => rw [put_new hr hp hh]; rfl
    | some q => rw [put_old hr hp hh]; rfl
structure LS (H : World -> (Nat -> Prop) -> Nat -> List Pd -> Prop) (w : World) (gh mm : Nat) (S : Nat -> Prop) (m : List Pd) (k : Nat) (D : DataW Unit) (W : World) : Prop where
  hh : H W S gh m
  lt : ∀ k, S k -> k < W.heap.size
  lo : ∀ k, S k -> w.heap.size <= k
  hb : Below w.heap.size w W
  ms : ¬ S mm
  mo : w.heap.size <= mm
  mp : W.ownsMap Tryz.prog 2 (plainElem Tryz.prog 2) mm k D
  nv : NumV D m
section
variable {H : World -> (Nat -> Prop) -> Nat -> List Pd -> Prop} {ok : List Pd -> Pd -> Prop} {w W W' : World} {gh mm : Nat} {S : Nat -> Prop} {m m' : List Pd} {k : Nat} {D D' : DataW Unit}
theorem LS.later (HH : HeldC H ok) (h : LS H w gh mm S m k D W) (b : Below W.heap.size W W') : LS H w gh mm S m k D W' :=
  ⟨HH.ch h.hh (Ch.of_below (S := fun _ => False) b (Nat.le_refl _)) (fun _ _ h => h), fun k hk => Nat.lt_of_lt_of_le (h.lt k hk) b.size, h.lo, h.hb.trans (b.mono h.hb.size), h.ms, h.mo, map_ch h.mp (Ch.of_below (S := fun _ => False) b (Nat.le_refl _)) (fun h => h), h.nv⟩
theorem LS.turn (HH : HeldC H ok) {k' : Nat} (h : LS H w gh mm S m k D W) (hm : W'.ownsMap Tryz.prog 2 (plainElem Tryz.prog 2) mm k' D') (cc : Ch (fun k => k = mm) W W') (hn : NumV D' m) : LS H w gh mm S m k' D' W' :=
  ⟨HH.ch h.hh cc (fun k hk hx => h.ms (by rw [<- hx]; exact hk)), fun k hk => Nat.lt_of_lt_of_le (h.lt k hk) cc.size, h.lo, Psv.ch_under h.hb cc (fun k hk hx => by have := h.mo; omega) (Nat.le_refl _), h.ms, h.mo, hm, hn⟩
theorem LS.look (h : LS H w gh mm S m k D W) (n : Int) (h1 : -9223372036854775808 <= n) (h2 : n <= 9223372036854775807) : (Instr.lookup 84 (.map (some mm)) (.int .i64 n) true).run Tryz.prog W = .ok (.tuple #[.int .i64 (viewOf (getP m n)), .bool (getP m n).isSome]) W := by
  obtain ⟨v, ps, hrun, hv⟩ := h.mp.look_ok law_i64 Tryz.underlying84 (zero_i64 W) (zd := .lit (.int .i64 0)) (zp := []) (plainElem_int Tryz.underlying2 (by decide)) (key_i64 h1 h2)
  rw [(h.nv.at_ n).2] at hv
  obtain ⟨c, rfl, hc, _⟩ := plainElem_int_inv Tryz.underlying2 hv
  have hc : (DataW.lit (.int .i64 (viewOf (getP m n))) : DataW Unit) = .lit (.int .i64 c) := congrArg Prod.fst hc
  injection hc with hc
  injection hc with _ hc
  rw [hrun, (h.nv.at_ n).1, hc]
end
end Go.Proofs.YtmhmnkpaijoaaaaGreat.Pth
namespace Go.Proofs.YtmhmnkpaijoaaaaGreat.Pua
set_option linter.unusedSimpArgs false
open Go Go.RowKit Ck Cf Kw Ga Kf Pm Pe Pg Ik Lk Jm Ja Jb Jf Jg Jl Jn Kc Kj Pra Prb Prc Prd Pre Prf Prn Prr Prx Psg Psh Psx Pta Ptd Pte Pth
set_option linter.unusedVariables false
set_option maxRecDepth 100000
abbrev RV (v : Value) : Option (DataW Value × List MemPlace) := some (.held v, [])
structure DL (w : World) (X : Nat -> Prop) (D : DataW Value) (l : List Pd) : Prop where
  has : ∀ n : Int, Maps.has D (.int .i64 n) = (getP l n).isSome
  at_ : ∀ (n : Int) (p : Pd), getP l n = some p -> ∃ r, (∀ zd, D.atKey (.int .i64 n) zd = .held (.agg (PC p r))) /\ PI w X p r
  size : Maps.size D = l.length
section
variable {w w' : World} {X Y S T : Nat -> Prop} {D : DataW Value} {l : List Pd} {m n g : Nat}
theorem DL.empty : DL w X (.map []) [] := ⟨fun _ => rfl, fun n p h => by simp [getP] at h, rfl⟩
theorem DL.after (h : DL w X D l) (b : Below w.heap.size w w') : DL w' X D l := ⟨h.has, fun n p hp => by obtain ⟨r, h1, h2⟩ := h.at_ n p hp; exact ⟨r, h1, h2.after b⟩, h.size⟩
theorem DL.ch (h : DL w X D l) (c : Ch S w w') (hd : ∀ k, k < w.heap.size -> S k -> X k) : DL w' X D l := ⟨h.has, fun n p hp => by obtain ⟨r, h1, h2⟩ := h.at_ n p hp; exact ⟨r, h1, h2.ch c hd⟩, h.size⟩
theorem DL.weaken (h : DL w X D l) (hk : ∀ b, b < w.heap.size -> Y b -> X b) : DL w Y D l := ⟨h.has, fun n p hp => by obtain ⟨r, h1, h2⟩ := h.at_ n p hp; exact ⟨r, h1, h2.weaken hk⟩, h.size⟩
theorem get_putx {p : Pd} (hr : Rise l) (hp : okN p.seq = true) (hg : ∀ q, getP l p.seq = some q -> q.view < p.view) (n : Int) : getP (putP l p).1 n = if n = p.seq then some p else getP l n := by
  rw [get_put hr]
  by_cases hn : n = p.seq
  . subst hn
    rw [if_pos ⟨rfl, hp⟩, if_pos rfl]
    cases hh : getP l p.seq with
    | none => rfl
    | some q =>
      have := hg q hh
      simp only
      rw [if_neg (by omega)]
  . rw [if_neg (fun hx => hn hx.1), if_neg hn]
theorem key_ok {n : Int} (h : okN n = true) : keyOf Tryz.prog 2 (.int .i64 n) = some (.int .i64 n) := by
  have := okN_iff.1 h
  exact key_i64 (by omega) (by omega)
theorem key_lit {n : Int} (h : okN n = true) : WideAt.IsKeyLit (.int .i64 n) := law_i64.key (key_ok h)
theorem DL.put {p : Pd} {r : Pl2} (h : DL w X D l) (hr : Rise l) (ht : Maps.Tidy D) (hp : okN p.seq = true) (hg : ∀ q, getP l p.seq = some q -> q.view < p.view) (hi : PI w X p r) : DL w X (D.put (.int .i64 p.seq) (.held (.agg (PC p r)))) (putP l p).1 := by
  have hD : Maps.IsMap D := ht.isMap
  have hk := key_lit hp
  refine ⟨fun n => ?_, fun n q hq => ?_, ?_⟩
  . rw [get_putx hr hp hg]
    by_cases hn : n = p.seq
    . subst hn
      rw [if_pos rfl, Maps.has_put_same hD hk]
      rfl
    . have hne : (Lit.int .i64 n) ≠ Lit.int .i64 p.seq := fun e => hn (by injection e)
      rw [if_neg hn, Maps.has_put_other hne]
      exact h.has n
  . rw [get_putx hr hp hg] at hq
    by_cases hn : n = p.seq
    . subst hn
      rw [if_pos rfl] at hq
      obtain rfl := Option.some.inj hq
      exact ⟨r, fun zd => Maps.atKey_put_same hD hk _ _, hi⟩
    . have hne : (Lit.int .i64 n) ≠ Lit.int .i64 p.seq := fun e => hn (by injection e)
      rw [if_neg hn] at hq
      obtain ⟨r', h1, h2⟩ := h.at_ n q hq
      exact ⟨r', fun zd => by rw [Maps.atKey_put_other hne]; exact h1 zd, h2⟩
  . rw [Maps.size_put ht, h.has, h.size]
    cases hh : getP l p.seq with
    | none => rw [put_new hr hp hh]; rfl
    | some q => rw [put_old hr hp hh]; rfl
theorem own_exact {k : TypeId} {b : Nat} (h : w.ownsMap Tryz.prog k RV b n D) : w.ownsMap Tryz.prog k RV b (Maps.size D) D := by
  obtain ⟨es, clock, h1, h2, h3, rfl⟩ := h
  refine ⟨es, clock, h1, h2, ?_, rfl⟩
  rw [Maps.size_eq, length_read]
  exact Nat.le_refl _
end
def Hd (w : World) (S : Nat -> Prop) (g : Nat) (l : List Pd) : Prop :=
  ∃ m D, Blk w g 101 #[.map (some m)] /\ S g /\ S m /\ g ≠ m /\ w.ownsMap Tryz.prog 2 RV m l.length D /\ DL w (fun k => ¬ S k \/ k = g \/ k = m) D l /\ Rise l /\ (∀ p ∈ l, okV p) /\ l.length <= 1599289640355
section
variable {w w' : World} {X Y S T : Nat -> Prop} {D : DataW Value} {l : List Pd} {m n g : Nat}
theorem Hd.ch (h : Hd w S g l) (c : Ch X w w') (hd : ∀ k, S k -> X k -> False) : Hd w' S g l := by
  obtain ⟨m, D, h1, h2, h3, h4, h5, h6, h7⟩ := h
  exact ⟨m, D, h1.ch c (fun hx => hd _ h2 hx), h2, h3, h4, map_ch h5 c (fun hx => hd _ h3 hx), h6.ch c (fun k _ hx => .inl (fun hs => hd k hs hx)), h7⟩
theorem Hd.weaken (h : Hd w S g l) (hk : ∀ k, k < w.heap.size -> S k -> T k) : Hd w T g l := by
  obtain ⟨m, D, h1, h2, h3, h4, h5, h6, h7⟩ := h
  exact ⟨m, D, h1, hk _ h1.lt h2, hk _ h5.lt h3, h4, h5, h6.weaken (fun b hb ht => by
    rcases ht with ht | ht
    . exact .inl (fun hs => ht (hk b hb hs))
    . exact .inr ht), h7⟩
theorem Hd.later (h : Hd w S g l) (b : Below w.heap.size w w') : Hd w' S g l := h.ch (Ch.of_below (S := fun _ => False) b (Nat.le_refl _)) (fun _ _ h => h)
end
theorem zero_prep (W : World) : (zeroValue 41).run Tryz.prog W = .ok (.agg #[.int .i64 0, .int .i64 0, .int .i64 0, .int .i64 0, .int .i64 0, .slice none 0 0, .slice none 0 0]) W := by kernel_rfl
theorem look_pd {w : World} {X : Nat -> Prop} {m n : Nat} {D : DataW Value} {l : List Pd} (ho : w.ownsMap Tryz.prog 2 RV m n D) (hd : DL w X D l) {k : Int} (hk : keyOf Tryz.prog 2 (.int .i64 k) = some (.int .i64 k)) :
    ∃ r, PI w X ((getP l k).getD Pd.zero) r /\ (Instr.lookup 99 (.map (some m)) (.int .i64 k) true).run Tryz.prog w = .ok (.tuple #[.agg (PC ((getP l k).getD Pd.zero) r), .bool (getP l k).isSome]) w := by
  obtain ⟨v, ps, hrun, hv⟩ := ho.look_ok law_i64 Tryz.underlying99 (zero_prep w) (zd := .held (.agg #[.int .i64 0, .int .i64 0, .int .i64 0, .int .i64 0, .int .i64 0, .slice none 0 0, .slice none 0 0])) (zp := []) rfl hk
  rw [hd.has] at hrun
  cases hg : getP l k with
  | none =>
    have hn : Maps.has D (.int .i64 k) = false := by rw [hd.has, hg]; rfl
    rw [Maps.atKey_of_not_has hn] at hv
    simp only [RV, Option.some.injEq, Prod.mk.injEq, DataW.held.injEq] at hv
    refine ⟨((none, 0), (none, 0)), PI_zero _ _, ?_⟩
    rw [hrun, hv.1, hg]
    rfl
  | some p =>
    obtain ⟨r, h1, h2⟩ := hd.at_ k p hg
    rw [h1] at hv
    simp only [RV, Option.some.injEq, Prod.mk.injEq, DataW.held.injEq] at hv
    refine ⟨r, h2, ?_⟩
    rw [hrun, hv.1, hg]
    rfl
end Go.Proofs.YtmhmnkpaijoaaaaGreat.Pua
namespace Go.Proofs.YtmhmnkpaijoaaaaGreat.Kz
set_option linter.unusedSimpArgs false
set_option linter.unusedVariables false
open Go Go.RowKit
section
variable {P : Program} {ops : Array Oper} {Q : Exit -> Act -> World -> Prop}
theorem any_step {n : Nat} {L : Array Bool} {a : Act} {w : World} {is : List Nat} (hr : Region.ready .any ops L = is) (hne : is ≠ []) (h : ∀ i ∈ is, wpOp P ops Q i (wpAny P .any ops Q n (L.setIfInBounds i true)) a w) : wpAny P .any ops Q (n + 1) L a w :=
  ⟨fun h0 => absurd (hr.symm.trans h0) hne, fun i hi => h i (by rw [<- hr]; exact hi)⟩
def Y (P : Program) (ops : Array Oper) (o : Oper) (v : Value) (w : World) (b : Act) : Prop := Region.wanted o (yielded ops b.tmps) = true /\ (execOp b.eval o).run P w = .ok (.value v) w
theorem op_of_Y {i : Nat} {o : Oper} {v : Value} {w : World} {b : Act} {K : Act -> World -> Prop} (hi : ops[i]? = some o) (hy : Y P ops o v w b) (h : K (b.put o.dst v) w) : wpOp P ops Q i K b w := by
  unfold wpOp
  simp only [hi, hy.1, if_true]
  left
  unfold Oper.wp
  rw [hy.2]
  exact h
theorem put_swap (b : Act) {i j : Nat} (x y : Value) (h : i ≠ j) : (b.put (some i) x).put (some j) y = (b.put (some j) y).put (some i) x := by
  simp only [Act.put]
  rw [Array.setIfInBounds_comm _ _ h]
theorem Y_load {o : Oper} {ty : TypeId} {x : Operand} {w : World} {b : Act} {g : Nat} {t : TypeId} {cs : Array Value} {fr : Nat × Nat} {d : TypeDesc} (hg : o.guard = none) (ho : o.op = .load ty x) (hx : b.eval x = .pointer (some ⟨g, 0, none⟩)) (hh : w.heap[g]? = some (.cells cs t fr))
    (hu : P.underlying ty = some d) (hd : (match d with | .struct _ | .array _ _ => true | _ => false) = true) (hi : (P.info? ty).map (·.size) = some cs.size) : Y P ops o (.agg cs) w b := by
  refine ⟨by simp [Region.wanted, hg], ?_⟩
  unfold execOp
  simp only [ho, hx, Instr.loadAt, Instr.sureAddr, Sem.run_bind, Sem.run_pure, Result.andThen_ok, run_loadVar_row w g t ty cs fr d hh hu hd hi]
theorem op_of_call {i j : Nat} {o : Oper} {f : FuncId} {args : Array Value} {w : World} {b : Act} {K : Act -> World -> Prop} (hi : ops[i]? = some o) (hd : o.dst = some j) (hw : Region.wanted o (yielded ops b.tmps) = true) (hx : (execOp b.eval o).run P w = .ok (.enter f args) w)
    (h : Calls P f args w fun e w' => ∃ v, e = .returned v /\ K (b.put (some j) v) w') : wpOp P ops Q i K b w := by
  unfold wpOp
  simp only [hi, hw, if_true]
  left
  unfold Oper.wp
  rw [hx]
  exact h.mono fun e w' ⟨v, he, hk⟩ => by subst he; rw [<- hd] at hk; exact hk
theorem any_quiet {C : World -> Prop} (hs : Region.noSelect ops = true) (l : List Oper) (k : Nat) (L : Array Bool) (a : Act) (w : World) (hl : ∀ j, l[j]? = ops[k + j]?) (hB : Region.lexFrom .any ops l.length k L = true) (hC : C w)
    (h : wpQuiet P ops C (fun a' => ∀ w', C w' -> Q .normal a' w') l a) : wpAny P .any ops Q l.length L a w :=
  wpAny_of_quiet (Q := fun a' => ∀ w', C w' -> Q .normal a' w') (fun _ w' hw' h => h w' hw') _ _ _ _ hC (wpAnyQ_lex hs l k L a hl hB h)
theorem any_quiet4 {o0 o1 o2 o3 : Oper} {l : List Oper} {L : Array Bool} {a : Act} {w : World} (hs : Region.noSelect (o0 :: o1 :: o2 :: o3 :: l).toArray = true) (hB : Region.lexFrom .any (o0 :: o1 :: o2 :: o3 :: l).toArray l.length 4 L = true)
    (h : wpQuiet P (o0 :: o1 :: o2 :: o3 :: l).toArray (fun w' => ∃ n, w' = w.drewN n) (fun a' => ∀ w', (∃ n, w' = w.drewN n) -> Q .normal a' w') l a) : wpAny P .any (o0 :: o1 :: o2 :: o3 :: l).toArray Q l.length L a w :=
  any_quiet hs l 4 L a w (fun j => by simp [Nat.add_comm 4 j]) hB ⟨0, rfl⟩ h
end
end Go.Proofs.YtmhmnkpaijoaaaaGreat.Kz
namespace Go.Proofs.YtmhmnkpaijoaaaaGreat.Js
set_option linter.unusedSimpArgs false
open Go Go.RowKit Ck Kf Kw Ga Pm Pe Pk Qb Qs Lk Ld Jm Ja Jb Jc Jk
attribute [local go_sem ↓] Go.wp_at_zero Go.wp_at_succ
set_option linter.unusedVariables false
set_option maxRecDepth 100000
section
open Kz
variable {P : Program} {ops : Array Oper} {Q : Exit -> Act -> World -> Prop}
theorem two_calls {n : Nat} {a : Act} {w : World} {o0 o1 o2 o3 : Oper} {i0 i1 i2 i3 : Nat} {v0 v1 v2 v3 : Value} {f : FuncId} {x0 x1 : Array Value} {L : Array Bool} {C D : World -> Prop}
    (h0 : ops[0]? = some o0) (h1 : ops[1]? = some o1) (h2 : ops[2]? = some o2) (h3 : ops[3]? = some o3) (d0 : o0.dst = some i0) (d1 : o1.dst = some i1) (d2 : o2.dst = some i2) (d3 : o3.dst = some i3) (n02 : i0 ≠ i2) (n12 : i1 ≠ i2)
    (r : Region.ready .any ops L = [0, 2]) (r0 : Region.ready .any ops (L.setIfInBounds 0 true) = [1, 2]) (r2 : Region.ready .any ops (L.setIfInBounds 2 true) = [0])
    (r01 : Region.ready .any ops ((L.setIfInBounds 0 true).setIfInBounds 1 true) = [2]) (r02 : Region.ready .any ops ((L.setIfInBounds 0 true).setIfInBounds 2 true) = [1]) (r012 : Region.ready .any ops (((L.setIfInBounds 0 true).setIfInBounds 1 true).setIfInBounds 2 true) = [3])
    (hC : C w) (y0 : ∀ b, b = a \/ b = a.put (some i2) v2 -> Y P ops o0 v0 w b)
    (y2 : ∀ W, C W -> ∀ b, b = a \/ b = a.put (some i0) v0 \/ b = (a.put (some i0) v0).put (some i1) v1 -> Y P ops o2 v2 W b)
    (c1 : ∀ b, b = a.put (some i0) v0 \/ b = (a.put (some i0) v0).put (some i2) v2 -> Region.wanted o1 (yielded ops b.tmps) = true /\ (execOp b.eval o1).run P w = .ok (.enter f x0) w)
    (k1 : Calls P f x0 w fun e w' => e = .returned v1 /\ C w')
    (c3 : ∀ W, C W -> Region.wanted o3 (yielded ops (((a.put (some i0) v0).put (some i1) v1).put (some i2) v2).tmps) = true /\ (execOp (((a.put (some i0) v0).put (some i1) v1).put (some i2) v2).eval o3).run P W = .ok (.enter f x1) W)
    (k3 : ∀ W, C W -> Calls P f x1 W fun e w' => e = .returned v3 /\ D w')
    (hend : ∀ W, D W -> wpAny P .any ops Q n ((((L.setIfInBounds 0 true).setIfInBounds 1 true).setIfInBounds 2 true).setIfInBounds 3 true) ((((a.put (some i0) v0).put (some i1) v1).put (some i2) v2).put (some i3) v3) W) : wpAny P .any ops Q (n + 4) L a w := by
  have s02 : (L.setIfInBounds 2 true).setIfInBounds 0 true = (L.setIfInBounds 0 true).setIfInBounds 2 true := Array.setIfInBounds_comm _ _ (by omega)
  have t1 : ((L.setIfInBounds 0 true).setIfInBounds 2 true).setIfInBounds 1 true = ((L.setIfInBounds 0 true).setIfInBounds 1 true).setIfInBounds 2 true := Array.setIfInBounds_comm _ _ (by omega)
  have last : ∀ W, C W -> wpAny P .any ops Q (n + 1) (((L.setIfInBounds 0 true).setIfInBounds 1 true).setIfInBounds 2 true) (((a.put (some i0) v0).put (some i1) v1).put (some i2) v2) W := fun W hW => by
    refine any_step r012 (by simp) fun i hi => ?_
    simp only [List.mem_cons, List.not_mem_nil, or_false] at hi
    subst hi
    exact op_of_call h3 d3 (c3 W hW).1 (c3 W hW).2 ((k3 W hW).mono fun e w' ⟨he, hd⟩ => ⟨_, he, hend w' hd⟩)
  have second : wpAny P .any ops Q (n + 2) ((L.setIfInBounds 0 true).setIfInBounds 2 true) ((a.put (some i0) v0).put (some i2) v2) w := by
    refine any_step r02 (by simp) fun i hi => ?_
    simp only [List.mem_cons, List.not_mem_nil, or_false] at hi
    subst hi
    refine op_of_call h1 d1 (c1 _ (.inr rfl)).1 (c1 _ (.inr rfl)).2 (k1.mono fun e w' ⟨he, hc⟩ => ⟨_, he, ?_⟩)
    rw [t1, <- put_swap _ v1 v2 n12]
    exact last w' hc
  refine any_step r (by simp) fun i hi => ?_
  simp only [List.mem_cons, List.not_mem_nil, or_false] at hi
  rcases hi with rfl | rfl
  . refine op_of_Y h0 (y0 _ (.inl rfl)) ?_
    rw [d0]
    refine any_step r0 (by simp) fun i hi => ?_
    simp only [List.mem_cons, List.not_mem_nil, or_false] at hi
    rcases hi with rfl | rfl
    . refine op_of_call h1 d1 (c1 _ (.inl rfl)).1 (c1 _ (.inl rfl)).2 (k1.mono fun e w' ⟨he, hc⟩ => ⟨_, he, ?_⟩)
      refine any_step r01 (by simp) fun i hi => ?_
      simp only [List.mem_cons, List.not_mem_nil, or_false] at hi
      subst hi
      refine op_of_Y h2 (y2 _ hc _ (.inr (.inr rfl))) ?_
      rw [d2]
      exact last w' hc
    . refine op_of_Y h2 (y2 _ hC _ (.inr (.inl rfl))) ?_
      rw [d2]
      exact second
  . refine op_of_Y h2 (y2 _ hC _ (.inl rfl)) ?_
    rw [d2]
    refine any_step r2 (by simp) fun i hi => ?_
    simp only [List.mem_cons, List.not_mem_nil, or_false] at hi
    subst hi
    refine op_of_Y h0 (y0 _ (.inr rfl)) ?_
    rw [d0, s02, <- put_swap _ v0 v2 n02]
    exact second
end
theorem k2_start (w : World) (x y : Sd) (A B : Option Addr) (c d : Nat) : K2 w w.heap.size (w.heap.size + 1) x y A B c d ((w.alloc (.cells (DC x A c) 113)).alloc (.cells (DC y B d) 113)) := by
  have hz : (w.alloc (.cells (DC x A c) 113)).heap.size = w.heap.size + 1 := by simp
  refine ⟨(k1_new (Below.refl _ w) x A c).later (op_below _ _), ?_⟩
  rw [<- hz]
  exact Blk.new _ _ _
theorem sd_ne_mom {x y : Sd} (h : (mom x == mom y) = false) : decide (x = y) = false := decide_eq_false (fun e => by subst e; rw [beq_self_eq_true] at h; exact Bool.noConfusion h)
theorem mom_eq2 {x y : Sd} (h : (mom x == mom y) = true) : x.q.client = y.q.client /\ x.q.time = y.q.time := by
  rw [mom, mom, pair_beq, Bool.and_eq_true] at h
  exact ⟨of_decide_eq_true h.1, of_decide_eq_true h.2⟩
set_option maxHeartbeats 8000000 in
theorem samesigned_any (w : World) (x y : Sd) (A B : Option Addr) (c d : Nat) (X Y : Nat -> Prop) (ha : Ls w X (.slice A x.q.o.recs.length c) x.q.o.recs) (hb : Ls w Y (.slice B y.q.o.recs.length d) y.q.o.recs) (hl : x.q.o.recs.length <= 140737488355328) :
    Calls Tryz.prog 98 #[DV x A c, DV y B d] w fun e w' => e = .returned (.bool (decide (x = y))) /\ Below w.heap.size w w' := by
  have hk2 := k2_start w x y A B c d
  have HSO := Lib.hid fun (W : World) (b : Below w.heap.size w W) => same_any x.q.o y.q.o _ _ X Y W (show OI W X (OV x.q.o A c) x.q.o from ⟨A, c, rfl, ha.after b⟩) (show OI W Y (OV y.q.o B d) y.q.o from ⟨B, d, rfl, hb.after b⟩) hl
  have HMX := fun W : World => Lib.hid (moment_any x A c W)
  have HMY := fun W : World => Lib.hid (moment_any y B d W)
  unfold DV DC MV at HMX HMY
  unfold DC at hk2
  unfold OV at HSO
  unfold DV DC
  have hg := guard_moment
  have hge := guard_sign
  have hqe := run_eql_sign
  have hq := run_eql_moment
  clear ha hb hl
  go_enter Tryz.func98, Tryz.ntmps98
  go_wp2_with fail
  generalize (w.alloc (.cells #[.int .i64 x.q.client, .int .i64 x.q.time, .int .i64 x.q.o.kind, .string ⟨x.q.o.topic.toArray⟩, .string ⟨x.q.o.group.toArray⟩, .int .i64 x.q.o.off, .slice A x.q.o.recs.length c, .int .i64 x.s.1, .int .i64 x.s.2] 113)).alloc (.cells #[.int .i64 y.q.client, .int .i64 y.q.time, .int .i64 y.q.o.kind, .string ⟨y.q.o.topic.toArray⟩, .string ⟨y.q.o.group.toArray⟩, .int .i64 y.q.o.off, .slice B y.q.o.recs.length d, .int .i64 y.s.1, .int .i64 y.s.2] 113) = w2 at *
  generalize hg1 : w.heap.size = g1 at hk2 ⊢
  generalize hg2 : g1 + 1 = g2 at hk2 ⊢
  have HG1 := Lib.hid hg1
  have HK2 := Lib.hid hk2
  clear hk2 hg1 hg2
  have tok1 : True := trivial
  have tok2 : True := trivial
  by_cases hm : (mom x == mom y) = true
  . have hqq : ∀ W : World, (binOp .eql 190 (MV x) (MV y)).run Tryz.prog W = .ok (.bool true) W := fun W => by rw [hq, hm]
    unfold MV at hqq
    have HME := Lib.hid (mom_eq2 hm)
    clear hm hq
    by_cases hs : x.s = y.s
    . have hqs : ∀ W : World, (binOp .eql 36 (.agg #[.int .i64 x.s.1, .int .i64 x.s.2]) (.agg #[.int .i64 y.s.1, .int .i64 y.s.2])).run Tryz.prog W = .ok (.bool true) W := fun W => by rw [hqe, show sgB (x.s.1, x.s.2) (y.s.1, y.s.2) = true from by rw [hs]; exact sgB_yes _]
      have HR : Hid (sameO x.q.o y.q.o = decide (x = y)) := Lib.hid (by
        rw [sameO_dec]
        exact decide_eq_decide.2 ⟨fun h => Sd_ext (Q_ext HME.out.1 HME.out.2 h) hs, fun h => by rw [h]⟩)
      clear hs hqe
      generalize sameO x.q.o y.q.o = so at *
      go_region_held3 (fun w' => (w'.cell? ⟨g1, 0, none⟩ = some (.int .i64 x.q.client) /\ w'.cell? ⟨g1, 1, none⟩ = some (.int .i64 x.q.time) /\ w'.cell? ⟨g1, 2, none⟩ = some (.int .i64 x.q.o.kind) /\ w'.cell? ⟨g1, 3, none⟩ = some (.string ⟨x.q.o.topic.toArray⟩) /\ w'.cell? ⟨g1, 4, none⟩ = some (.string ⟨x.q.o.group.toArray⟩) /\ w'.cell? ⟨g1, 5, none⟩ = some (.int .i64 x.q.o.off) /\ w'.cell? ⟨g1, 6, none⟩ = some (.slice A x.q.o.recs.length c) /\ w'.cell? ⟨g1, 7, none⟩ = some (.int .i64 x.s.1) /\ w'.cell? ⟨g1, 8, none⟩ = some (.int .i64 x.s.2)) /\ (w'.cell? ⟨g2, 0, none⟩ = some (.int .i64 y.q.client) /\ w'.cell? ⟨g2, 1, none⟩ = some (.int .i64 y.q.time) /\ w'.cell? ⟨g2, 2, none⟩ = some (.int .i64 y.q.o.kind) /\ w'.cell? ⟨g2, 3, none⟩ = some (.string ⟨y.q.o.topic.toArray⟩) /\ w'.cell? ⟨g2, 4, none⟩ = some (.string ⟨y.q.o.group.toArray⟩) /\ w'.cell? ⟨g2, 5, none⟩ = some (.int .i64 y.q.o.off) /\ w'.cell? ⟨g2, 6, none⟩ = some (.slice B y.q.o.recs.length d) /\ w'.cell? ⟨g2, 7, none⟩ = some (.int .i64 y.s.1) /\ w'.cell? ⟨g2, 8, none⟩ = some (.int .i64 y.s.2))) (first | exact ⟨DK.cells HK2.out.one.one, DK.cells HK2.out.two⟩ | exact ⟨DK.cells HK3.out.one.one, DK.cells HK3.out.two⟩ | exact ⟨DK.cells HK4.out.one.one, DK.cells HK4.out.two⟩ | exact ⟨DK.cells HK5.out.one.one, DK.cells HK5.out.two⟩)
        (first
      | (go_at_call 118; have _t := tok1; clear tok1 _t; refine (HMX _).out.mono ?_; rintro e w3 ⟨rfl, hb3⟩; have HK3 := Lib.hid (HK2.out.drew.later hb3); clear hb3)
      | (go_at_call 118; have _t := tok2; clear tok2 _t; refine (HMY _).out.mono ?_; rintro e w4 ⟨rfl, hb4⟩; have HK4 := Lib.hid (HK3.out.later hb4); clear hb4)
      | (go_at_call 119; refine (HSO.out _ HK4.out.one.below).mono ?_; rintro e w5 ⟨rfl, hb5⟩; have HK5 := Lib.hid (HK4.out.later hb5); clear hb5))
      all_goals
        go_wp2_with fail
        go_ret
        exact ⟨by rw [<- HR.out]; rfl, HK5.out.one.below⟩
    . have hqs : ∀ W : World, (binOp .eql 36 (.agg #[.int .i64 x.s.1, .int .i64 x.s.2]) (.agg #[.int .i64 y.s.1, .int .i64 y.s.2])).run Tryz.prog W = .ok (.bool false) W := fun W => by rw [hqe, show sgB (x.s.1, x.s.2) (y.s.1, y.s.2) = false from sgB_no hs]
      have HR : Hid (decide (x = y) = false) := Lib.hid (decide_eq_false (fun h => hs (by rw [h])))
      clear hs hqe
      have HKD := Lib.hid HK2.out.drew
      have HMX2 := Lib.hid ((moment_any x A c w2.drew).mono fun e w' h => show e = .returned (MV x) /\ K2 w g1 g2 x y A B c d w' from ⟨h.1, HKD.out.later h.2⟩)
      have HMY2 := Lib.hid fun (W : World) (h : K2 w g1 g2 x y A B c d W) => (moment_any y B d W).mono fun e w' hh => show e = .returned (MV y) /\ K2 w g1 g2 x y A B c d w' from ⟨hh.1, h.later hh.2⟩
      unfold DV DC MV at HMX2 HMY2
      refine wp_region_any (by kernel_rfl) ?_
      refine two_calls (C := K2 w g1 g2 x y A B c d) (D := K2 w g1 g2 x y A B c d) (n := 18) (i0 := 5) (i1 := 6) (i2 := 7) (i3 := 8) (v0 := .agg #[.int .i64 x.q.client, .int .i64 x.q.time, .int .i64 x.q.o.kind, .string ⟨x.q.o.topic.toArray⟩, .string ⟨x.q.o.group.toArray⟩, .int .i64 x.q.o.off, .slice A x.q.o.recs.length c, .int .i64 x.s.1, .int .i64 x.s.2]) (v1 := .agg #[.int .i64 x.q.client, .int .i64 x.q.time]) (v2 := .agg #[.int .i64 y.q.client, .int .i64 y.q.time, .int .i64 y.q.o.kind, .string ⟨y.q.o.topic.toArray⟩, .string ⟨y.q.o.group.toArray⟩, .int .i64 y.q.o.off, .slice B y.q.o.recs.length d, .int .i64 y.s.1, .int .i64 y.s.2]) (v3 := .agg #[.int .i64 y.q.client, .int .i64 y.q.time]) (f := 118) (x0 := #[.agg #[.int .i64 x.q.client, .int .i64 x.q.time, .int .i64 x.q.o.kind, .string ⟨x.q.o.topic.toArray⟩, .string ⟨x.q.o.group.toArray⟩, .int .i64 x.q.o.off, .slice A x.q.o.recs.length c, .int .i64 x.s.1, .int .i64 x.s.2]]) (x1 := #[.agg #[.int .i64 y.q.client, .int .i64 y.q.time, .int .i64 y.q.o.kind, .string ⟨y.q.o.topic.toArray⟩, .string ⟨y.q.o.group.toArray⟩, .int .i64 y.q.o.off, .slice B y.q.o.recs.length d, .int .i64 y.s.1, .int .i64 y.s.2]]) rfl rfl rfl rfl rfl rfl rfl rfl (by omega) (by omega) (by kernel_rfl) (by kernel_rfl) (by kernel_rfl) (by kernel_rfl) (by kernel_rfl) (by kernel_rfl) HKD.out ?_ ?_ ?_ HMX2.out ?_ HMY2.out ?_
      . rintro b' (rfl | rfl) <;> exact Kz.Y_load rfl rfl rfl (show w2.drew.heap[g1]? = _ from HKD.out.one.one) Tryz.underlying113 rfl (by kernel_rfl)
      . rintro W hW b' (rfl | rfl | rfl) <;> exact Kz.Y_load rfl rfl rfl (show W.heap[g2]? = _ from hW.two) Tryz.underlying113 rfl (by kernel_rfl)
      . rintro b' (rfl | rfl) <;> refine ⟨rfl, ?_⟩ <;> (simp only [Act.put]; go_simp)
      . intro W hW
        refine ⟨rfl, ?_⟩
        simp only [Act.put]
        go_simp
      intro w4 hk4
      have HK4 := Lib.hid hk4
      clear hk4 HMX2 HMY2 HMX HMY HSO
      obtain ⟨p0, p1, p2, p3, p4, p5, p6, p7, p8⟩ := DK.cells HK4.out.one.one
      obtain ⟨q0, q1, q2, q3, q4, q5, q6, q7, q8⟩ := DK.cells HK4.out.two
      refine Kz.any_quiet4 (by kernel_rfl) (by kernel_rfl) ?_
      simp only [Act.put, List.setIfInBounds_toArray, List.set_cons_succ, List.set_cons_zero]
      repeat (go_big_quiet_step (fail))
      refine wpQuiet_nil ?_
      intro _ hw'
      obtain ⟨nq, hw''⟩ := hw'
      subst hw''
      all_goals
        go_wp2_with fail
        go_ret
        exact ⟨by rw [HR.out]; rfl, below_drewN HK4.out.one.below _⟩
  . have hm := Bool.eq_false_iff.2 hm
    have hqq : ∀ W : World, (binOp .eql 190 (MV x) (MV y)).run Tryz.prog W = .ok (.bool false) W := fun W => by rw [hq, hm]
    unfold MV at hqq
    have HR := Lib.hid (sd_ne_mom hm)
    clear hm hq hqe
    have HKD := Lib.hid HK2.out.drew
    have HMX2 := Lib.hid ((moment_any x A c w2.drew).mono fun e w' h => show e = .returned (MV x) /\ K2 w g1 g2 x y A B c d w' from ⟨h.1, HKD.out.later h.2⟩)
    have HMY2 := Lib.hid fun (W : World) (h : K2 w g1 g2 x y A B c d W) => (moment_any y B d W).mono fun e w' hh => show e = .returned (MV y) /\ K2 w g1 g2 x y A B c d w' from ⟨hh.1, h.later hh.2⟩
    unfold DV DC MV at HMX2 HMY2
    refine wp_region_any (by kernel_rfl) ?_
    refine two_calls (C := K2 w g1 g2 x y A B c d) (D := K2 w g1 g2 x y A B c d) (n := 18) (i0 := 5) (i1 := 6) (i2 := 7) (i3 := 8) (v0 := .agg #[.int .i64 x.q.client, .int .i64 x.q.time, .int .i64 x.q.o.kind, .string ⟨x.q.o.topic.toArray⟩, .string ⟨x.q.o.group.toArray⟩, .int .i64 x.q.o.off, .slice A x.q.o.recs.length c, .int .i64 x.s.1, .int .i64 x.s.2]) (v1 := .agg #[.int .i64 x.q.client, .int .i64 x.q.time]) (v2 := .agg #[.int .i64 y.q.client, .int .i64 y.q.time, .int .i64 y.q.o.kind, .string ⟨y.q.o.topic.toArray⟩, .string ⟨y.q.o.group.toArray⟩, .int .i64 y.q.o.off, .slice B y.q.o.recs.length d, .int .i64 y.s.1, .int .i64 y.s.2]) (v3 := .agg #[.int .i64 y.q.client, .int .i64 y.q.time]) (f := 118) (x0 := #[.agg #[.int .i64 x.q.client, .int .i64 x.q.time, .int .i64 x.q.o.kind, .string ⟨x.q.o.topic.toArray⟩, .string ⟨x.q.o.group.toArray⟩, .int .i64 x.q.o.off, .slice A x.q.o.recs.length c, .int .i64 x.s.1, .int .i64 x.s.2]]) (x1 := #[.agg #[.int .i64 y.q.client, .int .i64 y.q.time, .int .i64 y.q.o.kind, .string ⟨y.q.o.topic.toArray⟩, .string ⟨y.q.o.group.toArray⟩, .int .i64 y.q.o.off, .slice B y.q.o.recs.length d, .int .i64 y.s.1, .int .i64 y.s.2]]) rfl rfl rfl rfl rfl rfl rfl rfl (by omega) (by omega) (by kernel_rfl) (by kernel_rfl) (by kernel_rfl) (by kernel_rfl) (by kernel_rfl) (by kernel_rfl) HKD.out ?_ ?_ ?_ HMX2.out ?_ HMY2.out ?_
    . rintro b' (rfl | rfl) <;> exact Kz.Y_load rfl rfl rfl (show w2.drew.heap[g1]? = _ from HKD.out.one.one) Tryz.underlying113 rfl (by kernel_rfl)
    . rintro W hW b' (rfl | rfl | rfl) <;> exact Kz.Y_load rfl rfl rfl (show W.heap[g2]? = _ from hW.two) Tryz.underlying113 rfl (by kernel_rfl)
    . rintro b' (rfl | rfl) <;> refine ⟨rfl, ?_⟩ <;> (simp only [Act.put]; go_simp)
    . intro W hW
      refine ⟨rfl, ?_⟩
      simp only [Act.put]
      go_simp
    intro w4 hk4
    have HK4 := Lib.hid hk4
    clear hk4 HMX2 HMY2 HMX HMY HSO
    obtain ⟨p0, p1, p2, p3, p4, p5, p6, p7, p8⟩ := DK.cells HK4.out.one.one
    obtain ⟨q0, q1, q2, q3, q4, q5, q6, q7, q8⟩ := DK.cells HK4.out.two
    refine Kz.any_quiet4 (by kernel_rfl) (by kernel_rfl) ?_
    simp only [Act.put, List.setIfInBounds_toArray, List.set_cons_succ, List.set_cons_zero]
    repeat (go_big_quiet_step (fail))
    refine wpQuiet_nil ?_
    intro _ hw'
    obtain ⟨nq, hw''⟩ := hw'
    subst hw''
    all_goals
      go_wp2_with fail
      go_ret
      exact ⟨by rw [HR.out]; rfl, below_drewN HK4.out.one.below _⟩
set_option maxHeartbeats 8000000 in
theorem equalfuncb_any (w : World) (X Y : Nat -> Prop) (A B : Option Addr) (c d : Nat) (l m : List Sd) (ha : BI w X (.slice A l.length c) l) (hb : BI w Y (.slice B m.length d) m) (hr : ∀ x ∈ l, x.q.o.recs.length <= 140737488355328) (hl63 : l.length <= 140737488355328) :
    Calls Tryz.prog 97 #[.slice A l.length c, .slice B m.length d, .func (.func 98) #[] #[]] w fun e w' => e = .returned (.bool (decide (l = m))) /\ Below w.heap.size w w' := by
  have HA := Lib.hid (show S2 w X Y _ _ l m w from ⟨Below.refl _ w, ha, hb⟩)
  have HR := Lib.hid hr
  clear ha hb hr
  by_cases hlen : l.length = m.length
  . have h1 : ((l.length : Int) != (m.length : Int)) = false := by simp [hlen]
    have HLEN := Lib.hid hlen
    have hle : l.length <= m.length := by omega
    clear hlen
    go_enter Tryz.func97, Tryz.ntmps97
    go_wp2_with fail
    go_loopw [17] (fun j wr => ∃ k : Nat, k <= l.length /\ j = .int .i64 k /\ l.take k = m.take k /\ S2 w X Y (.slice A l.length c) (.slice B m.length d) l m wr) (fun j _ => l.length - (intOf j).toNat)
    case atStart => exact ⟨0, Nat.zero_le _, rfl, rfl, HA.out⟩
    case round =>
      obtain ⟨k, hk, rfl, htk, hs⟩ := hrel
      clear HA
      by_cases hlt : k < l.length
      . have hlt2 : k < m.length := by have := HLEN.out; omega
        obtain ⟨ad, Ar, cr, rfl, ⟨a0, a1, a2, a3, a4, a5, a6, a7, a8⟩, hls1⟩ := hs.one.at_ hlt
        obtain ⟨bd, Br, dr, rfl, hat2, hls2⟩ := hs.two.at_ hlt2
        have hrl := HR.out _ (List.getElem_mem hlt)
        have HN1 := Lib.hid (show l[k] = m[k] -> l.take (k + 1) = m.take (k + 1) from fun h => by rw [List.take_succ_eq_append_getElem hlt, List.take_succ_eq_append_getElem hlt2, htk, h])
        have HN2 := Lib.hid (show l[k] ≠ m[k] -> decide (l = m) = false from fun h => decide_eq_false (fun e => h (by subst e; rfl)))
        have hkp : (0 : Int) <= (k : Int) := by omega
        have hkl : (k : Int) < (l.length : Int) := by omega
        have hkm : (k : Int) < (m.length : Int) := by omega
        generalize l[k] = x at *
        generalize m[k] = y at *
        have hbb : Below wr.heap.size wr ((wr.alloc (.cells (DC x Ar cr) 113)).alloc (.cells (DC y Br dr) 113)) := (op_below wr _).trans ((op_below _ _).mono (by simp))
        have HS2 := Lib.hid (hs.later hbb)
        have hat3 := at9_later hat2 (op_below wr (.cells (DC x Ar cr) 113))
        have HSG := Lib.hid (samesigned_any _ x y Ar Br cr dr X Y (hls1.after hbb) (hls2.after hbb) hrl)
        clear htk hs hls1 hls2 hat2 hbb
        obtain ⟨b0, b1, b2, b3, b4, b5, b6, b7, b8⟩ := hat3
        unfold DV at HSG
        unfold DC at HS2 HSG b0 b1 b2 b3 b4 b5 b6 b7 b8
        by_cases hxy : x = y
        . rw [decide_eq_true hxy] at HSG
          have HN := Lib.hid (HN1.out hxy)
          clear hxy HN1 HN2
          go_wp2_with fail
          refine HSG.out.mono ?_
          rintro e w3 ⟨rfl, hb3⟩
          have HS3 := Lib.hid (HS2.out.later hb3)
          clear hb3 HSG a0 a1 a2 a3 a4 a5 a6 a7 a8 b0 b1 b2 b3 b4 b5 b6 b7 b8
          go_wp2_with fail
          go_roundw
          case rel => exact ⟨k + 1, by omega, by go_num, HN.out, HS3.out⟩
          case measure => simp [intOf]; omega
        . rw [decide_eq_false hxy] at HSG
          have HN := Lib.hid (HN2.out hxy)
          clear hxy HN1 HN2
          go_wp2_with fail
          refine HSG.out.mono ?_
          rintro e w3 ⟨rfl, hb3⟩
          have HS3 := Lib.hid (HS2.out.later hb3)
          clear hb3 HSG a0 a1 a2 a3 a4 a5 a6 a7 a8 b0 b1 b2 b3 b4 b5 b6 b7 b8
          go_wp2_with fail
          go_ret
          exact ⟨by rw [HN.out]; rfl, HS3.out.below⟩
      . have hke : k = l.length := by omega
        have HN := Lib.hid (show decide (l = m) = true from decide_eq_true (by
          rw [hke, List.take_length, HLEN.out, List.take_length] at htk
          exact htk))
        have HSS := Lib.hid hs
        clear hs htk
        go_wp2_with fail
        go_ret
        exact ⟨by rw [HN.out]; rfl, HSS.out.below⟩
  . have h1 : ((l.length : Int) != (m.length : Int)) = true := by simp only [bne_iff_ne, ne_eq]; omega
    have HN := Lib.hid (show decide (l = m) = false from decide_eq_false (fun e => hlen (by rw [e])))
    clear hlen
    go_enter Tryz.func97, Tryz.ntmps97
    go_wp2_with fail
    go_ret
    exact ⟨by rw [HN.out]; rfl, HA.out.below⟩
theorem sameb_any (w : World) (X Y : Nat -> Prop) (va vb : Value) (l m : List Sd) (ha : BI w X va l) (hb : BI w Y vb m) (hr : ∀ x ∈ l, x.q.o.recs.length <= 140737488355328) (hl63 : l.length <= 140737488355328) :
    Calls Tryz.prog 64 #[va, vb] w fun e w' => e = .returned (.bool (decide (l = m))) /\ Below w.heap.size w w' := by
  obtain ⟨A, c, rfl, -⟩ := ha.shape
  obtain ⟨B, d, rfl, -⟩ := hb.shape
  have HE := Lib.hid (equalfuncb_any w X Y A B c d l m ha hb hr hl63)
  clear ha hb hr
  go_enter Tryz.func64, Tryz.ntmps64
  go_wp2_with fail
  refine HE.out.mono ?_
  rintro e w1 ⟨rfl, hb1⟩
  have HB := Lib.hid hb1
  clear hb1
  go_wp2_with fail
  go_ret
  exact ⟨rfl, HB.out⟩
end Go.Proofs.YtmhmnkpaijoaaaaGreat.Js
namespace Go.Proofs.YtmhmnkpaijoaaaaGreat.Jp
set_option linter.unusedSimpArgs false
open Go Go.RowKit Ck Kw Ca Cb Cf Ci Ga Kf Pm Pe Pk Pp Qb Qt Lk Jm Ja Jb Jd Jf
attribute [local go_sem ↓] Go.wp_at_zero Go.wp_at_succ
set_option linter.unusedVariables false
set_option maxRecDepth 100000
section
variable {w0 W W' : World} {M g gx : Nat} {cs cs' : Array Value} {s s' : Cm.RS}
end
theorem size_sign : (Tryz.prog.info? 36).map (·.size) = some 2 := by kernel_rfl
theorem Blk.cells2 {W : World} {g : Nat} {t : TypeId} {a b : Value} (h : Blk W g t #[a, b]) : (W.cell? ⟨g, 0, none⟩ = some a /\ W.cell? ⟨g, 1, none⟩ = some b) /\ (W.frozen? ⟨g, 0, none⟩ = false /\ W.frozen? ⟨g, 1, none⟩ = false) :=
  ⟨⟨h.cell 0, h.cell 1⟩, ⟨h.frozen 0, h.frozen 1⟩⟩
end Go.Proofs.YtmhmnkpaijoaaaaGreat.Jp
namespace Go.Proofs.YtmhmnkpaijoaaaaGreat.Jr
set_option linter.unusedSimpArgs false
open Go Go.RowKit Ck Kw Ca Cb Cf Ci Ga Kf Pm Pe Pk Pp Qb Qt Lk Jm Ja Jb Jc Jd Jf Jp
attribute [local go_sem ↓] Go.wp_at_zero Go.wp_at_succ
set_option linter.unusedVariables false
set_option maxRecDepth 100000
section
variable {w0 W W' : World} {X : Nat -> Prop} {g : Nat} {s s' : Cm.RS}
end
theorem info_sd : (Tryz.prog.info? 113).map (fun i => (i.zero, i.size, i.bytes)) = some (some (.agg Z9), 9, 104) := by kernel_rfl
theorem info_parts9 {o : Option TypeInfo} {z : Value} {a b : Nat} (h : o.map (fun i => (i.zero, i.size, i.bytes)) = some (some z, a, b)) : ∃ i, o = some i /\ i.zero = some z /\ i.size = a /\ i.bytes = b := by
  cases o with
  | none => simp at h
  | some i =>
    simp only [Option.map_some, Option.some.injEq, Prod.mk.injEq] at h
    exact ⟨i, rfl, h.1, h.2.1, h.2.2⟩
theorem dc_one {d : Sd} {A : Option Addr} {c : Nat} : ∀ u ∈ (DC d A c).toList, u.oneCell' = true := by
  intro u hu
  simp only [DC, List.mem_cons, List.not_mem_nil, or_false] at hu
  rcases hu with rfl | rfl | rfl | rfl | rfl | rfl | rfl | rfl | rfl <;> rfl
theorem ls_old {w : World} {X : Nat -> Prop} {v : Value} {ls : List (List UInt8)} (h : Ls w X v ls) {B : Nat} (hB : w.heap.size <= B) : Ls w (fun k => X k \/ B <= k) v ls := by
  obtain ⟨vals, a, b⟩ := h
  exact ⟨vals, a.old hB, fun i hi => by obtain ⟨u, hu, h⟩ := b i hi; exact ⟨u, hu, h.old hB⟩⟩
end Go.Proofs.YtmhmnkpaijoaaaaGreat.Jr

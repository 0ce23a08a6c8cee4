/-
  A topic that is there, laid open; the contract of the document's Get.
-/
import Derived.Test.YtkoedonllfmaaaaGreatVD19
import Derived.Test.YtkoedonllfmaaaaGreatVD22
namespace Go.Proofs.YtkoedonllfmaaaaGreat.Tc
set_option linter.unusedSimpArgs false
open Go Go.RowKit Ck Kw Ga Kf Pm Pz Tm Tn Tq Ta Tb
attribute [local go_sem ↓] Go.wp_at_zero Go.wp_at_succ
set_option linter.unusedVariables false

theorem rat_none (w : World) (S : Nat → Prop) (q : Nat) (m : St) (s : Tx) (h : Tk w S q m) (hg : GoodL m.L) (hf : findT m.L s = none) :
    Calls Tryz.prog 48 #[.pointer (some ⟨q, 0, none⟩), .string ⟨s.toArray⟩] w fun e w' => e = .returned (.int .i64 (-1)) ∧ w = w' := (rat_any w S q m s h hg.few).mono (by
  rintro e w' ⟨⟨z, rfl, hz⟩, rfl⟩
  rcases hz with ⟨i, f, h1, _⟩ | ⟨_, rfl⟩
  · rw [hf] at h1; cases h1
  · exact ⟨rfl, rfl⟩)
theorem first_at {L : List Tp} {s : Tx} {t : Tp} (h : RT L) {i j : Nat} (hi : L[i]? = some t) (hj : L[j]? = some t) : i = j := by
  obtain ⟨h1, e1⟩ := List.getElem?_eq_some_iff.1 hi
  obtain ⟨h2, e2⟩ := List.getElem?_eq_some_iff.1 hj
  have hp := List.pairwise_iff_getElem.1 h
  rcases Nat.lt_trichotomy i j with hl | hl | hl
  · have := hp i j h1 h2 hl
    rw [e1, e2] at this
    exact absurd this (List.lt_irrefl _)
  · exact hl
  · have := hp j i h2 h1 hl
    rw [e1, e2] at this
    exact absurd this (List.lt_irrefl _)
theorem rat_in (w : World) (S : Nat → Prop) (q : Nat) (m : St) (s : Tx) (t : Tp) (h : Tk w S q m) (hg : GoodL m.L) (hf : findT m.L s = some t) :
    ∃ i : Nat, m.L[i]? = some t ∧ Calls Tryz.prog 48 #[.pointer (some ⟨q, 0, none⟩), .string ⟨s.toArray⟩] w fun e w' => e = .returned (.int .i64 (i : Int)) ∧ w = w' := by
  obtain ⟨i, hi⟩ := List.getElem?_of_mem (findT_some hf).1
  refine ⟨i, hi, (rat_any w S q m s h hg.few).mono ?_⟩
  rintro e w' ⟨⟨z, rfl, hz⟩, rfl⟩
  rcases hz with ⟨j, f, h1, h2, rfl⟩ | ⟨h1, _⟩
  · rw [hf] at h1
    obtain rfl := Option.some.inj h1
    rw [first_at (s := s) hg.rises hi h2]
    exact ⟨rfl, rfl⟩
  · rw [hf] at h1; cases h1
theorem ls_shape {w : World} {X : Nat → Prop} {v : Value} {ls : List Tx} (h : Ls w X v ls) : ∃ A c, v = .slice A ls.length c := by
  obtain ⟨vals, ⟨A, c, hv, -⟩, -⟩ := h
  exact ⟨A, c, hv⟩
/-- A topic that is there: its place, its cells, its records and groups. -/
structure TIn (w : World) (S : Nat → Prop) (q : Nat) (s : Tx) (t : Tp) (n c : Nat) (ad : Addr) (i : Nat) (Ar : Option Addr) (cr : Nat) (Ag : Option Addr) (cg : Nat) : Prop where
  cell : TCell w q (.slice (some ad) n c) ad i (t, .slice Ar t.recs.length cr, .slice Ag t.gs.length cg)
  lt : i < n
  few : n ≤ 8
  recs : Ls w (fun k => ¬ S k) (.slice Ar t.recs.length cr) t.recs
  gs : Sl w (fun k => ¬ S k) 2 (.slice Ag t.gs.length cg) t.gs.length (GCs t.gs)
  fit : FitT t
  next : t.next ≤ maxNum
theorem tin {w : World} {S : Nat → Prop} {q : Nat} {m : St} {s : Tx} {t : Tp} (h : Tk w S q m) (hg : GoodL m.L) (hf : findT m.L s = some t) :
    ∃ n c ad i Ar cr Ag cg, TIn w S q s t n c ad i Ar cr Ag cg ∧ Calls Tryz.prog 48 #[.pointer (some ⟨q, 0, none⟩), .string ⟨s.toArray⟩] w fun e w' => e = .returned (.int .i64 (i : Int)) ∧ w = w' := by
  obtain ⟨i, hi, hcall⟩ := rat_in w S q m s t h hg hf
  obtain ⟨l, lv, hL, hP⟩ := h
  obtain ⟨A, c, rfl, -⟩ := hP.shape
  have c0 : w.cell? ⟨q, 0, none⟩ = some (.slice A l.length c) := by have := hP.blk.cell 0; simpa using this
  obtain ⟨hlt, hx⟩ := row_of hL hi
  obtain ⟨vr, vg, hli⟩ : ∃ vr vg, l[i] = (t, vr, vg) := ⟨l[i].2.1, l[i].2.2, by rw [← hx]⟩
  have hok := hP.each _ (List.getElem_mem hlt)
  obtain ⟨ad, rfl, -, -, hat⟩ := hP.at_ hlt
  rw [hli] at hok hat
  have hin := (findT_some hf).1
  obtain ⟨hrec, hgs⟩ := hok
  simp only at hrec hgs
  obtain ⟨Ar, cr, rfl⟩ := ls_shape hrec
  obtain ⟨Ag, cg, rfl, -⟩ := id hgs
  exact ⟨l.length, c, ad, i, Ar, cr, Ag, cg, ⟨tk_cells c0 hat, hlt, by rw [← rows_len hL]; exact hg.few, hrec.weaken (fun k _ hk => .inl hk), hgs.weaken (fun k _ hk => .inl hk), hg.fit t hin, ((okT_iff t).1 (hg.ok t hin)).2.1⟩, hcall⟩

/-- What Get answers. -/
def getT (L : List Tp) (s : Tx) (k : Int) : Tx × Int := match findT L s with
  | none => ([], 4)
  | some t => if k < t.base ∨ t.next ≤ k then ([], 72) else (t.recs.getD (k - t.base).toNat [], 0)
def Gotten (w : World) (S : Nat → Prop) (r : Tx × Int) (e : Ending) (w' : World) : Prop := ∃ v, e = .returned (.tuple #[v, .int .i64 r.2]) ∧ Sl w' (fun k => ¬ S k) 1 v r.1.length (BVs r.1) ∧ Below w.heap.size w w'
set_option maxHeartbeats 1000000 in
theorem rget_any (w : World) (S : Nat → Prop) (q : Nat) (m : St) (s : Tx) (k : Int) (h : Tk w S q m) (hg : GoodL m.L) :
    Calls Tryz.prog 25 #[.pointer (some ⟨q, 0, none⟩), .string ⟨s.toArray⟩, .int .i64 k] w (Gotten w S (getT m.L s k)) := by
  cases hf : findT m.L s with
  | none =>
    have HB : Hid (getT m.L s k = ([], 4)) := Lib.hid (by rw [getT, hf])
    have HN := Lib.hid (rat_none w S q m s h hg hf)
    clear hf
    rw [HB.out]
    go_enter Tryz.func25, Tryz.ntmps25
    go_wp2_with fail
    refine HN.out.mono ?_
    rintro e w' ⟨rfl, rfl⟩
    go_wp2_with fail
    go_ret2
    exact ⟨_, rfl, Sl.nil _ _ _, Below.refl _ _⟩
  | some t =>
    have HB : Hid (getT m.L s k = if k < t.base ∨ t.next ≤ k then ([], 72) else (t.recs.getD (k - t.base).toNat [], 0)) := Lib.hid (by rw [getT, hf])
    obtain ⟨n, c, ad, i, Ar, cr, Ag, cg, hT, hat⟩ := tin h hg hf
    have HT := Lib.hid hT
    have HN := Lib.hid hat
    have HX := Lib.hid (show 0 ≤ t.base ∧ t.next ≤ maxNum from ⟨hT.fit.base, hT.next⟩)
    obtain ⟨b0, a0, a1, a2, a3⟩ := hT.cell
    have hlt := hT.lt
    have hfew := hT.few
    simp only at a0 a1 a2 a3
    clear hf hT hat
    rw [HB.out]
    by_cases hlo : k < t.base
    · have e1 : decide (k < t.base) = true := decide_eq_true hlo
      have HE := Lib.hid (if_pos (Or.inl hlo) : (if k < t.base ∨ t.next ≤ k then (([] : Tx), (72 : Int)) else (t.recs.getD (k - t.base).toNat [], 0)) = ([], 72))
      clear hlo
      rw [HE.out]
      go_enter Tryz.func25, Tryz.ntmps25
      go_wp2_with fail
      refine HN.out.mono ?_
      rintro e w' ⟨rfl, rfl⟩
      go_wp2_with fail
      go_ret2
      exact ⟨_, rfl, Sl.nil _ _ _, Below.refl _ _⟩
    · have e1 : decide (k < t.base) = false := decide_eq_false hlo
      by_cases hhi : t.next ≤ k
      · have e2 : decide (t.next ≤ k) = true := decide_eq_true hhi
        have HE := Lib.hid (if_pos (Or.inr hhi) : (if k < t.base ∨ t.next ≤ k then (([] : Tx), (72 : Int)) else (t.recs.getD (k - t.base).toNat [], 0)) = ([], 72))
        clear hlo hhi
        rw [HE.out]
        go_enter Tryz.func25, Tryz.ntmps25
        go_wp2_with fail
        refine HN.out.mono ?_
        rintro e w' ⟨rfl, rfl⟩
        go_wp2_with fail
        refine (rnext_any _ t.n Ar cr _ t HX.out.1 HX.out.2).mono ?_
        rintro e w2 ⟨rfl, hb2⟩
        go_wp2_with fail
        go_ret2
        exact ⟨_, rfl, Sl.nil _ _ _, hb2⟩
      · have e2 : decide (t.next ≤ k) = false := decide_eq_false hhi
        have hj : (k - t.base).toNat < t.recs.length := by simp only [Tp.next] at hhi; omega
        have HE : Hid ((if k < t.base ∨ t.next ≤ k then (([] : Tx), (72 : Int)) else (t.recs.getD (k - t.base).toNat [], 0)) = (t.recs[(k - t.base).toNat], 0)) := Lib.hid (by
          rw [if_neg (by omega), List.getD_eq_getElem?_getD, List.getElem?_eq_getElem hj]; rfl)
        have hk : k = t.base + ((k - t.base).toNat : Int) := by omega
        have hw : RowKit.wrap64 (t.base + ((k - t.base).toNat : Int) - t.base) = ((k - t.base).toNat : Int) := by
          have := HX.out
          simp only [maxNum, Tp.next] at this hhi
          unfold RowKit.wrap64; omega
        have hjs : (k - t.base).toNat ≤ 64 := by have := HT.out.fit.few; omega
        rw [HE.out]
        generalize (k - t.base).toNat = j at *
        subst hk
        obtain ⟨ar, B, d, rfl, hc1, hx1⟩ := HT.out.recs.at_ hj
        have HX1 := Lib.hid hx1
        have HC1 := Lib.hid hc1
        clear hlo hhi hx1
        have hw2 : RowKit.wrap64 (j : Int) = (j : Int) := by unfold RowKit.wrap64; omega
        have hw3 : IntKind.i64.wrap (t.base + (j : Int) - t.base) = (j : Int) := by
          rw [show t.base + (j : Int) - t.base = (j : Int) from by omega]
          exact Ga.wrap64 (by omega) (by omega)
        have hj1 : (0 : Int) ≤ (j : Int) := by omega
        have hj2 : (j : Int) < (t.recs.length : Int) := by omega
        have HTC := Lib.hid (HT.out.cell)
        go_enter Tryz.func25, Tryz.ntmps25
        go_wp2_with fail
        refine HN.out.mono ?_
        rintro e w' ⟨rfl, rfl⟩
        go_wp2_with fail
        refine (rnext_any _ t.n _ cr _ t HX.out.1 HX.out.2).mono ?_
        rintro e w2 ⟨rfl, hb2⟩
        have HB2 := Lib.hid hb2
        clear b0 a0 a1 a2 a3 hc1
        obtain ⟨b0, a0, a1, a2, a3⟩ := HTC.out.below hb2
        have hc1 : w2.cell? (ar.add j) = some (.slice B t.recs[j].length d) := by
          rw [hb2.cell (World.block_lt_of_cell? _ _ HC1.out)]; exact HC1.out
        simp only at a0 a1 a2 a3
        clear hb2
        go_wp2_with fail
        go_region_held3 (fun w' => w'.cell? ⟨q, 0, none⟩ = some (.slice (some ad) n c) ∧ w'.cell? ⟨(ad.add (i * 4)).block, (ad.add (i * 4)).off + 1, none⟩ = some (.int .i64 t.base) ∧ w'.cell? ⟨(ad.add (i * 4)).block, (ad.add (i * 4)).off + 2, none⟩ = some (.slice (some ar) t.recs.length cr) ∧ w'.cell? (ar.add j) = some (.slice B t.recs[j].length d)) (exact ⟨b0, a1, a2, hc1⟩) (fail)
        all_goals
          go_wp2_with fail
          go_ret2
          exact ⟨_, rfl, HX1.out.after (below_drewN HB2.out 1), below_drewN HB2.out 1⟩
end Go.Proofs.YtkoedonllfmaaaaGreat.Tc

/-
  The contract of the document's Committed.
-/
namespace Go.Proofs.YtkoedonllfmaaaaGreat.Td
set_option linter.unusedSimpArgs false
open Go Go.RowKit Ck Kw Ga Kf Pm Pz Tm Tn Tq Ta Tb Tc
attribute [local go_sem ↓] Go.wp_at_zero Go.wp_at_succ
set_option linter.unusedVariables false

theorem add_succ (a : Addr) (n j : Nat) (hj : j ≠ 0) : a.add (n + j) = ⟨(a.add n).block, (a.add n).off + j, none⟩ := by
  unfold Addr.add
  rw [if_neg (by omega)]
  split
  · rename_i h; subst h; simp
  · simp [Nat.add_assoc]
/-- The cells of the k-th group. -/
theorem grp_at {w : World} {X : Nat → Prop} {A : Option Addr} {c : Nat} {gs : List Gp} (h : Sl w X 2 (.slice A gs.length c) gs.length (GCs gs)) {k : Nat} (hk : k < gs.length) :
    ∃ ad, A = some ad ∧ w.cell? (ad.add (k * 2)) = some (.string ⟨gs[k].n.toArray⟩) ∧ w.cell? ⟨(ad.add (k * 2)).block, (ad.add (k * 2)).off + 1, none⟩ = some (.int .i64 gs[k].pos) := by
  obtain ⟨A', c', hv, _, _, _, hx⟩ := h
  obtain ⟨rfl, -, rfl⟩ := Value.slice.inj hv
  obtain ⟨ad, rfl, _, _, hc⟩ := hx (by omega)
  refine ⟨ad, rfl, ?_, ?_⟩
  · have := flat_get GC_len gs k hk 0 (by omega)
    exact hc _ _ (by rw [Nat.add_zero] at this; rw [show GCs gs = gs.flatMap GC from rfl, this]; rfl)
  · rw [← add_succ ad (k * 2) 1 (by omega)]
    exact hc _ _ (by rw [show GCs gs = gs.flatMap GC from rfl, flat_get GC_len gs k hk 1 (by omega)]; rfl)
/-- What Committed answers. -/
def commT (L : List Tp) (s g : Tx) : Int × Int := match findT L s with
  | none => (0, 4)
  | some t => match pos t.gs g with
    | none => (0, 4)
    | some k => (k, 0)
theorem pos_at {gs : List Gp} {n : Tx} {k : Nat} (hk : k < gs.length) (h0 : ∀ j, j < k → ∀ g, gs[j]? = some g → g.n ≠ n) (h : gs[k].n = n) : pos gs n = some gs[k].pos := by
  have : gs.find? (fun g => decide (g.n = n)) = some gs[k] := by
    rw [List.find?_eq_some_iff_getElem]
    refine ⟨by simpa using h, k, hk, rfl, fun j hj => ?_⟩
    have := h0 j hj gs[j] (List.getElem?_eq_getElem (by omega))
    simpa using this
  rw [pos, this]; rfl
theorem pos_never {gs : List Gp} {n : Tx} (h0 : ∀ j, j < gs.length → ∀ g, gs[j]? = some g → g.n ≠ n) : pos gs n = none := by
  rw [pos_none]
  intro g hg
  obtain ⟨j, hj⟩ := List.getElem?_of_mem hg
  exact h0 j (List.getElem?_eq_some_iff.1 hj).1 g hj
set_option maxHeartbeats 1000000 in
theorem rcomm_any (w : World) (S : Nat → Prop) (q : Nat) (m : St) (s g : Tx) (h : Tk w S q m) (hg : GoodL m.L) :
    Calls Tryz.prog 55 #[.pointer (some ⟨q, 0, none⟩), .string ⟨s.toArray⟩, .string ⟨g.toArray⟩] w fun e w' => e = .returned (.tuple #[.int .i64 (commT m.L s g).1, .int .i64 (commT m.L s g).2]) ∧ w = w' := by
  cases hf : findT m.L s with
  | none =>
    have HB : Hid (commT m.L s g = (0, 4)) := Lib.hid (by rw [commT, hf])
    have HN := Lib.hid (rat_none w S q m s h hg hf)
    clear hf
    rw [HB.out]
    go_enter Tryz.func55, Tryz.ntmps55
    go_wp2_with fail
    refine HN.out.mono ?_
    rintro e w' ⟨rfl, rfl⟩
    go_wp2_with fail
    go_ret2
    exact ⟨rfl, rfl⟩
  | some t =>
    have HB : Hid (commT m.L s g = match pos t.gs g with | none => (0, 4) | some k => (k, 0)) := Lib.hid (by rw [commT, hf])
    obtain ⟨n, c, ad, i, Ar, cr, Ag, cg, hT, hat⟩ := tin h hg hf
    have HT := Lib.hid hT
    have HN := Lib.hid hat
    obtain ⟨b0, a0, a1, a2, a3⟩ := hT.cell
    have hlt := hT.lt
    have hfew := hT.few
    have hgf := hT.fit.groups
    simp only at a0 a1 a2 a3
    clear hf hT hat h hg
    generalize commT m.L s g = R at *
    go_enter Tryz.func55, Tryz.ntmps55
    go_wp2_with fail
    refine HN.out.mono ?_
    rintro e w' ⟨rfl, rfl⟩
    go_wp2_with fail
    go_loop [9] (fun i => ∃ k : Nat, k ≤ t.gs.length ∧ i = .int .i64 k ∧ ∀ j, j < k → ∀ x, t.gs[j]? = some x → x.n ≠ g) (fun i => t.gs.length - (intOf i).toNat)
    case atStart => exact ⟨0, Nat.zero_le _, rfl, fun j hj => absurd hj (by omega)⟩
    case round =>
      obtain ⟨k, hk, rfl, hz⟩ := hrel
      have HZ := Lib.hid hz
      clear hz
      by_cases hkl : k < t.gs.length
      · obtain ⟨ag, rfl, g0, g1⟩ := grp_at HT.out.gs hkl
        by_cases heq : t.gs[k].n = g
        · have hbq : (t.gs[k].n == g) = true := by rw [heq]; exact beq_self_eq_true _
          have HF := Lib.hid (pos_at hkl HZ.out heq)
          clear heq
          go_wp2
          go_ret2
          exact ⟨by rw [HB.out, HF.out]; rfl, rfl⟩
        · have hbq : (t.gs[k].n == g) = false := by rw [beq_eq_false_iff_ne]; exact heq
          have HE := Lib.hid heq
          clear heq
          go_wp2
          go_round
          case rel =>
            refine ⟨k + 1, by omega, by go_num, fun j hj x hx => ?_⟩
            by_cases hjk : j < k
            · exact HZ.out j hjk x hx
            · obtain rfl : j = k := by omega
              rw [List.getElem?_eq_getElem hkl] at hx
              injection hx with hx
              rw [← hx]
              exact HE.out
          case measure => simp [intOf]; omega
      · have hke : k = t.gs.length := by omega
        have HF := Lib.hid (pos_never (gs := t.gs) (n := g) (fun j hj => HZ.out j (by omega)))
        go_wp2
        go_ret2
        exact ⟨by rw [HB.out, HF.out]; rfl, rfl⟩
end Go.Proofs.YtkoedonllfmaaaaGreat.Td

/-
  Layer 7: the contract of the document's commit: mathematics, slices of groups, the walk up to its loop.
-/
namespace Go.Proofs.YtkoedonllfmaaaaGreat.Xu
set_option linter.unusedSimpArgs false
open Go Go.RowKit Ck Kw Ga Kf Km Pm Pe Pz Py Tm Tn Tq Ah Ta Tb Td Xa Xr Xs
attribute [local go_sem ↓] Go.wp_at_zero Go.wp_at_succ
set_option linter.unusedVariables false
set_option maxRecDepth 100000

def comT (L : List Tp) (i : Nat) (t : Tp) (g : Tx) (off : Int) : (Int × Int) × List Tp :=
  if off < (pos t.gs g).getD 0 ∨ t.next < off then ((72, 0), L) else if pos t.gs g = none ∧ 8 ≤ t.gs.length then ((6, 0), L) else ((0, off), L.set i { t with gs := insG g off t.gs })
/-- A group's offset, noted at its place. -/
theorem insG_at {n : Tx} {off : Int} {L : List Gp} {k : Nat} (hk : k ≤ L.length) (h0 : ∀ j, j < k → ∀ f, L[j]? = some f → f.n < n) (h1 : ∀ f, L[k]? = some f → ¬ f.n < n) :
    insG n off L = L.take k ++ ⟨n, off⟩ :: (if ∃ f, L[k]? = some f ∧ f.n = n then L.drop (k + 1) else L.drop k) := by
  induction L generalizing k with
  | nil =>
    have : k = 0 := by simpa using hk
    subst this
    simp [insG]
  | cons f L ih =>
    cases k with
    | zero =>
      have h := h1 f rfl
      rw [insG, if_neg h]
      by_cases e : f.n = n
      · rw [if_pos e, if_pos ⟨f, rfl, e⟩]; rfl
      · rw [if_neg e, if_neg (by rintro ⟨f', h1, h2⟩; simp only [List.getElem?_cons_zero, Option.some.injEq] at h1; subst h1; exact e h2)]; rfl
    | succ k =>
      have h := h0 0 (by omega) f rfl
      rw [insG, if_pos h, ih (by simpa using hk) (fun j hj g hg => h0 (j + 1) (by omega) g hg) (fun g hg => h1 g hg)]
      rfl
/-- Where a group stands that was looked for from the front. -/
theorem pos_of_at {n : Tx} {L : List Gp} {k : Nat} (hr : RG L) (h0 : ∀ j, j < k → ∀ f, L[j]? = some f → f.n < n) (h1 : ∀ f, L[k]? = some f → ¬ f.n < n) (hn : ∀ f, L[k]? = some f → f.n ≠ n) : pos L n = none := by
  refine pos_never (fun j hj f hf e => ?_)
  rcases Nat.lt_trichotomy j k with h | h | h
  · have := h0 j h f hf
    rw [e] at this
    exact List.lt_irrefl _ this
  · subst h
    exact hn f hf e
  · have hkl : k < L.length := by omega
    have h2 := h1 L[k] (List.getElem?_eq_getElem hkl)
    have h3 : L[k].n < f.n := by
      have := List.pairwise_iff_getElem.1 hr k j hkl hj h
      rw [List.getElem?_eq_getElem hj] at hf
      injection hf with hf
      rw [← hf]
      exact this
    rw [e] at h3
    exact h2 h3
theorem info_group : (Tryz.prog.info? 76).map (fun i => (i.zero, i.size, i.bytes)) = some (some (.agg #[.string ⟨#[]⟩, .int .i64 0]), 2, 24) := by kernel_rfl
theorem GCs_cons (x : Gp) (l : List Gp) : GCs (x :: l) = GC x ++ GCs l := rfl
theorem GCs_app (l k : List Gp) : GCs (l ++ k) = GCs l ++ GCs k := by simp [GCs]
theorem GCs_take (l : List Gp) (i : Nat) : GCs (l.take i) = (GCs l).take (i * 2) := by
  induction l generalizing i with
  | nil => simp [GCs]
  | cons x l ih =>
    have hx : (GC x).length = 2 := rfl
    cases i with
    | zero => simp [GCs]
    | succ i => rw [List.take_succ_cons, GCs_cons, GCs_cons, ih, List.take_append, hx, List.take_of_length_le (l := GC x) (by omega), show (i + 1) * 2 - 2 = i * 2 by omega]
theorem GCs_drop (l : List Gp) (i : Nat) : GCs (l.drop i) = (GCs l).drop (i * 2) := by
  induction l generalizing i with
  | nil => simp [GCs]
  | cons x l ih =>
    have hx : (GC x).length = 2 := rfl
    cases i with
    | zero => simp
    | succ i => rw [List.drop_succ_cons, GCs_cons, ih, List.drop_append, hx, List.drop_eq_nil_of_le (show (GC x).length ≤ (i + 1) * 2 by omega), show (i + 1) * 2 - 2 = i * 2 by omega, List.nil_append]
theorem GCs_one (l : List Gp) : ∀ u ∈ GCs l, u.oneCell' = true := by
  intro u hu
  obtain ⟨x, hx, hux⟩ := List.mem_flatMap.1 hu
  simp only [GC, List.mem_cons, List.not_mem_nil, or_false] at hux
  rcases hux with rfl | rfl <;> rfl
theorem gslice_from (A : Option Addr) (n c k : Nat) (hk : k ≤ n) (hc : n ≤ c) : ∃ A', (∀ W : World, (Instr.slice 72 (.slice A n c) (some (.int .i64 (k : Int))) none none).run Tryz.prog W = .ok (.slice A' (n - k) (c - k)) W) ∧ (∀ ad, A = some ad → k < n → A' = some (ad.add (k * 2))) := by
  have he : ∀ W : World, (sizeOf (Tryz.prog.elem 72)).run Tryz.prog W = .ok 2 W := fun _ => by kernel_rfl
  refine ⟨if c = k then A else A.map (·.add (k * 2)), fun W => ?_, ?_⟩
  · rw [run_slice_l W 72 A n c (by kernel_rfl) .i64 k (by omega) (by omega), he]
    rfl
  · rintro ad rfl hlt
    rw [if_neg (by omega)]
    rfl
theorem gslice_upto (A : Option Addr) (n c k : Nat) (hk : k ≤ c) (W : World) : (Instr.slice 72 (.slice A n c) none (some (.int .i64 (k : Int))) none).run Tryz.prog W = .ok (.slice A k c) W := by
  have he : ∀ W : World, (sizeOf (Tryz.prog.elem 72)).run Tryz.prog W = .ok 2 W := fun _ => by kernel_rfl
  rw [run_slice_h W 72 A n c (by kernel_rfl) .i64 k (by omega) (by omega), he]
  simp only [Result.andThen_ok, sliced, Int.toNat_natCast]
  congr 2
  by_cases h0 : c = 0
  · simp [h0]
  · cases A <;> simp [h0, Addr.add]
theorem group_lit (w : World) (n : Tx) (k : Int) : Sl (w.alloc (.cells #[.string ⟨n.toArray⟩, .int .i64 k] 76)) (fun _ => False) 2 (.slice (some ⟨w.heap.size, 0, none⟩) 1 1) 1 (GCs [⟨n, k⟩]) := by
  refine ⟨_, _, rfl, rfl, Nat.le_refl _, by simp only [maxLen]; omega, fun _ => ⟨_, rfl, by simp, fun h => h, fun j u hu => ?_⟩⟩
  have ha : (⟨w.heap.size, 0, none⟩ : Addr).add j = ⟨w.heap.size, j, none⟩ := by unfold Addr.add; split <;> simp_all
  rw [ha, Blk.cell (Blk.new w _ _) j]
  simpa [GCs, GC] using hu
end Go.Proofs.YtkoedonllfmaaaaGreat.Xu

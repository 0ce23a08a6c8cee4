/-
  Layer 16 (newview): the program's check; byCert; slices.MaxFunc; slices.Clone of signatures.
-/
import Derived.Test.YtfdhaodgnenhcaaR03
import Derived.BigQuiet
import Derived.Deep.RegionHeld3
import Derived.Test.YtfdhaodgnenhcaaR02
import Derived.Deep.RegionWith
import Derived.Deep.Cut
import Derived.Test.YtfdhaodgnenhcaaR01
import Derived.Lib.MinMax
import Derived.RegionTactic
import Derived.Lib.ConvBytes
import Derived.BigRegion
import Derived.Shelf.SlMaps.Clone
import Derived.Deep.DrawnRows
import Derived.StillTailTactics
import Derived.Deep.RegionLaw
import Derived.Laws.StructEq
import Derived.Deep.QuietTactic
import Derived.Deep.MidRow
import Derived.Lib.AppendZeros
import Derived.Lib.AppendZerosOnto
import Derived.Lib.BufferWrite
import Derived.Lib.UnsafeStr
import Derived.Lib.Strings
import Derived.Lib.Walk
import Derived.Laws.MakeOwn
import Derived.Outline
namespace Go.Proofs.Ytfdhaodgnenhcaa.Nxc
set_option linter.unusedSimpArgs false
open Go Go.RowKit Ck Kw Ga Kf Jm Jb Pra Prb Prh Prs Ky Nva Nvb Nve Nwb Nxb
attribute [local go_sem ↓] Go.wp_at_zero Go.wp_at_succ
set_option linter.unusedVariables false
set_option maxRecDepth 100000

set_option maxHeartbeats 2000000 in
theorem check_any (w : World) (X : Nat → Prop) (f view : Int) (v : Value) (l : List Cg) (h : CgL w X v l) (hl : l.length ≤ 140737488355328) :
    Calls Try.prog 21 #[.int .i64 f, .int .i64 view, v] w fun e w' => e = .returned (.int .i64 (errS f view l)) ∧ Below w.heap.size w w' := by
  have HC := qcheck_any w f
  have HA := Lib.hid (areB_any w X f v l h hl)
  have HB := Lib.hid (fun W => qbig_any W f)
  obtain ⟨A, c, rfl, hc⟩ := h.shape
  have HE : Hid (errS f view l = if okF f then if decide (view < 1) || decide (9007199254740992 < view) then 1 else if frB (brokersP f) (-1) l then if (l.length : Int) < 2 * f + 1 then 160 else 0 else 1 else 120) := Lib.hid rfl
  have HB0 := Lib.hid (Below.refl w.heap.size w)
  clear h hc
  cases hf : okF f with
  | false =>
    have hcp : checkP f = 120 := by simp [checkP, hf]
    rw [hcp] at HC
    have HC := Lib.hid HC
    have HO : Hid (errS f view l = 120) := Lib.hid (by rw [HE.out, hf]; rfl)
    clear hcp hf HA HB HE
    go_enter Try.func21, Try.ntmps21
    go_wp2_with fail
    refine HC.out.mono ?_
    rintro e w1 ⟨rfl, rfl⟩
    go_wp2_with fail
    go_ret
    exact ⟨by rw [HO.out]; rfl, HB0.out⟩
  | true =>
    have hcp : checkP f = 0 := by simp [checkP, hf]
    rw [hcp] at HC
    have HC := Lib.hid HC
    have hbb : bigP f = 2 * f + 1 := by simp [bigP, hf]
    rw [hf] at HE
    simp only [if_true] at HE
    obtain ⟨nb, hnb⟩ : ∃ nb, nb = 2 * f + 1 := ⟨_, rfl⟩
    rw [hbb, ← hnb] at HB
    rw [← hnb] at HE
    clear hcp hf hbb hnb
    by_cases h1 : view < 1
    · have HO : Hid (errS f view l = 1) := Lib.hid (by rw [HE.out, decide_eq_true h1]; rfl)
      clear HA HB HE
      go_enter Try.func21, Try.ntmps21
      go_wp2_with fail
      refine HC.out.mono ?_
      rintro e w1 ⟨rfl, rfl⟩
      go_wp2_with fail
      go_ret
      exact ⟨by rw [HO.out]; rfl, HB0.out⟩
    by_cases h2 : 9007199254740992 < view
    · have HO : Hid (errS f view l = 1) := Lib.hid (by rw [HE.out, decide_eq_true h2]; simp)
      clear HA HB HE
      go_enter Try.func21, Try.ntmps21
      go_wp2_with fail
      refine HC.out.mono ?_
      rintro e w1 ⟨rfl, rfl⟩
      go_wp2_with fail
      go_ret
      exact ⟨by rw [HO.out]; rfl, HB0.out⟩
    have HE2 : Hid (errS f view l = if frB (brokersP f) (-1) l then if (l.length : Int) < nb then 160 else 0 else 1) := Lib.hid (by rw [HE.out, decide_eq_false h1, decide_eq_false h2]; rfl)
    clear HE
    cases hfr : frB (brokersP f) (-1) l with
    | false =>
      rw [hfr] at HA HE2
      have HO : Hid (errS f view l = 1) := Lib.hid (by rw [HE2.out]; rfl)
      clear hfr HE2 HB
      go_enter Try.func21, Try.ntmps21
      go_wp2_with fail
      refine HC.out.mono ?_
      rintro e w1 ⟨rfl, rfl⟩
      go_wp2_with fail
      refine HA.out.mono ?_
      rintro e w2 ⟨rfl, hb⟩
      have HB2 := Lib.hid hb
      clear hb
      go_wp2_with fail
      go_ret
      exact ⟨by rw [HO.out]; rfl, HB2.out⟩
    | true =>
      rw [hfr] at HA HE2
      clear hfr
      by_cases h3 : (l.length : Int) < nb
      · have HO : Hid (errS f view l = 160) := Lib.hid (by rw [HE2.out, if_pos rfl, if_pos h3])
        clear HE2
        go_enter Try.func21, Try.ntmps21
        go_wp2_with fail
        refine HC.out.mono ?_
        rintro e w1 ⟨rfl, rfl⟩
        go_wp2_with fail
        refine HA.out.mono ?_
        rintro e w2 ⟨rfl, hb⟩
        have HB2 := Lib.hid hb
        clear hb
        go_wp2_with fail
        refine (HB.out _).mono ?_
        rintro e w3 ⟨rfl, rfl⟩
        go_wp2_with fail
        go_ret
        exact ⟨by rw [HO.out]; rfl, HB2.out⟩
      · have HO : Hid (errS f view l = 0) := Lib.hid (by rw [HE2.out, if_pos rfl, if_neg h3])
        clear HE2
        go_enter Try.func21, Try.ntmps21
        go_wp2_with fail
        refine HC.out.mono ?_
        rintro e w1 ⟨rfl, rfl⟩
        go_wp2_with fail
        refine HA.out.mono ?_
        rintro e w2 ⟨rfl, hb⟩
        have HB2 := Lib.hid hb
        clear hb
        go_wp2_with fail
        refine (HB.out _).mono ?_
        rintro e w3 ⟨rfl, rfl⟩
        go_wp2_with fail
        go_ret
        exact ⟨by rw [HO.out]; rfl, HB2.out⟩
theorem isnan_any (w : World) (x : Int) : Calls Try.prog 39 #[.int .i64 x] w fun e w' => e = .returned (.bool false) ∧ w = w' := by
  go_enter Try.func39, Try.ntmps39
  go_wp2_with fail
  go_ret
  exact ⟨rfl, rfl⟩
def cmpZ (x y : Int) : Int := if x < y then -1 else if y < x then 1 else 0
theorem compare_any (w : World) (x y : Int) : Calls Try.prog 33 #[.int .i64 x, .int .i64 y] w fun e w' => e = .returned (.int .i64 (cmpZ x y)) ∧ w = w' := by
  have HC : Hid (cmpZ x y = if x < y then -1 else if y < x then 1 else 0) := Lib.hid rfl
  by_cases h1 : x < y
  · have HO : Hid (cmpZ x y = -1) := Lib.hid (by rw [HC.out, if_pos h1])
    go_enter Try.func33, Try.ntmps33
    go_wp2_with fail
    refine (isnan_any _ _).mono ?_
    rintro e w1 ⟨rfl, rfl⟩
    go_wp2_with fail
    refine (isnan_any _ _).mono ?_
    rintro e w1 ⟨rfl, rfl⟩
    go_wp2_with fail
    go_ret
    exact ⟨by rw [HO.out]; rfl, rfl⟩
  · by_cases h2 : y < x
    · have HO : Hid (cmpZ x y = 1) := Lib.hid (by rw [HC.out, if_neg h1, if_pos h2])
      go_enter Try.func33, Try.ntmps33
      go_wp2_with fail
      refine (isnan_any _ _).mono ?_
      rintro e w1 ⟨rfl, rfl⟩
      go_wp2_with fail
      refine (isnan_any _ _).mono ?_
      rintro e w1 ⟨rfl, rfl⟩
      go_wp2_with fail
      go_ret
      exact ⟨by rw [HO.out]; rfl, rfl⟩
    · have HO : Hid (cmpZ x y = 0) := Lib.hid (by rw [HC.out, if_neg h1, if_neg h2])
      go_enter Try.func33, Try.ntmps33
      go_wp2_with fail
      refine (isnan_any _ _).mono ?_
      rintro e w1 ⟨rfl, rfl⟩
      go_wp2_with fail
      refine (isnan_any _ _).mono ?_
      rintro e w1 ⟨rfl, rfl⟩
      go_wp2_with fail
      go_ret
      exact ⟨by rw [HO.out]; rfl, rfl⟩
theorem bycert_any (w : World) (a b : Cg) (r s : Pl2) : Calls Try.prog 23 #[.agg (CC a r), .agg (CC b s)] w fun e w' => e = .returned (.int .i64 (cmpZ a.cert.seq b.cert.seq)) ∧ Below w.heap.size w w' := by
  have b2 : Below w.heap.size w ((w.alloc (.cells (CC a r) 49)).alloc (.cells (CC b s) 49)) := ((Below.refl _ w).alloc (Nat.le_refl _) _).alloc (by simp) _
  have k0 : Blk ((w.alloc (.cells (CC a r) 49)).alloc (.cells (CC b s) 49)) w.heap.size 49 (CC a r) := Blk.alloc (Blk.new w _ _) _
  have k1 : Blk ((w.alloc (.cells (CC a r) 49)).alloc (.cells (CC b s) 49)) (w.heap.size + 1) 49 (CC b s) := Blk.new_at (by simp) rfl
  have c0 := k0.cell 2
  have c1 := k1.cell 2
  have HC := Lib.hid (fun W => compare_any W a.cert.seq b.cert.seq)
  have HB := Lib.hid b2
  clear b2 k0 k1
  unfold CC at c0 c1 HB ⊢
  simp only [List.getElem?_toArray, List.getElem?_cons_zero, List.getElem?_cons_succ] at c0 c1
  go_enter Try.func23, Try.ntmps23
  go_wp2_with fail
  refine (HC.out _).mono ?_
  rintro e w1 ⟨rfl, rfl⟩
  go_wp2_with fail
  go_ret
  exact ⟨rfl, HB.out⟩
end Go.Proofs.Ytfdhaodgnenhcaa.Nxc

/-
  Layer 16 (newview): slices.MaxFunc over view-changes: of several the first one.
-/
namespace Go.Proofs.Ytfdhaodgnenhcaa.Nxd
set_option linter.unusedSimpArgs false
open Go Go.RowKit Ck Kw Ga Kf Jm Jb Pra Prb Prh Prs Ky Nva Nvb Nve Nwb Nxb Nxc Qb
attribute [local go_sem ↓] Go.wp_at_zero Go.wp_at_succ
set_option linter.unusedVariables false
set_option maxRecDepth 100000

abbrev Z8c : Array Value := #[.int .i64 0, .int .i64 0, .int .i64 0, .int .i64 0, .slice none 0 0, .slice none 0 0, .int .i64 0, .int .i64 0]
theorem fblk8 {w : World} {g : Nat} {t : TypeId} {a0 a1 a2 a3 a4 a5 a6 a7 x0 x1 x2 x3 x4 x5 x6 x7 : Value} (h : Blk w g t #[a0, a1, a2, a3, a4, a5, a6, a7]) : Blk (((((((((w).setCell ⟨g, 0, none⟩ x0).setCell ⟨g, 1, none⟩ x1).setCell ⟨g, 2, none⟩ x2).setCell ⟨g, 3, none⟩ x3).setCell ⟨g, 4, none⟩ x4).setCell ⟨g, 5, none⟩ x5).setCell ⟨g, 6, none⟩ x6).setCell ⟨g, 7, none⟩ x7) g t #[x0, x1, x2, x3, x4, x5, x6, x7] := by
  have := ((((((((h).set_ 0 x0).set_ 1 x1).set_ 2 x2).set_ 3 x3).set_ 4 x4).set_ 5 x5).set_ 6 x6).set_ 7 x7
  simpa using this
theorem fch8 (w : World) (g : Nat) (x0 x1 x2 x3 x4 x5 x6 x7 : Value) : Ch (fun k => k = g) w (((((((((w).setCell ⟨g, 0, none⟩ x0).setCell ⟨g, 1, none⟩ x1).setCell ⟨g, 2, none⟩ x2).setCell ⟨g, 3, none⟩ x3).setCell ⟨g, 4, none⟩ x4).setCell ⟨g, 5, none⟩ x5).setCell ⟨g, 6, none⟩ x6).setCell ⟨g, 7, none⟩ x7) := ((((((((Ch.refl (fun k => k = g) w).setCell (p := ⟨g, 0, none⟩) (fun _ => rfl) x0).setCell (p := ⟨g, 1, none⟩) (fun _ => rfl) x1).setCell (p := ⟨g, 2, none⟩) (fun _ => rfl) x2).setCell (p := ⟨g, 3, none⟩) (fun _ => rfl) x3).setCell (p := ⟨g, 4, none⟩) (fun _ => rfl) x4).setCell (p := ⟨g, 5, none⟩) (fun _ => rfl) x5).setCell (p := ⟨g, 6, none⟩) (fun _ => rfl) x6).setCell (p := ⟨g, 7, none⟩) (fun _ => rfl) x7
theorem cells8 {w : World} {g : Nat} {t : TypeId} {a0 a1 a2 a3 a4 a5 a6 a7 : Value} (h : Blk w g t #[a0, a1, a2, a3, a4, a5, a6, a7]) : (w.cell? ⟨g, 0, none⟩ = some a0 ∧ w.cell? ⟨g, 1, none⟩ = some a1 ∧ w.cell? ⟨g, 2, none⟩ = some a2 ∧ w.cell? ⟨g, 3, none⟩ = some a3 ∧ w.cell? ⟨g, 4, none⟩ = some a4 ∧ w.cell? ⟨g, 5, none⟩ = some a5 ∧ w.cell? ⟨g, 6, none⟩ = some a6 ∧ w.cell? ⟨g, 7, none⟩ = some a7) ∧ (w.frozen? ⟨g, 0, none⟩ = false ∧ w.frozen? ⟨g, 1, none⟩ = false ∧ w.frozen? ⟨g, 2, none⟩ = false ∧ w.frozen? ⟨g, 3, none⟩ = false ∧ w.frozen? ⟨g, 4, none⟩ = false ∧ w.frozen? ⟨g, 5, none⟩ = false ∧ w.frozen? ⟨g, 6, none⟩ = false ∧ w.frozen? ⟨g, 7, none⟩ = false) :=
  ⟨⟨h.cell 0, h.cell 1, h.cell 2, h.cell 3, h.cell 4, h.cell 5, h.cell 6, h.cell 7⟩, h.frozen 0, h.frozen 1, h.frozen 2, h.frozen 3, h.frozen 4, h.frozen 5, h.frozen 6, h.frozen 7⟩
theorem size_change : (Try.prog.info? 49).map (·.size) = some 8 := by kernel_rfl
/-- Where the search stands: the greatest one so far lies in block g, what it points at where it did. -/
structure Mx (w : World) (X : Nat → Prop) (l : List Cg) (k : Nat) (mc : Cg) (rm : Pl2) (W : World) : Prop where
  below : Below w.heap.size w W
  ans : Blk W w.heap.size 49 Z8c
  blk : Blk W (w.heap.size + 1) 49 (CC mc rm)
  ci : CgI w X mc rm
  best : mc.cert = bestC (firstC l) (l.take k)
  mem : mc ∈ l
theorem Mx.later {w : World} {X : Nat → Prop} {l : List Cg} {k : Nat} {mc : Cg} {rm : Pl2} {W W' : World} (h : Mx w X l k mc rm W) (b : Below W.heap.size W W') : Mx w X l k mc rm W' :=
  ⟨h.below.trans (b.mono h.below.size), h.ans.below b h.ans.lt, h.blk.below b h.blk.lt, h.ci, h.best, h.mem⟩
theorem Mx.keep {w : World} {X : Nat → Prop} {l : List Cg} {k : Nat} {mc : Cg} {rm : Pl2} {W : World} (h : Mx w X l k mc rm W) (hk : k < l.length) (hv : ¬ 0 < cmpZ l[k].cert.seq mc.cert.seq) : Mx w X l (k + 1) mc rm W :=
  ⟨h.below, h.ans, h.blk, h.ci, by
    have hno : ¬ mc.cert.seq < l[k].cert.seq := fun hlt => hv (by
      unfold cmpZ
      rw [if_neg (by omega), if_pos hlt]
      decide)
    rw [best_step _ hk, ← h.best, if_neg hno], h.mem⟩
theorem Mx.turn {w : World} {X : Nat → Prop} {l : List Cg} {k : Nat} {mc : Cg} {rm r : Pl2} {W W' : World} (h : Mx w X l k mc rm W) (hk : k < l.length) (hv : 0 < cmpZ l[k].cert.seq mc.cert.seq) (hb : Blk W' (w.heap.size + 1) 49 (CC l[k] r)) (hc : Ch (fun q => q = w.heap.size + 1) W W') (hi : CgI w X l[k] r) : Mx w X l (k + 1) l[k] r W' :=
  ⟨h.below.trans (hc.below (fun q hq e => by omega) h.below.size), h.ans.ch hc (by omega), hb, hi, by
    have hyes : mc.cert.seq < l[k].cert.seq := by
      unfold cmpZ at hv
      split at hv
      · omega
      · split at hv
        · assumption
        · omega
    rw [best_step _ hk, ← h.best, if_pos hyes], List.getElem_mem hk⟩
set_option maxHeartbeats 8000000 in
theorem max_any (w : World) (X : Nat → Prop) (v : Value) (l : List Cg) (h : CgL w X v l) (hl : l.length ≤ 140737488355328) (h0 : 0 < l.length) :
    Calls Try.prog 22 #[v, .func (.func 23) #[] #[]] w fun e w' => ∃ mc rm, e = .returned (.agg (CC mc rm)) ∧ mc ∈ l ∧ mc.cert = bestC (firstC l) l ∧ CgI w X mc rm ∧ Below w.heap.size w w' := by
  obtain ⟨A, c, rfl, hc⟩ := h.shape
  have HP := Lib.hid h
  have hzv : ∀ W : World, (zeroValue 49).run Try.prog W = .ok (.agg #[.int .i64 0, .int .i64 0, .int .i64 0, .int .i64 0, .slice none 0 0, .slice none 0 0, .int .i64 0, .int .i64 0]) W := fun W => by kernel_rfl
  obtain ⟨ad, r, rfl, hat, hci, hbl, hXb⟩ := HP.out.at_ h0 (by decide)
  have hat : AtG kC w (ad.add (0 * 8)) l[0] r := hat
  have hadd : ad.add (0 * 8) = ad := by unfold Addr.add; rw [if_pos (by omega)]
  rw [hadd] at hat
  clear hadd
  have hba : Below w.heap.size w (w.alloc (.cells Z8c 49)) := (Below.refl _ w).alloc (Nat.le_refl _) _
  obtain ⟨a0, a1, a2, a3, a4, a5, a6, a7⟩ := at_change (hat.later hba)
  have HL0 := Lib.hid (And.intro hl h0)
  have hl1 : ¬ ((l.length : Int) < 1) := by omega
  have hl2 : (0 : Int) < (l.length : Int) := by omega
  have HM0 : Hid (Mx w X l 1 l[0] r ((w.alloc (.cells Z8c 49)).alloc (.cells (CC l[0] r) 49))) := Lib.hid ⟨hba.alloc hba.size _, (Blk.new w _ _).alloc _, Blk.new_at (by simp) rfl, hci, by
    obtain ⟨x, t, rfl⟩ : ∃ x t, l = x :: t := by
      cases l with
      | nil => simp at h0
      | cons x t => exact ⟨x, t, rfl⟩
    simp [firstC, bestC], List.getElem_mem h0⟩
  generalize l[0] = p0 at *
  clear h hc hat hci hbl hXb hba
  unfold CC at HM0
  go_enter Try.func22, Try.ntmps22
  go_wp2_with fail
  generalize (w.alloc (.cells #[.int .i64 0, .int .i64 0, .int .i64 0, .int .i64 0, .slice none 0 0, .slice none 0 0, .int .i64 0, .int .i64 0] 49)).alloc (.cells #[.int .i64 p0.view, .int .i64 p0.from_, .int .i64 p0.cert.seq, .int .i64 p0.cert.dig, .slice r.1.1 p0.cert.signs.length r.1.2, .slice r.2.1 p0.above.length r.2.2, .int .i64 p0.sign.1, .int .i64 p0.sign.2] 49) = w0 at *
  clear a0 a1 a2 a3 a4 a5 a6 a7 hl1 hl2
  go_loopw [6] (fun i wr => ∃ (k : Nat) (mc : Cg) (rm : Pl2), k ≤ l.length ∧ i = .int .i64 k ∧ Mx w X l k mc rm wr) (fun i _ => l.length - (intOf i).toNat)
  case atStart => exact ⟨1, p0, r, by have := HL0.out; omega, rfl, HM0.out⟩
  case round =>
    obtain ⟨k, mc, rm, hk, rfl, hm⟩ := hrel
    have HM := Lib.hid hm
    clear HM0
    obtain ⟨⟨m0, m1, m2, m3, m4, m5, m6, m7⟩, ⟨f0, f1, f2, f3, f4, f5, f6, f7⟩⟩ := cells8 hm.blk
    by_cases hlt : k < l.length
    · obtain ⟨ad', r', had, hat, hci, hbl, hXb⟩ := HP.out.at_ hlt (by decide)
      obtain rfl : ad = ad' := Option.some.inj had
      have hat : AtG kC w (ad.add (k * 8)) l[k] r' := hat
      obtain ⟨a0, a1, a2, a3, a4, a5, a6, a7⟩ := at_change (hat.later hm.below)
      have hkp : (0 : Int) ≤ (k : Int) := by omega
      have hkl : (k : Int) < (l.length : Int) := by omega
      have HKEEP := Lib.hid (fun W (b : Below wr.heap.size wr W) => (hm.keep hlt (W := wr)) |> fun h hv => (h hv).later b)
      have HTURN : Hid (0 < cmpZ l[k].cert.seq mc.cert.seq → ∀ W W', Below wr.heap.size wr W → Blk W' (w.heap.size + 1) 49 (CC l[k] r') → Ch (fun q => q = w.heap.size + 1) W W' → Mx w X l (k + 1) l[k] r' W') := Lib.hid (fun hv W W' b hb hc => (hm.later b).turn hlt hv hb hc hci)
      have HBC := Lib.hid (fun W => bycert_any W l[k] mc r' rm)
      have HAT := Lib.hid (fun W (b : Below w.heap.size w W) => at_change (hat.later b))
      generalize l[k] = p at *
      clear had hat hci hbl hXb hm
      unfold CC at HTURN HBC
      by_cases hv : 0 < cmpZ p.cert.seq mc.cert.seq
      · have HT := Lib.hid (HTURN.out hv)
        clear HTURN HKEEP
        go_wp2_with fail
        go_region_with (go_at_call 23; refine (HBC.out _).mono ?_; rintro e w2 ⟨rfl, hb2⟩)
        all_goals
          have hb3 := below_of_drew hb2
          have hk3 := HM.out.blk.below hb3 HM.out.blk.lt
          have HB3 := Lib.hid hb3
          have HK3 := Lib.hid hk3
          clear a0 a1 a2 a3 a4 a5 a6 a7 m0 m1 m2 m3 m4 m5 m6 m7 f0 f1 f2 f3 f4 f5 f6 f7
          obtain ⟨a0, a1, a2, a3, a4, a5, a6, a7⟩ := HAT.out w2 (HM.out.below.trans (hb3.mono HM.out.below.size))
          obtain ⟨⟨m0, m1, m2, m3, m4, m5, m6, m7⟩, ⟨f0, f1, f2, f3, f4, f5, f6, f7⟩⟩ := cells8 hk3
          clear hb2 hb3 hk3 hv
          go_wp2_with fail
          go_roundw
          case rel => exact ⟨k + 1, p, r', by omega, by go_num, HT.out w2 _ HB3.out (fblk8 HK3.out) (fch8 _ _ _ _ _ _ _ _ _ _)⟩
          case measure => simp [intOf]; omega
      · have HT := Lib.hid (fun W b => HKEEP.out W b hv)
        clear HTURN HKEEP
        go_wp2_with fail
        go_region_with (go_at_call 23; refine (HBC.out _).mono ?_; rintro e w2 ⟨rfl, hb2⟩)
        all_goals
          have hb3 := below_of_drew hb2
          have HB3 := Lib.hid hb3
          clear a0 a1 a2 a3 a4 a5 a6 a7 m0 m1 m2 m3 m4 m5 m6 m7 f0 f1 f2 f3 f4 f5 f6 f7
          clear hb2 hb3
          go_wp2_with fail
          go_roundw
          case rel => exact ⟨k + 1, mc, rm, by omega, by go_num, HT.out w2 HB3.out⟩
          case measure => simp [intOf]; omega
    · have hke : k = l.length := by omega
      subst hke
      obtain ⟨⟨n0, n1, n2, n3, n4, n5, n6, n7⟩, ⟨y0, y1, y2, y3, y4, y5, y6, y7⟩⟩ := cells8 hm.ans
      clear hm f0 f1 f2 f3 f4 f5 f6 f7
      go_wp2_with fail
      refine bodyPost_ret (results_row1 rfl _ _ w.heap.size 49 (CC mc rm) (0, 0) _ rfl (fblk8 HM.out.ans) Try.underlying49 rfl size_change) rfl ?_
      exact ⟨mc, rm, rfl, HM.out.mem, by rw [HM.out.best, List.take_length], HM.out.ci, HM.out.below.trans ((fch8 _ w.heap.size _ _ _ _ _ _ _ _).below (fun k hk e => by omega) HM.out.below.size)⟩
end Go.Proofs.Ytfdhaodgnenhcaa.Nxd

/-
  Layer 16 (newview): the program's latest: what is told of each number, in a map.
-/
namespace Go.Proofs.Ytfdhaodgnenhcaa.Nxe
set_option linter.unusedSimpArgs false
open Go Go.RowKit Ck Kw Ga Kf Jm Jb Pra Prb Prh Ky Nva Nvb Nve Nxa
attribute [local go_sem ↓] Go.wp_at_zero Go.wp_at_succ
set_option linter.unusedVariables false
set_option maxRecDepth 100000

/-- No row of certificates is longer. -/
def NN : Nat := 1599289640354
theorem cnt_lt {n k m : Nat} (h : n ≤ k * NN + m) (hk : k < 13) (hm : m < NN) : n < maxLen := by
  have : k * NN ≤ 12 * NN := Nat.mul_le_mul_right _ (by omega)
  simp only [NN, maxLen] at *
  omega
theorem cnt_next {n k P : Nat} (h : n ≤ k * NN + P) (hP : P ≤ NN) : n ≤ (k + 1) * NN := by
  rw [Nat.add_mul, Nat.one_mul]
  omega
/-- A map by numbers that tells g; it has room for n. -/
structure TM (w : World) (X : Nat → Prop) (b n : Nat) (D : DataW Value) (g : Int → Option Pd) (W : World) : Prop where
  below : Below w.heap.size w W
  own : W.ownsMap Try.prog 2 RV b n D
  df : DF w X D g
  big : w.heap.size ≤ b
theorem TM.later {w : World} {X : Nat → Prop} {b n : Nat} {D : DataW Value} {g : Int → Option Pd} {W W' : World} (h : TM w X b n D g W) (hb : Below W.heap.size W W') : TM w X b n D g W' :=
  ⟨h.below.trans (hb.mono h.below.size), map_ch h.own (Ch.of_below (S := fun _ => False) hb (Nat.le_refl _)) (fun h => h), h.df, h.big⟩
theorem TM.same {w : World} {X : Nat → Prop} {b n : Nat} {D : DataW Value} {g g' : Int → Option Pd} {W : World} (h : TM w X b n D g W) (e : ∀ s, g' s = g s) : TM w X b n D g' W := ⟨h.below, h.own, h.df.same e, h.big⟩
/-- One more. -/
theorem TM.put {w : World} {X : Nat → Prop} {b n : Nat} {D : DataW Value} {g : Int → Option Pd} {p : Pd} {r : Pl2} {W : World} (h : TM w X b n D g W) (hn : n < maxLen) (hp : I64 p.seq) (hg : ∀ q, g p.seq = some q → q.view < p.view) (hi : PI w X p r) :
    ∃ W', (Instr.mapUpdate 78 (.map (some b)) (.int .i64 p.seq) (.agg (PC p r))).run Try.prog W = .ok () W' ∧ TM w X b (n + 1) (D.put (.int .i64 p.seq) (.held (.agg (PC p r)))) (putG g p) W' := by
  obtain ⟨W', hst, hmap, hturn⟩ := h.own.store law_i64 Try.underlying78 hn (key_i64 hp) (val := .agg (PC p r)) (rfl : RV _ = some (.held _, []))
  have hc : Ch (fun k => k = b) W W' := Ch.of_grown hturn.grown (fun k hk _ => (Option.some.inj hk).symm)
  exact ⟨W', hst, h.below.trans (hc.below (fun k hk e => by have := h.big; omega) h.below.size), hmap, h.df.put (h.own.tidy law_i64) hp hg hi, h.big⟩
set_option maxHeartbeats 8000000 in
theorem latest_any (w : World) (X : Nat → Prop) (v : Value) (l : List Cg) (h : CgL w X v l) (hl : l.length ≤ 13) (ha : ∀ c ∈ l, c.above.length ≤ NN) (hs : ∀ c ∈ l, ∀ p ∈ c.above, I64 p.seq) :
    Calls Try.prog 34 #[v] w fun e w' => ∃ b n D, e = .returned (.map (some b)) ∧ TM w X b n D (fun s => latC s none l) w' := by
  obtain ⟨A, c, rfl, hc⟩ := h.shape
  have HP := Lib.hid h
  have HA := Lib.hid (And.intro ha (And.intro hs hl))
  have hmm : ∀ W : World, (Instr.makeMap 78 none).run Try.prog W = .ok (.map (some W.heap.size)) (W.alloc (.map #[] 0)) := fun W => by
    simp [Instr.makeMap, run_underlying Try.underlying78]
  have HT0 : Hid (TM w X w.heap.size 0 (.map []) (fun _ => none) (w.alloc (.map #[] 0))) := Lib.hid ⟨(Below.refl _ w).alloc (Nat.le_refl _) _, World.ownsMap_made w _ _ _, DF.empty, Nat.le_refl _⟩
  clear h hc ha hs
  have hl63 : l.length ≤ 140737488355328 := by omega
  clear hl
  go_enter Try.func34, Try.ntmps34
  go_wp2_with fail
  generalize w.alloc (.map #[] 0) = w0 at *
  clear hmm
  go_loopw [13] (fun i wr => ∃ (k n : Nat) (D : DataW Value), k ≤ l.length ∧ i = .int .i64 k ∧ TM w X w.heap.size n D (fun s => latC s none (l.take k)) wr ∧ n ≤ k * NN) (fun i _ => l.length - (intOf i).toNat)
  case atStart => exact ⟨0, 0, _, Nat.zero_le _, rfl, HT0.out, Nat.zero_le _⟩
  case round =>
    obtain ⟨k, n, D, hk, rfl, ht, hn⟩ := hrel
    clear HT0
    by_cases hlt : k < l.length
    · obtain ⟨ad, r, rfl, hat, hci, hbl, hXb⟩ := HP.out.at_ hlt (by decide)
      have hat : AtG kC w (ad.add (k * 8)) l[k] r := hat
      have HPL := Lib.hid hci.above
      obtain ⟨a0, a1, a2, a3, a4, a5, a6, a7⟩ := at_change (hat.later ht.below)
      have hkp : (0 : Int) ≤ (k : Int) := by omega
      have hkl : (k : Int) < (l.length : Int) := by omega
      obtain ⟨g, hg⟩ : ∃ g : Int → Option Pd, g = fun s => latC s none (l.take k) := ⟨_, rfl⟩
      rw [← hg] at ht
      have HC : Hid (∀ s, latC s none (l.take (k + 1)) = latP s (g s) l[k].above) := Lib.hid (fun s => by rw [hg]; exact latC_step s none hlt)
      have hal := HA.out.1 l[k] (List.getElem_mem hlt)
      have has := HA.out.2.1 l[k] (List.getElem_mem hlt)
      have hal2 : l[k].above.length ≤ 140737488355328 := Nat.le_trans hal (by unfold NN; omega)
      have HK13 : Hid (k < 13) := Lib.hid (by have := HA.out.2.2; omega)
      have HTR := Lib.hid (ht.later ((Below.refl _ wr).alloc (Nat.le_refl _) (.cells (CC l[k] r) 49)))
      have HK2 : Hid (Blk (wr.alloc (.cells (CC l[k] r) 49)) wr.heap.size 49 (CC l[k] r)) := Lib.hid (Blk.new wr _ _)
      generalize l[k] = p at *
      clear hat hci hbl hXb ht hg
      unfold CC at HTR HK2
      go_wp2_with fail
      have HTR2 : Hid (TM w X w.heap.size n D (fun s => latP s (g s) (p.above.take 0)) (wr.alloc (.cells #[.int .i64 p.view, .int .i64 p.from_, .int .i64 p.cert.seq, .int .i64 p.cert.dig, .slice r.1.1 p.cert.signs.length r.1.2, .slice r.2.1 p.above.length r.2.2, .int .i64 p.sign.1, .int .i64 p.sign.2] 49))) := Lib.hid (HTR.out.same (fun s => rfl))
      generalize (wr.alloc (.cells #[.int .i64 p.view, .int .i64 p.from_, .int .i64 p.cert.seq, .int .i64 p.cert.dig, .slice r.1.1 p.cert.signs.length r.1.2, .slice r.2.1 p.above.length r.2.2, .int .i64 p.sign.1, .int .i64 p.sign.2] 49)) = w1 at *
      clear HTR HK2 a0 a1 a2 a3 a4 a5 a6 a7
      have HNK := Lib.hid hn
      clear hn
      generalize p.above = P at *
      go_loopw [20] (fun j wx => ∃ (m n' : Nat) (D' : DataW Value), m ≤ P.length ∧ j = .int .i64 m ∧ TM w X w.heap.size n' D' (fun s => latP s (g s) (P.take m)) wx ∧ n' ≤ k * NN + m) (fun j _ => P.length - (intOf j).toNat)
      case atStart => exact ⟨0, n, D, Nat.zero_le _, rfl, HTR2.out, Nat.le_trans HNK.out (Nat.le_add_right _ _)⟩
      case round =>
        obtain ⟨m, n', D', hm, rfl, ht, hn⟩ := hrel
        clear HTR2
        by_cases hml : m < P.length
        · obtain ⟨ap, rp, hAp, hap, hpi⟩ := HPL.out.at_ hml
          obtain ⟨b0, b1, b2, b3, b4, b5, b6⟩ := hap.later ht.below
          have hi64 : I64 P[m].seq := has _ (List.getElem_mem hml)
          obtain ⟨ro, hpo, hlk⟩ := look_df ht.df hi64
          have hmp : (0 : Int) ≤ (m : Int) := by omega
          have hmi : (m : Int) < (P.length : Int) := by omega
          have HST : Hid (∀ s, latP s (g s) (P.take (m + 1)) = latS s (latP s (g s) (P.take m)) P[m]) := Lib.hid (fun s => latP_step s (g s) hml)
          have hb1 : Below wr.heap.size wr (wr.alloc (.cells (PC P[m] rp) 43)) := (Below.refl _ wr).alloc (Nat.le_refl _) _
          have ht1 := ht.later hb1
          have hl1 := hlk _ _ _ ht1.own
          have hb2 : Below wr.heap.size wr ((wr.alloc (.cells (PC P[m] rp) 43)).alloc (.cells (PC ((latP P[m].seq (g P[m].seq) (P.take m)).getD Pd.zero) ro) 43)) := hb1.alloc hb1.size _
          have HT2 := Lib.hid (ht.later hb2)
          have HK1 : Hid (Blk ((wr.alloc (.cells (PC P[m] rp) 43)).alloc (.cells (PC ((latP P[m].seq (g P[m].seq) (P.take m)).getD Pd.zero) ro) 43)) wr.heap.size 43 (PC P[m] rp)) := Lib.hid ((Blk.new wr _ _).alloc _)
          have HK2 : Hid (Blk ((wr.alloc (.cells (PC P[m] rp) 43)).alloc (.cells (PC ((latP P[m].seq (g P[m].seq) (P.take m)).getD Pd.zero) ro) 43)) (wr.heap.size + 1) 43 (PC ((latP P[m].seq (g P[m].seq) (P.take m)).getD Pd.zero) ro)) := Lib.hid (Blk.new_at (by simp) rfl)
          have HI := Lib.hid (And.intro hi64 (And.intro hpi hn))
          have HOLD : Hid (∀ q, latP P[m].seq (g P[m].seq) (P.take m) = some q → ¬ q.view < P[m].view → ∀ s, latP s (g s) (P.take (m + 1)) = latP s (g s) (P.take m)) := Lib.hid (fun q hq hv s => by rw [HST.out]; exact putG_old (g := fun s => latP s (g s) (P.take m)) hq hv s)
          obtain ⟨gg, hgg⟩ : ∃ gg : Int → Option Pd, gg = fun s => latP s (g s) (P.take m) := ⟨_, rfl⟩
          have HNEW : Hid (∀ s, latP s (g s) (P.take (m + 1)) = putG gg P[m] s) := Lib.hid (fun s => by rw [HST.out, hgg]; rfl)
          have hge : latP P[m].seq (g P[m].seq) (P.take m) = gg P[m].seq := by rw [hgg]
          rw [hge] at hl1 HT2 HK1 HK2 HOLD hpo
          rw [← hgg] at HT2
          have HGG := Lib.hid hgg
          generalize P[m] = x at *
          clear hap ht hn hpi hi64 hb1 hb2 hlk ht1 hge hgg
          rw [hAp]
          obtain ⟨hl1, -⟩ := hl1
          unfold PC at hl1 HT2 HK1 HK2
          have HFIN : Hid ((∀ q, gg x.seq = some q → q.view < x.view) → ∃ W4, (Instr.mapUpdate 78 (.map (some w.heap.size)) (.int .i64 x.seq) (.agg #[.int .i64 x.view, .int .i64 x.seq, .int .i64 x.dig, .int .i64 x.first.1, .int .i64 x.first.2, .slice rp.1.1 x.signs.length rp.1.2, .slice rp.2.1 x.batch.length rp.2.2])).run Try.prog _ = .ok () W4 ∧ TM w X w.heap.size (n' + 1) _ (fun s => latP s (g s) (P.take (m + 1))) W4) := Lib.hid (fun hor => by
            obtain ⟨w4, hst, ht4⟩ := HT2.out.put (r := rp) (cnt_lt HI.out.2.2 HK13.out (Nat.lt_of_lt_of_le hml hal)) HI.out.1 hor HI.out.2.1
            exact ⟨w4, hst, ht4.same HNEW.out⟩)
          have HCN : Hid (n' + 1 ≤ k * NN + (m + 1)) := Lib.hid (by have := HI.out.2.2; omega)
          have HTS : Hid ((∃ q, gg x.seq = some q ∧ ¬ q.view < x.view) → TM w X w.heap.size n' D' (fun s => latP s (g s) (P.take (m + 1))) _) := Lib.hid (fun ⟨q, h1, h2⟩ => HT2.out.same (fun s => by rw [HOLD.out q h1 h2, HGG.out]))
          have hsplit : ((∃ q, gg x.seq = some q ∧ ¬ q.view < x.view) ∧ (gg x.seq).isSome = true ∧ ¬ ((gg x.seq).getD Pd.zero).view < x.view) ∨ ((∀ q, gg x.seq = some q → q.view < x.view) ∧ ((gg x.seq).isSome = false ∨ ((gg x.seq).isSome = true ∧ ((gg x.seq).getD Pd.zero).view < x.view))) := by
            cases gg x.seq with
            | none => exact .inr ⟨fun q h => (by cases h), .inl rfl⟩
            | some q =>
              by_cases hv : q.view < x.view
              · exact .inr ⟨fun q' h => (by cases h; exact hv), .inr ⟨rfl, hv⟩⟩
              · exact .inl ⟨⟨q, rfl, hv⟩, rfl, hv⟩
          generalize (gg x.seq).getD Pd.zero = old at *
          generalize (gg x.seq).isSome = is at *
          have HS := Lib.hid hsplit
          clear hsplit hpo HOLD HNEW HI HST HGG HT2 HK1 HK2
          rcases HS.out with ⟨hx, rfl, hv⟩ | ⟨hor, hvv⟩
          · have HT := Lib.hid (HTS.out hx)
            clear HTS HFIN hx HS
            go_wp2_with fail
            go_roundw
            case rel => exact ⟨m + 1, n', D', by omega, by go_num, HT.out, by have := HCN.out; omega⟩
            case measure => simp [intOf]; omega
          · obtain ⟨w4, hst, ht4⟩ := HFIN.out hor
            have HT := Lib.hid ht4
            clear HTS HFIN hor HS ht4
            rcases hvv with rfl | ⟨rfl, hv⟩
            all_goals
              go_wp2_with fail
              go_roundw
              case rel => exact ⟨m + 1, n' + 1, _, by omega, by go_num, HT.out, HCN.out⟩
              case measure => simp [intOf]; omega
        · have hme : m = P.length := by omega
          subst hme
          rw [List.take_length] at ht
          have HT := Lib.hid (ht.same (g' := fun s => latC s none (l.take (k + 1))) HC.out)
          have HN := Lib.hid (cnt_next hn hal)
          clear ht hn
          go_wp2_with fail
          go_roundw
          case rel => exact ⟨k + 1, n', D', by omega, by go_num, HT.out, HN.out⟩
          case measure => simp [intOf]; omega
    · have hke : k = l.length := by omega
      subst hke
      rw [List.take_length] at ht
      have HT := Lib.hid ht
      clear ht hn
      go_wp2_with fail
      go_ret
      exact ⟨_, _, _, rfl, HT.out⟩
end Go.Proofs.Ytfdhaodgnenhcaa.Nxe

/-
  Layer 15 (prepared): the document's bytes of a vote (layer 11).
-/
namespace Go.Proofs.Ytfdhaodgnenhcaa.Prj
set_option linter.unusedSimpArgs false
open Go Go.RowKit Cm Ck Cd Kw Pra Prh Pri
attribute [local go_sem ↓] Go.wp_at_zero Go.wp_at_succ
set_option linter.unusedVariables false

/-- What a vote's signature stands over. -/
def voteB (k v s d : Nat) : List UInt8 := [4] ++ Cm.enc k ++ Cm.enc v ++ Cm.enc s ++ Cm.enc d
end Go.Proofs.Ytfdhaodgnenhcaa.Prj

/-
  Contracts of the program's table that make memory: Open, roomyTable, NewTable, Sum.
-/
namespace Go.Proofs.Ytfdhaodgnenhcaa.Ib
set_option linter.unusedSimpArgs false
set_option linter.unusedVariables false
set_option maxRecDepth 100000
open Go Go.RowKit Ck Im Kw Ik

theorem info_u8 : (Try.prog.info? 5).map (fun i => (i.zero, i.size, i.bytes)) = some (some (.int .u8 0), 1, 1) := by kernel_rfl
/-- v is new bytes, made out of a text. -/
def Out (w : World) (base : Nat) (v : Value) (l : Tx) : Prop :=
  ∃ (g cap : Nat) (cs : Array Value) (z : Nat), v = .slice (some ⟨g, 0, none⟩) l.length cap ∧ base ≤ g ∧ w.heap[g]? = some (.cells cs 5 (z, z + 1)) ∧ l.length ≤ z ∧ l.length ≤ cap ∧ cap ≤ maxLen ∧ ∀ (j : Nat) (u : Value), (BVs l)[j]? = some u → cs[j]? = some u
theorem Out.sl {w : World} {base : Nat} {v : Value} {l : Tx} {X : Nat → Prop} (h : Out w base v l) (hX : ∀ k, base ≤ k → k < w.heap.size → ¬ X k) : Sl w X 1 v l.length (BVs l) := by
  obtain ⟨g, cap, cs, z, rfl, hb, hg, hz, hc, hm, hx⟩ := h
  have hlt := (Array.getElem?_eq_some_iff.1 hg).1
  refine ⟨_, _, rfl, by simp [BVs_len], hc, hm, fun _ => ⟨_, rfl, hlt, hX g hb hlt, fun j u hu => ?_⟩⟩
  have ha : (⟨g, 0, none⟩ : Addr).add j = ⟨g, j, none⟩ := by unfold Addr.add; split <;> simp_all
  rw [ha]
  simp only [World.cell?, hg]
  exact hx j u hu
theorem Out.ch {w w' : World} {base : Nat} {v : Value} {l : Tx} {S : Nat → Prop} (h : Out w base v l) (c : Ch S w w') (hS : ∀ k, base ≤ k → k < w.heap.size → ¬ S k) : Out w' base v l := by
  obtain ⟨g, cap, cs, z, rfl, hb, hg, r⟩ := h
  exact ⟨g, cap, cs, z, rfl, hb, (c.block g (Array.getElem?_eq_some_iff.1 hg).1 (hS g hb (Array.getElem?_eq_some_iff.1 hg).1)).trans hg, r⟩
theorem Out.base {w : World} {base b' : Nat} {v : Value} {l : Tx} (h : Out w base v l) (hb : b' ≤ base) : Out w b' v l := by
  obtain ⟨g, cap, cs, z, hv, h1, r⟩ := h
  exact ⟨g, cap, cs, z, hv, Nat.le_trans hb h1, r⟩
end Go.Proofs.Ytfdhaodgnenhcaa.Ib

/-
  Contracts of slices.Clone at three types, of maps.Clone at two.
-/
namespace Go.Proofs.Ytfdhaodgnenhcaa.Ic
set_option linter.unusedSimpArgs false
set_option linter.unusedVariables false
set_option maxRecDepth 100000
open Go Go.RowKit Ck Im Kw Ik Ib

theorem info_sign : (Try.prog.info? 39).map (fun i => (i.zero, i.size, i.bytes)) = some (some (.agg #[.int .i64 0, .int .i64 0]), 2, 16) := by kernel_rfl

set_option maxHeartbeats 400000 in
theorem clone_signs (X : Nat → Prop) (v : Value) (n : Nat) (xs : List Value) (w : World) (hv : Sl w X 2 v n xs) (h1 : ∀ u ∈ xs, u.oneCell' = true) (hn : n * 16 ≤ 140737488355328) :
    Calls Try.prog 24 #[v] w fun e w' => ∃ A c, e = .returned (.slice A n c) ∧ w'.ownsRow w.heap.size 39 2 (.slice A n c) n xs ∧ Below w.heap.size w w' := by
  obtain ⟨i0, hi0, hz0, hz1, hz2⟩ := info_parts info_sign
  have hv' := hv
  obtain ⟨A, c, rfl, hxl, -⟩ := hv'
  have heq := fun (W : World) => Lib.run_eql_slice_nil (P := Try.prog) W 24 39 A n c 0 0 Try.underlying24
  rcases A with _ | ad
  · obtain ⟨h0, rfl⟩ := hv.none_
    subst h0
    clear hv h1 hxl
    go_enter Try.func24, Try.ntmps24
    go_wp2
    go_ret
    exact ⟨_, _, rfl, World.ownsRow_nil _ _ _ _, Below.refl _ _⟩
  · have HX := Lib.hid hxl
    clear hxl
    go_enter Try.func24, Try.ntmps24
    go_wp2_with (at_builtin; refine wpList_append_sh _ rfl (.tmp 5) (.tmp 6) _ rfl w.heap.size 39 i0 _ 2 16 Try.underlying24 hi0 hz0 hz1 hz2 rfl (by omega) (.slice (some ⟨w.heap.size, 0, none⟩) 0 0) 0 [] rfl (World.ownsRow_made w #[] 0 (Nat.le_refl _) (by simp only [maxLen]; omega) rfl) X _ n xs rfl (hv.alloc _) h1 (by simp only [maxLen]; omega) (by omega) (by simp) ?_; intro A2 c2 w2 happ)
    go_ret
    obtain ⟨ho, hg, hr⟩ := happ
    rw [Nat.zero_add] at hr
    refine ⟨A2, c2, by simp, by simpa using ho, ?_⟩
    exact ((Below.refl _ _).alloc (Nat.le_refl _) _).grown hg (by simp) (by simp [Value.ownBlock])

end Go.Proofs.Ytfdhaodgnenhcaa.Ic

/-
  Contracts of the program's table: Plain, From.
-/
namespace Go.Proofs.Ytfdhaodgnenhcaa.Ie
set_option linter.unusedSimpArgs false
set_option linter.unusedVariables false
set_option maxRecDepth 100000
open Go Go.RowKit Ck Im Kw Ik Ib Ic

/-- v is a new list of new bytes. -/
def Pl (w : World) (base : Nat) (v : Value) (L : List Tx) : Prop :=
  ∃ vals, w.ownsRow base 85 1 v L.length vals ∧ ∀ i (h : i < L.length), ∃ u, vals[i]? = some u ∧ Out w base u L[i]
theorem Pl.ls {w : World} {base : Nat} {v : Value} {L : List Tx} {X : Nat → Prop} (h : Pl w base v L) (hX : ∀ k, base ≤ k → k < w.heap.size → ¬ X k) : Ls w X v L := by
  obtain ⟨vals, ho, hx⟩ := h
  exact ⟨vals, Sl.of_own ho hX, fun i hi => by obtain ⟨u, hu, hout⟩ := hx i hi; exact ⟨u, hu, hout.sl hX⟩⟩

end Go.Proofs.Ytfdhaodgnenhcaa.Ie

/-
  Contracts of bytes.Equal and of the document's table: Same, SameAll, Look, Open, Sum.
-/
namespace Go.Proofs.Ytfdhaodgnenhcaa.Ih
set_option linter.unusedSimpArgs false
set_option linter.unusedVariables false
set_option maxRecDepth 100000
open Go Go.RowKit Ck Im Kw Ik Ib Ic Ie

theorem Ls.shape {w : World} {X : Nat → Prop} {v : Value} {ls : List (List UInt8)} (h : Ls w X v ls) : ∃ A c, v = .slice A ls.length c := by
  obtain ⟨vals, ⟨A, c, hv, _⟩, _⟩ := h
  exact ⟨A, c, hv⟩

end Go.Proofs.Ytfdhaodgnenhcaa.Ih

/-
  Contract of the program's ledger: Sign.
-/
namespace Go.Proofs.Ytfdhaodgnenhcaa.Lc
set_option linter.unusedSimpArgs false
set_option linter.unusedVariables false
set_option maxRecDepth 100000
open Go Go.RowKit Ck Im Kw Ik Ib Ic Lk
attribute [local go_sem ↓] Go.wp_at_zero Go.wp_at_succ

/-- The world when Signed is asked: the result's cells, and the signature's. -/
def W1 (w : World) (x y : Int) : World := (w.alloc (.cells #[.int .i64 0, .int .i64 0] 39)).alloc (.cells #[.int .i64 x, .int .i64 y] 39)
end Go.Proofs.Ytfdhaodgnenhcaa.Lc

/-
  Contracts of the document's ledger: Signed; slices.Equal of signatures.
-/
namespace Go.Proofs.Ytfdhaodgnenhcaa.Ld
set_option linter.unusedSimpArgs false
set_option linter.unusedVariables false
set_option maxRecDepth 100000
open Go Go.RowKit Ck Im Kw Ik Ib Ic Lk Lc

/-- Are two signatures the same? (A word of its own.) -/
def sgB (s t : Sg) : Bool := decide (s = t)
theorem sgB_yes (s : Sg) : sgB s s = true := by simp [sgB]
theorem sgB_no {s t : Sg} (h : s ≠ t) : sgB s t = false := by simp [sgB, h]
theorem guard_sign : Try.prog.eqGuardType Try.prog.depth 39 = false := by kernel_rfl
theorem stood_sign : Try.prog.stoodInHeld 39 = false := by kernel_rfl
theorem fields_sign : Try.prog.underlying 39 = some (.struct (Try.prog.fieldsOf 39)) := by kernel_rfl
theorem run_equalIn_sign (W : World) (d : Nat) (a b c e : Int) : (Op.equalIn (d + 1 + 1) 39 (.agg #[.int .i64 a, .int .i64 b]) (.agg #[.int .i64 c, .int .i64 e])).run Try.prog W = .ok (sgB (a, b) (c, e)) W := by
  rw [run_equalIn_struct W (d + 1) 39 _ _ fields_sign stood_sign]
  have hf : (Try.prog.fieldsOf 39).toList = [{ name := "Key", type := 3, offset := 0, embedded := false, tag := "", pkgPath := "", byteOffset := 0 }, { name := "Digest", type := 23, offset := 1, embedded := false, tag := "", pkgPath := "", byteOffset := 8 }] := by kernel_rfl
  rw [hf]
  have h1 := fun (x y : Int) (W : World) => run_equalIn_int (P := Try.prog) W d 3 .i64 .i64 x y Try.underlying3
  have h2 := fun (x y : Int) (W : World) => run_equalIn_int (P := Try.prog) W d 23 .i64 .i64 x y Try.underlying23
  have p1 : ∀ (u v : Value) (W : World), (part 3 #[u, v] 0).run Try.prog W = .ok u W := fun u v W => by simp [part, isAgg, run_underlying Try.underlying3]
  have p2 : ∀ (u v : Value) (W : World), (part 23 #[u, v] 1).run Try.prog W = .ok v W := fun u v W => by simp [part, isAgg, run_underlying Try.underlying23]
  by_cases hac : a = c
  · by_cases hbe : b = e
    · subst hac; subst hbe
      simp [Op.eqFields, p1, p2, h1, h2, Result.andThen, sgB]
    · subst hac
      simp [Op.eqFields, p1, p2, h1, h2, Result.andThen, sgB, hbe]
  · simp [Op.eqFields, p1, h1, Result.andThen, sgB, hac]
theorem run_neq_sign (W : World) (a b c e : Int) : (binOp .neq 39 (.agg #[.int .i64 a, .int .i64 b]) (.agg #[.int .i64 c, .int .i64 e])).run Try.prog W = .ok (.bool (!sgB (a, b) (c, e))) W := by
  rw [run_neq_struct, show (10000 : Nat) = 9998 + 1 + 1 from rfl, run_equalIn_sign]
  rfl

end Go.Proofs.Ytfdhaodgnenhcaa.Ld

/-
  Layer 15 (prepared): whether a signature stands over bytes (layer 11, the document's).
-/
namespace Go.Proofs.Ytfdhaodgnenhcaa.Prk
set_option linter.unusedSimpArgs false
open Go Go.RowKit Ck Kw Ik Lk Pra Prh Pri Prj
open Im (num isIn)
attribute [local go_sem ↓] Go.wp_at_zero Go.wp_at_succ
set_option linter.unusedVariables false
set_option maxRecDepth 100000

def signedB (L : List (List UInt8)) (G : List Sg) (s : Sg) (key : Int) (b : List UInt8) : Bool := isIn L b && decide (s.1 = key) && decide (s.2 = (num L b : Int)) && isS G s
end Go.Proofs.Ytfdhaodgnenhcaa.Prk

/-
  Layer 15 (prepared): whether a vote's signature is valid (layer 11, the document's).
-/
namespace Go.Proofs.Ytfdhaodgnenhcaa.Prl
set_option linter.unusedSimpArgs false
open Go Go.RowKit Ck Kw Ga Ik Lk Pra Prh Pri Prj Prk
open Im (num isIn)
attribute [local go_sem ↓] Go.wp_at_zero Go.wp_at_succ
set_option linter.unusedVariables false
set_option maxRecDepth 100000

def validVoteB (L : List (List UInt8)) (G : List Sg) (s : Sg) (key k v q d : Int) : Bool := mayP k v q d && signedB L G s key (voteB k.toNat v.toNat q.toNat d.toNat)
end Go.Proofs.Ytfdhaodgnenhcaa.Prl

/-
  Layer 15 (prepared): whether a vote's signature is valid (layer 11, the document's), where its numbers may be.
-/
namespace Go.Proofs.Ytfdhaodgnenhcaa.Prm
set_option linter.unusedSimpArgs false
open Go Go.RowKit Ck Kw Ga Ik Lk Pra Prh Pri Prj Prk Prl
open Im (num isIn)
attribute [local go_sem ↓] Go.wp_at_zero Go.wp_at_succ
set_option linter.unusedVariables false
set_option maxRecDepth 100000

theorem own_base {w : World} {B B' : Nat} {t : TypeId} {v : Value} {n : Nat} {l : List Value} {size : Nat} (hB : B' ≤ B) (h : w.ownsRow B t size v n l) : w.ownsRow B' t size v n l := by
  refine ⟨h.1, ?_⟩
  rcases h.2 with h | ⟨gg, cc, cur, e1, e2, e3⟩
  · exact .inl h
  · exact .inr ⟨gg, cc, cur, e1, Nat.le_trans hB e2, e3⟩
end Go.Proofs.Ytfdhaodgnenhcaa.Prm

/-
  Layer 8 (request): the contracts of isTwice and CheckBatch.
-/
namespace Go.Proofs.Ytfdhaodgnenhcaa.Jc
set_option linter.unusedSimpArgs false
open Go Go.RowKit Ck Kw Ga Kf Pm Pe Pg Ph Qb Lk Jm Ja Jb
attribute [local go_sem ↓] Go.wp_at_zero Go.wp_at_succ
set_option linter.unusedVariables false

/-- A signed request lies there. -/
structure K1 (w0 : World) (g : Nat) (d : Sd) (A : Option Addr) (c : Nat) (W : World) : Prop where
  below : Below w0.heap.size w0 W
  new : w0.heap.size ≤ g
  one : DK W g d A c
theorem K1.later {w0 W W' : World} {g : Nat} {d : Sd} {A : Option Addr} {c : Nat} (h : K1 w0 g d A c W) (b : Below W.heap.size W W') : K1 w0 g d A c W' := ⟨h.below.trans (b.mono h.below.size), h.new, h.one.below b h.one.lt⟩
structure K2 (w0 : World) (g1 g2 : Nat) (x y : Sd) (A B : Option Addr) (c d : Nat) (W : World) : Prop where
  one : K1 w0 g1 x A c W
  two : DK W g2 y B d
theorem K2.later {w0 W W' : World} {g1 g2 : Nat} {x y : Sd} {A B : Option Addr} {c d : Nat} (h : K2 w0 g1 g2 x y A B c d W) (b : Below W.heap.size W W') : K2 w0 g1 g2 x y A B c d W' := ⟨h.one.later b, h.two.below b h.two.lt⟩
theorem K2.drew {w0 W : World} {g1 g2 : Nat} {x y : Sd} {A B : Option Addr} {c d : Nat} (h : K2 w0 g1 g2 x y A B c d W) : K2 w0 g1 g2 x y A B c d W.drew := h.later ⟨rfl, rfl, rfl, Nat.le_refl _, fun _ _ => rfl⟩

end Go.Proofs.Ytfdhaodgnenhcaa.Jc

/-
  Layer 6 (op): the document's own Put, kind by kind, and its Bytes.
-/
namespace Go.Proofs.Ytfdhaodgnenhcaa.Pn
set_option linter.unusedSimpArgs false
open Go Go.RowKit Ck Kw Ca Cb Cd Ci Pm Pa Pe Pg Ph Ppi Kx
set_option linter.unusedVariables false

/-- The operation stands there, and a row of the call's own. -/
structure RB (w0 : World) (g1 : Nat) (o : O) (A : Option Addr) (c : Nat) (v : Value) (l : Tx) (W : World) : Prop where
  rk : RK w0 g1 o A c W
  row : W.ownsRow w0.heap.size 5 1 v l.length (BVs l)
theorem RB.put {w0 W W1 W2 : World} {g1 : Nat} {o : O} {A : Option Addr} {c : Nat} {v' : Value} {l' : Tx} (h : RK w0 g1 o A c W) (b1 : Below W.heap.size W W1) (hown : W2.ownsRow W1.heap.size 5 1 v' l'.length (BVs l')) (b2 : Below W1.heap.size W1 W2) : RB w0 g1 o A c v' l' W2 := by
  have b : Below W.heap.size W W2 := b1.trans (b2.mono b1.size)
  exact ⟨h.later b, own_base hown (Nat.le_trans h.below.size b1.size)⟩
end Go.Proofs.Ytfdhaodgnenhcaa.Pn

/-
  Layer 6 (op): the contracts of slices.Grow, slices.Concat, strings.Clone.
-/
namespace Go.Proofs.Ytfdhaodgnenhcaa.Pj
set_option linter.unusedSimpArgs false
open Go Go.RowKit Ck Kw Ca Cb Pm Pa
set_option linter.unusedVariables false

set_option maxRecDepth 100000 in
set_option maxHeartbeats 2000000 in
theorem slclone_any (l : Tx) (w : World) (hlim : l.length ≤ 140737488355328) :
    Calls Try.prog 46 #[SV l] w fun e w' => e = .returned (SV l) ∧ Below w.heap.size w w' := by
  unfold SV
  have hsl := sv_size l
  generalize hs : ByteArray.mk l.toArray = s at *
  have hlim' : s.size ≤ 140737488355328 := by omega
  clear hs hsl hlim
  by_cases h0 : s.size = 0
  · have hs : s = ⟨#[]⟩ := by
      apply ByteArray.ext
      exact Array.eq_empty_of_size_eq_zero h0
    subst hs
    go_enter Try.func46, Try.ntmps46
    go_wp2
    go_ret
    exact ⟨rfl, Below.refl _ _⟩
  · obtain ⟨i0, hi, hz0, hz1, hz2⟩ := info_parts info_u8
    have hinfo : (Try.prog.info? 5).map (·.size) = some 1 := by rw [hi]; simp [hz1]
    have hco : Try.prog.cellsOf 5 = 1 := by simp [Program.cellsOf, hi, hz1]
    obtain ⟨M, hM⟩ : ∃ M, M = madeCells (Value.int .u8 0).cells (((s.size : Nat) : Int).toNat * i0.size) := ⟨_, rfl⟩
    have hMs : M.size = s.size := by rw [hM, size_madeCells, hz1]; simp
    have hmk : ∀ W : World, (Instr.makeSlice 85 (.int .i64 (s.size : Int)) (.int .i64 (s.size : Int))).run Try.prog W = .ok (.slice (some ⟨W.heap.size, 0, none⟩) s.size s.size) (W.alloc (.cells M 5)) := fun W => by
      have h := run_make (P := Try.prog) W 85 5 i0 (.int .u8 0) Try.underlying85 hi hz0 .i64 .i64 (s.size : Int) (s.size : Int) (by omega) (by omega) (by rw [hz2]; omega) (by omega)
      rw [← hM] at h
      simpa using h
    clear hM
    have hcp := Lib.run_copy_row_string (P := Try.prog) (w.alloc (.cells M 5)) 85 9 3 5 w.heap.size 0 s.size s.size s M 5 Try.underlying85 hinfo (heap_alloc_new w _) (Nat.le_refl _) (by omega)
    obtain ⟨Y, hY⟩ : ∃ Y, Y = (M.toList.take 0 ++ Lib.byteCells s.data.toList ++ M.toList.drop (0 + s.size)).toArray := ⟨_, rfl⟩
    rw [← hY] at hcp
    have hYl : Y.toList = Lib.byteCells s.data.toList := by
      rw [hY, List.toList_toArray, List.take_zero, List.nil_append, List.drop_of_length_le (by rw [Array.length_toList]; omega), List.append_nil]
    have hYs : Y.size = s.size := by rw [← Array.length_toList, hYl, Lib.byteCells_length, ← Lib.size_eq]
    have hgY : ((w.alloc (.cells M 5)).setRow w.heap.size Y).heap[w.heap.size]? = some (.cells Y 5 (0, 0)) := setRow_heap _ _ M _ 5 (0, 0) (heap_alloc_new w _)
    have hne : s.data.toList ≠ [] := fun e => h0 (by rw [Lib.size_eq, e]; rfl)
    have hUS := Lib.run_unsafeString_row (P := Try.prog) ((w.alloc (.cells M 5)).setRow w.heap.size Y) 91 3 9 5 Try.underlying91 hco w.heap.size Y.size (by unfold World.shape?; rw [hgY]) s.data.toList hne (by rw [← Lib.size_eq]; omega) (by rw [← Lib.size_eq]; omega)
      (fun j x hx => Lib.cells_of_row hgY Y.size j _ (by rw [List.take_of_length_le (by rw [Array.length_toList]; exact Nat.le_refl _), hYl]; simp [Lib.byteCells, hx]))
    rw [← Lib.size_eq] at hUS
    clear hY
    go_enter Try.func46, Try.ntmps46
    go_wp2
    go_ret
    have hb1 : Below w.heap.size w (w.alloc (.cells M 5)) := (Below.refl _ w).alloc (Nat.le_refl _) _
    have hb2 : Below w.heap.size (w.alloc (.cells M 5)) ((w.alloc (.cells M 5)).setRow w.heap.size Y) := ⟨rfl, rfl, rfl, by simp, fun k hk => setRow_other _ _ _ _ (by omega)⟩
    exact ⟨rfl, Lib.below_freeze (hb1.trans hb2) (p := ⟨w.heap.size, 0, none⟩) (Nat.le_refl _) _⟩

theorem sclone_any (l : Tx) (w : World) (hlim : l.length ≤ 140737488355328) :
    Calls Try.prog 43 #[SV l] w fun e w' => e = .returned (SV l) ∧ Below w.heap.size w w' := by
  have HC := Lib.hid (slclone_any l w hlim)
  unfold SV at HC ⊢
  go_enter Try.func43, Try.ntmps43
  go_wp2_with (go_at_call 46; refine HC.out.mono ?_; rintro e w1 ⟨rfl, hb⟩)
  go_ret
  exact ⟨rfl, hb⟩

end Go.Proofs.Ytfdhaodgnenhcaa.Pj

/-
  Layer 6 (op): the contract of bullalaw06.begun; the walk of the statement OpNames.
-/
namespace Go.Proofs.Ytfdhaodgnenhcaa.Pl
set_option linter.unusedSimpArgs false
open Go Go.RowKit Ck Kw Ca Cb Ci Pm Pa Pe Pg Ph Ppi Kx
set_option linter.unusedVariables false

def W0 (w : World) : World := (w.alloc (.cells #[.int .u8 9] 5)).alloc (.cells #[.slice (some ⟨w.heap.size, 0, none⟩) 1 1] 86)
end Go.Proofs.Ytfdhaodgnenhcaa.Pl

/-
  Layer 16 (newview): the document's Select, whole.
-/
import Derived.Test.YtfdhaodgnenhcaaQ08
import Derived.Test.YtfdhaodgnenhcaaQ03
import Derived.Deep.Cut
import Derived.BigQuiet
import Derived.Test.YtfdhaodgnenhcaaQ09
import Derived.Test.YtfdhaodgnenhcaaQ06
import Derived.StillTailTactics
namespace Go.Proofs.Ytfdhaodgnenhcaa.Nwd
set_option linter.unusedSimpArgs false
open Go Go.RowKit Cm Ck Kw Ga Kf Pm Py Jm Jb Pra Prb Prh Prr Pte Ky Nva Nvb Nve Nwa Nwb Nwc Nxa Nxe Nxf Nxo
attribute [local go_sem ↓] Go.wp_at_zero Go.wp_at_succ
set_option linter.unusedVariables false
set_option maxRecDepth 100000

abbrev Z3 : Array Value := #[.int .i64 0, .int .i64 0, .slice none 0 0]
/-- The cells of a checkpoint's certificate. -/
def RCE (c : Ce) (r : Option Addr × Nat) : Array Value := #[.int .i64 c.seq, .int .i64 c.dig, .slice r.1 c.signs.length r.2]
/-- What the document's Select answers. -/
def RSel (w : World) (c : Ce) (es : List En) (n : Int) (e : Ending) (w' : World) : Prop :=
  ∃ (r : Option Addr × Nat) (v : Value), e = .returned (.tuple #[.agg (RCE c r), v, .int .i64 n]) ∧ SS w' (fun _ => False) (.slice r.1 c.signs.length r.2) c.signs ∧ EnL w' (fun _ => False) v es ∧ Below w.heap.size w w'
theorem rsel_fails {w w' : World} {n : Int} {e : Ending} (h : Fails w n e w') : RSel w Ce.zero [] n e w' := ⟨(none, 0), _, h.1, Sl.nil _ _ _, GL.nil _ _ _, h.2⟩
/-- Where the first loop stands. -/
structure St1 (w : World) (W : World) : Prop where
  below : Below w.heap.size w W
  blk : Blk W w.heap.size 26 Z3
theorem St1.later {w W W' : World} (h : St1 w W) (b : Below W.heap.size W W') : St1 w W' := ⟨h.below.trans (b.mono h.below.size), h.blk.below b h.blk.lt⟩
theorem St1.fin {w W : World} (h : St1 w W) (x0 x1 x2 : Value) : Below w.heap.size w (((W.setCell ⟨w.heap.size, 0, none⟩ x0).setCell ⟨w.heap.size, 1, none⟩ x1).setCell ⟨w.heap.size, 2, none⟩ x2) := h.below.trans ((ch3 W w.heap.size x0 x1 x2).below (fun k hk e => by omega) h.below.size)
/-- Where the others stand: the best one so far in a block of its own. -/
structure St2 (w : World) (X : Nat → Prop) (g : Nat) (ce : Ce) (r : Option Addr × Nat) (W : World) : Prop where
  st : St1 w W
  best : Blk W g 26 (RCE ce r)
  signs : SS w X (.slice r.1 ce.signs.length r.2) ce.signs
  far : w.heap.size < g
theorem St2.later {w W W' : World} {X : Nat → Prop} {g : Nat} {ce : Ce} {r : Option Addr × Nat} (h : St2 w X g ce r W) (b : Below W.heap.size W W') : St2 w X g ce r W' := ⟨h.st.later b, h.best.below b h.best.lt, h.signs, h.far⟩
theorem St2.turn {w W : World} {X : Nat → Prop} {g : Nat} {ce ce' : Ce} {r r' : Option Addr × Nat} (h : St2 w X g ce r W) (hs : SS w X (.slice r'.1 ce'.signs.length r'.2) ce'.signs) : St2 w X g ce' r' (((W.setCell ⟨g, 0, none⟩ (.int .i64 ce'.seq)).setCell ⟨g, 1, none⟩ (.int .i64 ce'.dig)).setCell ⟨g, 2, none⟩ (.slice r'.1 ce'.signs.length r'.2)) := by
  have c := ch3 W g (.int .i64 ce'.seq) (.int .i64 ce'.dig) (.slice r'.1 ce'.signs.length r'.2)
  have hf := h.far
  exact ⟨⟨h.st.below.trans (c.below (fun k hk e => by omega) h.st.below.size), h.st.blk.ch c (by omega)⟩, blk3 h.best, hs, h.far⟩
theorem St2.cells {w W : World} {X : Nat → Prop} {g : Nat} {ce : Ce} {r : Option Addr × Nat} (h : St2 w X g ce r W) : (W.cell? ⟨g, 0, none⟩ = some (.int .i64 ce.seq) ∧ W.cell? ⟨g, 1, none⟩ = some (.int .i64 ce.dig) ∧ W.cell? ⟨g, 2, none⟩ = some (.slice r.1 ce.signs.length r.2)) ∧ (W.frozen? ⟨g, 0, none⟩ = false ∧ W.frozen? ⟨g, 1, none⟩ = false ∧ W.frozen? ⟨g, 2, none⟩ = false) :=
  ⟨⟨h.best.cell 0, h.best.cell 1, h.best.cell 2⟩, h.best.frozen 0, h.best.frozen 1, h.best.frozen 2⟩
/-- The answer, whatever the entries. -/
theorem St2.fin {w W : World} {X : Nat → Prop} {g : Nat} {ce : Ce} {r : Option Addr × Nat} {v : Value} {es : List En} (h : St2 w X g ce r W) (he : EnL W (fun k => k = w.heap.size) v es) : RSel w ce es 0 (.returned (.tuple #[.agg (RCE ce r), v, .int .i64 0])) (((W.setCell ⟨w.heap.size, 0, none⟩ (.int .i64 ce.seq)).setCell ⟨w.heap.size, 1, none⟩ (.int .i64 ce.dig)).setCell ⟨w.heap.size, 2, none⟩ (.slice r.1 ce.signs.length r.2)) := by
  have c := ch3 W w.heap.size (.int .i64 ce.seq) (.int .i64 ce.dig) (.slice r.1 ce.signs.length r.2)
  have hs : SS w (fun k => k = w.heap.size) (.slice r.1 ce.signs.length r.2) ce.signs := SS.weaken (X := fun k => X k ∨ k = w.heap.size) (Sl.weaken (X := X) h.signs (fun b hb hy => by
    rcases hy with hy | hy
    · exact hy
    · omega)) (fun b _ hb => .inr hb)
  exact ⟨r, v, rfl, (SS.weaken ((hs.after h.st.below).ch c (fun k _ hk => hk)) (fun b _ hb => hb.elim)), (GL.weaken (GL.ch he c (fun k _ hk => hk)) (fun b _ hb => hb.elim)), h.st.fin _ _ _⟩
theorem St2.ch {w W W' : World} {X S : Nat → Prop} {g : Nat} {ce : Ce} {r : Option Addr × Nat} (h : St2 w X g ce r W) (c : Ch S W W') (h1 : ¬ S w.heap.size) (h2 : ¬ S g) (h3 : ∀ k, S k → w.heap.size ≤ k) : St2 w X g ce r W' :=
  ⟨⟨h.st.below.trans (c.below (fun k hk e => by have := h3 k e; omega) h.st.below.size), h.st.blk.ch c h1⟩, h.best.ch c h2, h.signs, h.far⟩
theorem rokL_of {l : List Cg} (h : ∀ c ∈ l, okC c) : okL l :=
  ⟨fun c hc => by have := (h c hc).above; unfold NN; omega, fun c hc p hp => ((h c hc).each p hp).2.1, fun c hc p hp => ((h c hc).each p hp).1⟩
theorem rbest_seq {l : List Cg} (h : ∀ c ∈ l, okC c) : I64 (bestC (firstC l) l).seq := by
  refine best_mem (P := fun c => I64 c.seq) l ?_ (fun c hc => (h c hc).seq)
  unfold firstC
  cases l with
  | nil => exact ⟨by decide, by decide⟩
  | cons c l => exact (h c List.mem_cons_self).seq
theorem many_zero {b t : Int} (h : b < 0 ∨ t ≤ b) (view : Int) (l : List Cg) : entriesE view b t l = [] := by unfold entriesE manyE; rw [if_pos h]; rfl
theorem many_some {b t : Int} (h : ¬ b < 0) (h' : ¬ t ≤ b) : (manyE b t : Int) = min 8 (t - b) := by unfold manyE; rw [if_neg (by omega)]; omega
set_option maxHeartbeats 8000000 in
theorem rselect_ok (w : World) (X : Nat → Prop) (f view : Int) (v : Value) (l : List Cg) (h : CgL w X v l) (hl : l.length * 96 ≤ 140737488351232) (hok : ∀ c ∈ l, okC c) (hf : okF f = true) (hv1 : ¬ view < 1) (hv2 : ¬ 9007199254740992 < view) :
    Calls Try.prog 7 #[.int .i64 f, .int .i64 view, v] w (RSel w (certS f view l) (entS f view l) (errS f view l)) := by
  obtain ⟨A, c, rfl, hc⟩ := h.shape
  have HC := Lib.hid (fun W => rcheck_any W f)
  have hcp : Hid (checkP f = 0) := Lib.hid (by simp [checkP, hf])
  have hzv : ∀ W : World, (zeroValue 26).run Try.prog W = .ok (.agg #[.int .i64 0, .int .i64 0, .slice none 0 0]) W := fun W => by kernel_rfl
  have HH := Lib.hid (And.intro h (And.intro hl hok))
  have HE : Hid (errS f view l = if frB (brokersP f) (-1) l then if (l.length : Int) < 2 * f + 1 then 160 else 0 else 1) := Lib.hid (by unfold errS; rw [if_pos hf, decide_eq_false hv1, decide_eq_false hv2]; rfl)
  have HNO : Hid (errS f view l ≠ 0 → certS f view l = Ce.zero ∧ entS f view l = []) := Lib.hid (fun he => ⟨by unfold certS; rw [if_neg he], by unfold entS; rw [if_neg he]⟩)
  have HYES : Hid (errS f view l = 0 → certS f view l = bestC (firstC l) l ∧ entS f view l = entriesE view (bestC (firstC l) l).seq (topC 0 l) l) := Lib.hid (fun he => ⟨by unfold certS; rw [if_pos he], by unfold entS certS; rw [if_pos he, if_pos he]⟩)
  have HBR := Lib.hid (fun W => rbrokers_any W f)
  have HBG := Lib.hid (fun W => rbig_any W f)
  have HBB : Hid (bigP f = 2 * f + 1) := Lib.hid (by simp [bigP, hf])
  have HOKF := Lib.hid hf
  have hl63 : l.length ≤ 140737488355328 := by omega
  clear h hc hf hl hok
  go_enter Try.func7, Try.ntmps7
  go_upto_region 1 with fail
  have HS0 : Hid (St1 w (w.alloc (.cells #[.int .i64 0, .int .i64 0, .slice none 0 0] 26))) := Lib.hid ⟨(Below.refl _ w).alloc (Nat.le_refl _) _, Blk.new w _ _⟩
  generalize (w.alloc (.cells #[.int .i64 0, .int .i64 0, .slice none 0 0] 26)) = w0 at *
  go_wp2_with (go_at_call 11; refine (HC.out _).mono ?_; rintro e w1 ⟨rfl, rfl⟩; rw [hcp.out])
  go_loopw [10] (fun i wr => ∃ k : Nat, k ≤ l.length ∧ i = .int .i64 k ∧ (∀ j, j < k → okAt (brokersP f) l j) ∧ St1 w wr) (fun i _ => l.length - (intOf i).toNat)
  case atStart => exact ⟨0, Nat.zero_le _, rfl, fun j hj => by omega, HS0.out⟩
  case round =>
    obtain ⟨k, hk, rfl, hall, hst⟩ := hrel
    clear HS0 HC hcp
    by_cases hlt : k < l.length
    · obtain ⟨ad, r, rfl, hat, -, -, -⟩ := HH.out.1.at_ hlt (by decide)
      have hat : AtG kC w (ad.add (k * 8)) l[k] r := hat
      have a1 := (at_change (hat.later hst.below)).2.1
      have hkp : (0 : Int) ≤ (k : Int) := by omega
      have hkl : (k : Int) < (l.length : Int) := by omega
      have HBQ : Hid (∀ n, Calls Try.prog 13 #[.int .i64 f] (wr.drewN n) fun e w' => e = .returned (.int .i64 (brokersP f)) ∧ ∃ m, w' = wr.drewN m) := Lib.hid fun n => Calls.quiet_of_same ((HBR.out _).mono fun _ _ h => ⟨h.1, h.2.symm⟩)
      have HBAD : Hid (¬ okAt (brokersP f) l k → errS f view l = 1) := Lib.hid (fun h => by rw [HE.out, fr_bad hlt h]; rfl)
      have HFAIL : Hid (errS f view l = 1 → ∀ W v2, St1 w W → v2 = .slice none 0 0 → RSel w (certS f view l) (entS f view l) (errS f view l) (.returned (.tuple #[.agg Z3, v2, .int .i64 1])) (((W.setCell ⟨w.heap.size, 0, none⟩ (.int .i64 0)).setCell ⟨w.heap.size, 1, none⟩ (.int .i64 0)).setCell ⟨w.heap.size, 2, none⟩ (.slice none 0 0))) := Lib.hid (fun he W v2 hs hv => by
        have := HNO.out (by rw [he]; decide)
        rw [this.1, this.2, he, hv]
        exact rsel_fails ⟨rfl, hs.fin _ _ _⟩)
      have HST := Lib.hid hst
      have HALL := Lib.hid hall
      have HX := Lib.hid (fun j (hj : j < l.length) => hj)
      clear hall hst
      by_cases h1 : l[k].from_ < 0
      · have he := Lib.hid (HBAD.out (fun ho => by have := (ho hlt).1.1; omega))
        generalize l[k] = p at *
        clear HBQ hat
        go_wp2_with fail
        go_quiet (fail)
        have HSQ := Lib.hid (HST.out.later (below_drewN (Below.refl _ _) nq))
        clear HST a1
        generalize wr.drewN nq = wq at *
        have f0 := HSQ.out.blk.frozen 0
        have f1 := HSQ.out.blk.frozen 1
        have f2 := HSQ.out.blk.frozen 2
        have k0 := HSQ.out.blk.cell 0
        have k1 := HSQ.out.blk.cell 1
        have k2 := HSQ.out.blk.cell 2
        simp only [List.getElem?_toArray, List.getElem?_cons_zero, List.getElem?_cons_succ] at k0 k1 k2
        go_wp2_with fail
        refine bodyPost_ret (results_row_tmp2 rfl _ _ w.heap.size 26 Z3 (0, 0) _ rfl (blk3 HSQ.out.blk) Try.underlying26 rfl size_cert) rfl ?_
        exact HFAIL.out he.out wq _ HSQ.out rfl
      have h1' : decide (l[k].from_ < 0) = false := decide_eq_false h1
      by_cases h2 : brokersP f ≤ l[k].from_
      · have he := Lib.hid (HBAD.out (fun ho => by have := (ho hlt).1.2; omega))
        generalize l[k] = p at *
        generalize brokersP f = nb at *
        clear hat h1
        go_wp2_with fail
        go_quiet ((go_at_call 13; exact HBQ.out _))
        have HSQ := Lib.hid (HST.out.later (below_drewN (Below.refl _ _) nq))
        clear HST a1
        generalize wr.drewN nq = wq at *
        have f0 := HSQ.out.blk.frozen 0
        have f1 := HSQ.out.blk.frozen 1
        have f2 := HSQ.out.blk.frozen 2
        have k0 := HSQ.out.blk.cell 0
        have k1 := HSQ.out.blk.cell 1
        have k2 := HSQ.out.blk.cell 2
        simp only [List.getElem?_toArray, List.getElem?_cons_zero, List.getElem?_cons_succ] at k0 k1 k2
        go_wp2_with fail
        refine bodyPost_ret (results_row_tmp2 rfl _ _ w.heap.size 26 Z3 (0, 0) _ rfl (blk3 HSQ.out.blk) Try.underlying26 rfl size_cert) rfl ?_
        exact HFAIL.out he.out wq _ HSQ.out rfl
      have h2' : decide (brokersP f ≤ l[k].from_) = false := decide_eq_false h2
      by_cases hk0 : 0 < k
      · obtain ⟨j, hj⟩ : ∃ j, j + 1 = k := ⟨k - 1, by omega⟩
        have hjl : j < l.length := by omega
        obtain ⟨ad', r', had, hat2, -, -, -⟩ := HH.out.1.at_ hjl (by decide)
        obtain rfl : ad = ad' := Option.some.inj had
        have hat2 : AtG kC w (ad.add (j * 8)) l[j] r' := hat2
        have b1 := (at_change (hat2.later HST.out.below)).2.1
        have hw1 : IntKind.i64.wrap ((k : Int) - 1) = (j : Int) := by rw [show (k : Int) - 1 = (j : Int) by omega]; exact wrap64 (by omega) (by omega)
        have hk0' : (0 : Int) < (k : Int) := by omega
        have hkd : decide (0 < k) = true := decide_eq_true hk0
        have hkd2 : decide ((0 : Int) < (k : Int)) = true := decide_eq_true hk0'
        have hjp : (0 : Int) ≤ (j : Int) := by omega
        have hjL : (j : Int) < (l.length : Int) := by omega
        have HOKD : Hid (l[j].from_ < l[k].from_ → okAt (brokersP f) l k) := Lib.hid (fun hlt2 h => ⟨⟨by omega, by omega⟩, fun _ h' => by
          have e : l[k - 1]'h' = l[j] := by congr 1; omega
          rw [e]
          exact hlt2⟩)
        have HBAD2 : Hid (l[k].from_ ≤ l[j].from_ → errS f view l = 1) := Lib.hid (fun hle => HBAD.out (fun ho => by
          have h3 := (ho hlt).2 hk0 (by omega)
          have e : l[k - 1]'(by omega) = l[j] := by congr 1; omega
          rw [e] at h3
          omega))
        have HKN : Hid (∀ i, i < k → okAt (brokersP f) l i) := Lib.hid HALL.out
        by_cases h3 : l[k].from_ ≤ l[j].from_
        · have he := Lib.hid (HBAD2.out h3)
          generalize l[k] = p at *
          generalize l[j] = p' at *
          generalize brokersP f = nb at *
          clear hat hat2 h1 h2 had hj
          go_wp2_with fail
          go_quiet ((go_at_call 13; exact HBQ.out _))
          have HSQ := Lib.hid (HST.out.later (below_drewN (Below.refl _ _) nq))
          clear HST a1
          generalize wr.drewN nq = wq at *
          have f0 := HSQ.out.blk.frozen 0
          have f1 := HSQ.out.blk.frozen 1
          have f2 := HSQ.out.blk.frozen 2
          have k0 := HSQ.out.blk.cell 0
          have k1 := HSQ.out.blk.cell 1
          have k2 := HSQ.out.blk.cell 2
          simp only [List.getElem?_toArray, List.getElem?_cons_zero, List.getElem?_cons_succ] at k0 k1 k2
          go_wp2_with fail
          refine bodyPost_ret (results_row_tmp2 rfl _ _ w.heap.size 26 Z3 (0, 0) _ rfl (blk3 HSQ.out.blk) Try.underlying26 rfl size_cert) rfl ?_
          exact HFAIL.out he.out wq _ HSQ.out rfl
        · have HGO : Hid (∀ i, i < k + 1 → okAt (brokersP f) l i) := Lib.hid (fun i hi => by
            rcases Nat.lt_or_ge i k with h4 | h4
            · exact HKN.out i h4
            · have : i = k := by omega
              subst this
              exact HOKD.out (by omega))
          have h3' : decide (l[k].from_ ≤ l[j].from_) = false := decide_eq_false h3
          generalize l[k] = p at *
          generalize l[j] = p' at *
          generalize brokersP f = nb at *
          clear hat hat2 h1 h2 h3 had hj HBAD HBAD2 HOKD
          go_wp2_with fail
          go_quiet ((go_at_call 13; exact HBQ.out _))
          have HSQ := Lib.hid (HST.out.later (below_drewN (Below.refl _ _) nq))
          clear HST a1 b1
          generalize wr.drewN nq = wq at *
          go_wp2_with fail
          go_roundw
          case rel => exact ⟨k + 1, by omega, by go_num, HGO.out, HSQ.out⟩
          case measure => simp [intOf]; omega
      · have hk00 : k = 0 := by omega
        have hk0' : decide ((0 : Int) < (k : Int)) = false := decide_eq_false (by omega)
        have hkd : decide (0 < k) = false := decide_eq_false hk0
        have HGO : Hid (∀ i, i < k + 1 → okAt (brokersP f) l i) := Lib.hid (fun i hi => by
          have : i = k := by omega
          subst this
          exact fun h => ⟨⟨by omega, by omega⟩, fun h5 => by omega⟩)
        generalize l[k] = p at *
        generalize brokersP f = nb at *
        clear hat h1 h2 hk0 hk00 HBAD
        go_wp2_with fail
        go_quiet ((go_at_call 13; exact HBQ.out _))
        have HSQ := Lib.hid (HST.out.later (below_drewN (Below.refl _ _) nq))
        clear HST a1
        generalize wr.drewN nq = wq at *
        go_wp2_with fail
        go_roundw
        case rel => exact ⟨k + 1, by omega, by go_num, HGO.out, HSQ.out⟩
        case measure => simp [intOf]; omega
    · have hke : k = l.length := by omega
      subst hke
      have HFR : Hid (errS f view l = if (l.length : Int) < 2 * f + 1 then 160 else 0) := Lib.hid (by rw [HE.out, fr_all hall]; rfl)
      clear HE HBR hall
      have HST := Lib.hid hst
      clear hst
      have f0 := HST.out.blk.frozen 0
      have f1 := HST.out.blk.frozen 1
      have f2 := HST.out.blk.frozen 2
      have k0 := HST.out.blk.cell 0
      have k1 := HST.out.blk.cell 1
      have k2 := HST.out.blk.cell 2
      simp only [List.getElem?_toArray, List.getElem?_cons_zero, List.getElem?_cons_succ] at k0 k1 k2
      have hbb := HBB.out
      obtain ⟨nb, hnb⟩ : ∃ nb, nb = 2 * f + 1 := ⟨_, rfl⟩
      rw [← hnb] at HFR hbb
      rw [hbb] at HBG
      have HNB : Hid (3 ≤ nb) := Lib.hid (by have := (okF_yes HOKF.out).1; omega)
      clear HBB hbb hnb
      by_cases hfew : (l.length : Int) < nb
      · have he : Hid (errS f view l = 160) := Lib.hid (by rw [HFR.out, if_pos hfew])
        have HFL : Hid (RSel w (certS f view l) (entS f view l) (errS f view l) (.returned (.tuple #[.agg Z3, .slice none 0 0, .int .i64 160])) (((wr.setCell ⟨w.heap.size, 0, none⟩ (.int .i64 0)).setCell ⟨w.heap.size, 1, none⟩ (.int .i64 0)).setCell ⟨w.heap.size, 2, none⟩ (.slice none 0 0))) := Lib.hid (by
          have := HNO.out (by rw [he.out]; decide)
          rw [this.1, this.2, he.out]
          exact rsel_fails ⟨rfl, HST.out.fin _ _ _⟩)
        go_wp2_with (go_at_call 18; refine (HBG.out _).mono ?_; rintro e w1 ⟨rfl, rfl⟩)
        refine bodyPost_ret (results_row_tmp2 rfl _ _ w.heap.size 26 Z3 (0, 0) _ rfl (blk3 HST.out.blk) Try.underlying26 rfl size_cert) rfl ?_
        exact HFL.out
      · have he : Hid (errS f view l = 0) := Lib.hid (by rw [HFR.out, if_neg hfew])
        have HY := Lib.hid (HYES.out he.out)
        rw [HY.out.1, HY.out.2, he.out]
        have h0 : 0 < l.length := by have := HNB.out; omega
        obtain ⟨ad, r, rfl, hat, hci, -, -⟩ := HH.out.1.at_ h0 (by decide)
        have hat : AtG kC w (ad.add (0 * 8)) l[0] r := hat
        have hadd : ad.add (0 * 8) = ad := by unfold Addr.add; rw [if_pos (by omega)]
        rw [hadd] at hat
        obtain ⟨-, -, a2, a3, a4, -, -, -⟩ := at_change (hat.later HST.out.below)
        have hfc : l[0].cert = firstC l := by
          cases l with
          | nil => simp at h0
          | cons x t => rfl
        have hss : SS w X (.slice r.1.1 l[0].cert.signs.length r.1.2) l[0].cert.signs := hci.signs
        rw [hfc] at a2 a3 a4 hss
        have hl0 : (0 : Int) < (l.length : Int) := by omega
        have HS2 : Hid (St2 w X wr.heap.size (firstC l) r.1 (wr.alloc (.cells (RCE (firstC l) r.1) 26))) := Lib.hid ⟨HST.out.later ((Below.refl _ _).alloc (Nat.le_refl _) _), Blk.new _ _ _, hss, HST.out.blk.lt⟩
        have HB0 : Hid (bestC (firstC l) (l.take 0) = firstC l) := Lib.hid rfl
        have HBI := Lib.hid (rbest_seq HH.out.2.2)
        have HTR : Hid (topC 0 l ≤ 9223372036854775807) := Lib.hid (top_range (rokL_of HH.out.2.2) ⟨by decide, by decide⟩)
        have HS := Lib.hid (fun k (hk : k < l.length) => best_step (firstC l) hk)
        have HT := Lib.hid (fun k (hk : k < l.length) => topC_step 0 hk)
        unfold RCE at HS2
        clear hat hadd hci hfc hss HYES HNO HFR f0 f1 f2 k0 k1 k2 HST
        generalize hbf : firstC l = c0 at *
        clear hbf
        go_wp2_with (go_at_call 18; refine (HBG.out _).mono ?_; rintro e w1 ⟨rfl, rfl⟩)
        generalize (wr.alloc (.cells #[.int .i64 c0.seq, .int .i64 c0.dig, .slice r.1.1 c0.signs.length r.1.2] 26)) = w2 at *
        generalize wr.heap.size = g at *
        clear a2 a3 a4 hfew hl0
        go_loopw [12, 13] (fun lastv i wr => ∃ (k : Nat) (re : Option Addr × Nat), k ≤ l.length ∧ i = .int .i64 k ∧ lastv = .int .i64 (topC 0 (l.take k)) ∧ St2 w X g (bestC c0 (l.take k)) re wr) (fun _ i _ => l.length - (intOf i).toNat)
        case atStart => exact ⟨0, r.1, Nat.zero_le _, rfl, rfl, HS2.out⟩
        case round =>
          obtain ⟨k, re, hk, rfl, rfl, hst⟩ := hrel
          clear HS2
          by_cases hlt : k < l.length
          · obtain ⟨ad', r', had, hat, hci, -, -⟩ := HH.out.1.at_ hlt (by decide)
            obtain rfl : ad = ad' := Option.some.inj had
            have hat : AtG kC w (ad.add (k * 8)) l[k] r' := hat
            obtain ⟨-, -, a2, a3, a4, a5, -, -⟩ := at_change (hat.later hst.st.below)
            have hkp : (0 : Int) ≤ (k : Int) := by omega
            have hkl : (k : Int) < (l.length : Int) := by omega
            have HATX := Lib.hid (fun W (b : Below w.heap.size w W) => at_change (hat.later b))
            have HPL := Lib.hid hci.above
            have HSG : Hid (SS w X (.slice r'.1.1 l[k].cert.signs.length r'.1.2) l[k].cert.signs) := Lib.hid hci.signs
            have HBS := Lib.hid (HS.out k hlt)
            have HTS := Lib.hid (HT.out k hlt)
            have hal : l[k].above.length ≤ 140737488355328 := by have := (HH.out.2.2 l[k] (List.getElem_mem hlt)).above; omega
            have HST := Lib.hid hst
            obtain ⟨⟨q0, q1, q2⟩, ⟨y0, y1, y2⟩⟩ := hst.cells
            generalize l[k] = p at *
            generalize bestC c0 (l.take k) = ce at *
            generalize topC 0 (l.take k) = lst at *
            clear hat hci hst had
            have HQB : Hid (∀ n, Below w.heap.size w (wr.drewN n)) := Lib.hid (fun n => below_drewN HST.out.st.below n)
            by_cases hgt : ce.seq < p.cert.seq
            · rw [if_pos hgt] at HBS
              go_wp2_with fail
              go_quiet (fail)
              have HSQ := Lib.hid (HST.out.later (below_drewN (Below.refl _ _) nq))
              have HQ := Lib.hid (HQB.out nq)
              clear a2 a3 a4 a5 q0 q1 q2 y0 y1 y2 HST HQB
              generalize wr.drewN nq = wq at *
              obtain ⟨-, -, a2, a3, a4, a5, -, -⟩ := HATX.out wq HQ.out
              obtain ⟨⟨q0, q1, q2⟩, ⟨y0, y1, y2⟩⟩ := HSQ.out.cells
              have HSW := Lib.hid (HSQ.out.turn (ce' := p.cert) (r' := r'.1) HSG.out)
              go_wp2_with fail
              clear a2 a3 a4 a5 q0 q1 q2 y0 y1 y2 HQ HSQ
              generalize (((wq.setCell ⟨g, 0, none⟩ (.int .i64 p.cert.seq)).setCell ⟨g, 1, none⟩ (.int .i64 p.cert.dig)).setCell ⟨g, 2, none⟩ (.slice r'.1.1 p.cert.signs.length r'.1.2)) = wz at *
              have HPW := Lib.hid (HATX.out wz HSW.out.st.below).2.2.2.2.2.1
              have HPB := Lib.hid HSW.out.st.below
              generalize p.above = P at *
              go_loopw [12, 14] (fun lv j wx => ∃ m : Nat, m ≤ P.length ∧ j = .int .i64 m ∧ lv = .int .i64 (topP lst (P.take m)) ∧ wx = wz) (fun _ j _ => P.length - (intOf j).toNat)
              case atStart => exact ⟨0, Nat.zero_le _, rfl, rfl, rfl⟩
              case round =>
                obtain ⟨m, hm, rfl, rfl, rfl⟩ := hrel
                have a5 := HPW.out
                by_cases hml : m < P.length
                · obtain ⟨ap, rp, hAp, hap, hpi⟩ := HPL.out.at_ hml
                  obtain ⟨b0, b1, b2, b3, b4, b5, b6⟩ := hap.later HPB.out
                  have hmp : (0 : Int) ≤ (m : Int) := by omega
                  have hmi : (m : Int) < (P.length : Int) := by omega
                  have HTP := Lib.hid (topP_step lst hml)
                  rw [hAp] at a5
                  generalize P[m] = x at *
                  generalize topP lst (P.take m) = tm at *
                  clear hap hpi
                  go_wp2_with fail
                  go_roundw
                  case rel => exact ⟨m + 1, by omega, by go_num, by rw [HTP.out], trivial⟩
                  case measure => simp [intOf]; omega
                · have hme : m = P.length := by omega
                  subst hme
                  rw [List.take_length, ← HTS.out]
                  go_wp2_with fail
                  go_roundw
                  case rel => exact ⟨k + 1, r'.1, by omega, by go_num, rfl, by rw [HBS.out]; exact HSW.out⟩
                  case measure => simp [intOf]; omega
            · rw [if_neg hgt] at HBS
              have hgt' : decide (ce.seq < p.cert.seq) = false := decide_eq_false hgt
              go_wp2_with fail
              go_quiet (fail)
              have HSQ := Lib.hid (HST.out.later (below_drewN (Below.refl _ _) nq))
              clear a2 a3 a4 a5 q0 q1 q2 y0 y1 y2 HST HQB
              generalize wr.drewN nq = wz at *
              have HSW := HSQ
              go_wp2_with fail
              have HPW := Lib.hid (HATX.out wz HSW.out.st.below).2.2.2.2.2.1
              have HPB := Lib.hid HSW.out.st.below
              generalize p.above = P at *
              go_loopw [12, 14] (fun lv j wx => ∃ m : Nat, m ≤ P.length ∧ j = .int .i64 m ∧ lv = .int .i64 (topP lst (P.take m)) ∧ wx = wz) (fun _ j _ => P.length - (intOf j).toNat)
              case atStart => exact ⟨0, Nat.zero_le _, rfl, rfl, rfl⟩
              case round =>
                obtain ⟨m, hm, rfl, rfl, rfl⟩ := hrel
                have a5 := HPW.out
                by_cases hml : m < P.length
                · obtain ⟨ap, rp, hAp, hap, hpi⟩ := HPL.out.at_ hml
                  obtain ⟨b0, b1, b2, b3, b4, b5, b6⟩ := hap.later HPB.out
                  have hmp : (0 : Int) ≤ (m : Int) := by omega
                  have hmi : (m : Int) < (P.length : Int) := by omega
                  have HTP := Lib.hid (topP_step lst hml)
                  rw [hAp] at a5
                  generalize P[m] = x at *
                  generalize topP lst (P.take m) = tm at *
                  clear hap hpi
                  go_wp2_with fail
                  go_roundw
                  case rel => exact ⟨m + 1, by omega, by go_num, by rw [HTP.out], trivial⟩
                  case measure => simp [intOf]; omega
                · have hme : m = P.length := by omega
                  subst hme
                  rw [List.take_length, ← HTS.out]
                  go_wp2_with fail
                  go_roundw
                  case rel => exact ⟨k + 1, re, by omega, by go_num, rfl, by rw [HBS.out]; exact HSW.out⟩
                  case measure => simp [intOf]; omega
          · have hke : k = l.length := by omega
            subst hke
            rw [List.take_length] at hst ⊢
            have HST := Lib.hid hst
            clear hst HS HT
            generalize bestC c0 l = ce at *
            generalize hlst : topC 0 l = lst at *
            by_cases hz : ce.seq < 0 ∨ lst ≤ ce.seq
            · have HEN := Lib.hid (many_zero hz view l)
              obtain ⟨⟨q0, q1, q2⟩, ⟨y0, y1, y2⟩⟩ := HST.out.cells
              have f0 := HST.out.st.blk.frozen 0
              have f1 := HST.out.st.blk.frozen 1
              have f2 := HST.out.st.blk.frozen 2
              have k0 := HST.out.st.blk.cell 0
              have k1 := HST.out.st.blk.cell 1
              have k2 := HST.out.st.blk.cell 2
              simp only [List.getElem?_toArray, List.getElem?_cons_zero, List.getElem?_cons_succ] at k0 k1 k2
              have HFN := Lib.hid (HST.out.fin (GL.nil kE _ _))
              rcases Classical.em (ce.seq < 0) with hneg | hneg
              · go_wp2_with fail
                refine bodyPost_ret (results_row_tmp2 rfl _ _ w.heap.size 26 (RCE ce re) (0, 0) _ rfl (blk3 HST.out.st.blk) Try.underlying26 rfl size_cert) rfl ?_
                rw [HY.out.1, HY.out.2, he.out, HEN.out]
                exact HFN.out
              · have hle : lst ≤ ce.seq := by omega
                go_wp2_with fail
                refine bodyPost_ret (results_row_tmp2 rfl _ _ w.heap.size 26 (RCE ce re) (0, 0) _ rfl (blk3 HST.out.st.blk) Try.underlying26 rfl size_cert) rfl ?_
                rw [HY.out.1, HY.out.2, he.out, HEN.out]
                exact HFN.out
            · have hneg : ¬ ce.seq < 0 := fun h => hz (.inl h)
              have hle : ¬ lst ≤ ce.seq := fun h => hz (.inr h)
              have HMN := Lib.hid (many_some hneg hle)
              have HNG : Hid (0 ≤ ce.seq ∧ ce.seq < lst ∧ lst ≤ 9223372036854775807) := Lib.hid ⟨by omega, by omega, HTR.out⟩
              obtain ⟨i0, hi0, hz0, hz1, hz2⟩ := info_parts info_entry
              obtain ⟨⟨q0, q1, q2⟩, -⟩ := HST.out.cells
              have HHX : Hid (CgL w (fun k => X k ∨ w.heap.size ≤ k) (.slice (some ad) l.length c) l) := Lib.hid (HH.out.1.weaken (fun b hb hy => by
                rcases hy with hy | hy
                · exact hy
                · omega))
              have hw1 : IntKind.i64.wrap (lst - ce.seq) = lst - ce.seq := wrap64 (by have := HNG.out; omega) (by have := HNG.out; omega)
              obtain ⟨mn, hmn⟩ : ∃ mn, mn = manyE ce.seq lst := ⟨_, rfl⟩
              rw [← hmn] at HMN
              have HME := Lib.hid hmn
              have hm8 : mn ≤ 8 := by have := HMN.out; omega
              clear hz hmn
              go_wp2_with fail
              clear q0 q1 q2
              go_loopw [15, 16] (fun lv i wr => ∃ n : Nat, n ≤ mn ∧ i = .int .i64 n ∧ OG kE wr (w.heap.size + 1) 56 (fun k => X k ∨ w.heap.size ≤ k) lv ((List.range n).map (entE view ce.seq l)) ∧ St2 w X g ce re wr) (fun _ i _ => mn - (intOf i).toNat)
              case atStart => exact ⟨0, Nat.zero_le _, rfl, OG.nil _ _ _ _ _, HST.out⟩
              case round =>
                obtain ⟨n, hn, rfl, hog, hst⟩ := hrel
                obtain ⟨⟨q0, q1, q2⟩, ⟨y0, y1, y2⟩⟩ := hst.cells
                by_cases hlt : n < mn
                · have hn8 : (n : Int) < 8 := by omega
                  have hnl : (n : Int) < lst - ce.seq := by have := HMN.out; omega
                  obtain ⟨z, hz⟩ : ∃ z, z = ce.seq + (n : Int) + 1 := ⟨_, rfl⟩
                  have hw2 : IntKind.i64.wrap (ce.seq + (n : Int)) = ce.seq + (n : Int) := wrap64 (by have := HNG.out; omega) (by have := HNG.out; omega)
                  have hw3 : IntKind.i64.wrap (ce.seq + (n : Int) + 1) = z := by rw [hz]; exact wrap64 (by have := HNG.out; omega) (by have := HNG.out; omega)
                  have HEE : Hid (entE view ce.seq l n = ⟨view, z, batchO (latC z none l), (0, 0)⟩) := Lib.hid (by unfold entE; rw [← hz])
                  have HLT := Lib.hid (rlatest_any wr _ _ l z (HHX.out.after hst.st.below) hl63 (fun x hx => by have := (HH.out.2.2 x hx).above; omega))
                  have HSN := Lib.hid (ents_step view ce.seq l n)
                  obtain ⟨rs, hg, hrow⟩ := hog.ex
                  have HEL : Hid (((List.range n).map (entE view ce.seq l)).length + 1 ≤ maxLen ∧ (((List.range n).map (entE view ce.seq l)).length + 1) * 56 ≤ 140737488355328) := Lib.hid (by rw [List.length_map, List.length_range]; simp only [maxLen]; omega)
                  have HOT := Lib.hid (And.intro hst (And.intro hg hrow))
                  generalize (List.range n).map (entE view ce.seq l) = es at *
                  obtain ⟨Ae, ce', rfl⟩ := own_shape hrow
                  generalize batchO (latC z none l) = bat at *
                  clear hg hrow hog hst hz
                  go_wp2_with fail
                  refine HLT.out.mono ?_
                  rintro e w5 ⟨r5, rfl, hbi, hb5⟩
                  have HBI5 : Hid (EnI w5 (fun k => X k ∨ w.heap.size ≤ k) ⟨view, z, bat, (0, 0)⟩ r5) := Lib.hid (BI.after hbi hb5)
                  have HB5 := Lib.hid hb5
                  have HRW : Hid ((w5.alloc (.cells (EC ⟨view, z, bat, (0, 0)⟩ r5) 56)).ownsRow (w.heap.size + 1) 56 5 (.slice Ae es.length ce') es.length (flatG kE es rs)) := Lib.hid (own_below HOT.out.2.2 (hb5.alloc hb5.size _))
                  have HLIT := Lib.hid (lit_one kE w5 (fun _ => False) 56 ⟨view, z, bat, (0, 0)⟩ r5 (fun h => h))
                  have HONE := Lib.hid (EC_one ⟨view, z, bat, (0, 0)⟩ r5)
                  have HWS : Hid (w.heap.size + 1 ≤ (w5.alloc (.cells (EC ⟨view, z, bat, (0, 0)⟩ r5) 56)).heap.size) := Lib.hid (by have := HOT.out.1.st.below.size; have := hb5.size; simp only [World.size_alloc]; omega)
                  change Hid (Sl (w5.alloc (.cells (EC ⟨view, z, bat, (0, 0)⟩ r5) 56)) (fun _ => False) 5 _ 1 (EC ⟨view, z, bat, (0, 0)⟩ r5).toList) at HLIT
                  clear hbi hb5 q0 q1 q2 y0 y1 y2
                  unfold EC at HLIT HONE HRW HWS
                  go_wp2_with (at_builtin; refine wpList_append_sh _ rfl (.tmp 150) (.tmp 157) _ rfl (w.heap.size + 1) 56 i0 _ 5 56 Try.underlying27 hi0 hz0 hz1 hz2 rfl (by omega) (.slice Ae es.length ce') es.length (flatG kE es rs) rfl HRW.out (fun _ => False) _ 1 _ rfl HLIT.out HONE.out HEL.out.1 HEL.out.2 HWS.out ?_; intro Af cf w6 happ)
                  have hb7 : Below w5.heap.size w5 (w5.alloc (.cells (EC ⟨view, z, bat, (0, 0)⟩ r5) 56)) := (Below.refl _ _).alloc (Nat.le_refl _) _
                  have hbb := HB5.out.trans (hb7.mono HB5.out.size)
                  have hc := Ch.of_grown (S := fun k => (Value.slice Ae es.length ce').ownBlock = some k) happ.2.1 (fun g hg _ => hg)
                  have how : ∀ q, (Value.slice Ae es.length ce').ownBlock = some q → w.heap.size + 1 ≤ q := fun q hq => (HOT.out.2.2.lt q hq).1
                  have hne : 56 ≠ 26 := by decide
                  have hnew := OG.snoc (κ := kE) (a := ⟨view, z, bat, (0, 0)⟩) (r := r5) (HOT.out.2.1.after hbb) (kE.after (w := w5) HBI5.out hb7) happ hc (fun q hq => .inr (by have := how q hq; omega))
                  have hst6 := (HOT.out.1.later hbb).ch hc (own_far HRW.out (HOT.out.1.later hbb).st.blk hne) (own_far HRW.out (HOT.out.1.later hbb).best hne) (fun q hq => by have := how q hq; omega)
                  rw [← HEE.out, ← HSN.out] at hnew
                  have HNO := Lib.hid (And.intro hnew hst6)
                  clear hnew hst6 hb7 hbb hc how happ HLIT HONE HRW HWS
                  go_roundw
                  case rel => exact ⟨n + 1, by omega, by go_num, HNO.out.1, HNO.out.2⟩
                  case measure => simp [intOf]; omega
                · have hne : n = mn := by omega
                  subst hne
                  have f0 := hst.st.blk.frozen 0
                  have f1 := hst.st.blk.frozen 1
                  have f2 := hst.st.blk.frozen 2
                  have k0 := hst.st.blk.cell 0
                  have k1 := hst.st.blk.cell 1
                  have k2 := hst.st.blk.cell 2
                  simp only [List.getElem?_toArray, List.getElem?_cons_zero, List.getElem?_cons_succ] at k0 k1 k2
                  have HOG := Lib.hid hog
                  have HFN := Lib.hid (hst.fin (hog.gl (Y := fun k => k = w.heap.size) (fun k hk => .inr (by omega)) (fun k hk e => by omega)))
                  have HSB := Lib.hid hst.st.blk
                  have HEQ : Hid ((List.range n).map (entE view ce.seq l) = entriesE view ce.seq lst l) := Lib.hid (by unfold entriesE; rw [← HME.out])
                  clear hog hst
                  by_cases hn8 : (n : Int) < 8
                  · have hnl : ¬ (n : Int) < lst - ce.seq := by have := HMN.out; omega
                    go_wp2_with fail
                    refine bodyPost_ret (results_row_tmp2 rfl _ _ w.heap.size 26 (RCE ce re) (0, 0) _ rfl (blk3 HSB.out) Try.underlying26 rfl size_cert) rfl ?_
                    rw [HY.out.1, HY.out.2, he.out, ← HEQ.out]
                    exact HFN.out
                  · go_wp2_with fail
                    refine bodyPost_ret (results_row_tmp2 rfl _ _ w.heap.size 26 (RCE ce re) (0, 0) _ rfl (blk3 HSB.out) Try.underlying26 rfl size_cert) rfl ?_
                    rw [HY.out.1, HY.out.2, he.out, ← HEQ.out]
                    exact HFN.out
end Go.Proofs.Ytfdhaodgnenhcaa.Nwd

/-
  Layer 16 (newview): the document's Select at any f and view; SameCert, SameEntries.
-/
namespace Go.Proofs.Ytfdhaodgnenhcaa.Nwe
set_option linter.unusedSimpArgs false
open Go Go.RowKit Cm Ck Kw Ga Kf Pm Pe Pg Ph Qb Lk Ld Py Ja Jm Jb Jk Pra Prb Prc Prh Prr Pte Ky Nva Nvb Nve Nwa Nwb Nwc Nwd Nxa Nxe Nxf Nxg Nxo
attribute [local go_sem ↓] Go.wp_at_zero Go.wp_at_succ
set_option linter.unusedVariables false
set_option maxRecDepth 100000

theorem rselect_any (w : World) (X : Nat → Prop) (f view : Int) (v : Value) (l : List Cg) (h : CgL w X v l) (hl : l.length * 96 ≤ 140737488351232) (hok : ∀ c ∈ l, okC c) :
    Calls Try.prog 7 #[.int .i64 f, .int .i64 view, v] w (RSel w (certS f view l) (entS f view l) (errS f view l)) := by
  have hno : errS f view l ≠ 0 → certS f view l = Ce.zero ∧ entS f view l = [] := fun he => ⟨by unfold certS; rw [if_neg he], by unfold entS; rw [if_neg he]⟩
  cases hf : okF f with
  | false =>
    have he : errS f view l = 120 := by unfold errS; rw [hf]; rfl
    have hz := hno (by rw [he]; decide)
    rw [hz.1, hz.2, he]
    exact (rselect_f w f view v hf).mono fun e w' h => rsel_fails h
  | true =>
    by_cases h1 : view < 1
    · have he : errS f view l = 1 := by unfold errS; rw [hf, decide_eq_true h1]; rfl
      have hz := hno (by rw [he]; decide)
      rw [hz.1, hz.2, he]
      exact (rselect_low w f view v hf h1).mono fun e w' h => rsel_fails h
    · by_cases h2 : 9007199254740992 < view
      · have he : errS f view l = 1 := by unfold errS; rw [hf, decide_eq_true h2]; simp
        have hz := hno (by rw [he]; decide)
        rw [hz.1, hz.2, he]
        exact (rselect_high w f view v hf h1 h2).mono fun e w' h => rsel_fails h
      · exact rselect_ok w X f view v l h hl hok hf h1 h2
set_option maxHeartbeats 4000000 in
theorem s10_any (w : World) (X Y : Nat → Prop) (va vb : Value) (l m : List (Int × Int)) (ha : SS w X va l) (hb : SS w Y vb m) (hl63 : l.length ≤ 140737488355328) :
    Calls Try.prog 27 #[va, vb] w fun e w' => e = .returned (.bool (decide (l = m))) ∧ Below w.heap.size w w' := by
  obtain ⟨A, c, rfl⟩ := SS.shape ha
  obtain ⟨B, d, rfl⟩ := SS.shape hb
  have HA := Lib.hid (show T2 w X Y _ _ l m w from ⟨Below.refl _ w, ha, hb⟩)
  clear ha hb
  by_cases hlen : l.length = m.length
  · have hn : ((l.length : Int) != (m.length : Int)) = false := by simp [hlen]
    have HLEN := Lib.hid hlen
    have hge := guard_sign
    have hqe := run_neq_sign
    clear hlen
    go_enter Try.func27, Try.ntmps27
    go_wp2_with fail
    go_loopw [5] (fun j wr => ∃ k : Nat, k ≤ l.length ∧ j = .int .i64 k ∧ l.take k = m.take k ∧ T2 w X Y (.slice A l.length c) (.slice B m.length d) l m wr) (fun j _ => l.length - (intOf j).toNat)
    case atStart => exact ⟨0, Nat.zero_le _, rfl, rfl, HA.out⟩
    case round =>
      obtain ⟨k, hk, rfl, htk, hs⟩ := hrel
      clear HA
      by_cases hlt : k < l.length
      · have hlt2 : k < m.length := by have := HLEN.out; omega
        obtain ⟨ad, rfl, a0, a1⟩ := hs.one.at_ hlt
        obtain ⟨bd, rfl, b0, b1⟩ := hs.two.at_ hlt2
        have HN1 := Lib.hid (show l[k] = m[k] → l.take (k + 1) = m.take (k + 1) from fun h => by rw [List.take_succ_eq_append_getElem hlt, List.take_succ_eq_append_getElem hlt2, htk, h])
        have HN2 := Lib.hid (show l[k] ≠ m[k] → decide (l = m) = false from fun h => decide_eq_false (fun e => h (by subst e; rfl)))
        have hkp : (0 : Int) ≤ (k : Int) := by omega
        have hkl : (k : Int) < (l.length : Int) := by omega
        have hkm : (k : Int) < (m.length : Int) := by omega
        generalize l[k] = x at *
        generalize m[k] = y at *
        have HSS := Lib.hid hs
        clear htk hs hlt hlt2
        by_cases hsg : x = y
        · have hqq : ∀ W : World, (binOp .neq 39 (.agg #[.int .i64 x.1, .int .i64 x.2]) (.agg #[.int .i64 y.1, .int .i64 y.2])).run Try.prog W = .ok (.bool false) W := fun W => by rw [hqe, show sgB (x.1, x.2) (y.1, y.2) = true from by rw [hsg]; exact sgB_yes _]; rfl
          have HT := Lib.hid (HN1.out hsg)
          clear hsg hqe HN1 HN2
          go_wp2_with fail
          go_quiet (fail)
          go_wp2_with fail
          go_roundw
          case rel => exact ⟨k + 1, by omega, by go_num, HT.out, HSS.out.later (below_drewN (Below.refl _ _) _)⟩
          case measure => simp [intOf]; omega
        · have hqq : ∀ W : World, (binOp .neq 39 (.agg #[.int .i64 x.1, .int .i64 x.2]) (.agg #[.int .i64 y.1, .int .i64 y.2])).run Try.prog W = .ok (.bool true) W := fun W => by rw [hqe, show sgB (x.1, x.2) (y.1, y.2) = false from sgB_no hsg]; rfl
          have HT := Lib.hid (HN2.out hsg)
          clear hsg hqe HN1 HN2
          go_wp2_with fail
          go_quiet (fail)
          go_wp2_with fail
          go_ret
          exact ⟨by rw [HT.out]; rfl, below_drewN HSS.out.below _⟩
      · have hke : k = l.length := by omega
        have HN : Hid (decide (l = m) = true) := Lib.hid (by
          rw [hke, List.take_length, HLEN.out, List.take_length] at htk
          exact decide_eq_true htk)
        have HSS := Lib.hid hs
        clear htk hs
        go_wp2_with fail
        go_ret
        exact ⟨by rw [HN.out]; rfl, HSS.out.below⟩
  · have hn : ((l.length : Int) != (m.length : Int)) = true := by simp only [bne_iff_ne, ne_eq]; omega
    have HN : Hid (decide (l = m) = false) := Lib.hid (decide_eq_false (fun h => hlen (by rw [h])))
    clear hlen
    go_enter Try.func27, Try.ntmps27
    go_wp2_with fail
    go_ret
    exact ⟨by rw [HN.out]; rfl, HA.out.below⟩
/-- The same certificate twice. -/
theorem samec_yes (w : World) (X Y : Nat → Prop) (c : Ce) (r s : Option Addr × Nat) (ha : SS w X (.slice r.1 c.signs.length r.2) c.signs) (hb : SS w Y (.slice s.1 c.signs.length s.2) c.signs) (hl : c.signs.length ≤ 140737488355328) :
    Calls Try.prog 9 #[.agg (CE c r), .agg (CE c s)] w fun e w' => e = .returned (.bool true) ∧ Below w.heap.size w w' := by
  have b2 : Below w.heap.size w ((w.alloc (.cells (CE c r) 26)).alloc (.cells (CE c s) 26)) := ((Below.refl _ w).alloc (Nat.le_refl _) _).alloc (by simp) _
  have hs0 := s10_any _ X Y _ _ c.signs c.signs (ha.after b2) (hb.after b2) hl
  rw [decide_eq_true (rfl : c.signs = c.signs)] at hs0
  have HS := Lib.hid hs0
  clear hs0
  have HB := Lib.hid b2
  clear b2 ha hb hl
  unfold CE at HS HB ⊢
  go_enter Try.func9, Try.ntmps9
  go_wp2_with fail
  refine HS.out.mono ?_
  rintro e w3 ⟨rfl, hb3⟩
  have HB3 := Lib.hid (HB.out.trans (hb3.mono HB.out.size))
  clear hb3
  go_wp2_with fail
  go_ret
  exact ⟨rfl, HB3.out⟩
set_option maxHeartbeats 8000000 in
/-- The same entries twice. -/
theorem samee_yes (w : World) (X Y : Nat → Prop) (va vb : Value) (l : List En) (ha : EnL w X va l) (hb : EnL w Y vb l) (hl : l.length ≤ 140737488355328) (hbt : ∀ e ∈ l, e.batch.length ≤ 140737488355328 ∧ ∀ x ∈ e.batch, x.q.o.recs.length ≤ 140737488355328) :
    Calls Try.prog 10 #[va, vb] w fun e w' => e = .returned (.bool true) ∧ Below w.heap.size w w' := by
  obtain ⟨A, c, rfl, -⟩ := ha.shape
  obtain ⟨B, d, rfl, -⟩ := hb.shape
  have HA := Lib.hid (And.intro ha (And.intro hb hbt))
  have hge := guard_sign
  have hqe := run_neq_sign
  clear ha hb hbt
  go_enter Try.func10, Try.ntmps10
  go_wp2_with fail
  go_loopw [5] (fun j wr => ∃ k : Nat, k ≤ l.length ∧ j = .int .i64 k ∧ Below w.heap.size w wr) (fun j _ => l.length - (intOf j).toNat)
  case atStart => exact ⟨0, Nat.zero_le _, rfl, Below.refl _ _⟩
  case round =>
    obtain ⟨k, hk, rfl, hs⟩ := hrel
    by_cases hlt : k < l.length
    · obtain ⟨ad, ra, rfl, hat, hci, -, -⟩ := HA.out.1.at_ hlt (by decide)
      obtain ⟨bd, rb, rfl, hbt, hdi, -, -⟩ := HA.out.2.1.at_ hlt (by decide)
      have hat : AtG kE w (ad.add (k * 5)) l[k] ra := hat
      have hbt : AtG kE w (bd.add (k * 5)) l[k] rb := hbt
      obtain ⟨a0, a1, a2, a3, a4⟩ := at_entry (hat.later hs)
      obtain ⟨b0, b1, b2, b3, b4⟩ := at_entry (hbt.later hs)
      have hbo := HA.out.2.2 l[k] (List.getElem_mem hlt)
      have hkp : (0 : Int) ≤ (k : Int) := by omega
      have hkl : (k : Int) < (l.length : Int) := by omega
      have hsb := rsameb_any wr.drew X Y _ _ l[k].batch l[k].batch (BI.after hci (below_drewN hs 1)) (BI.after hdi (below_drewN hs 1)) hbo.2 hbo.1
      rw [decide_eq_true (rfl : l[k].batch = l[k].batch)] at hsb
      have HSB := Lib.hid hsb
      clear hsb
      generalize l[k] = x at *
      have hqq : ∀ W : World, (binOp .neq 39 (.agg #[.int .i64 x.sign.1, .int .i64 x.sign.2]) (.agg #[.int .i64 x.sign.1, .int .i64 x.sign.2])).run Try.prog W = .ok (.bool false) W := fun W => by rw [hqe, show sgB (x.sign.1, x.sign.2) (x.sign.1, x.sign.2) = true from sgB_yes _]; rfl
      have HB := Lib.hid hs
      clear hat hbt hci hdi hbo hqe hs
      go_wp2_with fail
      go_still_tail 48, (by kernel_rfl)
      change wpList _ _ _ _ _ wr.drew
      go_wp2_with fail
      refine HSB.out.mono ?_
      rintro e w2 ⟨rfl, hb2⟩
      have HB2 := Lib.hid (HB.out.trans ((below_of_drew hb2).mono HB.out.size))
      clear hb2
      go_wp2_with fail
      go_roundw
      case rel => exact ⟨k + 1, by omega, by go_num, HB2.out⟩
      case measure => simp [intOf]; omega
    · have HB := Lib.hid hs
      have hke : k = l.length := by omega
      subst hke
      clear hs
      go_wp2_with fail
      go_ret
      exact ⟨rfl, HB.out⟩
end Go.Proofs.Ytfdhaodgnenhcaa.Nwe

/-
  Layer 16 (newview): NewviewSelects' walk.
-/
namespace Go.Proofs.Ytfdhaodgnenhcaa.Nxk
set_option linter.unusedSimpArgs false
open Go Go.RowKit Ck Kw Ga Kf Pm Py Ja Ic Jm Jb Jt Pra Prb Prh Prr Pte Pub Ky Nva Nvb Nve Nwc Nwd Nwe Nxa Nxb Nxc Nxd Nxe Nxf Nxo Nxg Nxh
attribute [local go_sem ↓] Go.wp_at_zero Go.wp_at_succ
set_option linter.unusedVariables false
set_option maxRecDepth 100000

theorem cert_ok {f view : Int} {l : List Cg} (h : ∀ c ∈ l, okC c) : (certS f view l).signs.length ≤ 140737488355328 := by
  unfold certS
  split
  · refine best_mem (P := fun c => c.signs.length ≤ 140737488355328) l ?_ (fun c hc => by have := (h c hc).signs; omega)
    unfold firstC
    cases l with
    | nil => exact Nat.zero_le _
    | cons c l => have := (h c List.mem_cons_self).signs; show c.cert.signs.length ≤ _; omega
  · exact Nat.zero_le _
theorem ent_ok {f view : Int} {l : List Cg} (h : ∀ c ∈ l, okC c) : ∀ e ∈ entS f view l, e.batch.length ≤ 140737488355328 ∧ ∀ x ∈ e.batch, x.q.o.recs.length ≤ 140737488355328 := by
  intro e he
  unfold entS at he
  split at he
  · obtain ⟨i, -, rfl⟩ := List.mem_map.1 he
    simp only [entE]
    cases hx : latC ((certS f view l).seq + i + 1) none l with
    | none => exact ⟨Nat.zero_le _, fun x hx => absurd hx (by simp [batchO])⟩
    | some p =>
      rcases latC_mem l hx with h1 | ⟨h1, c, h2, h3⟩
      · cases h1
      · have := ((h c h2).each p h3).1.1
        exact ⟨this.2.1, this.1⟩
  · simp at he
set_option maxHeartbeats 8000000 in
theorem selects_law (w : World) (X : Nat → Prop) (f view : Int) (v : Value) (l : List Cg) (h : CgL w X v l) (hl : l.length * 96 ≤ 140737488351232) (hok : ∀ c ∈ l, okC c) :
    Calls Try.prog 3 #[.int .i64 f, .int .i64 view, v] w fun e w' => e = .returned (.bool true) ∧ Below w.heap.size w w' := by
  have HS := Lib.hid (select_any w X f view v l h hl hok)
  have HR := Lib.hid (fun W (b : Below w.heap.size w W) => rselect_any W X f view v l (h.after b) hl hok)
  have HBG := Lib.hid begun_any
  have HCO := Lib.hid (cert_ok (f := f) (view := view) hok)
  have HEO := Lib.hid (And.intro (ent_ok (f := f) (view := view) hok) (gaps_len f view l))
  clear h hl hok
  generalize entS f view l = es at *
  generalize certS f view l = ce at *
  generalize errS f view l = en at *
  go_enter Try.func3, Try.ntmps3
  go_wp2_with fail
  refine HS.out.mono ?_
  rintro e w1 ⟨r, ve, rfl, hs1, hen, hb1⟩
  have hb2 : Below w1.heap.size w1 (w1.alloc (.cells (CE ce r) 26)) := (Below.refl _ _).alloc (Nat.le_refl _) _
  have HB2 := Lib.hid (hb1.trans (hb2.mono hb1.size))
  have HK2 : Hid (Blk (w1.alloc (.cells (CE ce r) 26)) w1.heap.size 26 (CE ce r)) := Lib.hid (Blk.new _ _ _)
  have HE2 := Lib.hid (And.intro (GL.after hen hb2) (SS.after hs1 hb2))
  clear hen hs1 hb1 hb2
  unfold CE at HB2 HK2 HE2 ⊢
  go_wp2_with fail
  generalize (w1.alloc (.cells #[.int .i64 ce.seq, .int .i64 ce.dig, .slice r.1 ce.signs.length r.2] 26)) = w2 at *
  generalize w1.heap.size = g1 at *
  refine (HR.out w2 HB2.out).mono ?_
  rintro e w3 ⟨r3, ve3, rfl, hs3, hen3, hb3⟩
  have hb4 : Below w3.heap.size w3 (w3.alloc (.cells (RCE ce r3) 26)) := (Below.refl _ _).alloc (Nat.le_refl _) _
  have hb24 := hb3.trans (hb4.mono hb3.size)
  have HB4 := Lib.hid (HB2.out.trans (hb24.mono HB2.out.size))
  have HK4 : Hid (Blk (w3.alloc (.cells (RCE ce r3) 26)) w3.heap.size 26 (RCE ce r3)) := Lib.hid (Blk.new _ _ _)
  have HK24 := Lib.hid (HK2.out.below hb24 HK2.out.lt)
  have HE4 := Lib.hid (And.intro (GL.after hen3 hb4) (And.intro (SS.after hs3 hb4) (And.intro (GL.after HE2.out.1 hb24) (SS.after HE2.out.2 hb24))))
  clear hen3 hs3 hb3 hb4 hb24 HB2 HK2 HE2 HR HS
  unfold RCE at HB4 HK4 HK24 HE4 ⊢
  go_wp2_with fail
  generalize (w3.alloc (.cells #[.int .i64 ce.seq, .int .i64 ce.dig, .slice r3.1 ce.signs.length r3.2] 26)) = w4 at *
  generalize w3.heap.size = g3 at *
  refine (HBG.out w4).mono ?_
  rintro e w5 ⟨rfl, hb5⟩
  have hk := HK24.out.below hb5 HK24.out.lt
  have hk' := HK4.out.below hb5 HK4.out.lt
  have a0 := hk.cell 0
  have a1 := hk.cell 1
  have a2 := hk.cell 2
  have b0 := hk'.cell 0
  have b1 := hk'.cell 1
  have b2 := hk'.cell 2
  simp only [List.getElem?_toArray, List.getElem?_cons_zero, List.getElem?_cons_succ] at a0 a1 a2 b0 b1 b2
  have HB5 := Lib.hid (HB4.out.trans (hb5.mono HB4.out.size))
  have HSC : Hid (Calls Try.prog 9 #[.agg (CE ce r), .agg (CE ce r3)] w5 fun e w' => e = .returned (.bool true) ∧ Below w5.heap.size w5 w') := Lib.hid (samec_yes w5 _ _ ce r r3 (HE4.out.2.2.2.after hb5) (HE4.out.2.1.after hb5) HCO.out)
  have HEN := Lib.hid (And.intro (GL.after HE4.out.2.2.1 hb5) (GL.after HE4.out.1 hb5))
  clear hk hk' hb5
  unfold CE at HSC
  go_wp2_with fail
  refine HSC.out.mono ?_
  rintro e w6 ⟨rfl, hb6⟩
  have HSE := Lib.hid (samee_yes w6 _ _ _ _ es (GL.after HEN.out.1 hb6) (GL.after HEN.out.2 hb6) (by have := HEO.out.2; omega) HEO.out.1)
  have HB6 := Lib.hid (HB5.out.trans (hb6.mono HB5.out.size))
  clear hb6 a0 a1 a2 b0 b1 b2
  go_wp2_with fail
  refine HSE.out.mono ?_
  rintro e w7 ⟨rfl, hb7⟩
  have HB7 := Lib.hid (HB6.out.trans (hb7.mono HB6.out.size))
  clear hb7
  go_wp2_with fail
  go_ret
  exact ⟨rfl, HB7.out⟩
end Go.Proofs.Ytfdhaodgnenhcaa.Nxk

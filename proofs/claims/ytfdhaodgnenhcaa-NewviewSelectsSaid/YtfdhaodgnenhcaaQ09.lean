/-
  Layer 16 (newview): the program's Select.
-/
import Derived.Test.YtfdhaodgnenhcaaQ08
import Derived.Deep.RegionHeld3
namespace Go.Proofs.Ytfdhaodgnenhcaa.Nxg
set_option linter.unusedSimpArgs false
open Go Go.RowKit Ck Kw Ga Kf Pm Py Ic Jm Jb Jt Pra Prb Prh Prr Pte Pub Ky Nva Nvb Nve Nwc Nxa Nxb Nxc Nxd Nxe Nxf Nxo
attribute [local go_sem ↓] Go.wp_at_zero Go.wp_at_succ
set_option linter.unusedVariables false
set_option maxRecDepth 100000

/-- The cells of a checkpoint's certificate. -/
def CE (c : Ce) (r : Option Addr × Nat) : Array Value := #[.int .i64 c.seq, .int .i64 c.dig, .slice r.1 c.signs.length r.2]
/-- What Select answers: a certificate, entries, an error; rows that were not there. -/
def Sel (w : World) (c : Ce) (es : List En) (n : Int) (e : Ending) (w' : World) : Prop :=
  ∃ (r : Option Addr × Nat) (v : Value), e = .returned (.tuple #[.agg (CE c r), v, .int .i64 n]) ∧ SS w' (fun k => k < w.heap.size) (.slice r.1 c.signs.length r.2) c.signs ∧ EnL w' (fun k => k < w.heap.size) v es ∧ Below w.heap.size w w'
theorem okL_of {l : List Cg} (h : ∀ c ∈ l, okC c) : okL l :=
  ⟨fun c hc => by have := (h c hc).above; unfold NN; omega, fun c hc p hp => ((h c hc).each p hp).2.1, fun c hc p hp => ((h c hc).each p hp).1⟩
theorem err_few {f view : Int} {l : List Cg} (h : errS f view l = 0) : l.length ≤ 13 ∧ 0 < l.length := by
  unfold errS at h
  cases hf : okF f with
  | false => rw [hf] at h; simp at h
  | true =>
    obtain ⟨h1, h2⟩ := okF_yes hf
    rw [hf, if_pos rfl] at h
    split at h
    · omega
    · split at h
      · rename_i hfr
        have hb : brokersP f = 3 * f + 1 := by simp [brokersP, hf]
        rw [hb] at hfr
        have := fr_len hfr (by omega) (by omega)
        split at h <;> omega
      · omega
theorem best_seq {l : List Cg} (h : ∀ c ∈ l, okC c) : I64 (bestC (firstC l) l).seq := by
  refine best_mem (P := fun c => I64 c.seq) l ?_ (fun c hc => (h c hc).seq)
  unfold firstC
  cases l with
  | nil => exact ⟨by decide, by decide⟩
  | cons c l => exact (h c List.mem_cons_self).seq
theorem field_cert (W : World) (a0 a1 a2 a3 a4 a5 a6 a7 : Value) : (Instr.field 49 (.agg #[a0, a1, a2, a3, a4, a5, a6, a7]) 2).run Try.prog W = .ok (.agg #[a2, a3, a4]) W := by kernel_rfl
theorem ent_gl {w5 w6 : World} {T : Nat → Prop} {v : Value} {es : List En} (h : OT kE w5 56 T v es w6) : EnL w6 (fun k => k < w5.heap.size) v es :=
  h.og.gl (Y := fun k => k < w5.heap.size) (fun k hk ht => by have := (h.lo k ht).1; omega) (fun k hk hy => by omega)
set_option maxHeartbeats 8000000 in
theorem select_any (w : World) (X : Nat → Prop) (f view : Int) (v : Value) (l : List Cg) (h : CgL w X v l) (hl : l.length * 96 ≤ 140737488351232) (hok : ∀ c ∈ l, okC c) :
    Calls Try.prog 6 #[.int .i64 f, .int .i64 view, v] w (Sel w (certS f view l) (entS f view l) (errS f view l)) := by
  have hba : Below w.heap.size w (w.alloc (.cells #[.int .i64 0, .int .i64 0, .slice none 0 0] 26)) := (Below.refl _ w).alloc (Nat.le_refl _) _
  have HC := Lib.hid (check_any _ X f view v l (h.after hba) (by omega))
  have HB0 := Lib.hid hba
  have hzv : ∀ W : World, (zeroValue 26).run Try.prog W = .ok (.agg #[.int .i64 0, .int .i64 0, .slice none 0 0]) W := fun W => by kernel_rfl
  have HBK : Hid (Blk (w.alloc (.cells #[.int .i64 0, .int .i64 0, .slice none 0 0] 26)) w.heap.size 26 #[.int .i64 0, .int .i64 0, .slice none 0 0]) := Lib.hid (Blk.new w _ _)
  have HZ : Hid ((w.alloc (.cells #[.int .i64 0, .int .i64 0, .slice none 0 0] 26)).heap.size = w.heap.size + 1) := Lib.hid (by simp)
  have HH := Lib.hid (And.intro h (And.intro hl hok))
  clear h hl hok hba
  cases he : decide (errS f view l = 0) with
  | false =>
    have he := of_decide_eq_false he
    have HO : Hid (certS f view l = Ce.zero ∧ entS f view l = []) := Lib.hid ⟨by unfold certS; rw [if_neg he], by unfold entS; rw [if_neg he]⟩
    have e1 : (errS f view l == 0) = false := by rw [beq_eq_false_iff_ne]; exact he
    have e2 : (errS f view l != 0) = true := by simp [bne, e1]
    generalize errS f view l = en at *
    clear he
    go_enter Try.func6, Try.ntmps6
    go_wp2_with fail
    generalize (w.alloc (.cells #[.int .i64 0, .int .i64 0, .slice none 0 0] 26)) = w0 at *
    refine HC.out.mono ?_
    rintro e w1 ⟨rfl, hb1⟩
    have HB1 := Lib.hid (HB0.out.trans (hb1.mono HB0.out.size))
    have HK1 := Lib.hid (HBK.out.below hb1 HBK.out.lt)
    have f0 := HK1.out.frozen 0
    have f1 := HK1.out.frozen 1
    have f2 := HK1.out.frozen 2
    have k0 := HK1.out.cell 0
    have k1 := HK1.out.cell 1
    have k2 := HK1.out.cell 2
    simp only [List.getElem?_toArray, List.getElem?_cons_zero, List.getElem?_cons_succ] at k0 k1 k2
    clear hb1
    go_wp2_with fail
    refine bodyPost_ret (results_row_tmp2 rfl _ _ w.heap.size 26 #[.int .i64 0, .int .i64 0, .slice none 0 0] (0, 0) _ rfl (blk3 HK1.out) Try.underlying26 rfl size_cert) rfl ?_
    rw [HO.out.1, HO.out.2]
    exact ⟨(none, 0), _, rfl, Sl.nil _ _ _, GL.nil _ _ _, HB1.out.trans ((ch3 _ w.heap.size _ _ _).below (fun k hk e => by omega) HB1.out.size)⟩
  | true =>
    have he := of_decide_eq_true he
    have HO : Hid (certS f view l = bestC (firstC l) l ∧ entS f view l = entriesE view (bestC (firstC l) l).seq (topC 0 l) l) := Lib.hid ⟨by unfold certS; rw [if_pos he], by unfold entS certS; rw [if_pos he, if_pos he]⟩
    have HFW := Lib.hid (err_few he)
    have e1 : (errS f view l == 0) = true := by rw [beq_iff_eq]; exact he
    have e2 : (errS f view l != 0) = false := by simp [bne, e1]
    have HEZ := Lib.hid he
    rw [he] at HC e1 e2 ⊢
    rw [HO.out.1, HO.out.2]
    clear he HO
    go_enter Try.func6, Try.ntmps6
    go_wp2_with fail
    generalize (w.alloc (.cells #[.int .i64 0, .int .i64 0, .slice none 0 0] 26)) = w0 at *
    refine HC.out.mono ?_
    rintro e w1 ⟨rfl, hb1⟩
    have HB1 := Lib.hid (HB0.out.trans (hb1.mono HB0.out.size))
    have HK1 := Lib.hid (HBK.out.below hb1 HBK.out.lt)
    clear hb1 HC HBK
    go_wp2_with fail
    refine (max_any w1 X v l (HH.out.1.after HB1.out) (by have := HFW.out; omega) HFW.out.2).mono ?_
    rintro e w2 ⟨mc, rm, rfl, hmem, hbest, hci, hb2⟩
    have hfd := field_cert w2 (.int .i64 mc.view) (.int .i64 mc.from_) (.int .i64 mc.cert.seq) (.int .i64 mc.cert.dig) (.slice rm.1.1 mc.cert.signs.length rm.1.2) (.slice rm.2.1 mc.above.length rm.2.2) (.int .i64 mc.sign.1) (.int .i64 mc.sign.2)
    have hsg := (HH.out.2.2 mc hmem).signs
    have HSS : Hid (SS w1 X (.slice rm.1.1 mc.cert.signs.length rm.1.2) mc.cert.signs) := Lib.hid hci.signs
    unfold CC
    obtain ⟨ce, hce⟩ : ∃ ce, ce = mc.cert := ⟨_, rfl⟩
    rw [← hce] at hfd hsg HSS hbest ⊢
    obtain rfl : ce = bestC (firstC l) l := hbest
    have HBS := Lib.hid (best_seq HH.out.2.2)
    have HCE := Lib.hid hce
    generalize bestC (firstC l) l = ce at *
    have HK10 : Hid (Blk (w2.alloc (.cells #[.int .i64 ce.seq, .int .i64 ce.dig, .slice rm.1.1 ce.signs.length rm.1.2] 26)) w2.heap.size 26 #[.int .i64 ce.seq, .int .i64 ce.dig, .slice rm.1.1 ce.signs.length rm.1.2]) := Lib.hid (Blk.new w2 _ _)
    have hb3 : Below w2.heap.size w2 (w2.alloc (.cells #[.int .i64 ce.seq, .int .i64 ce.dig, .slice rm.1.1 ce.signs.length rm.1.2] 26)) := (Below.refl _ _).alloc (Nat.le_refl _) _
    have HB13 := Lib.hid (hb2.trans (hb3.mono hb2.size))
    have HS2 : Hid (w1.heap.size ≤ w2.heap.size ∧ w.heap.size < w1.heap.size) := Lib.hid ⟨hb2.size, HK1.out.lt⟩
    clear hmem hci hb2 hb3 hce
    go_wp2_with fail
    generalize (w2.alloc (.cells #[.int .i64 ce.seq, .int .i64 ce.dig, .slice rm.1.1 ce.signs.length rm.1.2] 26)) = w3 at *
    generalize w2.heap.size = g at *
    refine (clone_signs X _ _ _ w3 (HSS.out.after HB13.out) sc_one (by omega)).mono ?_
    rintro e w4 ⟨A4, c4, rfl, ho4, hb4⟩
    have hk4 := HK10.out.below hb4 HK10.out.lt
    have k0 := hk4.cell 0
    have k1 := hk4.cell 1
    have k2 := hk4.cell 2
    have f2 := hk4.frozen 2
    simp only [List.getElem?_toArray, List.getElem?_cons_zero, List.getElem?_cons_succ] at k0 k1 k2
    have cc5 : Ch (fun k => k = g) w4 (w4.setCell ⟨g, 2, none⟩ (.slice A4 ce.signs.length c4)) := (Ch.refl (fun k => k = g) w4).setCell (p := ⟨g, 2, none⟩) (fun _ => rfl) _
    have hk5 := hk4.set_ 2 (.slice A4 ce.signs.length c4)
    simp only [List.setIfInBounds_toArray, List.set_cons_succ, List.set_cons_zero] at hk5
    have HK5 := Lib.hid hk5
    have hb14 : Below w1.heap.size w1 w4 := HB13.out.trans (hb4.mono HB13.out.size)
    have hb15 : Below w1.heap.size w1 (w4.setCell ⟨g, 2, none⟩ (.slice A4 ce.signs.length c4)) := hb14.trans (cc5.below (fun k hk e => by have := HS2.out; omega) hb14.size)
    have HB15 := Lib.hid hb15
    have HSG5 : Hid (SS (w4.setCell ⟨g, 2, none⟩ (.slice A4 ce.signs.length c4)) (fun k => k < w3.heap.size) (.slice A4 ce.signs.length c4) ce.signs) := Lib.hid (SS.ch (Sl.of_own ho4 (fun k h1 _ h2 => by omega)) cc5 (fun k _ hk => by rw [hk]; exact HK10.out.lt))
    have HG3 := Lib.hid HK10.out.lt
    clear ho4 hb4 hk4 hk5 hb14 hb15 cc5 HSS HK10 hsg
    go_wp2_with fail
    generalize (w4.setCell ⟨g, 2, none⟩ (.slice A4 ce.signs.length c4)) = w5 at *
    have hdr : Below w5.heap.size w5 w5.drew := below_drewN (Below.refl _ _) 1
    have HX : Hid (∀ W, Below w5.heap.size w5.drew W → W.cell? ⟨g, 0, none⟩ = some (.int .i64 ce.seq) ∧ W.cell? ⟨g, 1, none⟩ = some (.int .i64 ce.dig) ∧ W.cell? ⟨g, 2, none⟩ = some (.slice A4 ce.signs.length c4)) := Lib.hid (fun W b => by
      have hk := HK5.out.below (below_of_drew b) HK5.out.lt
      exact ⟨hk.cell 0, hk.cell 1, hk.cell 2⟩)
    have HY : Hid (∀ W, Below w5.heap.size w5.drew W → Blk W w.heap.size 26 #[.int .i64 0, .int .i64 0, .slice none 0 0]) := Lib.hid (fun W b => (HK1.out.below HB15.out HK1.out.lt).below (below_of_drew b) (by have := (HK1.out.below HB15.out HK1.out.lt).lt; exact this))
    have HV : Hid (∀ W, Below w5.heap.size w5.drew W → ((((W).setCell ⟨w.heap.size, 0, none⟩ (.int .i64 ce.seq)).setCell ⟨w.heap.size, 1, none⟩ (.int .i64 ce.dig)).setCell ⟨w.heap.size, 2, none⟩ (.slice A4 ce.signs.length c4)).cell? ⟨g, 0, none⟩ = some (.int .i64 ce.seq) ∧ ((((W).setCell ⟨w.heap.size, 0, none⟩ (.int .i64 ce.seq)).setCell ⟨w.heap.size, 1, none⟩ (.int .i64 ce.dig)).setCell ⟨w.heap.size, 2, none⟩ (.slice A4 ce.signs.length c4)).cell? ⟨g, 1, none⟩ = some (.int .i64 ce.dig) ∧ ((((W).setCell ⟨w.heap.size, 0, none⟩ (.int .i64 ce.seq)).setCell ⟨w.heap.size, 1, none⟩ (.int .i64 ce.dig)).setCell ⟨w.heap.size, 2, none⟩ (.slice A4 ce.signs.length c4)).cell? ⟨g, 2, none⟩ = some (.slice A4 ce.signs.length c4)) := Lib.hid (fun W b => by
      have hk := (HK5.out.below (below_of_drew b) HK5.out.lt).ch (ch3 W w.heap.size (.int .i64 ce.seq) (.int .i64 ce.dig) (.slice A4 ce.signs.length c4)) (by have := HS2.out; omega)
      exact ⟨hk.cell 0, hk.cell 1, hk.cell 2⟩)
    have q2 := HX.out w5.drew (Below.refl _ _)
    have HBW : Hid (Below w.heap.size w w5.drew) := Lib.hid ((HB1.out.trans (HB15.out.mono HB1.out.size)).trans (hdr.mono (HB1.out.trans (HB15.out.mono HB1.out.size)).size))
    have HEN : Hid (Calls Try.prog 25 #[.int .i64 view, .int .i64 ce.seq, v] w5.drew fun e w' => ∃ T v', e = .returned v' ∧ OT kE w5.drew 56 T v' (entriesE view ce.seq (topC 0 l) l) w') := Lib.hid (entries_any w5.drew X view ce.seq v l (HH.out.1.after HBW.out) HFW.out.1 (okL_of HH.out.2.2) HBS.out)
    clear hdr k0 k1 k2 f2
    go_region_held3 (fun w' => w'.cell? ⟨g, 0, none⟩ = some (.int .i64 ce.seq) ∧ w'.cell? ⟨g, 1, none⟩ = some (.int .i64 ce.dig) ∧ w'.cell? ⟨g, 2, none⟩ = some (.slice A4 ce.signs.length c4)) (first | with_reducible exact q2 | with_reducible exact j3 | with_reducible exact j4 | (go_keep; done))
      (first | (go_at_call 25; refine HEN.out.mono ?_; rintro e w6 ⟨T, v6, rfl, hot⟩; have HOT := Lib.hid hot; have j3 := HX.out w6 hot.below; have j4 := HV.out w6 hot.below; have hy := HY.out w6 hot.below; have y0 := hy.cell 0; have y1 := hy.cell 1; have y2 := hy.cell 2; have z0 := hy.frozen 0; have z1 := hy.frozen 1; have z2 := hy.frozen 2; simp only [List.getElem?_toArray, List.getElem?_cons_zero, List.getElem?_cons_succ] at y0 y1 y2; clear hot))
    all_goals
      go_wp2_with fail
      refine bodyPost_ret (results_row_tmp2 rfl _ _ w.heap.size 26 #[.int .i64 ce.seq, .int .i64 ce.dig, .slice A4 ce.signs.length c4] (0, 0) _ rfl (blk3 hy) Try.underlying26 rfl size_cert) rfl ?_
      have hc := ch3 w6 w.heap.size (.int .i64 ce.seq) (.int .i64 ce.dig) (.slice A4 ce.signs.length c4)
      have hb6 := below_of_drew HOT.out.below
      have hen : EnL w6 (fun k => k < w5.heap.size) v6 (entriesE view ce.seq (topC 0 l) l) := ent_gl (w5 := w5.drew) HOT.out
      have hs := HS2.out
      have hg := HG3.out
      have hw5 : w.heap.size < w5.heap.size := by have := HB15.out.size; omega
      have hen2 := GL.ch hen hc (fun k _ hk => by show k < w5.heap.size; omega)
      have hss2 := (SS.after HSG5.out hb6).ch hc (fun k _ hk => by show k < w3.heap.size; omega)
      exact ⟨(A4, c4), v6, rfl, hss2.weaken (fun b _ hb => by show b < w3.heap.size; have hb' : b < w.heap.size := hb; omega), hen2.weaken (fun b _ hb => by show b < w5.heap.size; have hb' : b < w.heap.size := hb; omega), ((HB1.out.trans (HB15.out.mono HB1.out.size)).trans (hb6.mono (show w.heap.size ≤ w5.heap.size by omega))).trans (hc.below (fun k hk e => by omega) (by have hh : w5.heap.size ≤ w6.heap.size := hb6.size; omega))⟩
end Go.Proofs.Ytfdhaodgnenhcaa.Nxg

/-
  Layer 16 (newview): the law's begun.
-/
namespace Go.Proofs.Ytfdhaodgnenhcaa.Nxh
set_option linter.unusedSimpArgs false
open Go Go.RowKit Ck Kw Ga Kf Pm Py Ja Ic Jm Jb Jt Pra Prb Prh Prr Pte Ptm Pub Ky Nva Nvb Nve Nwc Nxa Nxb Nxc Nxd Nxe Nxf Nxo Nxg
attribute [local go_sem ↓] Go.wp_at_zero Go.wp_at_succ
set_option linter.unusedVariables false
set_option maxRecDepth 100000

/-- A block known whole, as a slice. -/
theorem sl_blk {w : World} {g : Nat} {t : TypeId} {cs : Array Value} {size n : Nat} {xs : List Value} (h : Blk w g t cs) (hx : cs.toList = xs) (hl : xs.length = n * size) (X : Nat → Prop) (hX : ¬ X g) (hn : n ≤ maxLen) : Sl w X size (.slice (some ⟨g, 0, none⟩) n n) n xs := by
  refine ⟨_, _, rfl, hl, Nat.le_refl _, hn, fun _ => ⟨_, rfl, h.lt, hX, fun j x hj => ?_⟩⟩
  have ha : (⟨g, 0, none⟩ : Addr).add j = ⟨g, j, none⟩ := by unfold Addr.add; split <;> simp_all
  rw [ha, h.cell j, ← hj, ← hx]
  simp
def sd1 : Sd := ⟨⟨1, 1, O.zero⟩, (14, 1)⟩
def p1 : Pd := ⟨0, 1, 0, (0, 0), [], [sd1]⟩
def p2 : Pd := ⟨0, 3, 0, (0, 0), [], []⟩
def p3 : Pd := ⟨1, 3, 0, (0, 0), [], [sd1]⟩
def begL : List Cg := [⟨0, 0, Ce.zero, [p1, p2], (0, 0)⟩, ⟨0, 1, Ce.zero, [], (0, 0)⟩, ⟨0, 3, Ce.zero, [p3], (0, 0)⟩]
def begE : List En := [⟨2, 1, [sd1], (0, 0)⟩, ⟨2, 2, [], (0, 0)⟩, ⟨2, 3, [sd1], (0, 0)⟩]
theorem beg_ent : entS 1 2 begL = begE := by decide +kernel
theorem beg_err : errS 1 2 begL = 0 := by decide +kernel
theorem beg_cert : certS 1 2 begL = Ce.zero := by decide +kernel
theorem sd1_far : Py.far sd1.q.o 140737488351232 := ⟨by decide, by decide, by decide, fun l hl => by simp [sd1, O.zero] at hl⟩
theorem p_ok {p : Pd} (hs : p.signs = []) (hb : p.batch = [] ∨ p.batch = [sd1]) (h1 : -9223372036854775808 ≤ p.seq ∧ p.seq ≤ 9223372036854775807) (h2 : -9223372036854775808 ≤ p.view ∧ p.view ≤ 9223372036854775807) : okV p ∧ wfP p := by
  have hf : ∀ y ∈ p.batch, y = sd1 := fun y hy => by
    rcases hb with hb | hb
    · rw [hb] at hy; exact absurd hy (by simp)
    · rw [hb] at hy; simpa using hy
  have hl : p.batch.length ≤ 1 := by rcases hb with hb | hb <;> rw [hb] <;> simp
  refine ⟨⟨⟨fun y hy => by rw [hf y hy]; decide, by omega, by rw [hs]; decide⟩, by rw [hs]; decide, by omega, fun y hy => by rw [hf y hy]; exact sd1_far⟩, h1, h2⟩
theorem beg_ok : ∀ c ∈ begL, okC c := by
  intro c hc
  simp only [begL, List.mem_cons, List.not_mem_nil, or_false] at hc
  rcases hc with rfl | rfl | rfl
  · refine ⟨by decide, by decide, fun p hp => ?_, by decide, by decide⟩
    simp only [List.mem_cons, List.not_mem_nil, or_false] at hp
    rcases hp with rfl | rfl
    · exact p_ok rfl (.inr rfl) (by decide) (by decide)
    · exact p_ok rfl (.inl rfl) (by decide) (by decide)
  · exact ⟨by decide, by decide, fun p hp => absurd hp (by simp), by decide, by decide⟩
  · refine ⟨by decide, by decide, fun p hp => ?_, by decide, by decide⟩
    simp only [List.mem_cons, List.not_mem_nil, or_false] at hp
    subst hp
    exact p_ok rfl (.inr rfl) (by decide) (by decide)
theorem ls_nil (w : World) (X : Nat → Prop) : Ls w X (.slice none 0 0) [] := ⟨[], Sl.nil _ _ _, fun i h => absurd h (by simp)⟩
theorem bi_one {w : World} {g : Nat} (X : Nat → Prop) (hX : ¬ X g) (h : Blk w g 71 #[.int .i64 1, .int .i64 1, .int .i64 0, .string ⟨#[]⟩, .string ⟨#[]⟩, .int .i64 0, .slice none 0 0, .int .i64 14, .int .i64 1]) : BI w X (.slice (some ⟨g, 0, none⟩) 1 1) [sd1] :=
  ⟨[(none, 0)], rfl, sl_blk h rfl rfl X hX (by simp only [maxLen]; omega), fun i hi => by
    have : i = 0 := by simpa using hi
    subst this
    exact ⟨(none, 0), rfl, ls_nil _ _⟩⟩
theorem gts_cons {α ρ : Type} {κ : Ky.Kd α ρ} {w : World} {X : Nat → Prop} {a : α} {r : ρ} {l : List α} {rs : List ρ} (h : κ.I w X a r) (k : Gts κ w X l rs) : Gts κ w X (a :: l) (r :: rs) := by
  have := Gts.app (Gts.one h) k
  simpa using this
/-- The law's view-changes, in four blocks. -/
theorem beg_list {w : World} {a b c d : Nat} (ha : Blk w a 71 #[.int .i64 1, .int .i64 1, .int .i64 0, .string ⟨#[]⟩, .string ⟨#[]⟩, .int .i64 0, .slice none 0 0, .int .i64 14, .int .i64 1])
    (hb : Blk w b 43 #[.int .i64 0, .int .i64 1, .int .i64 0, .int .i64 0, .int .i64 0, .slice none 0 0, .slice (some ⟨a, 0, none⟩) 1 1, .int .i64 0, .int .i64 3, .int .i64 0, .int .i64 0, .int .i64 0, .slice none 0 0, .slice none 0 0])
    (hc : Blk w c 43 #[.int .i64 1, .int .i64 3, .int .i64 0, .int .i64 0, .int .i64 0, .slice none 0 0, .slice (some ⟨a, 0, none⟩) 1 1])
    (hd : Blk w d 49 #[.int .i64 0, .int .i64 0, .int .i64 0, .int .i64 0, .slice none 0 0, .slice (some ⟨b, 0, none⟩) 2 2, .int .i64 0, .int .i64 0, .int .i64 0, .int .i64 1, .int .i64 0, .int .i64 0, .slice none 0 0, .slice none 0 0, .int .i64 0, .int .i64 0, .int .i64 0, .int .i64 3, .int .i64 0, .int .i64 0, .slice none 0 0, .slice (some ⟨c, 0, none⟩) 1 1, .int .i64 0, .int .i64 0]) :
    CgL w (fun _ => False) (.slice (some ⟨d, 0, none⟩) 3 3) begL := by
  have hbi := bi_one (fun _ => False) (fun h => h) ha
  have hp1 : kP.I w (fun _ => False) p1 ((none, 0), (some ⟨a, 0, none⟩, 1)) := (⟨Sl.nil _ _ _, hbi⟩ : PI w (fun _ => False) p1 ((none, 0), (some ⟨a, 0, none⟩, 1)))
  have hp2 : kP.I w (fun _ => False) p2 ((none, 0), (none, 0)) := (⟨Sl.nil _ _ _, bi_nil _ _⟩ : PI w (fun _ => False) p2 ((none, 0), (none, 0)))
  have hp3 : kP.I w (fun _ => False) p3 ((none, 0), (some ⟨a, 0, none⟩, 1)) := (⟨Sl.nil _ _ _, hbi⟩ : PI w (fun _ => False) p3 ((none, 0), (some ⟨a, 0, none⟩, 1)))
  have hl1 : PL w (fun _ => False) (.slice (some ⟨b, 0, none⟩) 2 2) [p1, p2] := PL.gl.2 ⟨[((none, 0), (some ⟨a, 0, none⟩, 1)), ((none, 0), (none, 0))], gts_cons hp1 (gts_cons hp2 Gts.nil), sl_blk hb rfl rfl _ (fun h => h) (by simp only [maxLen]; omega)⟩
  have hl3 : PL w (fun _ => False) (.slice (some ⟨c, 0, none⟩) 1 1) [p3] := PL.gl.2 ⟨[((none, 0), (some ⟨a, 0, none⟩, 1))], gts_cons hp3 Gts.nil, sl_blk hc rfl rfl _ (fun h => h) (by simp only [maxLen]; omega)⟩
  have hc1 : kC.I w (fun _ => False) ⟨0, 0, Ce.zero, [p1, p2], (0, 0)⟩ ((none, 0), (some ⟨b, 0, none⟩, 2)) := show CgI w (fun _ => False) ⟨0, 0, Ce.zero, [p1, p2], (0, 0)⟩ ((none, 0), (some ⟨b, 0, none⟩, 2)) from ⟨Sl.nil _ _ _, hl1⟩
  have hc2 : kC.I w (fun _ => False) ⟨0, 1, Ce.zero, [], (0, 0)⟩ ((none, 0), (none, 0)) := show CgI w (fun _ => False) ⟨0, 1, Ce.zero, [], (0, 0)⟩ ((none, 0), (none, 0)) from ⟨Sl.nil _ _ _, GL.nil kP _ _⟩
  have hc3 : kC.I w (fun _ => False) ⟨0, 3, Ce.zero, [p3], (0, 0)⟩ ((none, 0), (some ⟨c, 0, none⟩, 1)) := show CgI w (fun _ => False) ⟨0, 3, Ce.zero, [p3], (0, 0)⟩ ((none, 0), (some ⟨c, 0, none⟩, 1)) from ⟨Sl.nil _ _ _, hl3⟩
  exact ⟨[((none, 0), (some ⟨b, 0, none⟩, 2)), ((none, 0), (none, 0)), ((none, 0), (some ⟨c, 0, none⟩, 1))], gts_cons hc1 (gts_cons hc2 (gts_cons hc3 Gts.nil)), sl_blk hd rfl rfl _ (fun h => h) (by simp only [maxLen]; omega)⟩
theorem bsel_any (w : World) (d : Nat) (h : CgL w (fun _ => False) (.slice (some ⟨d, 0, none⟩) 3 3) begL) : Calls Try.prog 6 #[.int .i64 1, .int .i64 2, .slice (some ⟨d, 0, none⟩) 3 3] w (Sel w Ce.zero begE 0) := by
  have := select_any w _ 1 2 _ begL h (by decide) beg_ok
  rwa [beg_ent, beg_err, beg_cert] at this
theorem at_add {ad : Addr} (w : World) (k : Nat) (h : 0 < k) : ad.add k = ⟨ad.block, ad.off + k, none⟩ := by unfold Addr.add; rw [if_neg (by omega)]
/-- What the test looks at. -/
theorem beg_look {w : World} {X : Nat → Prop} {v : Value} (h : EnL w X v begE) : ∃ (ad : Addr) (c : Nat) (A0 A2 : Option Addr) (c0 c2 : Nat) (A1 : Option Addr) (c1 : Nat), v = .slice (some ad) 3 c ∧ w.cell? ⟨ad.block, ad.off + 2, none⟩ = some (.slice A0 1 c0) ∧ w.cell? ⟨ad.block, ad.off + 5 + 2, none⟩ = some (.slice A1 0 c1) ∧ w.cell? ⟨ad.block, ad.off + 10 + 2, none⟩ = some (.slice A2 1 c2) ∧ w.cell? ⟨ad.block, ad.off + 10 + 1, none⟩ = some (.int .i64 3) ∧ w.cell? ⟨ad.block, ad.off + 10, none⟩ = some (.int .i64 2) := by
  obtain ⟨A, c, rfl, hc⟩ := h.shape
  obtain ⟨ad, r0, rfl, h0, -, -, -⟩ := h.at_ (i := 0) (by decide) (by decide)
  obtain ⟨ad', r1, e1, h1, -, -, -⟩ := h.at_ (i := 1) (by decide) (by decide)
  obtain ⟨ad'', r2, e2, h2, -, -, -⟩ := h.at_ (i := 2) (by decide) (by decide)
  obtain rfl := Option.some.inj e1
  obtain rfl := Option.some.inj e2
  have k0 := at_entry h0
  have k1 := at_entry h1
  have k2 := at_entry h2
  have a0 : ad.add (0 * kE.K) = ad := by unfold Addr.add; rw [if_pos (by decide)]
  have a1 : ad.add (1 * kE.K) = ⟨ad.block, ad.off + 5, none⟩ := at_add w 5 (by decide)
  have a2 : ad.add (2 * kE.K) = ⟨ad.block, ad.off + 10, none⟩ := at_add w 10 (by decide)
  rw [a0] at k0
  rw [a1] at k1
  rw [a2] at k2
  exact ⟨ad, c, r0.1, r2.1, r0.2, r2.2, r1.1, r1.2, rfl, k0.2.2.1, k1.2.2.1, k2.2.2.1, k2.2.1, k2.1⟩
set_option maxHeartbeats 8000000 in
theorem begun_any (w : World) : Calls Try.prog 8 #[] w fun e w' => e = .returned (.bool true) ∧ Below w.heap.size w w' := by
  have HB4 : Hid (Below w.heap.size w ((((w.alloc (.cells #[.int .i64 1, .int .i64 1, .int .i64 0, .string ⟨#[]⟩, .string ⟨#[]⟩, .int .i64 0, .slice none 0 0, .int .i64 14, .int .i64 1] 71)).alloc (.cells #[.int .i64 0, .int .i64 1, .int .i64 0, .int .i64 0, .int .i64 0, .slice none 0 0, .slice (some ⟨w.heap.size, 0, none⟩) 1 1, .int .i64 0, .int .i64 3, .int .i64 0, .int .i64 0, .int .i64 0, .slice none 0 0, .slice none 0 0] 43)).alloc (.cells #[.int .i64 1, .int .i64 3, .int .i64 0, .int .i64 0, .int .i64 0, .slice none 0 0, .slice (some ⟨w.heap.size, 0, none⟩) 1 1] 43)).alloc (.cells #[.int .i64 0, .int .i64 0, .int .i64 0, .int .i64 0, .slice none 0 0, .slice (some ⟨w.heap.size + 1, 0, none⟩) 2 2, .int .i64 0, .int .i64 0, .int .i64 0, .int .i64 1, .int .i64 0, .int .i64 0, .slice none 0 0, .slice none 0 0, .int .i64 0, .int .i64 0, .int .i64 0, .int .i64 3, .int .i64 0, .int .i64 0, .slice none 0 0, .slice (some ⟨w.heap.size + 1 + 1, 0, none⟩) 1 1, .int .i64 0, .int .i64 0] 49))) := Lib.hid (((((Below.refl _ w).alloc (Nat.le_refl _) _).alloc (by simp) _).alloc (by simp; omega) _).alloc (by simp; omega) _)
  have HBL : Hid (CgL ((((w.alloc (.cells #[.int .i64 1, .int .i64 1, .int .i64 0, .string ⟨#[]⟩, .string ⟨#[]⟩, .int .i64 0, .slice none 0 0, .int .i64 14, .int .i64 1] 71)).alloc (.cells #[.int .i64 0, .int .i64 1, .int .i64 0, .int .i64 0, .int .i64 0, .slice none 0 0, .slice (some ⟨w.heap.size, 0, none⟩) 1 1, .int .i64 0, .int .i64 3, .int .i64 0, .int .i64 0, .int .i64 0, .slice none 0 0, .slice none 0 0] 43)).alloc (.cells #[.int .i64 1, .int .i64 3, .int .i64 0, .int .i64 0, .int .i64 0, .slice none 0 0, .slice (some ⟨w.heap.size, 0, none⟩) 1 1] 43)).alloc (.cells #[.int .i64 0, .int .i64 0, .int .i64 0, .int .i64 0, .slice none 0 0, .slice (some ⟨w.heap.size + 1, 0, none⟩) 2 2, .int .i64 0, .int .i64 0, .int .i64 0, .int .i64 1, .int .i64 0, .int .i64 0, .slice none 0 0, .slice none 0 0, .int .i64 0, .int .i64 0, .int .i64 0, .int .i64 3, .int .i64 0, .int .i64 0, .slice none 0 0, .slice (some ⟨w.heap.size + 1 + 1, 0, none⟩) 1 1, .int .i64 0, .int .i64 0] 49)) (fun _ => False) (.slice (some ⟨w.heap.size + 1 + 1 + 1, 0, none⟩) 3 3) begL) := Lib.hid (beg_list (((Blk.new w _ _).alloc _).alloc _ |>.alloc _) (((Blk.new_at (by simp) rfl).alloc _).alloc _) ((Blk.new_at (by simp) rfl).alloc _) (Blk.new_at (by simp) rfl))
  go_enter Try.func8, Try.ntmps8
  go_wp2_with fail
  generalize (((w.alloc _).alloc _).alloc _).alloc _ = w4 at *
  refine (bsel_any w4 _ HBL.out).mono ?_
  rintro e w5 ⟨r, v, rfl, -, hen, hb5⟩
  have hb6 : Below w5.heap.size w5 (w5.alloc (.cells (CE Ce.zero r) 26)) := (Below.refl _ _).alloc (Nat.le_refl _) _
  obtain ⟨ad, c, A0, A2, c0, c2, A1, c1, rfl, k0, k1, k2, k3, k4⟩ := beg_look (GL.after hen hb6)
  have HB6 := Lib.hid ((HB4.out.trans (hb5.mono HB4.out.size)).trans (hb6.mono (HB4.out.trans (hb5.mono HB4.out.size)).size))
  clear hen hb5 hb6
  unfold CE at HB6 k0 k1 k2 k3 k4 ⊢
  go_wp2_with fail
  go_ret
  exact ⟨rfl, HB6.out⟩
end Go.Proofs.Ytfdhaodgnenhcaa.Nxh

/-
  Layer 16 (newview): NewviewGaps' walk.
-/
namespace Go.Proofs.Ytfdhaodgnenhcaa.Nxi
set_option linter.unusedSimpArgs false
open Go Go.RowKit Ck Kw Ga Kf Pm Py Ja Ic Jm Jb Jt Pra Prb Prh Prr Pte Pub Ky Nva Nvb Nve Nwc Nxa Nxb Nxc Nxd Nxe Nxf Nxo Nxg Nxh
attribute [local go_sem ↓] Go.wp_at_zero Go.wp_at_succ
set_option linter.unusedVariables false
set_option maxRecDepth 100000

set_option maxHeartbeats 8000000 in
theorem gaps_law (w : World) (X : Nat → Prop) (f view : Int) (v : Value) (l : List Cg) (h : CgL w X v l) (hl : l.length * 96 ≤ 140737488351232) (hok : ∀ c ∈ l, okC c) :
    Calls Try.prog 5 #[.int .i64 f, .int .i64 view, v] w fun e w' => e = .returned (.bool true) ∧ Below w.heap.size w w' := by
  have HS := Lib.hid (select_any w X f view v l h hl hok)
  have HBG := Lib.hid begun_any
  have HG : Hid (∀ i (hi : i < (entS f view l).length), ((entS f view l)[i]).seq = (certS f view l).seq + i + 1 ∧ ((entS f view l)[i]).view = view ∧ ((entS f view l)[i]).sign = (0, 0)) := Lib.hid (fun i hi => gaps hi)
  have HGL := Lib.hid (gaps_len f view l)
  clear h hl hok
  generalize entS f view l = es at *
  generalize certS f view l = ce at *
  generalize errS f view l = en at *
  have hzv : ∀ W : World, (zeroValue 39).run Try.prog W = .ok (.agg #[.int .i64 0, .int .i64 0]) W := fun W => by kernel_rfl
  go_enter Try.func5, Try.ntmps5
  go_wp2_with fail
  refine HS.out.mono ?_
  rintro e w1 ⟨r, ve, rfl, -, hen, hb1⟩
  have hb2 : Below w1.heap.size w1 (w1.alloc (.cells (CE ce r) 26)) := (Below.refl _ _).alloc (Nat.le_refl _) _
  have HB2 := Lib.hid (hb1.trans (hb2.mono hb1.size))
  have HK2 : Hid (Blk (w1.alloc (.cells (CE ce r) 26)) w1.heap.size 26 (CE ce r)) := Lib.hid (Blk.new _ _ _)
  have HE2 := Lib.hid (GL.after hen hb2)
  clear hen hb1 hb2
  unfold CE at HB2 HK2 HE2 ⊢
  by_cases hen : en = 0
  · subst hen
    go_wp2_with fail
    generalize (w1.alloc (.cells #[.int .i64 ce.seq, .int .i64 ce.dig, .slice r.1 ce.signs.length r.2] 26)) = w2 at *
    generalize w1.heap.size = g at *
    refine (HBG.out w2).mono ?_
    rintro e w3 ⟨rfl, hb3⟩
    have HB3 := Lib.hid (HB2.out.trans (hb3.mono HB2.out.size))
    have HK3 := Lib.hid (HK2.out.below hb3 HK2.out.lt)
    have HE3 := Lib.hid (GL.after HE2.out hb3)
    obtain ⟨A, c, rfl, hc⟩ := HE3.out.shape
    clear hb3 HB2 HK2 HE2 hc
    go_wp2_with fail
    go_loopw [29] (fun i wr => ∃ k : Nat, k ≤ es.length ∧ i = .int .i64 k ∧ Below w3.heap.size w3 wr) (fun i _ => es.length - (intOf i).toNat)
    case atStart => exact ⟨0, Nat.zero_le _, rfl, Below.refl _ _⟩
    case round =>
      obtain ⟨k, hk, rfl, hbr⟩ := hrel
      have hes : es.length ≤ 8 := HGL.out
      by_cases hlt : k < es.length
      · obtain ⟨ad, re, rfl, hat, -, hbl, -⟩ := HE3.out.at_ hlt (by decide)
        have hat : AtG kE w3 (ad.add (k * 5)) es[k] re := hat
        obtain ⟨a0, a1, a2, a3, a4⟩ := at_entry (hat.later hbr)
        obtain ⟨g1, g2, g3⟩ := HG.out k hlt
        have hkp : (0 : Int) ≤ (k : Int) := by omega
        have hkl : (k : Int) < (es.length : Int) := by omega
        have hsg1 : es[k].sign.1 = 0 := by rw [g3]
        have hsg2 : es[k].sign.2 = 0 := by rw [g3]
        rw [g1] at a1
        rw [g2] at a0
        rw [hsg1] at a3
        rw [hsg2] at a4
        generalize es[k] = x at *
        have hw1 : IntKind.i64.wrap (ce.seq + (k : Int) + 1 - ce.seq) = (k : Int) + 1 := by rw [show ce.seq + (k : Int) + 1 - ce.seq = (k : Int) + 1 by omega]; exact wrap64 (by omega) (by omega)
        have hw2 : IntKind.i64.wrap ((k : Int) + 1) = (k : Int) + 1 := wrap64 (by omega) (by omega)
        have c0 : ∀ o, (wr.alloc o).cell? ⟨g, 0, none⟩ = some (.int .i64 ce.seq) := fun o => (HK3.out.below (hbr.alloc hbr.size o) HK3.out.lt).cell 0
        have HBN := Lib.hid (fun o => hbr.alloc hbr.size o)
        have HBR := Lib.hid hbr
        clear hat hbl g1 g2 g3 hsg1 hsg2 hbr
        go_wp2_with fail
        go_roundw
        case rel => exact ⟨k + 1, by omega, by go_num, HBN.out _⟩
        case measure => simp [intOf]; omega
      · have hke : k = es.length := by omega
        subst hke
        have HBE := Lib.hid (HB3.out.trans (hbr.mono HB3.out.size))
        have hl8 : ((es.length : Int) ≤ 8) := by omega
        clear hbr
        go_wp2_with fail
        go_ret
        exact ⟨rfl, HBE.out⟩
  · have e1 : (en == 0) = false := by rw [beq_eq_false_iff_ne]; exact hen
    have e2 : (en != 0) = true := by simp [bne, e1]
    clear hen
    go_wp2_with fail
    generalize (w1.alloc (.cells #[.int .i64 ce.seq, .int .i64 ce.dig, .slice r.1 ce.signs.length r.2] 26)) = w2 at *
    refine (HBG.out w2).mono ?_
    rintro e w3 ⟨rfl, hb3⟩
    have HB3 := Lib.hid (HB2.out.trans (hb3.mono HB2.out.size))
    clear hb3
    go_wp2_with fail
    refine (HBG.out w3).mono ?_
    rintro e w4 ⟨rfl, hb4⟩
    have HB4 := Lib.hid (HB3.out.trans (hb4.mono HB3.out.size))
    clear hb4
    go_wp2_with fail
    go_ret
    exact ⟨rfl, HB4.out⟩
end Go.Proofs.Ytfdhaodgnenhcaa.Nxi

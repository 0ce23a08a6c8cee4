/-
  Layer 16 (newview): the document's latest: what was prepared last for a number.
-/
import Derived.Test.YtfdhaodgnenhcaaR03
import Derived.Deep.Cut
import Derived.Test.YtfdhaodgnenhcaaR08
import Derived.Deep.RegionHeld3
import Derived.Test.YtfdhaodgnenhcaaR06
import Derived.Test.YtfdhaodgnenhcaaR07

namespace Go.Proofs.Ytfdhaodgnenhcaa.Nwa
set_option linter.unusedSimpArgs false
open Go Go.RowKit Cm Ck Kw Ga Kf Jm Jb Pra Prb Ky Nva Nvb Nve
attribute [local go_sem ↓] Go.wp_at_zero Go.wp_at_succ
set_option linter.unusedVariables false
set_option maxRecDepth 100000

theorem fblk7 {w : World} {g : Nat} {t : TypeId} {a0 a1 a2 a3 a4 a5 a6 x0 x1 x2 x3 x4 x5 x6 : Value} (h : Blk w g t #[a0, a1, a2, a3, a4, a5, a6]) : Blk ((((((((w).setCell ⟨g, 0, none⟩ x0).setCell ⟨g, 1, none⟩ x1).setCell ⟨g, 2, none⟩ x2).setCell ⟨g, 3, none⟩ x3).setCell ⟨g, 4, none⟩ x4).setCell ⟨g, 5, none⟩ x5).setCell ⟨g, 6, none⟩ x6) g t #[x0, x1, x2, x3, x4, x5, x6] := by
  have := (((((((h).set_ 0 x0).set_ 1 x1).set_ 2 x2).set_ 3 x3).set_ 4 x4).set_ 5 x5).set_ 6 x6
  simpa using this
theorem fch7 (w : World) (g : Nat) (x0 x1 x2 x3 x4 x5 x6 : Value) : Ch (fun k => k = g) w ((((((((w).setCell ⟨g, 0, none⟩ x0).setCell ⟨g, 1, none⟩ x1).setCell ⟨g, 2, none⟩ x2).setCell ⟨g, 3, none⟩ x3).setCell ⟨g, 4, none⟩ x4).setCell ⟨g, 5, none⟩ x5).setCell ⟨g, 6, none⟩ x6) := (((((((Ch.refl (fun k => k = g) w).setCell (p := ⟨g, 0, none⟩) (fun _ => rfl) x0).setCell (p := ⟨g, 1, none⟩) (fun _ => rfl) x1).setCell (p := ⟨g, 2, none⟩) (fun _ => rfl) x2).setCell (p := ⟨g, 3, none⟩) (fun _ => rfl) x3).setCell (p := ⟨g, 4, none⟩) (fun _ => rfl) x4).setCell (p := ⟨g, 5, none⟩) (fun _ => rfl) x5).setCell (p := ⟨g, 6, none⟩) (fun _ => rfl) x6
/-- Where the search stands: what was found lies in block B. -/
structure Fnd (w : World) (X : Nat → Prop) (B : Nat) (a : Value) (o : Option Pd) (W : World) : Prop where
  blk : ∃ r, Blk W B 43 (PC (o.getD Pd.zero) r) ∧ PI w X (o.getD Pd.zero) r
  any : a = .bool o.isSome
  bel : Below B w W
  big : B < W.heap.size
theorem Fnd.same {w : World} {X : Nat → Prop} {B : Nat} {a : Value} {o o' : Option Pd} {W W' : World} (h : Fnd w X B a o W) (b : Below W.heap.size W W') (e : o' = o) : Fnd w X B a o' W' := by
  subst e
  obtain ⟨⟨r, h1, h2⟩, h3, h4, h5⟩ := h
  exact ⟨⟨r, h1.below b h5, h2⟩, h3, h4.trans (b.mono (by omega)), by have := b.size; omega⟩
end Go.Proofs.Ytfdhaodgnenhcaa.Nwa

/-
  Layer 16 (newview): the document's Select: its early ways out.
-/
namespace Go.Proofs.Ytfdhaodgnenhcaa.Nwc
set_option linter.unusedSimpArgs false
open Go Go.RowKit Cm Ck Kw Ga Kf Jm Jb Pra Prb Prh Ky Nva Nvb Nve
attribute [local go_sem ↓] Go.wp_at_zero Go.wp_at_succ
set_option linter.unusedVariables false
set_option maxRecDepth 100000

theorem results_row_tmp2 {P : Program} {fn : Func} {p q r : Tmp} {ty : TypeId} (h : fn.results = #[.cell p ty, .tmp q, .tmp r]) (tmps : Array Value) (w : World) (g : Nat) (t : TypeId) (cs : Array Value) (fr : Nat × Nat) (d : TypeDesc)
    (hp : tmps.getD p undef = .pointer (some ⟨g, 0, none⟩)) (hg : w.heap[g]? = some (.cells cs t fr))
    (hu : P.underlying ty = some d) (hd : (match d with | .struct _ | .array _ _ => true | _ => false) = true) (hi : (P.info? ty).map (·.size) = some cs.size) :
    (results fn tmps).run P w = .ok (.tuple #[.agg cs, tmps.getD q undef, tmps.getD r undef]) w := by
  have hp' : tmps[p]?.getD undef = .pointer (some ⟨g, 0, none⟩) := by simpa using hp
  simp [results, h, hp', asAddr, run_loadVar_row w g t ty cs fr d hg hu hd hi]
theorem size_cert : (Try.prog.info? 26).map (·.size) = some 3 := by kernel_rfl
theorem blk3 {w : World} {g : Nat} {t : TypeId} {a0 a1 a2 x0 x1 x2 : Value} (h : Blk w g t #[a0, a1, a2]) : Blk ((((w).setCell ⟨g, 0, none⟩ x0).setCell ⟨g, 1, none⟩ x1).setCell ⟨g, 2, none⟩ x2) g t #[x0, x1, x2] := by
  have := (((h).set_ 0 x0).set_ 1 x1).set_ 2 x2
  simpa using this
theorem ch3 (w : World) (g : Nat) (x0 x1 x2 : Value) : Ch (fun k => k = g) w ((((w).setCell ⟨g, 0, none⟩ x0).setCell ⟨g, 1, none⟩ x1).setCell ⟨g, 2, none⟩ x2) := (((Ch.refl (fun k => k = g) w).setCell (p := ⟨g, 0, none⟩) (fun _ => rfl) x0).setCell (p := ⟨g, 1, none⟩) (fun _ => rfl) x1).setCell (p := ⟨g, 2, none⟩) (fun _ => rfl) x2
end Go.Proofs.Ytfdhaodgnenhcaa.Nwc

/-
  Layer 16 (newview): the program's Select.
-/
namespace Go.Proofs.Ytfdhaodgnenhcaa.Nxg
set_option linter.unusedSimpArgs false
open Go Go.RowKit Ck Kw Ga Kf Pm Py Ic Jm Jb Jt Pra Prb Prh Prr Pte Pub Ky Nva Nvb Nve Nwc Nxa Nxb Nxc Nxd Nxe Nxf Nxo
attribute [local go_sem ↓] Go.wp_at_zero Go.wp_at_succ
set_option linter.unusedVariables false
set_option maxRecDepth 100000

/-- The cells of a checkpoint's certificate. -/
def CE (c : Ce) (r : Option Addr × Nat) : Array Value := #[.int .i64 c.seq, .int .i64 c.dig, .slice r.1 c.signs.length r.2]
/-- What Select answers: a certificate, entries, an error; rows that were not there. -/
def Sel (w : World) (c : Ce) (es : List En) (n : Int) (e : Ending) (w' : World) : Prop :=
  ∃ (r : Option Addr × Nat) (v : Value), e = .returned (.tuple #[.agg (CE c r), v, .int .i64 n]) ∧ SS w' (fun k => k < w.heap.size) (.slice r.1 c.signs.length r.2) c.signs ∧ EnL w' (fun k => k < w.heap.size) v es ∧ Below w.heap.size w w'
theorem okL_of {l : List Cg} (h : ∀ c ∈ l, okC c) : okL l :=
  ⟨fun c hc => by have := (h c hc).above; unfold NN; omega, fun c hc p hp => ((h c hc).each p hp).2.1, fun c hc p hp => ((h c hc).each p hp).1⟩
theorem err_few {f view : Int} {l : List Cg} (h : errS f view l = 0) : l.length ≤ 13 ∧ 0 < l.length := by
  unfold errS at h
  cases hf : okF f with
  | false => rw [hf] at h; simp at h
  | true =>
    obtain ⟨h1, h2⟩ := okF_yes hf
    rw [hf, if_pos rfl] at h
    split at h
    · omega
    · split at h
      · rename_i hfr
        have hb : brokersP f = 3 * f + 1 := by simp [brokersP, hf]
        rw [hb] at hfr
        have := fr_len hfr (by omega) (by omega)
        split at h <;> omega
      · omega
theorem best_seq {l : List Cg} (h : ∀ c ∈ l, okC c) : I64 (bestC (firstC l) l).seq := by
  refine best_mem (P := fun c => I64 c.seq) l ?_ (fun c hc => (h c hc).seq)
  unfold firstC
  cases l with
  | nil => exact ⟨by decide, by decide⟩
  | cons c l => exact (h c List.mem_cons_self).seq
theorem field_cert (W : World) (a0 a1 a2 a3 a4 a5 a6 a7 : Value) : (Instr.field 49 (.agg #[a0, a1, a2, a3, a4, a5, a6, a7]) 2).run Try.prog W = .ok (.agg #[a2, a3, a4]) W := by kernel_rfl
theorem ent_gl {w5 w6 : World} {T : Nat → Prop} {v : Value} {es : List En} (h : OT kE w5 56 T v es w6) : EnL w6 (fun k => k < w5.heap.size) v es :=
  h.og.gl (Y := fun k => k < w5.heap.size) (fun k hk ht => by have := (h.lo k ht).1; omega) (fun k hk hy => by omega)
set_option maxHeartbeats 8000000 in
theorem select_any (w : World) (X : Nat → Prop) (f view : Int) (v : Value) (l : List Cg) (h : CgL w X v l) (hl : l.length * 96 ≤ 140737488351232) (hok : ∀ c ∈ l, okC c) :
    Calls Try.prog 6 #[.int .i64 f, .int .i64 view, v] w (Sel w (certS f view l) (entS f view l) (errS f view l)) := by
  have hba : Below w.heap.size w (w.alloc (.cells #[.int .i64 0, .int .i64 0, .slice none 0 0] 26)) := (Below.refl _ w).alloc (Nat.le_refl _) _
  have HC := Lib.hid (check_any _ X f view v l (h.after hba) (by omega))
  have HB0 := Lib.hid hba
  have hzv : ∀ W : World, (zeroValue 26).run Try.prog W = .ok (.agg #[.int .i64 0, .int .i64 0, .slice none 0 0]) W := fun W => by kernel_rfl
  have HBK : Hid (Blk (w.alloc (.cells #[.int .i64 0, .int .i64 0, .slice none 0 0] 26)) w.heap.size 26 #[.int .i64 0, .int .i64 0, .slice none 0 0]) := Lib.hid (Blk.new w _ _)
  have HZ : Hid ((w.alloc (.cells #[.int .i64 0, .int .i64 0, .slice none 0 0] 26)).heap.size = w.heap.size + 1) := Lib.hid (by simp)
  have HH := Lib.hid (And.intro h (And.intro hl hok))
  clear h hl hok hba
  cases he : decide (errS f view l = 0) with
  | false =>
    have he := of_decide_eq_false he
    have HO : Hid (certS f view l = Ce.zero ∧ entS f view l = []) := Lib.hid ⟨by unfold certS; rw [if_neg he], by unfold entS; rw [if_neg he]⟩
    have e1 : (errS f view l == 0) = false := by rw [beq_eq_false_iff_ne]; exact he
    have e2 : (errS f view l != 0) = true := by simp [bne, e1]
    generalize errS f view l = en at *
    clear he
    go_enter Try.func6, Try.ntmps6
    go_wp2_with fail
    generalize (w.alloc (.cells #[.int .i64 0, .int .i64 0, .slice none 0 0] 26)) = w0 at *
    refine HC.out.mono ?_
    rintro e w1 ⟨rfl, hb1⟩
    have HB1 := Lib.hid (HB0.out.trans (hb1.mono HB0.out.size))
    have HK1 := Lib.hid (HBK.out.below hb1 HBK.out.lt)
    have f0 := HK1.out.frozen 0
    have f1 := HK1.out.frozen 1
    have f2 := HK1.out.frozen 2
    have k0 := HK1.out.cell 0
    have k1 := HK1.out.cell 1
    have k2 := HK1.out.cell 2
    simp only [List.getElem?_toArray, List.getElem?_cons_zero, List.getElem?_cons_succ] at k0 k1 k2
    clear hb1
    go_wp2_with fail
    refine bodyPost_ret (results_row_tmp2 rfl _ _ w.heap.size 26 #[.int .i64 0, .int .i64 0, .slice none 0 0] (0, 0) _ rfl (blk3 HK1.out) Try.underlying26 rfl size_cert) rfl ?_
    rw [HO.out.1, HO.out.2]
    exact ⟨(none, 0), _, rfl, Sl.nil _ _ _, GL.nil _ _ _, HB1.out.trans ((ch3 _ w.heap.size _ _ _).below (fun k hk e => by omega) HB1.out.size)⟩
  | true =>
    have he := of_decide_eq_true he
    have HO : Hid (certS f view l = bestC (firstC l) l ∧ entS f view l = entriesE view (bestC (firstC l) l).seq (topC 0 l) l) := Lib.hid ⟨by unfold certS; rw [if_pos he], by unfold entS certS; rw [if_pos he, if_pos he]⟩
    have HFW := Lib.hid (err_few he)
    have e1 : (errS f view l == 0) = true := by rw [beq_iff_eq]; exact he
    have e2 : (errS f view l != 0) = false := by simp [bne, e1]
    have HEZ := Lib.hid he
    rw [he] at HC e1 e2 ⊢
    rw [HO.out.1, HO.out.2]
    clear he HO
    go_enter Try.func6, Try.ntmps6
    go_wp2_with fail
    generalize (w.alloc (.cells #[.int .i64 0, .int .i64 0, .slice none 0 0] 26)) = w0 at *
    refine HC.out.mono ?_
    rintro e w1 ⟨rfl, hb1⟩
    have HB1 := Lib.hid (HB0.out.trans (hb1.mono HB0.out.size))
    have HK1 := Lib.hid (HBK.out.below hb1 HBK.out.lt)
    clear hb1 HC HBK
    go_wp2_with fail
    refine (max_any w1 X v l (HH.out.1.after HB1.out) (by have := HFW.out; omega) HFW.out.2).mono ?_
    rintro e w2 ⟨mc, rm, rfl, hmem, hbest, hci, hb2⟩
    have hfd := field_cert w2 (.int .i64 mc.view) (.int .i64 mc.from_) (.int .i64 mc.cert.seq) (.int .i64 mc.cert.dig) (.slice rm.1.1 mc.cert.signs.length rm.1.2) (.slice rm.2.1 mc.above.length rm.2.2) (.int .i64 mc.sign.1) (.int .i64 mc.sign.2)
    have hsg := (HH.out.2.2 mc hmem).signs
    have HSS : Hid (SS w1 X (.slice rm.1.1 mc.cert.signs.length rm.1.2) mc.cert.signs) := Lib.hid hci.signs
    unfold CC
    obtain ⟨ce, hce⟩ : ∃ ce, ce = mc.cert := ⟨_, rfl⟩
    rw [← hce] at hfd hsg HSS hbest ⊢
    obtain rfl : ce = bestC (firstC l) l := hbest
    have HBS := Lib.hid (best_seq HH.out.2.2)
    have HCE := Lib.hid hce
    generalize bestC (firstC l) l = ce at *
    have HK10 : Hid (Blk (w2.alloc (.cells #[.int .i64 ce.seq, .int .i64 ce.dig, .slice rm.1.1 ce.signs.length rm.1.2] 26)) w2.heap.size 26 #[.int .i64 ce.seq, .int .i64 ce.dig, .slice rm.1.1 ce.signs.length rm.1.2]) := Lib.hid (Blk.new w2 _ _)
    have hb3 : Below w2.heap.size w2 (w2.alloc (.cells #[.int .i64 ce.seq, .int .i64 ce.dig, .slice rm.1.1 ce.signs.length rm.1.2] 26)) := (Below.refl _ _).alloc (Nat.le_refl _) _
    have HB13 := Lib.hid (hb2.trans (hb3.mono hb2.size))
    have HS2 : Hid (w1.heap.size ≤ w2.heap.size ∧ w.heap.size < w1.heap.size) := Lib.hid ⟨hb2.size, HK1.out.lt⟩
    clear hmem hci hb2 hb3 hce
    go_wp2_with fail
    generalize (w2.alloc (.cells #[.int .i64 ce.seq, .int .i64 ce.dig, .slice rm.1.1 ce.signs.length rm.1.2] 26)) = w3 at *
    generalize w2.heap.size = g at *
    refine (clone_signs X _ _ _ w3 (HSS.out.after HB13.out) sc_one (by omega)).mono ?_
    rintro e w4 ⟨A4, c4, rfl, ho4, hb4⟩
    have hk4 := HK10.out.below hb4 HK10.out.lt
    have k0 := hk4.cell 0
    have k1 := hk4.cell 1
    have k2 := hk4.cell 2
    have f2 := hk4.frozen 2
    simp only [List.getElem?_toArray, List.getElem?_cons_zero, List.getElem?_cons_succ] at k0 k1 k2
    have cc5 : Ch (fun k => k = g) w4 (w4.setCell ⟨g, 2, none⟩ (.slice A4 ce.signs.length c4)) := (Ch.refl (fun k => k = g) w4).setCell (p := ⟨g, 2, none⟩) (fun _ => rfl) _
    have hk5 := hk4.set_ 2 (.slice A4 ce.signs.length c4)
    simp only [List.setIfInBounds_toArray, List.set_cons_succ, List.set_cons_zero] at hk5
    have HK5 := Lib.hid hk5
    have hb14 : Below w1.heap.size w1 w4 := HB13.out.trans (hb4.mono HB13.out.size)
    have hb15 : Below w1.heap.size w1 (w4.setCell ⟨g, 2, none⟩ (.slice A4 ce.signs.length c4)) := hb14.trans (cc5.below (fun k hk e => by have := HS2.out; omega) hb14.size)
    have HB15 := Lib.hid hb15
    have HSG5 : Hid (SS (w4.setCell ⟨g, 2, none⟩ (.slice A4 ce.signs.length c4)) (fun k => k < w3.heap.size) (.slice A4 ce.signs.length c4) ce.signs) := Lib.hid (SS.ch (Sl.of_own ho4 (fun k h1 _ h2 => by omega)) cc5 (fun k _ hk => by rw [hk]; exact HK10.out.lt))
    have HG3 := Lib.hid HK10.out.lt
    clear ho4 hb4 hk4 hk5 hb14 hb15 cc5 HSS HK10 hsg
    go_wp2_with fail
    generalize (w4.setCell ⟨g, 2, none⟩ (.slice A4 ce.signs.length c4)) = w5 at *
    have hdr : Below w5.heap.size w5 w5.drew := below_drewN (Below.refl _ _) 1
    have HX : Hid (∀ W, Below w5.heap.size w5.drew W → W.cell? ⟨g, 0, none⟩ = some (.int .i64 ce.seq) ∧ W.cell? ⟨g, 1, none⟩ = some (.int .i64 ce.dig) ∧ W.cell? ⟨g, 2, none⟩ = some (.slice A4 ce.signs.length c4)) := Lib.hid (fun W b => by
      have hk := HK5.out.below (below_of_drew b) HK5.out.lt
      exact ⟨hk.cell 0, hk.cell 1, hk.cell 2⟩)
    have HY : Hid (∀ W, Below w5.heap.size w5.drew W → Blk W w.heap.size 26 #[.int .i64 0, .int .i64 0, .slice none 0 0]) := Lib.hid (fun W b => (HK1.out.below HB15.out HK1.out.lt).below (below_of_drew b) (by have := (HK1.out.below HB15.out HK1.out.lt).lt; exact this))
    have HV : Hid (∀ W, Below w5.heap.size w5.drew W → ((((W).setCell ⟨w.heap.size, 0, none⟩ (.int .i64 ce.seq)).setCell ⟨w.heap.size, 1, none⟩ (.int .i64 ce.dig)).setCell ⟨w.heap.size, 2, none⟩ (.slice A4 ce.signs.length c4)).cell? ⟨g, 0, none⟩ = some (.int .i64 ce.seq) ∧ ((((W).setCell ⟨w.heap.size, 0, none⟩ (.int .i64 ce.seq)).setCell ⟨w.heap.size, 1, none⟩ (.int .i64 ce.dig)).setCell ⟨w.heap.size, 2, none⟩ (.slice A4 ce.signs.length c4)).cell? ⟨g, 1, none⟩ = some (.int .i64 ce.dig) ∧ ((((W).setCell ⟨w.heap.size, 0, none⟩ (.int .i64 ce.seq)).setCell ⟨w.heap.size, 1, none⟩ (.int .i64 ce.dig)).setCell ⟨w.heap.size, 2, none⟩ (.slice A4 ce.signs.length c4)).cell? ⟨g, 2, none⟩ = some (.slice A4 ce.signs.length c4)) := Lib.hid (fun W b => by
      have hk := (HK5.out.below (below_of_drew b) HK5.out.lt).ch (ch3 W w.heap.size (.int .i64 ce.seq) (.int .i64 ce.dig) (.slice A4 ce.signs.length c4)) (by have := HS2.out; omega)
      exact ⟨hk.cell 0, hk.cell 1, hk.cell 2⟩)
    have q2 := HX.out w5.drew (Below.refl _ _)
    have HBW : Hid (Below w.heap.size w w5.drew) := Lib.hid ((HB1.out.trans (HB15.out.mono HB1.out.size)).trans (hdr.mono (HB1.out.trans (HB15.out.mono HB1.out.size)).size))
    have HEN : Hid (Calls Try.prog 25 #[.int .i64 view, .int .i64 ce.seq, v] w5.drew fun e w' => ∃ T v', e = .returned v' ∧ OT kE w5.drew 56 T v' (entriesE view ce.seq (topC 0 l) l) w') := Lib.hid (entries_any w5.drew X view ce.seq v l (HH.out.1.after HBW.out) HFW.out.1 (okL_of HH.out.2.2) HBS.out)
    clear hdr k0 k1 k2 f2
    go_region_held3 (fun w' => w'.cell? ⟨g, 0, none⟩ = some (.int .i64 ce.seq) ∧ w'.cell? ⟨g, 1, none⟩ = some (.int .i64 ce.dig) ∧ w'.cell? ⟨g, 2, none⟩ = some (.slice A4 ce.signs.length c4)) (first | with_reducible exact q2 | with_reducible exact j3 | with_reducible exact j4 | (go_keep; done))
      (first | (go_at_call 25; refine HEN.out.mono ?_; rintro e w6 ⟨T, v6, rfl, hot⟩; have HOT := Lib.hid hot; have j3 := HX.out w6 hot.below; have j4 := HV.out w6 hot.below; have hy := HY.out w6 hot.below; have y0 := hy.cell 0; have y1 := hy.cell 1; have y2 := hy.cell 2; have z0 := hy.frozen 0; have z1 := hy.frozen 1; have z2 := hy.frozen 2; simp only [List.getElem?_toArray, List.getElem?_cons_zero, List.getElem?_cons_succ] at y0 y1 y2; clear hot))
    all_goals
      go_wp2_with fail
      refine bodyPost_ret (results_row_tmp2 rfl _ _ w.heap.size 26 #[.int .i64 ce.seq, .int .i64 ce.dig, .slice A4 ce.signs.length c4] (0, 0) _ rfl (blk3 hy) Try.underlying26 rfl size_cert) rfl ?_
      have hc := ch3 w6 w.heap.size (.int .i64 ce.seq) (.int .i64 ce.dig) (.slice A4 ce.signs.length c4)
      have hb6 := below_of_drew HOT.out.below
      have hen : EnL w6 (fun k => k < w5.heap.size) v6 (entriesE view ce.seq (topC 0 l) l) := ent_gl (w5 := w5.drew) HOT.out
      have hs := HS2.out
      have hg := HG3.out
      have hw5 : w.heap.size < w5.heap.size := by have := HB15.out.size; omega
      have hen2 := GL.ch hen hc (fun k _ hk => by show k < w5.heap.size; omega)
      have hss2 := (SS.after HSG5.out hb6).ch hc (fun k _ hk => by show k < w3.heap.size; omega)
      exact ⟨(A4, c4), v6, rfl, hss2.weaken (fun b _ hb => by show b < w3.heap.size; have hb' : b < w.heap.size := hb; omega), hen2.weaken (fun b _ hb => by show b < w5.heap.size; have hb' : b < w.heap.size := hb; omega), ((HB1.out.trans (HB15.out.mono HB1.out.size)).trans (hb6.mono (show w.heap.size ≤ w5.heap.size by omega))).trans (hc.below (fun k hk e => by omega) (by have hh : w5.heap.size ≤ w6.heap.size := hb6.size; omega))⟩
end Go.Proofs.Ytfdhaodgnenhcaa.Nxg

/-
  Layer 16 (newview): the law's begun.
-/
namespace Go.Proofs.Ytfdhaodgnenhcaa.Nxh
set_option linter.unusedSimpArgs false
open Go Go.RowKit Ck Kw Ga Kf Pm Py Ja Ic Jm Jb Jt Pra Prb Prh Prr Pte Ptm Pub Ky Nva Nvb Nve Nwc Nxa Nxb Nxc Nxd Nxe Nxf Nxo Nxg
attribute [local go_sem ↓] Go.wp_at_zero Go.wp_at_succ
set_option linter.unusedVariables false
set_option maxRecDepth 100000

/-- A block known whole, as a slice. -/
theorem sl_blk {w : World} {g : Nat} {t : TypeId} {cs : Array Value} {size n : Nat} {xs : List Value} (h : Blk w g t cs) (hx : cs.toList = xs) (hl : xs.length = n * size) (X : Nat → Prop) (hX : ¬ X g) (hn : n ≤ maxLen) : Sl w X size (.slice (some ⟨g, 0, none⟩) n n) n xs := by
  refine ⟨_, _, rfl, hl, Nat.le_refl _, hn, fun _ => ⟨_, rfl, h.lt, hX, fun j x hj => ?_⟩⟩
  have ha : (⟨g, 0, none⟩ : Addr).add j = ⟨g, j, none⟩ := by unfold Addr.add; split <;> simp_all
  rw [ha, h.cell j, ← hj, ← hx]
  simp
def sd1 : Sd := ⟨⟨1, 1, O.zero⟩, (14, 1)⟩
def p1 : Pd := ⟨0, 1, 0, (0, 0), [], [sd1]⟩
def p2 : Pd := ⟨0, 3, 0, (0, 0), [], []⟩
def p3 : Pd := ⟨1, 3, 0, (0, 0), [], [sd1]⟩
def begL : List Cg := [⟨0, 0, Ce.zero, [p1, p2], (0, 0)⟩, ⟨0, 1, Ce.zero, [], (0, 0)⟩, ⟨0, 3, Ce.zero, [p3], (0, 0)⟩]
def begE : List En := [⟨2, 1, [sd1], (0, 0)⟩, ⟨2, 2, [], (0, 0)⟩, ⟨2, 3, [sd1], (0, 0)⟩]
theorem beg_ent : entS 1 2 begL = begE := by decide +kernel
theorem beg_err : errS 1 2 begL = 0 := by decide +kernel
theorem beg_cert : certS 1 2 begL = Ce.zero := by decide +kernel
theorem sd1_far : Py.far sd1.q.o 140737488351232 := ⟨by decide, by decide, by decide, fun l hl => by simp [sd1, O.zero] at hl⟩
theorem p_ok {p : Pd} (hs : p.signs = []) (hb : p.batch = [] ∨ p.batch = [sd1]) (h1 : -9223372036854775808 ≤ p.seq ∧ p.seq ≤ 9223372036854775807) (h2 : -9223372036854775808 ≤ p.view ∧ p.view ≤ 9223372036854775807) : okV p ∧ wfP p := by
  have hf : ∀ y ∈ p.batch, y = sd1 := fun y hy => by
    rcases hb with hb | hb
    · rw [hb] at hy; exact absurd hy (by simp)
    · rw [hb] at hy; simpa using hy
  have hl : p.batch.length ≤ 1 := by rcases hb with hb | hb <;> rw [hb] <;> simp
  refine ⟨⟨⟨fun y hy => by rw [hf y hy]; decide, by omega, by rw [hs]; decide⟩, by rw [hs]; decide, by omega, fun y hy => by rw [hf y hy]; exact sd1_far⟩, h1, h2⟩
theorem beg_ok : ∀ c ∈ begL, okC c := by
  intro c hc
  simp only [begL, List.mem_cons, List.not_mem_nil, or_false] at hc
  rcases hc with rfl | rfl | rfl
  · refine ⟨by decide, by decide, fun p hp => ?_, by decide, by decide⟩
    simp only [List.mem_cons, List.not_mem_nil, or_false] at hp
    rcases hp with rfl | rfl
    · exact p_ok rfl (.inr rfl) (by decide) (by decide)
    · exact p_ok rfl (.inl rfl) (by decide) (by decide)
  · exact ⟨by decide, by decide, fun p hp => absurd hp (by simp), by decide, by decide⟩
  · refine ⟨by decide, by decide, fun p hp => ?_, by decide, by decide⟩
    simp only [List.mem_cons, List.not_mem_nil, or_false] at hp
    subst hp
    exact p_ok rfl (.inr rfl) (by decide) (by decide)
theorem ls_nil (w : World) (X : Nat → Prop) : Ls w X (.slice none 0 0) [] := ⟨[], Sl.nil _ _ _, fun i h => absurd h (by simp)⟩
theorem bi_one {w : World} {g : Nat} (X : Nat → Prop) (hX : ¬ X g) (h : Blk w g 71 #[.int .i64 1, .int .i64 1, .int .i64 0, .string ⟨#[]⟩, .string ⟨#[]⟩, .int .i64 0, .slice none 0 0, .int .i64 14, .int .i64 1]) : BI w X (.slice (some ⟨g, 0, none⟩) 1 1) [sd1] :=
  ⟨[(none, 0)], rfl, sl_blk h rfl rfl X hX (by simp only [maxLen]; omega), fun i hi => by
    have : i = 0 := by simpa using hi
    subst this
    exact ⟨(none, 0), rfl, ls_nil _ _⟩⟩
theorem gts_cons {α ρ : Type} {κ : Ky.Kd α ρ} {w : World} {X : Nat → Prop} {a : α} {r : ρ} {l : List α} {rs : List ρ} (h : κ.I w X a r) (k : Gts κ w X l rs) : Gts κ w X (a :: l) (r :: rs) := by
  have := Gts.app (Gts.one h) k
  simpa using this
/-- The law's view-changes, in four blocks. -/
theorem beg_list {w : World} {a b c d : Nat} (ha : Blk w a 71 #[.int .i64 1, .int .i64 1, .int .i64 0, .string ⟨#[]⟩, .string ⟨#[]⟩, .int .i64 0, .slice none 0 0, .int .i64 14, .int .i64 1])
    (hb : Blk w b 43 #[.int .i64 0, .int .i64 1, .int .i64 0, .int .i64 0, .int .i64 0, .slice none 0 0, .slice (some ⟨a, 0, none⟩) 1 1, .int .i64 0, .int .i64 3, .int .i64 0, .int .i64 0, .int .i64 0, .slice none 0 0, .slice none 0 0])
    (hc : Blk w c 43 #[.int .i64 1, .int .i64 3, .int .i64 0, .int .i64 0, .int .i64 0, .slice none 0 0, .slice (some ⟨a, 0, none⟩) 1 1])
    (hd : Blk w d 49 #[.int .i64 0, .int .i64 0, .int .i64 0, .int .i64 0, .slice none 0 0, .slice (some ⟨b, 0, none⟩) 2 2, .int .i64 0, .int .i64 0, .int .i64 0, .int .i64 1, .int .i64 0, .int .i64 0, .slice none 0 0, .slice none 0 0, .int .i64 0, .int .i64 0, .int .i64 0, .int .i64 3, .int .i64 0, .int .i64 0, .slice none 0 0, .slice (some ⟨c, 0, none⟩) 1 1, .int .i64 0, .int .i64 0]) :
    CgL w (fun _ => False) (.slice (some ⟨d, 0, none⟩) 3 3) begL := by
  have hbi := bi_one (fun _ => False) (fun h => h) ha
  have hp1 : kP.I w (fun _ => False) p1 ((none, 0), (some ⟨a, 0, none⟩, 1)) := (⟨Sl.nil _ _ _, hbi⟩ : PI w (fun _ => False) p1 ((none, 0), (some ⟨a, 0, none⟩, 1)))
  have hp2 : kP.I w (fun _ => False) p2 ((none, 0), (none, 0)) := (⟨Sl.nil _ _ _, bi_nil _ _⟩ : PI w (fun _ => False) p2 ((none, 0), (none, 0)))
  have hp3 : kP.I w (fun _ => False) p3 ((none, 0), (some ⟨a, 0, none⟩, 1)) := (⟨Sl.nil _ _ _, hbi⟩ : PI w (fun _ => False) p3 ((none, 0), (some ⟨a, 0, none⟩, 1)))
  have hl1 : PL w (fun _ => False) (.slice (some ⟨b, 0, none⟩) 2 2) [p1, p2] := PL.gl.2 ⟨[((none, 0), (some ⟨a, 0, none⟩, 1)), ((none, 0), (none, 0))], gts_cons hp1 (gts_cons hp2 Gts.nil), sl_blk hb rfl rfl _ (fun h => h) (by simp only [maxLen]; omega)⟩
  have hl3 : PL w (fun _ => False) (.slice (some ⟨c, 0, none⟩) 1 1) [p3] := PL.gl.2 ⟨[((none, 0), (some ⟨a, 0, none⟩, 1))], gts_cons hp3 Gts.nil, sl_blk hc rfl rfl _ (fun h => h) (by simp only [maxLen]; omega)⟩
  have hc1 : kC.I w (fun _ => False) ⟨0, 0, Ce.zero, [p1, p2], (0, 0)⟩ ((none, 0), (some ⟨b, 0, none⟩, 2)) := show CgI w (fun _ => False) ⟨0, 0, Ce.zero, [p1, p2], (0, 0)⟩ ((none, 0), (some ⟨b, 0, none⟩, 2)) from ⟨Sl.nil _ _ _, hl1⟩
  have hc2 : kC.I w (fun _ => False) ⟨0, 1, Ce.zero, [], (0, 0)⟩ ((none, 0), (none, 0)) := show CgI w (fun _ => False) ⟨0, 1, Ce.zero, [], (0, 0)⟩ ((none, 0), (none, 0)) from ⟨Sl.nil _ _ _, GL.nil kP _ _⟩
  have hc3 : kC.I w (fun _ => False) ⟨0, 3, Ce.zero, [p3], (0, 0)⟩ ((none, 0), (some ⟨c, 0, none⟩, 1)) := show CgI w (fun _ => False) ⟨0, 3, Ce.zero, [p3], (0, 0)⟩ ((none, 0), (some ⟨c, 0, none⟩, 1)) from ⟨Sl.nil _ _ _, hl3⟩
  exact ⟨[((none, 0), (some ⟨b, 0, none⟩, 2)), ((none, 0), (none, 0)), ((none, 0), (some ⟨c, 0, none⟩, 1))], gts_cons hc1 (gts_cons hc2 (gts_cons hc3 Gts.nil)), sl_blk hd rfl rfl _ (fun h => h) (by simp only [maxLen]; omega)⟩
theorem bsel_any (w : World) (d : Nat) (h : CgL w (fun _ => False) (.slice (some ⟨d, 0, none⟩) 3 3) begL) : Calls Try.prog 6 #[.int .i64 1, .int .i64 2, .slice (some ⟨d, 0, none⟩) 3 3] w (Sel w Ce.zero begE 0) := by
  have := select_any w _ 1 2 _ begL h (by decide) beg_ok
  rwa [beg_ent, beg_err, beg_cert] at this
theorem at_add {ad : Addr} (w : World) (k : Nat) (h : 0 < k) : ad.add k = ⟨ad.block, ad.off + k, none⟩ := by unfold Addr.add; rw [if_neg (by omega)]
/-- What the test looks at. -/
theorem beg_look {w : World} {X : Nat → Prop} {v : Value} (h : EnL w X v begE) : ∃ (ad : Addr) (c : Nat) (A0 A2 : Option Addr) (c0 c2 : Nat) (A1 : Option Addr) (c1 : Nat), v = .slice (some ad) 3 c ∧ w.cell? ⟨ad.block, ad.off + 2, none⟩ = some (.slice A0 1 c0) ∧ w.cell? ⟨ad.block, ad.off + 5 + 2, none⟩ = some (.slice A1 0 c1) ∧ w.cell? ⟨ad.block, ad.off + 10 + 2, none⟩ = some (.slice A2 1 c2) ∧ w.cell? ⟨ad.block, ad.off + 10 + 1, none⟩ = some (.int .i64 3) ∧ w.cell? ⟨ad.block, ad.off + 10, none⟩ = some (.int .i64 2) := by
  obtain ⟨A, c, rfl, hc⟩ := h.shape
  obtain ⟨ad, r0, rfl, h0, -, -, -⟩ := h.at_ (i := 0) (by decide) (by decide)
  obtain ⟨ad', r1, e1, h1, -, -, -⟩ := h.at_ (i := 1) (by decide) (by decide)
  obtain ⟨ad'', r2, e2, h2, -, -, -⟩ := h.at_ (i := 2) (by decide) (by decide)
  obtain rfl := Option.some.inj e1
  obtain rfl := Option.some.inj e2
  have k0 := at_entry h0
  have k1 := at_entry h1
  have k2 := at_entry h2
  have a0 : ad.add (0 * kE.K) = ad := by unfold Addr.add; rw [if_pos (by decide)]
  have a1 : ad.add (1 * kE.K) = ⟨ad.block, ad.off + 5, none⟩ := at_add w 5 (by decide)
  have a2 : ad.add (2 * kE.K) = ⟨ad.block, ad.off + 10, none⟩ := at_add w 10 (by decide)
  rw [a0] at k0
  rw [a1] at k1
  rw [a2] at k2
  exact ⟨ad, c, r0.1, r2.1, r0.2, r2.2, r1.1, r1.2, rfl, k0.2.2.1, k1.2.2.1, k2.2.2.1, k2.2.1, k2.1⟩
set_option maxHeartbeats 8000000 in
theorem begun_any (w : World) : Calls Try.prog 8 #[] w fun e w' => e = .returned (.bool true) ∧ Below w.heap.size w w' := by
  have HB4 : Hid (Below w.heap.size w ((((w.alloc (.cells #[.int .i64 1, .int .i64 1, .int .i64 0, .string ⟨#[]⟩, .string ⟨#[]⟩, .int .i64 0, .slice none 0 0, .int .i64 14, .int .i64 1] 71)).alloc (.cells #[.int .i64 0, .int .i64 1, .int .i64 0, .int .i64 0, .int .i64 0, .slice none 0 0, .slice (some ⟨w.heap.size, 0, none⟩) 1 1, .int .i64 0, .int .i64 3, .int .i64 0, .int .i64 0, .int .i64 0, .slice none 0 0, .slice none 0 0] 43)).alloc (.cells #[.int .i64 1, .int .i64 3, .int .i64 0, .int .i64 0, .int .i64 0, .slice none 0 0, .slice (some ⟨w.heap.size, 0, none⟩) 1 1] 43)).alloc (.cells #[.int .i64 0, .int .i64 0, .int .i64 0, .int .i64 0, .slice none 0 0, .slice (some ⟨w.heap.size + 1, 0, none⟩) 2 2, .int .i64 0, .int .i64 0, .int .i64 0, .int .i64 1, .int .i64 0, .int .i64 0, .slice none 0 0, .slice none 0 0, .int .i64 0, .int .i64 0, .int .i64 0, .int .i64 3, .int .i64 0, .int .i64 0, .slice none 0 0, .slice (some ⟨w.heap.size + 1 + 1, 0, none⟩) 1 1, .int .i64 0, .int .i64 0] 49))) := Lib.hid (((((Below.refl _ w).alloc (Nat.le_refl _) _).alloc (by simp) _).alloc (by simp; omega) _).alloc (by simp; omega) _)
  have HBL : Hid (CgL ((((w.alloc (.cells #[.int .i64 1, .int .i64 1, .int .i64 0, .string ⟨#[]⟩, .string ⟨#[]⟩, .int .i64 0, .slice none 0 0, .int .i64 14, .int .i64 1] 71)).alloc (.cells #[.int .i64 0, .int .i64 1, .int .i64 0, .int .i64 0, .int .i64 0, .slice none 0 0, .slice (some ⟨w.heap.size, 0, none⟩) 1 1, .int .i64 0, .int .i64 3, .int .i64 0, .int .i64 0, .int .i64 0, .slice none 0 0, .slice none 0 0] 43)).alloc (.cells #[.int .i64 1, .int .i64 3, .int .i64 0, .int .i64 0, .int .i64 0, .slice none 0 0, .slice (some ⟨w.heap.size, 0, none⟩) 1 1] 43)).alloc (.cells #[.int .i64 0, .int .i64 0, .int .i64 0, .int .i64 0, .slice none 0 0, .slice (some ⟨w.heap.size + 1, 0, none⟩) 2 2, .int .i64 0, .int .i64 0, .int .i64 0, .int .i64 1, .int .i64 0, .int .i64 0, .slice none 0 0, .slice none 0 0, .int .i64 0, .int .i64 0, .int .i64 0, .int .i64 3, .int .i64 0, .int .i64 0, .slice none 0 0, .slice (some ⟨w.heap.size + 1 + 1, 0, none⟩) 1 1, .int .i64 0, .int .i64 0] 49)) (fun _ => False) (.slice (some ⟨w.heap.size + 1 + 1 + 1, 0, none⟩) 3 3) begL) := Lib.hid (beg_list (((Blk.new w _ _).alloc _).alloc _ |>.alloc _) (((Blk.new_at (by simp) rfl).alloc _).alloc _) ((Blk.new_at (by simp) rfl).alloc _) (Blk.new_at (by simp) rfl))
  go_enter Try.func8, Try.ntmps8
  go_wp2_with fail
  generalize (((w.alloc _).alloc _).alloc _).alloc _ = w4 at *
  refine (bsel_any w4 _ HBL.out).mono ?_
  rintro e w5 ⟨r, v, rfl, -, hen, hb5⟩
  have hb6 : Below w5.heap.size w5 (w5.alloc (.cells (CE Ce.zero r) 26)) := (Below.refl _ _).alloc (Nat.le_refl _) _
  obtain ⟨ad, c, A0, A2, c0, c2, A1, c1, rfl, k0, k1, k2, k3, k4⟩ := beg_look (GL.after hen hb6)
  have HB6 := Lib.hid ((HB4.out.trans (hb5.mono HB4.out.size)).trans (hb6.mono (HB4.out.trans (hb5.mono HB4.out.size)).size))
  clear hen hb5 hb6
  unfold CE at HB6 k0 k1 k2 k3 k4 ⊢
  go_wp2_with fail
  go_ret
  exact ⟨rfl, HB6.out⟩
end Go.Proofs.Ytfdhaodgnenhcaa.Nxh

/-
  Layer 16 (newview): NewviewKeeps' parts: the document's Small; tells; slices.IndexFunc with the law's closure; counting.
-/
namespace Go.Proofs.Ytfdhaodgnenhcaa.Nxl
set_option linter.unusedSimpArgs false
open Go Go.RowKit Ck Kw Ga Kf Pm Py Ja Ic Jm Jb Jt Jk Pra Prb Prh Prr Pte Pub Psi Psj Qb Ky Nva Nvb Nve Nwa Nwb Nwc Nxa Nxb Nxc Nxd Nxe Nxf Nxo Nxg Nxh
attribute [local go_sem ↓] Go.wp_at_zero Go.wp_at_succ
set_option linter.unusedVariables false
set_option maxRecDepth 100000

theorem rsmall_any (w : World) (f : Int) (hf : okF f = true) : Calls Try.prog 17 #[.int .i64 f] w fun e w' => e = .returned (.int .i64 (f + 1)) ∧ w = w' := by
  have HC := Prh.rcheck_any w f
  obtain ⟨h1, h2⟩ := okF_yes hf
  have hcp : checkP f = 0 := by simp [checkP, hf]
  rw [hcp] at HC
  have HC := Lib.hid HC
  clear hcp
  have w2 : IntKind.i64.wrap (f + 1) = f + 1 := wrap64 (by omega) (by omega)
  clear hf h1 h2
  go_enter Try.func17, Try.ntmps17
  go_wp2_with fail
  refine HC.out.mono ?_
  rintro e w1 ⟨rfl, rfl⟩
  go_wp2_with fail
  go_ret
  exact ⟨rfl, rfl⟩
/-- Where the search for what a view-change tells stands. -/
structure Tl (w : World) (o : Option Pd) (W : World) : Prop where
  below : Below w.heap.size w W
  ans : Blk W (w.heap.size + 1) 43 #[.int .i64 0, .int .i64 0, .int .i64 0, .int .i64 0, .int .i64 0, .slice none 0 0, .slice none 0 0]
  out : ∃ r, Blk W (w.heap.size + 2) 43 (PC (o.getD Pd.zero) r)
theorem Tl.same {w : World} {o o' : Option Pd} {W W' : World} (h : Tl w o W) (b : Below W.heap.size W W') (e : o' = o) : Tl w o' W' := by
  subst e
  obtain ⟨h1, h2, r, h3⟩ := h
  exact ⟨h1.trans (b.mono h1.size), h2.below b h2.lt, r, h3.below b h3.lt⟩
theorem cells7 {w : World} {g : Nat} {t : TypeId} {a0 a1 a2 a3 a4 a5 a6 : Value} (h : Blk w g t #[a0, a1, a2, a3, a4, a5, a6]) : (w.cell? ⟨g, 0, none⟩ = some a0 ∧ w.cell? ⟨g, 1, none⟩ = some a1 ∧ w.cell? ⟨g, 2, none⟩ = some a2 ∧ w.cell? ⟨g, 3, none⟩ = some a3 ∧ w.cell? ⟨g, 4, none⟩ = some a4 ∧ w.cell? ⟨g, 5, none⟩ = some a5 ∧ w.cell? ⟨g, 6, none⟩ = some a6) ∧ (w.frozen? ⟨g, 0, none⟩ = false ∧ w.frozen? ⟨g, 1, none⟩ = false ∧ w.frozen? ⟨g, 2, none⟩ = false ∧ w.frozen? ⟨g, 3, none⟩ = false ∧ w.frozen? ⟨g, 4, none⟩ = false ∧ w.frozen? ⟨g, 5, none⟩ = false ∧ w.frozen? ⟨g, 6, none⟩ = false) :=
  ⟨⟨h.cell 0, h.cell 1, h.cell 2, h.cell 3, h.cell 4, h.cell 5, h.cell 6⟩, h.frozen 0, h.frozen 1, h.frozen 2, h.frozen 3, h.frozen 4, h.frozen 5, h.frozen 6⟩
theorem size_prepared : (Try.prog.info? 43).map (·.size) = some 7 := by kernel_rfl
set_option maxHeartbeats 8000000 in
theorem tells_any (w : World) (X : Nat → Prop) (cg : Cg) (r : Pl2) (s : Int) (h : CgI w X cg r) (hl : cg.above.length ≤ 140737488355328) :
    Calls Try.prog 16 #[.agg (CC cg r), .int .i64 s] w fun e w' => ∃ rq, e = .returned (.tuple #[.agg (PC ((latP s none cg.above).getD Pd.zero) rq), .bool (latP s none cg.above).isSome]) ∧ Below w.heap.size w w' := by
  have HPL := Lib.hid h.above
  have hzv : ∀ W : World, (zeroValue 43).run Try.prog W = .ok (.agg #[.int .i64 0, .int .i64 0, .int .i64 0, .int .i64 0, .int .i64 0, .slice none 0 0, .slice none 0 0]) W := fun W => by kernel_rfl
  have b1 : Below w.heap.size w (w.alloc (.cells (CC cg r) 49)) := (Below.refl _ w).alloc (Nat.le_refl _) _
  have b2 := b1.alloc b1.size (.cells #[.int .i64 0, .int .i64 0, .int .i64 0, .int .i64 0, .int .i64 0, .slice none 0 0, .slice none 0 0] 43)
  have b3 := b2.alloc b2.size (.cells #[.int .i64 0, .int .i64 0, .int .i64 0, .int .i64 0, .int .i64 0, .slice none 0 0, .slice none 0 0] 43)
  have HT0 : Hid (Tl w none (((w.alloc (.cells (CC cg r) 49)).alloc (.cells #[.int .i64 0, .int .i64 0, .int .i64 0, .int .i64 0, .int .i64 0, .slice none 0 0, .slice none 0 0] 43)).alloc (.cells #[.int .i64 0, .int .i64 0, .int .i64 0, .int .i64 0, .int .i64 0, .slice none 0 0, .slice none 0 0] 43))) := Lib.hid ⟨b3, (Blk.new_at (by simp) rfl).alloc _, ((none, 0), (none, 0)), Blk.new_at (by simp) rfl⟩
  have c5 : (((w.alloc (.cells (CC cg r) 49)).alloc (.cells #[.int .i64 0, .int .i64 0, .int .i64 0, .int .i64 0, .int .i64 0, .slice none 0 0, .slice none 0 0] 43)).alloc (.cells #[.int .i64 0, .int .i64 0, .int .i64 0, .int .i64 0, .int .i64 0, .slice none 0 0, .slice none 0 0] 43)).cell? ⟨w.heap.size, 5, none⟩ = some (.slice r.2.1 cg.above.length r.2.2) := (((Blk.new w 49 (CC cg r)).alloc _).alloc _).cell 5
  clear h b1 b2 b3
  unfold CC at HT0 c5 ⊢
  go_enter Try.func16, Try.ntmps16
  go_upto_region 3 with fail
  generalize hP : cg.above = P at *
  have HPE := Lib.hid hP
  clear hP
  generalize (((w.alloc _).alloc _).alloc _) = w3 at *
  go_wp2_with fail
  clear c5
  go_loopw [7, 13] (fun a j wx => ∃ m : Nat, m ≤ P.length ∧ j = .int .i64 m ∧ a = .bool (latP s none (P.take m)).isSome ∧ Tl w (latP s none (P.take m)) wx) (fun _ j _ => P.length - (intOf j).toNat)
  case atStart => exact ⟨0, Nat.zero_le _, rfl, rfl, HT0.out⟩
  case round =>
    obtain ⟨m, hm, rfl, rfl, hg⟩ := hrel
    clear HT0
    by_cases hml : m < P.length
    · obtain ⟨ap, rp, hAp, hap, hpi⟩ := HPL.out.at_ hml
      obtain ⟨b0, b1, b2, b3, b4, b5, b6⟩ := hap.later hg.below
      have HSP := Lib.hid (latP_step s none hml)
      have hmp : (0 : Int) ≤ (m : Int) := by omega
      have hmi : (m : Int) < (P.length : Int) := by omega
      rw [hAp]
      generalize P[m] = p at *
      generalize latP s none (P.take m) = q at *
      have hbw : Below wr.heap.size wr (wr.alloc (.cells (PC p rp) 43)) := (Below.refl _ _).alloc (Nat.le_refl _) _
      have HG := Lib.hid (hg.same hbw rfl)
      have HBK : Hid (Blk (wr.alloc (.cells (PC p rp) 43)) wr.heap.size 43 (PC p rp)) := Lib.hid (Blk.new wr _ _)
      clear hap hpi hg hbw
      unfold PC at HG HBK
      go_upto_region 6 with fail
      generalize (wr.alloc (.cells #[.int .i64 p.view, .int .i64 p.seq, .int .i64 p.dig, .int .i64 p.first.1, .int .i64 p.first.2, .slice rp.1.1 p.signs.length rp.1.2, .slice rp.2.1 p.batch.length rp.2.2] 43)) = W1 at *
      generalize wr.heap.size = gp at *
      obtain ⟨rq, hbq⟩ := HG.out.out
      unfold PC at hbq
      obtain ⟨⟨k0, k1, k2, k3, k4, k5, k6⟩, ⟨f0, f1, f2, f3, f4, f5, f6⟩⟩ := cells7 hbq
      obtain ⟨⟨p0, p1, p2, p3, p4, p5, p6⟩, -⟩ := cells7 HBK.out
      have HTS : Hid (latS s q p = q → Tl w (latP s none (P.take (m + 1))) W1) := Lib.hid (fun h => HG.out.same (Below.refl _ _) (by rw [HSP.out, h]))
      have HTN : Hid (latS s q p = some p → ∀ W2, Blk W2 (w.heap.size + 2) 43 (PC p rp) → Ch (fun k => k = w.heap.size + 2) W1 W2 → Tl w (latP s none (P.take (m + 1))) W2) := Lib.hid (fun h W2 h1 h2 => by
        rw [HSP.out, h]
        exact ⟨HG.out.below.trans (h2.below (fun k hk e => by omega) HG.out.below.size), HG.out.ans.ch h2 (by omega), rp, h1⟩)
      have HIS : Hid (∀ o : Option Pd, latS s q p = o → (latP s none (P.take (m + 1))).isSome = o.isSome) := Lib.hid (fun o h => by rw [HSP.out, h])
      have HBQ := Lib.hid hbq
      clear b0 b1 b2 b3 b4 b5 b6 hbq
      by_cases hx : p.seq = s
      · have e1 : (p.seq == s) = true := by rw [beq_iff_eq]; exact hx
        cases q with
        | none =>
          have HL := latS_first hx
          have HT := Lib.hid (HTN.out HL)
          have HI := Lib.hid (HIS.out _ HL)
          clear HTS HTN HIS HL hx
          go_wp2_with fail
          go_roundw
          case rel => exact ⟨m + 1, by omega, by go_num, by rw [HI.out] <;> rfl, HT.out _ (Nwa.fblk7 HBQ.out) (Nwa.fch7 _ _ _ _ _ _ _ _ _)⟩
          case measure => simp [intOf]; omega
        | some q0 =>
          simp only [Option.getD_some] at k0 k1 k2 k3 k4 k5 k6
          by_cases hv : q0.view < p.view
          · have HL := latS_more hx hv
            have HT := Lib.hid (HTN.out HL)
            have HI := Lib.hid (HIS.out _ HL)
            clear HTS HTN HIS HL hx
            go_wp2_with fail
            go_roundw
            case rel => exact ⟨m + 1, by omega, by go_num, by rw [HI.out] <;> rfl, HT.out _ (Nwa.fblk7 HBQ.out) (Nwa.fch7 _ _ _ _ _ _ _ _ _)⟩
            case measure => simp [intOf]; omega
          · have HL := latS_less (s := s) hv
            have HT := Lib.hid (HTS.out HL)
            have HI := Lib.hid (HIS.out _ HL)
            have hv' : decide (q0.view < p.view) = false := decide_eq_false hv
            clear HTS HTN HIS HL hx
            go_wp2_with fail
            go_roundw
            case rel => exact ⟨m + 1, by omega, by go_num, by rw [HI.out] <;> rfl, HT.out⟩
            case measure => simp [intOf]; omega
      · have e1 : (p.seq == s) = false := by rw [beq_eq_false_iff_ne]; exact hx
        have HL := latS_other (o := q) hx
        have HT := Lib.hid (HTS.out HL)
        have HI := Lib.hid (HIS.out _ HL)
        clear HTS HTN HIS HL hx
        go_wp2_with fail
        go_roundw
        case rel => exact ⟨m + 1, by omega, by go_num, by rw [HI.out] <;> rfl, HT.out⟩
        case measure => simp [intOf]; omega
    · have hme : m = P.length := by omega
      subst hme
      rw [List.take_length] at hg ⊢
      generalize hq : latP s none P = q at *
      have HQE : Hid (latP s none cg.above = q) := Lib.hid (by rw [HPE.out]; exact hq)
      clear hq
      obtain ⟨rq, hbq⟩ := hg.out
      unfold PC at hbq
      obtain ⟨⟨k0, k1, k2, k3, k4, k5, k6⟩, -⟩ := cells7 hbq
      obtain ⟨⟨n0, n1, n2, n3, n4, n5, n6⟩, ⟨f0, f1, f2, f3, f4, f5, f6⟩⟩ := cells7 hg.ans
      have HG := Lib.hid hg
      clear hg hbq
      go_wp2_with fail
      refine bodyPost_ret (results_row_tmp rfl _ _ (w.heap.size + 1) 43 (PC (q.getD Pd.zero) rq) (0, 0) _ rfl (Nwa.fblk7 HG.out.ans) Try.underlying43 rfl size_prepared) rfl ?_
      rw [HQE.out]
      exact ⟨rq, rfl, HG.out.below.trans ((Nwa.fch7 _ (w.heap.size + 1) _ _ _ _ _ _ _).below (fun k hk e => by omega) HG.out.below.size)⟩
end Go.Proofs.Ytfdhaodgnenhcaa.Nxl

/-
  Layer 16 (newview): slices.IndexFunc with NewviewKeeps' closure; counting.
-/
namespace Go.Proofs.Ytfdhaodgnenhcaa.Nxn
set_option linter.unusedSimpArgs false
open Go Go.RowKit Ck Kw Ga Kf Pm Py Ja Ic Jm Jb Jt Jk Pra Prb Prh Prr Pte Pub Psi Psj Qb Ky Nva Nvb Nve Nwa Nwb Nwc Nxa Nxb Nxc Nxd Nxe Nxf Nxo Nxg Nxh Nxl
attribute [local go_sem ↓] Go.wp_at_zero Go.wp_at_succ
set_option linter.unusedVariables false
set_option maxRecDepth 100000

theorem same_any (w : World) (e : En) (r : Option Addr × Nat) (g : Nat) (s : Int) (hc : w.cell? ⟨g, 1, none⟩ = some (.int .i64 s)) :
    Calls Try.prog 20 #[.agg (EC e r), .pointer (some ⟨g, 0, none⟩)] w fun en w' => en = .returned (.bool (e.seq == s)) ∧ Below w.heap.size w w' := by
  have hb : Below w.heap.size w (w.alloc (.cells (EC e r) 56)) := (Below.refl _ w).alloc (Nat.le_refl _) _
  have c1 : (w.alloc (.cells (EC e r) 56)).cell? ⟨g, 1, none⟩ = some (.int .i64 s) := (hb.cell (p := ⟨g, 1, none⟩) (World.block_lt_of_cell? w _ hc)).trans hc
  have HB := Lib.hid hb
  clear hb hc
  unfold EC at c1 HB ⊢
  go_enter Try.func20, Try.ntmps20
  go_wp2_with fail
  go_ret
  exact ⟨rfl, HB.out⟩
/-- The first place of a number, or -1. -/
def At (es : List En) (s n : Int) : Prop := (∃ i, ∃ h : i < es.length, n = (i : Int) ∧ (es[i]).seq = s) ∨ (n = -1 ∧ ∀ i (h : i < es.length), ¬ (es[i]).seq = s)
set_option maxHeartbeats 8000000 in
theorem index_any (w : World) (X : Nat → Prop) (v : Value) (es : List En) (g : Nat) (s : Int) (h : EnL w X v es) (hl : es.length ≤ 140737488355328) (hc : w.cell? ⟨g, 1, none⟩ = some (.int .i64 s)) :
    Calls Try.prog 19 #[v, .func (.func 20) #[] #[.pointer (some ⟨g, 0, none⟩)]] w fun e w' => ∃ n, e = .returned (.int .i64 n) ∧ At es s n ∧ Below w.heap.size w w' := by
  obtain ⟨A, c, rfl, -⟩ := h.shape
  have HP := Lib.hid h
  have HC := Lib.hid (fun W (b : Below w.heap.size w W) => (b.cell (p := ⟨g, 1, none⟩) (World.block_lt_of_cell? w _ hc)).trans hc)
  clear h hc
  go_enter Try.func19, Try.ntmps19
  go_wp2_with fail
  go_loopw [8] (fun i wr => ∃ k : Nat, k ≤ es.length ∧ i = .int .i64 k ∧ (∀ j (hj : j < es.length), j < k → ¬ (es[j]).seq = s) ∧ Below w.heap.size w wr) (fun i _ => es.length - (intOf i).toNat)
  case atStart => exact ⟨0, Nat.zero_le _, rfl, fun j hj h => by omega, Below.refl _ _⟩
  case round =>
    obtain ⟨k, hk, rfl, hno, hb⟩ := hrel
    by_cases hlt : k < es.length
    · obtain ⟨ad, r, rfl, hat, -, -, -⟩ := HP.out.at_ hlt (by decide)
      have hat : AtG kE w (ad.add (k * 5)) es[k] r := hat
      obtain ⟨a0, a1, a2, a3, a4⟩ := at_entry (hat.later hb)
      have hkp : (0 : Int) ≤ (k : Int) := by omega
      have hkl : (k : Int) < (es.length : Int) := by omega
      have HS := Lib.hid (same_any wr es[k] r g s (HC.out wr hb))
      have HB := Lib.hid hb
      have HY : Hid (es[k].seq = s → At es s (k : Int)) := Lib.hid (fun h => .inl ⟨k, hlt, rfl, h⟩)
      have HN : Hid (¬ es[k].seq = s → ∀ j (hj : j < es.length), j < k + 1 → ¬ (es[j]).seq = s) := Lib.hid (fun h j hj hjk => by
        rcases Nat.lt_or_ge j k with h1 | h1
        · exact hno j hj h1
        · have : j = k := by omega
          subst this
          exact h)
      generalize es[k] = x at *
      clear hat hb hno
      unfold EC at HS
      go_wp2_with fail
      refine HS.out.mono ?_
      rintro e w2 ⟨rfl, hb2⟩
      have HB2 := Lib.hid (HB.out.trans (hb2.mono HB.out.size))
      clear hb2
      by_cases hx : x.seq = s
      · have e1 : (x.seq == s) = true := by rw [beq_iff_eq]; exact hx
        have HA := Lib.hid (HY.out hx)
        clear hx HY HN
        go_wp2_with fail
        go_ret
        exact ⟨_, rfl, HA.out, HB2.out⟩
      · have e1 : (x.seq == s) = false := by rw [beq_eq_false_iff_ne]; exact hx
        have HA := Lib.hid (HN.out hx)
        clear hx HY HN
        go_wp2_with fail
        go_roundw
        case rel => exact ⟨k + 1, by omega, by go_num, HA.out, HB2.out⟩
        case measure => simp [intOf]; omega
    · have hke : k = es.length := by omega
      subst hke
      have HA : Hid (At es s (-1)) := Lib.hid (.inr ⟨rfl, fun i h => hno i h h⟩)
      have HB := Lib.hid hb
      clear hb hno
      go_wp2_with fail
      go_ret
      exact ⟨_, rfl, HA.out, HB.out⟩
/-! ### Counting, and what may be. -/
theorem filter_step {α : Type} (t : α → Bool) {l : List α} {k : Nat} (h : k < l.length) : (l.take (k + 1)).filter t = if t l[k] = true then (l.take k).filter t ++ [l[k]] else (l.take k).filter t := by
  rw [List.take_succ_eq_append_getElem h, List.filter_append]
  by_cases ht : t l[k] = true
  · rw [if_pos ht, List.filter_cons_of_pos ht]
    rfl
  · rw [if_neg ht, List.filter_cons_of_neg ht]
    simp
theorem count_step {α : Type} (t : α → Bool) {l : List α} {k : Nat} (h : k < l.length) : (((l.take (k + 1)).filter t).length : Int) = if t l[k] = true then (((l.take k).filter t).length : Int) + 1 else (((l.take k).filter t).length : Int) := by
  rw [filter_step t h]
  split
  · rw [List.length_append, List.length_singleton]; omega
  · rfl
/-- The batch at the number is the one that was prepared. -/
theorem keeps_at {f view : Int} {l : List Cg} {bad pick : Int → Bool} {p : Pd} (hf : okF f = true)
    (hfine : ∀ c ∈ l, ∀ q ∈ c.above, fineP bad p c q)
    (htold : (l.length : Int) - ((l.filter (toldC bad p.seq p.view)).length : Int) < 2 * f + 1)
    (he : errS f view (l.filter fun c => pick c.from_) = 0)
    (h0 : 0 ≤ (certS f view (l.filter fun c => pick c.from_)).seq) (h1 : (certS f view (l.filter fun c => pick c.from_)).seq < p.seq) (h2 : p.seq - (certS f view (l.filter fun c => pick c.from_)).seq ≤ 8) {n : Int} (hn : At (entS f view (l.filter fun c => pick c.from_)) p.seq n) :
    ∃ i, ∃ h : i < (entS f view (l.filter fun c => pick c.from_)).length, n = (i : Int) ∧ ((entS f view (l.filter fun c => pick c.from_))[i]).batch = p.batch := by
  have hlen : (l.filter (toldC bad p.seq p.view)).length ≤ l.length := List.length_filter_le _ _
  obtain ⟨i, hi, h3, h4, h5⟩ := keeps hf hfine (by omega) he h0 h1 h2
  rcases hn with ⟨j, hj, rfl, hs⟩ | ⟨-, hno⟩
  · have g1 := (gaps hj).1
    have g2 := (gaps hi).1
    rw [hs] at g1
    rw [h4] at g2
    have : i = j := by omega
    subst this
    exact ⟨i, hi, rfl, h5⟩
  · exact absurd h4 (hno i hi)
end Go.Proofs.Ytfdhaodgnenhcaa.Nxn

/-
  Layer 7: the document's Parse: the walk.
-/
import Derived.Test.YtkoedonllfmaaaaGreatVP38
import Derived.Test.YtkoedonllfmaaaaGreatVP25
import Derived.Deep.DeepCutAuto
import Derived.Deep.CutBlock
namespace Go.Proofs.YtkoedonllfmaaaaGreat.Xaf
set_option linter.unusedSimpArgs false
open Go Go.RowKit Ck Ca Ce Ch Ci Cj Cn Co Kw Ga Kf Km Pm Pe Pz Py Tm Tn Tq Ah Ta Tb Xa Xr Xs Xac Xad Xy Xae
attribute [local go_sem ↓] Go.wp_at_zero Go.wp_at_succ
set_option linter.unusedVariables false
set_option maxRecDepth 100000

theorem tw_lit (w : World) (x : Tw) : Sl (w.alloc (.cells #[.string ⟨x.1.n.toArray⟩, .int .i64 x.1.base, x.2.1, x.2.2] 74)) (fun _ => False) 4 (.slice (some ⟨w.heap.size, 0, none⟩) 1 1) 1 (TCs [x]) := by
  refine ⟨_, _, rfl, rfl, Nat.le_refl _, by simp only [maxLen]; omega, fun _ => ⟨_, rfl, by simp, fun h => h, fun j u hu => ?_⟩⟩
  have ha : (⟨w.heap.size, 0, none⟩ : Addr).add j = ⟨w.heap.size, j, none⟩ := by unfold Addr.add; split <;> simp_all
  rw [ha, Blk.cell (Blk.new w _ _) j]
  simpa [TCs, TC] using hu
theorem zcells : (#[.slice none 0 0, .int .i64 0, .int .i64 0, .int .i64 0, .int .i64 0, .int .i64 0, .int .i64 0, .int .i64 0, .int .i64 0, .int .i64 0, .int .i64 0, .int .i64 0, .int .i64 0, .int .i64 0, .int .i64 0, .int .i64 0, .int .i64 0, .int .i64 0, .int .i64 0, .int .i64 0, .int .i64 0, .int .i64 0, .int .i64 0, .int .i64 0, .int .i64 0] : Array Value) = (Value.slice none 0 0 :: ACs (List.replicate 8 An.zero)).toArray := by
  simp only [List.replicate_succ, List.replicate_zero, ACs, List.flatMap_cons, List.flatMap_nil, AC, An.zero, List.cons_append, List.nil_append]
/-- What the document's Parse leaves. -/
def RParsedT (w : World) (b : Tx) (e : Ending) (w' : World) : Prop :=
  Below w.heap.size w w' ∧ ((stP b = none ∧ e = .returned (.tuple #[.pointer none, .int .i64 70])) ∨ ∃ s q, stP b = some s ∧ e = .returned (.tuple #[.pointer (some ⟨q, 0, none⟩), .int .i64 0]) ∧ Tk w' (fun k => w.heap.size ≤ k ∧ k < w'.heap.size) q s)
/-- The topics that are being read, and an answer's box beside them. -/
structure PX (w : World) (g q gb : Nat) (st : St) (s : Cm.RS) (cs : Array Value) (W : World) : Prop where
  below : Below w.heap.size w W
  rr : RR W (fun k => w.heap.size ≤ k) g s
  lg : w.heap.size ≤ g
  tk : Tk W (fun k => w.heap.size ≤ k ∧ k < W.heap.size ∧ k ≠ g ∧ k ≠ gb) q st
  box : Blk W gb 32 cs
  hb : w.heap.size ≤ gb
  ne : gb ≠ g
section
variable {w W W1 : World} {g q gb : Nat} {st : St} {s s1 : Cm.RS} {cs : Array Value}
theorem PX.new (h : PY w g q st s W) (cs : Array Value) : PX w g q W.heap.size st s cs (W.alloc (.cells cs 32)) := by
  have hb := Xr.op_below W (.cells cs 32)
  have h2 := h.later hb
  have hg := h.rr.lt
  have hs := hb.size
  exact ⟨h2.below, h2.rr, h2.lg, (h.tk.later hb).up (fun k hk => ⟨hk.1, by omega, hk.2.2, by omega⟩), Blk.new W _ _, h.below.size, by omega⟩
theorem PX.read (h : PX w g q gb st s cs W) (hg : W.grownBy W1 (some g)) (hr : RR W1 (fun k => w.heap.size ≤ k) g s1) : PX w g q gb st s1 cs W1 := by
  have c : Kw.Ch (fun k => k = g) W W1 := Kw.Ch.of_grown hg (fun q hq _ => by injection hq with hq; exact hq.symm)
  exact ⟨h.below.trans (c.below (B := w.heap.size) (fun k hk e => by have := h.lg; omega) h.below.size), hr, h.lg, (h.tk.ch c (fun k hk e => hk.2.2.1 e)).up (fun k hk => ⟨hk.1, Nat.lt_of_lt_of_le hk.2.1 c.size, hk.2.2⟩), h.box.ch c h.ne, h.hb, h.ne⟩
theorem PX.set (h : PX w g q gb st s cs W) (j : Nat) (v : Value) : PX w g q gb st s (cs.setIfInBounds j v) (W.setCell ⟨gb, j, none⟩ v) := by
  have c : Kw.Ch (fun k => k = gb) W (W.setCell ⟨gb, j, none⟩ v) := (Kw.Ch.refl (fun k => k = gb) W).setCell (p := ⟨gb, j, none⟩) (fun _ => rfl) _
  have h1 := h.hb
  exact ⟨h.below.trans (c.below (B := w.heap.size) (fun k hk e => by omega) h.below.size), rr_ch h.rr c (fun k _ e => ⟨by omega, by have := h.ne; omega⟩), h.lg, (h.tk.ch c (fun k hk e => hk.2.2.2 e)).up (fun k hk => ⟨hk.1, Nat.lt_of_lt_of_le hk.2.1 c.size, hk.2.2⟩), h.box.set_ j v, h.hb, h.ne⟩
theorem PX.later (h : PX w g q gb st s cs W) (b : Below W.heap.size W W1) : PX w g q gb st s cs W1 :=
  ⟨h.below.trans (b.mono h.below.size), h.rr.after b, h.lg, (h.tk.later b).up (fun k hk => ⟨hk.1, Nat.lt_of_lt_of_le hk.2.1 b.size, hk.2.2⟩), h.box.below b h.box.lt, h.hb, h.ne⟩
theorem PX.py (h : PX w g q gb st s cs W) : PY w g q st s W := ⟨h.below, h.rr, h.lg, h.tk.up (fun k hk => ⟨hk.1, hk.2.1, hk.2.2.1⟩)⟩
end
theorem allS_go {α : Type} (f : Cm.RS → α × Cm.RS) {n : Nat} {s : Cm.RS} {acc : List α} : allS f (n + 1) s acc = allS f n (f s).2 (acc ++ [(f s).1]) := rfl
theorem set_last (A : List An) (k : Nat) (a : An) (h : k < 8) : (A ++ List.replicate (8 - A.length) An.zero).length = 8 → A.length = k → (A ++ List.replicate (8 - A.length) An.zero).set k a = (A ++ [a]) ++ List.replicate (8 - (A ++ [a]).length) An.zero := by
  intro _ hk
  subst hk
  rw [List.set_append, if_neg (by omega), Nat.sub_self, List.length_append, List.length_singleton, show 8 - A.length = (8 - (A.length + 1)) + 1 by omega, List.replicate_succ, List.set_cons_zero]
  simp
set_option maxHeartbeats 8000000 in
theorem rtparse_any (w : World) (v : Value) (n : Nat) (b : Tx) (hv : Sl w (fun _ => False) 1 v n (BVs b)) (hn : n ≤ 140737488355328) :
    Calls Tryz.prog 14 #[v] w (RParsedT w b) := by
  have hnb : n = b.length := by obtain ⟨A, c, _, h, _⟩ := hv; rw [BVs_len] at h; omega
  subst hnb
  have HRD := Lib.hid (rread_any w (fun k => w.heap.size ≤ k) v b.length b ((hv.old (Nat.le_refl _)).weaken (fun k _ hk => .inr hk)))
  obtain ⟨A, c, rfl, -⟩ := hv
  have HQ : Hid (stP b = (if okS (⟨(manyS tpS (Cm.numS (b, 0) 8).1 (Cm.numS (b, 0) 8).2 []).1, (allS anS 8 (manyS tpS (Cm.numS (b, 0) 8).1 (Cm.numS (b, 0) 8).2 []).2 []).1⟩ : St) = true ∧ Cm.doneS (allS anS 8 (manyS tpS (Cm.numS (b, 0) 8).1 (Cm.numS (b, 0) 8).2 []).2 []).2 = 0 then some ⟨(manyS tpS (Cm.numS (b, 0) 8).1 (Cm.numS (b, 0) 8).2 []).1, (allS anS 8 (manyS tpS (Cm.numS (b, 0) 8).1 (Cm.numS (b, 0) 8).2 []).2 []).1⟩ else none)) := Lib.hid rfl
  obtain ⟨Q, hq⟩ : ∃ z, z = stP b := ⟨_, rfl⟩
  have HQE := Lib.hid hq
  rw [← hq] at HQ
  clear hq
  have hl1 := Cm.numS_len (b, 0) 8
  have he1 := Cm.numS_le (b, 0) 8
  have HN1 := Lib.hid (fun (W : World) (Y : Nat → Prop) (g : Nat) (hr : RR W Y g (b, 0)) => rnum_any W Y g (b, 0) hr 8)
  unfold RNumed at HN1
  generalize Cm.numS (b, 0) 8 = n1 at *
  obtain ⟨N, s1⟩ := n1
  simp only at HQ hl1 he1 HN1
  obtain ⟨R, hR⟩ : ∃ R, R = manyS tpS N s1 [] := ⟨_, rfl⟩
  rw [← hR] at HQ
  have HR := Lib.hid hR
  have HS1 : Hid (s1.1.length ≤ 140737488355328) := Lib.hid (by omega)
  clear hR hl1 hn
  go_enter Tryz.func14, Tryz.ntmps14
  go_wp2_with fail
  refine HRD.out.mono ?_
  rintro e w1 ⟨he, hc1, hb1⟩
  obtain ⟨g, hg⟩ : ∃ g, g = w.heap.size := ⟨_, rfl⟩
  have he : e = .returned (P_ w.heap.size) := he
  rw [← hg] at he
  have hc1 : RR w1 (fun k => w.heap.size ≤ k) g (b, 0) := by rw [hg]; exact hc1
  have HG := Lib.hid hg
  clear hg
  subst he
  have hz2 := Xr.op_below w1 (.cells #[.slice none 0 0, .int .i64 0, .int .i64 0, .int .i64 0, .int .i64 0, .int .i64 0, .int .i64 0, .int .i64 0, .int .i64 0, .int .i64 0, .int .i64 0, .int .i64 0, .int .i64 0, .int .i64 0, .int .i64 0, .int .i64 0, .int .i64 0, .int .i64 0, .int .i64 0, .int .i64 0, .int .i64 0, .int .i64 0, .int .i64 0, .int .i64 0, .int .i64 0] 35)
  have HT2 : Hid (PZ w g w1.heap.size [] (List.replicate 8 An.zero) (.slice none 0 0) (b, 0) (w1.alloc (.cells #[.slice none 0 0, .int .i64 0, .int .i64 0, .int .i64 0, .int .i64 0, .int .i64 0, .int .i64 0, .int .i64 0, .int .i64 0, .int .i64 0, .int .i64 0, .int .i64 0, .int .i64 0, .int .i64 0, .int .i64 0, .int .i64 0, .int .i64 0, .int .i64 0, .int .i64 0, .int .i64 0, .int .i64 0, .int .i64 0, .int .i64 0, .int .i64 0, .int .i64 0] 35))) := Lib.hid ⟨hb1.trans (hz2.mono hb1.size), hc1.after hz2, by rw [HG.out]; omega, by rw [← zcells]; exact Blk.new w1 _ _, World.ownsRow_nil _ _ _ _, ⟨hb1.size, by simp, by have := hc1.lt; omega⟩, (fun k hk => by cases hk), (fun x hx => by cases hx)⟩
  clear hc1 hb1 hz2 HRD
  go_wp2_with fail
  generalize w1.alloc (.cells #[.slice none 0 0, .int .i64 0, .int .i64 0, .int .i64 0, .int .i64 0, .int .i64 0, .int .i64 0, .int .i64 0, .int .i64 0, .int .i64 0, .int .i64 0, .int .i64 0, .int .i64 0, .int .i64 0, .int .i64 0, .int .i64 0, .int .i64 0, .int .i64 0, .int .i64 0, .int .i64 0, .int .i64 0, .int .i64 0, .int .i64 0, .int .i64 0, .int .i64 0] 35) = w2 at *
  generalize w1.heap.size = q at *
  refine (HN1.out _ _ _ HT2.out.rr).mono ?_
  rintro e w3 ⟨rfl, hg3, hc3⟩
  have HT3 := Lib.hid (HT2.out.read (Kw.Ch.of_grown hg3 (fun q hq _ => by injection hq with hq; exact hq.symm)) hc3)
  clear hg3 hc3
  obtain ⟨i0, hi0, hz0, hz1, hz2⟩ := info_parts Xr.info_topic
  go_upto_block 0 with fail
  go_cut [6] (fun s6 W => ∃ (l : List Tw) (lv : Value) (s' : Cm.RS), s6 = .bool (okTs [] (l.map (·.1))) ∧ PZ w g q l (List.replicate 8 An.zero) lv s' W ∧ R = (l.map (·.1), s') ∧ s'.1.length ≤ 140737488355328)
  case first =>
    go_wp2_with fail
    go_loopw [6, 7, 9] (fun ok la i W => ∃ (k : Nat) (l : List Tw) (lv : Value) (s' : Cm.RS), i = .int .u64 k ∧ k ≤ N ∧ l.length ≤ k ∧ la = .string ⟨(lastT (l.map (·.1))).toArray⟩ ∧ ok = .bool (okTs [] (l.map (·.1))) ∧ PZ w g q l (List.replicate 8 An.zero) lv s' W ∧ R = manyS tpS (N - k) s' (l.map (·.1)) ∧ s'.1.length ≤ 140737488355328) (fun _ _ i _ => N - (intOf i).toNat)
    case atStart => exact ⟨0, [], _, s1, rfl, Nat.zero_le _, Nat.le_refl _, rfl, rfl, HT3.out, HR.out, HS1.out⟩
    case round =>
      obtain ⟨k, l, lv, s', rfl, hk, hl, rfl, rfl, ht, hr, hsl⟩ := hrel
      have HSL := Lib.hid hsl
      have HT := Lib.hid ht
      have HRR := Lib.hid hr
      have HLK := Lib.hid hl
      obtain ⟨Al, cl, rfl⟩ := own_shape ht.tp.row
      have er := rr_err ht.rr
      clear ht hr hl
      by_cases hs : s'.2 = 0
      · have es : (s'.2 == 0) = true := by rw [hs]; rfl
        by_cases hkn : k < N
        · have hkN : (k : Int) < (N : Int) := by omega
          have HM := Lib.hid (HRR.out.trans (by rw [show N - k = (N - (k + 1)) + 1 by omega, manyS_go _ hs]))
          have HTO := Lib.hid (rtopic_any wr _ g s' HT.out.rr hsl)
          unfold RTop at HTO
          generalize tpS s' = tt at *
          obtain ⟨t, s6⟩ := tt
          simp only at HTO HM
          clear hs hsl
          go_wp2_with fail
          refine HTO.out.mono ?_
          rintro e w6 ⟨vr, vg, rfl, hx6, hc6, hr6, hs6⟩
          have HS6 := Lib.hid hs6
          have HX6 := Lib.hid (HT.out.fresh hc6 hx6)
          have HT6 := Lib.hid (HT.out.read hc6 (hr6.weaken (fun k _ hk => .inl hk)))
          have hbb := Xr.op_below w6 (.cells #[.string ⟨t.n.toArray⟩, .int .i64 t.base, vr, vg] 74)
          have HT7 := Lib.hid (HT6.out.later hbb)
          have HBX : Hid (Blk (w6.alloc (.cells #[.string ⟨t.n.toArray⟩, .int .i64 t.base, vr, vg] 74)) w6.heap.size 74 #[.string ⟨t.n.toArray⟩, .int .i64 t.base, vr, vg]) := Lib.hid (Blk.new w6 _ _)
          have HX7 : Hid (TwOk (w6.alloc (.cells #[.string ⟨t.n.toArray⟩, .int .i64 t.base, vr, vg] 74)) (fun k => ¬ (w.heap.size ≤ k ∧ k < (w6.alloc (.cells #[.string ⟨t.n.toArray⟩, .int .i64 t.base, vr, vg] 74)).heap.size ∧ k ≠ g) ∨ k = q ∨ (Value.slice Al l.length cl).ownBlock = some k) (t, vr, vg)) := Lib.hid (HX6.out.move (Kw.Ch.of_below (S := fun _ => False) hbb (Nat.le_refl _)) (fun _ _ h => h.elim) (fun k hk hY => hY.elim (fun hh => .inl (fun h3 => hh ⟨h3.1, by have := hbb.size; omega, h3.2.2⟩)) .inr))
          obtain ⟨Ar, cr, hvr⟩ := Tc.ls_shape HX6.out.recs
          obtain ⟨Ag, cg, hvg, -⟩ := id HX6.out.gs
          simp only at hvr hvg
          subst hvr hvg
          have hln8 : l.length ≤ 8 := by have := HLK.out; omega
          clear hx6 hc6 hr6 hs6 hbb HTO HX6
          go_upto_region 10 with fail
          generalize w6.alloc (.cells #[.string ⟨t.n.toArray⟩, .int .i64 t.base, .slice Ar t.recs.length cr, .slice Ag t.gs.length cg] 74) = w7 at *
          generalize w6.heap.size = gx at *
          have y0 := HBX.out.cell 0
          have y1 := HBX.out.cell 1
          have y2 := HBX.out.cell 2
          have y3 := HBX.out.cell 3
          simp only [List.getElem?_toArray, List.getElem?_cons_zero, List.getElem?_cons_succ] at y0 y1 y2 y3
          have x0 : w7.cell? ⟨q, 0, none⟩ = some (.slice Al l.length cl) := by have := HT7.out.tp.blk.cell 0; simpa using this
          have f0 := HT7.out.tp.blk.frozen 0
          obtain ⟨okc, hokc⟩ : ∃ z, z = okTs [] (l.map (·.1)) := ⟨_, rfl⟩
          rw [← hokc]
          have HOKC := Lib.hid hokc
          clear hokc
          obtain ⟨la, hla⟩ : ∃ z : Tx, z = lastT (l.map (·.1)) := ⟨_, rfl⟩
          rw [← hla]
          have HLA := Lib.hid hla
          clear hla
          obtain ⟨tok, htok⟩ : ∃ z, z = okT t := ⟨_, rfl⟩
          rw [← htok]
          have HTOK := Lib.hid htok
          clear htok
          have hgt := gtr_eq t.n la
          go_cut [6, 11] (fun s6 s11 W => s6 = .bool (okc && (tok && decide (la < t.n))) ∧ s11 = .bool tok ∧ W = w7)
          case first =>
            by_cases ho : okc = true
            · subst ho
              by_cases ht : tok = true
              · rw [ht]
                go_wp2_with fail
                go_meet
                exact ⟨by rw [ht, ← hgt]; simp, by rw [ht], rfl⟩
              · have ht := Bool.eq_false_iff.2 ht
                rw [ht]
                go_wp2_with fail
                go_meet
                exact ⟨by rw [ht]; simp, by rw [ht], rfl⟩
            · have ho := Bool.eq_false_iff.2 ho
              subst ho
              go_wp2_with fail
              go_meet
              exact ⟨by simp, rfl, rfl⟩
          case rest =>
            obtain ⟨rfl, rfl, rfl⟩ := hcut
            generalize wc = w7 at *
            have HPU : Hid (∀ (A9 : Option Addr) (c9 : Nat) (w8 w9 : World), Below w7.heap.size w7 w8 → Appended w8 0 74 4 (.slice Al l.length cl) (l.length + 1) (TCs l ++ TCs [((t, .slice Ar t.recs.length cr, .slice Ag t.gs.length cg) : Tw)]) (.slice A9 (l.length + 1) c9) w9 → PZ w g q (l ++ [(t, .slice Ar t.recs.length cr, .slice Ag t.gs.length cg)]) (List.replicate 8 An.zero) (.slice A9 (l.length + 1) c9) s6 (w9.setCell ⟨q, 0, none⟩ (.slice A9 (l.length + 1) c9)) ∧ w9.cell? ⟨q, 0, none⟩ = some (.slice Al l.length cl) ∧ w9.frozen? ⟨q, 0, none⟩ = false) := Lib.hid (fun A9 c9 w8 w9 hb happ => by
              have h8 := HT7.out.later hb
              have hx8 := HX7.out.move (Kw.Ch.of_below (S := fun _ => False) hb (Nat.le_refl _)) (fun _ _ h => h.elim) (Y := fun k => ¬ (w.heap.size ≤ k ∧ k < w8.heap.size ∧ k ≠ g) ∨ k = q ∨ (Value.slice Al l.length cl).ownBlock = some k) (fun k hk hY => hY.elim (fun hh => .inl (fun h3 => hh ⟨h3.1, by have := hb.size; omega, h3.2.2⟩)) .inr)
              have hb9 := h8.tp.blk.ch (Kw.Ch.of_grown happ.2.1 (fun q hq _ => hq) : Kw.Ch (fun q => (Value.slice Al l.length cl).ownBlock = some q) _ w9) (own_far h8.tp.row h8.tp.blk (by decide))
              exact ⟨h8.push hx8 happ, by have := hb9.cell 0; simpa using this, hb9.frozen 0⟩)
            have HRW := Lib.hid HT7.out.tp.row
            have d0 : w7.drew.cell? ⟨q, 0, none⟩ = some (.slice Al l.length cl) := x0
            have e0 : w7.drew.cell? ⟨gx, 0, none⟩ = some (.string ⟨t.n.toArray⟩) := y0
            have e1 : w7.drew.cell? ⟨gx, 1, none⟩ = some (.int .i64 t.base) := y1
            have e2 : w7.drew.cell? ⟨gx, 2, none⟩ = some (.slice Ar t.recs.length cr) := y2
            have e3 : w7.drew.cell? ⟨gx, 3, none⟩ = some (.slice Ag t.gs.length cg) := y3
            have xa : (w7.alloc (.cells #[.string ⟨t.n.toArray⟩, .int .i64 t.base, .slice Ar t.recs.length cr, .slice Ag t.gs.length cg] 74)).cell? ⟨q, 0, none⟩ = some (.slice Al l.length cl) := by have := (HT7.out.later (Xr.op_below w7 (.cells #[.string ⟨t.n.toArray⟩, .int .i64 t.base, .slice Ar t.recs.length cr, .slice Ag t.gs.length cg] 74))).tp.blk.cell 0; simpa using this
            have xd : (w7.drew.alloc (.cells #[.string ⟨t.n.toArray⟩, .int .i64 t.base, .slice Ar t.recs.length cr, .slice Ag t.gs.length cg] 74)).cell? ⟨q, 0, none⟩ = some (.slice Al l.length cl) := xa
            have HLIT := Lib.hid (fun (W : World) => tw_lit W (t, .slice Ar t.recs.length cr, .slice Ag t.gs.length cg))
            go_wp2_with fail
            go_region_law (first
              | (refine step_append_sh (by rfl) (.tmp 53) (.tmp 55) _ (by rfl) 0 74 i0 _ 4 72 Tryz.underlying27 hi0 hz0 hz1 hz2 rfl (by omega) (.slice Al l.length cl) l.length (TCs l) (by rfl) (show (w7.drew.alloc (.cells #[.string ⟨t.n.toArray⟩, .int .i64 t.base, .slice Ar t.recs.length cr, .slice Ag t.gs.length cg] 74)).ownsRow 0 74 4 (.slice Al l.length cl) l.length (TCs l) from (own_below HRW.out (Xj.below_drew0 w7)).alloc _) (fun _ => False) _ 1 (TCs [((t, .slice Ar t.recs.length cr, .slice Ag t.gs.length cg) : Tw)]) (by rfl) (show Sl (w7.drew.alloc (.cells #[.string ⟨t.n.toArray⟩, .int .i64 t.base, .slice Ar t.recs.length cr, .slice Ag t.gs.length cg] 74)) (fun _ => False) 4 _ 1 _ from HLIT.out w7.drew) (by intro u hu; simp only [TCs, TC, List.flatMap_cons, List.flatMap_nil, List.append_nil, List.mem_cons, List.not_mem_nil, or_false] at hu; rcases hu with rfl | rfl | rfl | rfl <;> rfl) (by simp only [maxLen]; omega) (by omega) (by omega) ?_; intro A9 c9 w9 happ; have h9 := HPU.out A9 c9 _ w9 ((Xj.below_drew0 w7).trans (Xr.op_below w7.drew _)) happ; have HT9 := Lib.hid h9.1; have u0 := h9.2.1; have uf := h9.2.2; clear happ h9)
              | (refine step_append_sh (by rfl) (.tmp 53) (.tmp 55) _ (by rfl) 0 74 i0 _ 4 72 Tryz.underlying27 hi0 hz0 hz1 hz2 rfl (by omega) (.slice Al l.length cl) l.length (TCs l) (by rfl) (show ((w7.alloc (.cells #[.string ⟨t.n.toArray⟩, .int .i64 t.base, .slice Ar t.recs.length cr, .slice Ag t.gs.length cg] 74)).drew).ownsRow 0 74 4 (.slice Al l.length cl) l.length (TCs l) from own_below (HRW.out.alloc _) (Xj.below_drew0 _)) (fun _ => False) _ 1 (TCs [((t, .slice Ar t.recs.length cr, .slice Ag t.gs.length cg) : Tw)]) (by rfl) (show Sl ((w7.alloc (.cells #[.string ⟨t.n.toArray⟩, .int .i64 t.base, .slice Ar t.recs.length cr, .slice Ag t.gs.length cg] 74)).drew) (fun _ => False) 4 _ 1 _ from (HLIT.out w7).after (Xj.below_drew0 _)) (by intro u hu; simp only [TCs, TC, List.flatMap_cons, List.flatMap_nil, List.append_nil, List.mem_cons, List.not_mem_nil, or_false] at hu; rcases hu with rfl | rfl | rfl | rfl <;> rfl) (by simp only [maxLen]; omega) (by omega) (by omega) ?_; intro A9 c9 w9 happ; have h9 := HPU.out A9 c9 _ w9 ((Xr.op_below w7 _).trans ((Xj.below_drew0 _).mono (Xr.op_below w7 _).size)) happ; have HT9 := Lib.hid h9.1; have u0 := h9.2.1; have uf := h9.2.2; clear happ h9))
            all_goals
              go_wp2_with fail
              go_roundw
              case rel => exact ⟨k + 1, l ++ [(t, .slice Ar t.recs.length cr, .slice Ag t.gs.length cg)], _, s6, by go_num, by omega, by have := HLK.out; simp; omega, by rw [List.map_append, List.map_singleton, lastT_snoc], by rw [List.map_append, List.map_singleton, okTs_snoc, HOKC.out, HLA.out, HTOK.out]; rfl, by simpa using HT9.out, by rw [HM.out]; simp, HS6.out⟩
              case measure => simp [intOf]; omega
        · have hkN : (N : Int) ≤ (k : Int) := by omega
          have HE : Hid (R = (l.map (·.1), s')) := Lib.hid (by rw [HRR.out, manyS_stop _ (.inr (by omega))])
          clear hs hsl
          go_wp2_with fail
          go_meet
          exact ⟨l, _, s', rfl, HT.out, HE.out, HSL.out⟩
      · have es : (s'.2 == 0) = false := beq_eq_false_iff_ne.2 hs
        have HE : Hid (R = (l.map (·.1), s')) := Lib.hid (by rw [HRR.out, manyS_stop _ (.inl hs)])
        clear hs hsl
        by_cases hkn : k < N
        · have hkN : (k : Int) < (N : Int) := by omega
          go_wp2_with fail
          go_meet
          exact ⟨l, _, s', rfl, HT.out, HE.out, HSL.out⟩
        · have hkN : (N : Int) ≤ (k : Int) := by omega
          go_wp2_with fail
          go_meet
          exact ⟨l, _, s', rfl, HT.out, HE.out, HSL.out⟩
  case rest =>
    obtain ⟨l, lv, s4, rfl, ht, hR, hs4⟩ := hcut
    generalize wc = w4 at *
    rw [hR] at HQ
    simp only at HQ
    have HY0 : Hid (PY w g q ⟨l.map (·.1), List.replicate 8 An.zero⟩ s4 w4) := Lib.hid ⟨ht.below, ht.rr, ht.lg, ⟨l, lv, rfl, ht.tp⟩⟩
    have HS4 := Lib.hid hs4
    obtain ⟨L, hL⟩ : ∃ L, L = l.map (·.1) := ⟨_, rfl⟩
    rw [← hL] at HQ HY0 ⊢
    obtain ⟨R3, hR3⟩ : ∃ R3, R3 = allS anS 8 s4 [] := ⟨_, rfl⟩
    rw [← hR3] at HQ
    have HR3 := Lib.hid hR3
    clear ht hR hs4 hL hR3 HR HT3 HT2
    obtain ⟨ok0, hok0⟩ : ∃ z, z = okTs [] L := ⟨_, rfl⟩
    rw [← hok0]
    have HOK0 := Lib.hid hok0
    clear hok0
    go_wp2_with fail
    go_loopw [6, 12] (fun ok i W => ∃ (k : Nat) (A : List An) (s' : Cm.RS), k ≤ 8 ∧ i = .int .i64 k ∧ A.length = k ∧ ok = .bool (ok0 && A.all okA) ∧ PY w g q ⟨L, A ++ List.replicate (8 - A.length) An.zero⟩ s' W ∧ R3 = allS anS (8 - k) s' A ∧ s'.1.length ≤ 140737488355328) (fun _ i _ => 8 - (intOf i).toNat)
    case atStart => exact ⟨0, [], s4, by omega, rfl, rfl, by simp, HY0.out, HR3.out, HS4.out⟩
    case round =>
      obtain ⟨k, A2, s', hk, rfl, hA, rfl, hy, hr, hsl⟩ := hrel
      have HY := Lib.hid hy
      have HRR := Lib.hid hr
      have HA := Lib.hid hA
      clear hy hr hA
      by_cases hk8 : k < 8
      · have HM := Lib.hid (HRR.out.trans (by rw [show 8 - k = (8 - (k + 1)) + 1 by omega, allS_go]))
        have hn1 := Cm.numS_len s' 9007199254740992
        have he1 := Cm.numS_le s' 9007199254740992
        have HN1 := Lib.hid (fun (W : World) (Y : Nat → Prop) (hr : RR W Y g s') => rnum_any W Y g s' hr 9007199254740992)
        unfold anS at HM
        unfold RNumed at HN1
        generalize Cm.numS s' 9007199254740992 = b1 at *
        obtain ⟨tn, s5⟩ := b1
        simp only at HM HN1 hn1 he1
        have hn2 := Cm.numS_len s5 1024
        have he2 := Cm.numS_le s5 1024
        have HN2 := Lib.hid (fun (W : World) (Y : Nat → Prop) (hr : RR W Y g s5) => rnum_any W Y g s5 hr 1024)
        unfold RNumed at HN2
        generalize Cm.numS s5 1024 = b2 at *
        obtain ⟨en, s6⟩ := b2
        simp only at HM HN2 hn2 he2
        have hn3 := Cm.numS_len s6 9007199254740992
        have he3 := Cm.numS_le s6 9007199254740992
        have HN3 := Lib.hid (fun (W : World) (Y : Nat → Prop) (hr : RR W Y g s6) => rnum_any W Y g s6 hr 9007199254740992)
        unfold RNumed at HN3
        generalize Cm.numS s6 9007199254740992 = b3 at *
        obtain ⟨fn, s7⟩ := b3
        simp only at HM HN3 hn3 he3
        have z1 : IntKind.i64.wrap (tn : Int) = (tn : Int) := Ga.wrap64 (by omega) (by omega)
        have z2 : IntKind.i64.wrap (en : Int) = (en : Int) := Ga.wrap64 (by omega) (by omega)
        have z3 : IntKind.i64.wrap (fn : Int) = (fn : Int) := Ga.wrap64 (by omega) (by omega)
        have HS7 : Hid (s7.1.length ≤ 140737488355328) := Lib.hid (by omega)
        have hk8i : (k : Int) < 8 := by omega
        clear hsl hn1 he1 hn2 he2 hn3 he3
        go_wp2_with fail
        refine (HN1.out _ _ HY.out.rr).mono ?_
        rintro e w5 ⟨rfl, hg5, hc5⟩
        have HX5 := Lib.hid (PX.new (HY.out.read hg5 hc5) #[.int .i64 (tn : Int), .int .i64 0, .int .i64 0])
        clear hg5 hc5
        go_wp2_with fail
        generalize w5.alloc (.cells #[.int .i64 (tn : Int), .int .i64 0, .int .i64 0] 32) = w6 at *
        generalize w5.heap.size = gb at *
        refine (HN2.out _ _ HX5.out.rr).mono ?_
        rintro e w7 ⟨rfl, hg7, hc7⟩
        have HX7 := Lib.hid (HX5.out.read hg7 hc7)
        have a1 := HX7.out.box.cell 1
        have f1 := HX7.out.box.frozen 1
        simp only [List.getElem?_toArray, List.getElem?_cons_zero, List.getElem?_cons_succ] at a1
        have HX8 := Lib.hid (HX7.out.set 1 (.int .i64 (en : Int)))
        clear hg7 hc7
        go_wp2_with fail
        generalize w7.setCell ⟨gb, 1, none⟩ (.int .i64 (en : Int)) = w8 at *
        refine (HN3.out _ _ HX8.out.rr).mono ?_
        rintro e w9 ⟨rfl, hg9, hc9⟩
        have HX9 := Lib.hid (HX8.out.read hg9 hc9)
        have b2 := HX9.out.box.cell 2
        have f2 := HX9.out.box.frozen 2
        simp only [List.setIfInBounds_toArray, List.set_cons_succ, List.set_cons_zero, List.getElem?_toArray, List.getElem?_cons_zero, List.getElem?_cons_succ] at b2
        have HXa := Lib.hid (HX9.out.set 2 (.int .i64 (fn : Int)))
        clear hg9 hc9 a1 f1
        go_upto_region 19 with fail
        generalize w9.setCell ⟨gb, 2, none⟩ (.int .i64 (fn : Int)) = w10 at *
        have c0 := HXa.out.box.cell 0
        have c1 := HXa.out.box.cell 1
        have c2 := HXa.out.box.cell 2
        simp only [List.setIfInBounds_toArray, List.set_cons_succ, List.set_cons_zero, List.getElem?_toArray, List.getElem?_cons_zero, List.getElem?_cons_succ] at c0 c1 c2
        clear b2 f2
        clear z1 z2 z3 HN1 HN2 HN3
        generalize ((tn : Nat) : Int) = ti at *
        generalize ((en : Nat) : Int) = ei at *
        generalize ((fn : Nat) : Int) = fi at *
        obtain ⟨okc, hokc⟩ : ∃ z, z = (ok0 && A2.all okA) := ⟨_, rfl⟩
        rw [← hokc]
        have HOKC := Lib.hid hokc
        clear hokc
        go_cut [6] (fun s6 W => s6 = .bool (okc && okA ⟨ti, ei, fi⟩) ∧ Below w10.heap.size w10 W)
        case first =>
          by_cases ho : okc = true
          · subst ho
            have HTL := Lib.hid (rtold_any w10 ei)
            have hrs := fun W => Xa.run_eql_rs W ei fi 0 0
            by_cases ht : told ei = true
            · rw [ht] at HTL
              by_cases he : ei = 0
              · have heb : (ei == 0) = true := by rw [he]; rfl
                by_cases hp : 0 < ti
                · have HV : Hid (okA ⟨ti, ei, fi⟩ = true) := Lib.hid (by simp only [okA, ht, heb, decide_eq_true hp]; rfl)
                  have hpd := decide_eq_true hp
                  clear hp he
                  go_wp2_with fail
                  refine HTL.out.mono ?_
                  rintro e w11 ⟨rfl, hb11⟩
                  have HB11 := Lib.hid hb11
                  have hx := HXa.out.later hb11
                  clear c0 c1 c2 hb11
                  have c0 := hx.box.cell 0
                  have c1 := hx.box.cell 1
                  have c2 := hx.box.cell 2
                  simp only [List.setIfInBounds_toArray, List.set_cons_succ, List.set_cons_zero, List.getElem?_toArray, List.getElem?_cons_zero, List.getElem?_cons_succ] at c0 c1 c2
                  clear hx
                  go_wp2_with fail
                  go_meet
                  exact ⟨by rw [HV.out]; rfl, HB11.out⟩
                · have HV : Hid (okA ⟨ti, ei, fi⟩ = (fi == 0)) := Lib.hid (by simp only [okA, ht, heb, decide_eq_false hp]; simp)
                  have hpd := decide_eq_false hp
                  have HRS : Hid (Xa.rsB (ei, fi) (0, 0) = (fi == 0)) := Lib.hid (by unfold Xa.rsB; rw [he]; by_cases h : fi = 0 <;> simp [h])
                  clear hp he
                  go_wp2_with fail
                  refine HTL.out.mono ?_
                  rintro e w11 ⟨rfl, hb11⟩
                  have HB11 := Lib.hid hb11
                  have hx := HXa.out.later hb11
                  clear c0 c1 c2 hb11
                  have c0 := hx.box.cell 0
                  have c1 := hx.box.cell 1
                  have c2 := hx.box.cell 2
                  simp only [List.setIfInBounds_toArray, List.set_cons_succ, List.set_cons_zero, List.getElem?_toArray, List.getElem?_cons_zero, List.getElem?_cons_succ] at c0 c1 c2
                  clear hx
                  go_wp2_with fail
                  go_meet
                  exact ⟨by rw [HV.out, HRS.out]; rfl, HB11.out⟩
              · have heb : (ei == 0) = false := beq_eq_false_iff_ne.2 he
                by_cases hf : fi = 0
                · have hfb : (fi == 0) = true := by rw [hf]; rfl
                  by_cases hp : 0 < ti
                  · have HV : Hid (okA ⟨ti, ei, fi⟩ = true) := Lib.hid (by simp only [okA, ht, heb, hfb, decide_eq_true hp]; rfl)
                    have hpd := decide_eq_true hp
                    clear hp he hf
                    go_wp2_with fail
                    refine HTL.out.mono ?_
                    rintro e w11 ⟨rfl, hb11⟩
                    have HB11 := Lib.hid hb11
                    have hx := HXa.out.later hb11
                    clear c0 c1 c2 hb11
                    have c0 := hx.box.cell 0
                    have c1 := hx.box.cell 1
                    have c2 := hx.box.cell 2
                    simp only [List.setIfInBounds_toArray, List.set_cons_succ, List.set_cons_zero, List.getElem?_toArray, List.getElem?_cons_zero, List.getElem?_cons_succ] at c0 c1 c2
                    clear hx
                    go_wp2_with fail
                    go_meet
                    exact ⟨by rw [HV.out]; rfl, HB11.out⟩
                  · have HV : Hid (okA ⟨ti, ei, fi⟩ = false) := Lib.hid (by simp only [okA, ht, heb, hfb, decide_eq_false hp]; simp)
                    have hpd := decide_eq_false hp
                    have HRS : Hid (Xa.rsB (ei, fi) (0, 0) = false) := Lib.hid (by unfold Xa.rsB; simp [he])
                    clear hp he hf
                    go_wp2_with fail
                    refine HTL.out.mono ?_
                    rintro e w11 ⟨rfl, hb11⟩
                    have HB11 := Lib.hid hb11
                    have hx := HXa.out.later hb11
                    clear c0 c1 c2 hb11
                    have c0 := hx.box.cell 0
                    have c1 := hx.box.cell 1
                    have c2 := hx.box.cell 2
                    simp only [List.setIfInBounds_toArray, List.set_cons_succ, List.set_cons_zero, List.getElem?_toArray, List.getElem?_cons_zero, List.getElem?_cons_succ] at c0 c1 c2
                    clear hx
                    go_wp2_with fail
                    go_meet
                    exact ⟨by rw [HV.out, HRS.out]; rfl, HB11.out⟩
                · have hfb : (fi == 0) = false := beq_eq_false_iff_ne.2 hf
                  have HV : Hid (okA ⟨ti, ei, fi⟩ = false) := Lib.hid (by simp only [okA, ht, heb, hfb]; simp)
                  clear he hf
                  go_wp2_with fail
                  refine HTL.out.mono ?_
                  rintro e w11 ⟨rfl, hb11⟩
                  have HB11 := Lib.hid hb11
                  have hx := HXa.out.later hb11
                  clear c0 c1 c2 hb11
                  have c0 := hx.box.cell 0
                  have c1 := hx.box.cell 1
                  have c2 := hx.box.cell 2
                  simp only [List.setIfInBounds_toArray, List.set_cons_succ, List.set_cons_zero, List.getElem?_toArray, List.getElem?_cons_zero, List.getElem?_cons_succ] at c0 c1 c2
                  clear hx
                  go_wp2_with fail
                  go_meet
                  exact ⟨by rw [HV.out]; simp, HB11.out⟩
            · have ht := Bool.eq_false_iff.2 ht
              rw [ht] at HTL
              have HV : Hid (okA ⟨ti, ei, fi⟩ = false) := Lib.hid (by simp only [okA, ht]; simp)
              go_wp2_with fail
              refine HTL.out.mono ?_
              rintro e w11 ⟨rfl, hb11⟩
              have HB11 := Lib.hid hb11
              have hx := HXa.out.later hb11
              clear c0 c1 c2 hb11
              have c0 := hx.box.cell 0
              have c1 := hx.box.cell 1
              have c2 := hx.box.cell 2
              simp only [List.setIfInBounds_toArray, List.set_cons_succ, List.set_cons_zero, List.getElem?_toArray, List.getElem?_cons_zero, List.getElem?_cons_succ] at c0 c1 c2
              clear hx
              go_wp2_with fail
              go_meet
              exact ⟨by rw [HV.out]; simp, HB11.out⟩
          · have ho := Bool.eq_false_iff.2 ho
            subst ho
            go_wp2_with fail
            go_meet
            exact ⟨by simp, Below.refl _ _⟩
        case rest =>
          obtain ⟨rfl, hb11⟩ := hcut
          generalize wc = w11 at *
          have HXb := Lib.hid (HXa.out.later hb11)
          clear hb11 c0 c1 c2
          have c0 := HXb.out.box.cell 0
          have c1 := HXb.out.box.cell 1
          have c2 := HXb.out.box.cell 2
          simp only [List.setIfInBounds_toArray, List.set_cons_succ, List.set_cons_zero, List.getElem?_toArray, List.getElem?_cons_zero, List.getElem?_cons_succ] at c0 c1 c2
          have hlast : (A2 ++ List.replicate (8 - A2.length) An.zero).length = 8 := by have := HA.out; simp; omega
          have hkl : k < (⟨L, A2 ++ List.replicate (8 - A2.length) An.zero⟩ : St).last.length := by show k < (A2 ++ List.replicate (8 - A2.length) An.zero).length; omega
          obtain ⟨u0, u1, u2, q0, q1, q2, g0, g1, g2⟩ : ∃ u0 u1 u2, w11.cell? ⟨q, 1 + k * 3, none⟩ = some (.int .i64 u0) ∧ w11.cell? ⟨q, 1 + k * 3 + 1, none⟩ = some (.int .i64 u1) ∧ w11.cell? ⟨q, 1 + k * 3 + 2, none⟩ = some (.int .i64 u2) ∧ w11.frozen? ⟨q, 1 + k * 3, none⟩ = false ∧ w11.frozen? ⟨q, 1 + k * 3 + 1, none⟩ = false ∧ w11.frozen? ⟨q, 1 + k * 3 + 2, none⟩ = false := by
            obtain ⟨⟨h1, h2, h3⟩, h4, h5, h6⟩ := tk_cellA HXb.out.tk hkl
            exact ⟨_, _, _, h1, h2, h3, h4, h5, h6⟩
          have HYc := Lib.hid (HXb.out.py.ans hkl ⟨ti, ei, fi⟩)
          have HSE : Hid ((A2 ++ List.replicate (8 - A2.length) An.zero).set k ⟨ti, ei, fi⟩ = (A2 ++ [⟨ti, ei, fi⟩]) ++ List.replicate (8 - (A2 ++ [(⟨ti, ei, fi⟩ : An)]).length) An.zero) := Lib.hid (set_last A2 k _ hk8 hlast HA.out)
          clear hlast hkl
          go_wp2_with fail
          go_region_law (fail)
          all_goals
            have hyd := HYc.out.later (Xj.below_drew0 _)
            have HYD := Lib.hid hyd
            clear hyd c0 c1 c2 q0 q1 q2 g0 g1 g2
            go_wp2_with fail
            go_roundw
            case rel => exact ⟨k + 1, A2 ++ [⟨ti, ei, fi⟩], s7, by omega, by go_num, by have := HA.out; simp; omega, by rw [HOKC.out, List.all_append, ← Bool.and_assoc]; simp, by rw [← HSE.out]; exact HYD.out, (show R3 = allS anS (8 - (k + 1)) s7 (A2 ++ [⟨ti, ei, fi⟩]) from HM.out), HS7.out⟩
            case measure => simp [intOf]; omega
      · have hke : k = 8 := by omega
        subst hke
        have HE : Hid (R3 = (A2, s')) := Lib.hid (by rw [HRR.out]; rfl)
        rw [HE.out] at HQ
        simp only at HQ
        have hA8 := HA.out
        have hst : A2 ++ List.replicate (8 - A2.length) An.zero = A2 := by rw [hA8]; simp
        have HYE : Hid (PY w g q ⟨L, A2⟩ s' wr) := Lib.hid (by have := HY.out; rw [hst] at this; exact this)
        have HDN := Lib.hid (rdone_any wr _ g s' HYE.out.rr)
        have hok : okS ⟨L, A2⟩ = (ok0 && A2.all okA) := by rw [okS, HOK0.out]
        have HOKS := Lib.hid hok
        clear hok hst hsl hA8
        generalize hoz : (ok0 && A2.all okA) = oz at *
        have HOZ := Lib.hid hoz
        clear hoz
        by_cases ho : oz = true
        · subst ho
          by_cases hd : Cm.doneS s' = 0
          · rw [hd] at HDN
            have HZ : Hid (Q = some ⟨L, A2⟩) := Lib.hid (by rw [HQ.out, if_pos ⟨HOKS.out, hd⟩])
            clear hd
            go_wp2_with fail
            refine HDN.out.mono ?_
            rintro e w5 ⟨rfl, rfl⟩
            go_wp2_with fail
            go_ret2
            exact ⟨HYE.out.below, .inr ⟨⟨L, A2⟩, q, by rw [← HQE.out]; exact HZ.out, rfl, HYE.out.tk.up (fun k hk => ⟨hk.1, hk.2.1⟩)⟩⟩
          · have HZ : Hid (Q = none) := Lib.hid (by rw [HQ.out, if_neg (fun h => hd h.2)])
            have hdb : (Cm.doneS s' == 0) = false := beq_eq_false_iff_ne.2 hd
            have hdd : decide (Cm.doneS s' = 0) = false := decide_eq_false hd
            generalize Cm.doneS s' = dz at *
            clear hd
            go_wp2_with fail
            refine HDN.out.mono ?_
            rintro e w5 ⟨rfl, rfl⟩
            go_wp2_with fail
            go_ret2
            exact ⟨HYE.out.below, .inl ⟨by rw [← HQE.out]; exact HZ.out, rfl⟩⟩
        · have ho := Bool.eq_false_iff.2 ho
          subst ho
          have HZ : Hid (Q = none) := Lib.hid (by rw [HQ.out, if_neg (fun h => by have := h.1; rw [HOKS.out] at this; cases this)])
          go_wp2_with fail
          go_ret2
          exact ⟨HYE.out.below, .inl ⟨by rw [← HQE.out]; exact HZ.out, rfl⟩⟩
end Go.Proofs.YtkoedonllfmaaaaGreat.Xaf

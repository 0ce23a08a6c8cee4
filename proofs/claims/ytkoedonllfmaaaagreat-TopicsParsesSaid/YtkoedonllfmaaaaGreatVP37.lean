/-
  Layer 7: the document's reading of a topic.
-/
import Derived.Test.YtkoedonllfmaaaaGreatVP35
import Derived.Test.YtkoedonllfmaaaaGreatVP25
import Derived.Test.YtkoedonllfmaaaaGreatVP19
import Derived.Deep.DeepCutAuto
import Derived.Deep.CutBlock
namespace Go.Proofs.YtkoedonllfmaaaaGreat.Xad
set_option linter.unusedSimpArgs false
open Go Go.RowKit Ck Ca Ce Ch Ci Cj Cn Co Kw Ga Kf Km Pm Pe Pz Py Tm Tn Tq Ah Ta Tb Xa Xr Xs Xac
attribute [local go_sem ↓] Go.wp_at_zero Go.wp_at_succ
set_option linter.unusedVariables false
set_option maxRecDepth 100000

theorem gtr_eq (x y : Tx) : (!Op.bytesLess x y && !x == y) = decide (y < x) := by
  rw [less_eq]
  by_cases h : y < x
  · rw [decide_eq_true h, decide_eq_false (List.lt_asymm h), beq_eq_false_iff_ne.2 (fun e => List.lt_irrefl _ (by rw [e] at h; exact h))]
    rfl
  · rw [decide_eq_false h]
    by_cases e : x = y
    · rw [e, beq_self_eq_true]
      simp
    · rw [decide_eq_true (lt_tri h (fun h => e h.symm))]
      rfl
theorem rr_err {w : World} {X : Nat → Prop} {g : Nat} {s : Cm.RS} (h : RR w X g s) : w.cell? ⟨g, 1, none⟩ = some (.int .i64 s.2) := by
  obtain ⟨A, n, c, hb, hsl, _⟩ := h
  exact hb.cell 1
theorem tr_new {w w1 : World} {X : Nat → Prop} {g : Nat} {s s0 : Cm.RS} {n : Tx} (h : RR w X g s0) (hg : (w.alloc (.cells #[.string ⟨#[]⟩, .int .i64 0, .slice none 0 0, .slice none 0 0] 74)).grownBy w1 (some g)) (hr : RR w1 (fun k => X k ∨ w.heap.size ≤ k) g s) :
    TR w X g w.heap.size w1.heap.size n 0 [] [] (.slice none 0 0) (.slice none 0 0) s (w1.alloc (.cells #[.string ⟨n.toArray⟩, .int .i64 0, .slice none 0 0, .slice none 0 0] 74)) := by
  have hl := h.lt
  have hs := hg.size
  simp at hs
  have hb := Xr.op_below w1 (.cells #[.string ⟨n.toArray⟩, .int .i64 0, .slice none 0 0, .slice none 0 0] 74)
  have hres : Blk w1 w.heap.size 74 #[.string ⟨#[]⟩, .int .i64 0, .slice none 0 0, .slice none 0 0] := (Blk.new w _ _).grown hg (by simp; omega)
  refine ⟨((Kw.Ch.of_below (S := fun k => k = g) (Xr.op_below w _) (Nat.le_refl _)).trans (Kw.Ch.of_grown hg (fun q hq _ => by injection hq with hq; exact hq.symm)) (fun k _ h => h)).trans (Kw.Ch.of_below hb (Nat.le_refl _)) (fun k _ h => h), hres.below hb hres.lt, Blk.new _ _ _, World.ownsRow_nil _ _ _ _, (fun y hy => by cases hy), World.ownsRow_nil _ _ _ _, hr.after hb, hl, Nat.le_refl _, by omega, by omega⟩
section
variable {P : Program} {C : World → Prop}
/-- A region that draws its order, whose operations read, or call what leaves the world in the class C: one walk of the text. -/
theorem region_c {id : Nat} {Q : Exit → Act → World → Prop} {a : Act} {w : World} {l : List Oper} (C : World → Prop) (hm : P.follows .mixedOrders = true) (hB : Region.lexB .any l.toArray = true) (hC : C w.drew)
    (h : wpQuiet P l.toArray C (fun a' => ∀ w', C w' → Q .normal a' w') l a) : (Code.region id l.toArray true).wp P Q a w :=
  wp_region_quiet (C := C) hm hB hC (by simpa using h)
theorem q_ex {o : Oper} {a : Act} {K : Act → Prop} (h : ∃ v, (∀ W, C W → (execOp a.eval o).run P W = .ok (.value v) W) ∧ K (a.put o.dst v)) : o.quiet P a C K := by
  obtain ⟨v, h1, h2⟩ := h
  refine ⟨v, fun W hW => ?_, h2⟩
  unfold Oper.quietAt
  rw [h1 W hW]
  exact ⟨rfl, rfl⟩
theorem q_call {o : Oper} {a : Act} {K : Act → Prop} (f : FuncId) (args : Array Value) (v : Value) (h : ∀ W, C W → (execOp a.eval o).run P W = .ok (.enter f args) W) (hc : ∀ W, C W → Calls P f args W fun e w' => e = .returned v ∧ C w') (hk : K (a.put o.dst v)) : o.quiet P a C K := by
  refine ⟨v, fun W hW => ?_, hk⟩
  unfold Oper.quietAt
  rw [h W hW]
  exact ⟨rfl, hc W hW⟩
end
theorem size_top : (Tryz.prog.info? 74).map (·.size) = some 4 := by kernel_rfl
theorem blk4 {W : World} {g : Nat} {t : TypeId} {a b c d x0 x1 x2 x3 : Value} (h : Blk W g t #[a, b, c, d]) : Blk ((((W.setCell ⟨g, 0, none⟩ x0).setCell ⟨g, 1, none⟩ x1).setCell ⟨g, 2, none⟩ x2).setCell ⟨g, 3, none⟩ x3) g t #[x0, x1, x2, x3] := (((h.set_ 0 x0).set_ 1 x1).set_ 2 x2).set_ 3 x3
theorem four_ch (W : World) (g : Nat) (a b c d : Value) : Kw.Ch (fun k => k = g) W ((((W.setCell ⟨g, 0, none⟩ a).setCell ⟨g, 1, none⟩ b).setCell ⟨g, 2, none⟩ c).setCell ⟨g, 3, none⟩ d) :=
  ((((Kw.Ch.refl (fun k => k = g) W).setCell (p := ⟨g, 0, none⟩) (fun _ => rfl) _).setCell (p := ⟨g, 1, none⟩) (fun _ => rfl) _).setCell (p := ⟨g, 2, none⟩) (fun _ => rfl) _).setCell (p := ⟨g, 3, none⟩) (fun _ => rfl) _
/-- A cell of a box beside the topic's is turned. -/
theorem tr_box {w w10 W W1 : World} {X : Nat → Prop} {g gr gx gb : Nat} {n : Tx} {base : Int} {pl : List Rw} {gs : List Gp} {vr vg : Value} {s : Cm.RS} {x : Tx} {p : Int} (h : TR w X g gr gx n base pl gs vr vg s W) (hb : Blk W gb 76 #[.string ⟨x.toArray⟩, .int .i64 p]) (c : Kw.Ch (fun k => k = gb) W W1) (h1 : w.heap.size ≤ gb) (h2 : gb ≠ gx) (h3 : ∀ q, vg.ownBlock = some q → q < gb) (hq : Blk w10 gb 76 #[.string ⟨x.toArray⟩, .int .i64 p]) :
    TR w X g gr gx n base pl gs vr vg s W1 := by
  have hl := h.lg
  refine ⟨h.ch.trans c (fun k hk e => by omega), h.res.ch c (fun e => ?_), h.box.ch c (fun e => h2 e.symm), own_ch h.own c (fun k hk e => own_far h.own hb (by decide) (by rw [← e]; exact hk)), fun y hy => own_ch (h.els y hy) c (fun k hk e => own_far (h.els y hy) hb (by decide) (by rw [← e]; exact hk)), own_ch h.gown c (fun k hk e => by have := h3 k hk; omega), rr_ch h.rr c (fun k _ e => ⟨.inr (by omega), by omega⟩), h.lg, h.lr, h.lx, h.ne⟩
  have e1 : W.heap[gr]? = W.heap[gb]? := by rw [e]
  have e2 := h.res
  have e3 := hb
  unfold Blk at e2 e3
  rw [e2, e3] at e1
  simp at e1
/-- The result is written. -/
theorem tr_res {w W W1 : World} {X : Nat → Prop} {g gr gx : Nat} {n : Tx} {base : Int} {pl : List Rw} {gs : List Gp} {vr vg : Value} {s : Cm.RS} (h : TR w X g gr gx n base pl gs vr vg s W) (c : Kw.Ch (fun k => k = gr) W W1) :
    (∀ Y : Nat → Prop, (∀ k, w.heap.size ≤ k → k < W1.heap.size → ¬ Y k) → TwOk W1 Y (⟨n, base, pl.map (·.1), gs⟩, vr, vg)) ∧ Kw.Ch (fun k => k = g) w W1 ∧ RR W1 (fun k => X k ∨ w.heap.size ≤ k) g s := by
  have hl := h.lg
  have hr := h.lr
  have hb : Blk W gr 74 #[.string ⟨#[]⟩, .int .i64 0, .slice none 0 0, .slice none 0 0] := h.res
  have h2 : TwOk W (fun k => k < w.heap.size ∨ k = gr) (⟨n, base, pl.map (·.1), gs⟩, vr, vg) := by
    refine ⟨⟨pl.map (·.2), ?_, fun i hi => ?_⟩, ?_⟩
    · simp only [List.length_map]
      exact Sl.of_own' h.own (fun k hk hy => by
        rcases hy with hy | hy
        · have := (h.own.lt k hk).1; omega
        · exact own_far h.own hb (by decide) (by rw [← hy]; exact hk))
    · simp only [List.length_map] at hi
      have he := h.els _ (List.getElem_mem hi)
      refine ⟨pl[i].2, by simp [hi], ?_⟩
      simp only [List.getElem_map]
      exact Sl.of_own' he (fun k hk hy => by
        rcases hy with hy | hy
        · have := (he.lt k hk).1; omega
        · exact own_far he hb (by decide) (by rw [← hy]; exact hk))
    · exact Sl.of_own' h.gown (fun k hk hy => by
        rcases hy with hy | hy
        · have := (h.gown.lt k hk).1; omega
        · exact own_far h.gown hb (by decide) (by rw [← hy]; exact hk))
  refine ⟨fun Y hY => ?_, h.ch.trans c (fun k hk e => by omega), rr_ch h.rr c (fun k _ e => ⟨.inr (by omega), by omega⟩)⟩
  have h3 := h2.ch c (fun k _ e => .inr e)
  have hw : ∀ b, b < W1.heap.size → Y b → (b < w.heap.size ∨ b = gr) := fun b hb hy => by
    by_cases hlt : b < w.heap.size
    · exact .inl hlt
    · exact absurd hy (hY b (by omega) hb)
  exact ⟨h3.recs.weaken hw, h3.gs.weaken hw⟩
def lastN (gs : List Gp) : Tx := (gs.getLast?.map (·.n)).getD []
theorem lastN_snoc (gs : List Gp) (g : Gp) : lastN (gs ++ [g]) = g.n := by simp [lastN]
theorem okGs_snoc (next : Int) (g : Gp) : ∀ (gs : List Gp) (last : Tx), okGs next last (gs ++ [g]) = (okGs next last gs && (name g.n && decide ((gs.getLast?.map (·.n)).getD last < g.n) && decide (g.pos ≤ next)))
  | [], last => by simp [okGs, Bool.and_assoc]; try rfl
  | x :: gs, last => by
    have h : ((x :: gs).getLast?.map (·.n)).getD last = (gs.getLast?.map (·.n)).getD x.n := by
      rw [List.getLast?_cons]
      cases gs.getLast? <;> rfl
    rw [List.cons_append, okGs, okGs, okGs_snoc next g gs x.n, h]
    simp only [Bool.and_assoc]
    try rfl
theorem manyS_stop {α : Type} (f : Cm.RS → α × Cm.RS) {n : Nat} {s : Cm.RS} {acc : List α} (h : s.2 ≠ 0 ∨ n = 0) : manyS f n s acc = (acc, s) := by
  cases n with
  | zero => rfl
  | succ n =>
    rcases h with h | h
    · rw [manyS, if_pos h]
    · cases h
theorem manyS_go {α : Type} (f : Cm.RS → α × Cm.RS) {n : Nat} {s : Cm.RS} {acc : List α} (h : s.2 = 0) : manyS f (n + 1) s acc = manyS f n (f s).2 (acc ++ [(f s).1]) := by
  rw [manyS, if_neg (by rw [h]; simp)]
/-- What the document's topic answers and leaves. -/
def RTop (w : World) (X : Nat → Prop) (g : Nat) (r : Tp × Cm.RS) (e : Ending) (w' : World) : Prop :=
  ∃ vr vg, e = .returned (.tuple #[.agg #[.string ⟨r.1.n.toArray⟩, .int .i64 r.1.base, vr, vg], .bool (okT r.1)]) ∧ (∀ Y : Nat → Prop, (∀ k, w.heap.size ≤ k → k < w'.heap.size → ¬ Y k) → TwOk w' Y (r.1, vr, vg)) ∧ Kw.Ch (fun k => k = g) w w' ∧ RR w' (fun k => X k ∨ w.heap.size ≤ k) g r.2 ∧ r.2.1.length ≤ 140737488355328
set_option maxHeartbeats 8000000 in
theorem rtopic_any (w : World) (X : Nat → Prop) (g : Nat) (s : Cm.RS) (h : RR w X g s) (hl : s.1.length ≤ 140737488355328) :
    Calls Tryz.prog 36 #[P_ g] w (RTop w X g (tpS s)) := by
  have HH := Lib.hid h
  have HB0 := Lib.hid (rbytes_any (w.alloc (.cells #[.string ⟨#[]⟩, .int .i64 0, .slice none 0 0, .slice none 0 0] 74)) _ g s ((h.old (Nat.le_refl _)).after (Xr.op_below w _)) 1024 (by omega) (by omega) hl)
  unfold RTaken at HB0
  have HQ : Hid (tpS s = (⟨(Cm.bytesS s 1024).1, ((Cm.numS (Cm.bytesS s 1024).2 9007199254740992).1 : Int), (rcS (Cm.numS (Cm.bytesS s 1024).2 9007199254740992).2).1, (gpsS (rcS (Cm.numS (Cm.bytesS s 1024).2 9007199254740992).2).2).1⟩, (gpsS (rcS (Cm.numS (Cm.bytesS s 1024).2 9007199254740992).2).2).2)) := Lib.hid rfl
  generalize tpS s = Q at *
  have hbl := Cm.bytesS_len s 1024
  generalize Cm.bytesS s 1024 = b1 at *
  obtain ⟨n, s1⟩ := b1
  simp only at HB0 HQ hbl
  have hb1l := Cm.numS_len s1 9007199254740992
  have hb1e := Cm.numS_le s1 9007199254740992
  have HN1 := Lib.hid (fun (W : World) (Y : Nat → Prop) (hr : RR W Y g s1) => rnum_any W Y g s1 hr 9007199254740992)
  unfold RNumed at HN1
  generalize Cm.numS s1 9007199254740992 = b2 at *
  obtain ⟨bn, s2⟩ := b2
  simp only at HN1 HQ hb1l hb1e
  have hb2l := Cm.numS_len s2 64
  have hb2e := Cm.numS_le s2 64
  have HN2 := Lib.hid (fun (W : World) (Y : Nat → Prop) (hr : RR W Y g s2) => rnum_any W Y g s2 hr 64)
  unfold RNumed at HN2
  unfold rcS at HQ
  generalize Cm.numS s2 64 = b3 at *
  obtain ⟨N, s3⟩ := b3
  simp only at HN2 HQ hb2l hb2e
  obtain ⟨R, hR⟩ : ∃ R, R = manyS (fun r => Cm.bytesS r 64) N s3 [] := ⟨_, rfl⟩
  rw [← hR] at HQ
  have HR := Lib.hid hR
  have hs3 : s3.1.length ≤ 140737488355328 := by omega
  have z1 : IntKind.i64.wrap (bn : Int) = (bn : Int) := Ga.wrap64 (by omega) (by omega)
  have hwx : ¬ (w.heap.size = g) := fun e => by have := h.lt; omega
  have HBE := Lib.hid hb1e
  have HS3 := Lib.hid hs3
  clear h hl hR hbl hb1l hb2l hb1e hs3
  go_enter Tryz.func36, Tryz.ntmps36
  go_wp2_with fail
  refine HB0.out.mono ?_
  rintro e w1 ⟨v1, rfl, ho1, hg1, hc1⟩
  obtain ⟨A1, c1, rfl⟩ := own_shape ho1
  have hcv := run_convert_sl (P := Tryz.prog) w1 (fun _ => False) 49 9 5 A1 c1 n Tryz.underlying49 Tryz.underlying5 Tryz.underlying9 (Sl.of_own ho1 (fun _ _ _ h => h))
  have HT1 := Lib.hid (tr_new (n := n) HH.out hg1 hc1)
  clear ho1 hg1 hc1 HB0
  go_wp2_with fail
  generalize w1.alloc (.cells #[.string ⟨n.toArray⟩, .int .i64 0, .slice none 0 0, .slice none 0 0] 74) = w2 at *
  generalize w1.heap.size = gx at *
  refine (HN1.out _ _ HT1.out.rr).mono ?_
  rintro e w3 ⟨rfl, hg3, hc3⟩
  have HT3 := Lib.hid (HT1.out.read hg3 hc3)
  have x1 := HT3.out.box.cell 1
  have f1 := HT3.out.box.frozen 1
  simp only [List.getElem?_toArray, List.getElem?_cons_zero, List.getElem?_cons_succ] at x1
  have HT4 := Lib.hid (HT3.out.set (bn : Int))
  clear hg3 hc3 hcv
  go_wp2_with fail
  generalize w3.setCell ⟨gx, 1, none⟩ (.int .i64 (bn : Int)) = w4 at *
  refine (HN2.out _ _ HT4.out.rr).mono ?_
  rintro e w5 ⟨rfl, hg5, hc5⟩
  have HT5 := Lib.hid (HT4.out.read hg5 hc5)
  clear hg5 hc5 x1 f1 HT3
  obtain ⟨i0, hi0, hz0, hz1, hz2⟩ := info_parts Xs.info_rec
  go_upto_block 0 with fail
  go_cut [] (fun W => ∃ (pl : List Rw) (vr : Value) (s' : Cm.RS), pl.length ≤ 64 ∧ TR w X g w.heap.size gx n (bn : Int) pl [] vr (.slice none 0 0) s' W ∧ R = (pl.map (·.1), s') ∧ s'.1.length ≤ 140737488355328)
  case first =>
    go_wp2_with fail
    go_loopw [6] (fun i W => ∃ (k : Nat) (pl : List Rw) (vr : Value) (s' : Cm.RS), i = .int .u64 k ∧ k ≤ N ∧ pl.length ≤ k ∧ TR w X g w.heap.size gx n (bn : Int) pl [] vr (.slice none 0 0) s' W ∧ R = manyS (fun r => Cm.bytesS r 64) (N - k) s' (pl.map (·.1)) ∧ s'.1.length ≤ 140737488355328) (fun i _ => N - (intOf i).toNat)
    case atStart => exact ⟨0, [], _, s3, rfl, Nat.zero_le _, Nat.le_refl _, HT5.out, HR.out, HS3.out⟩
    case round =>
      obtain ⟨k, pl, vr, s', rfl, hk, hpl, ht, hr, hsl⟩ := hrel
      have HSL := Lib.hid hsl
      have HT := Lib.hid ht
      have HRR := Lib.hid hr
      obtain ⟨Av, cv, rfl⟩ := own_shape ht.own
      have er := rr_err ht.rr
      clear ht hr
      by_cases hs : s'.2 = 0
      · have es : (s'.2 == 0) = true := by rw [hs]; rfl
        by_cases hkn : k < N
        · have hkN : (k : Int) < (N : Int) := by omega
          have HM := Lib.hid (HRR.out.trans (by rw [show N - k = (N - (k + 1)) + 1 by omega, manyS_go _ hs]))
          have hbl := Cm.bytesS_len s' 64
          have HBY := Lib.hid (rbytes_any wr.drew _ g s' (HT.out.rr.after (Xj.below_drew0 wr)) 64 (by omega) (by omega) hsl)
          unfold RTaken at HBY
          have hbm := HM.out
          clear hbm
          generalize Cm.bytesS s' 64 = bb at *
          obtain ⟨x, s6⟩ := bb
          simp only at HBY HM hbl
          have HS6 : Hid (s6.1.length ≤ 140737488355328) := Lib.hid (by omega)
          clear hbl hsl
          have x2 := HT.out.box.cell 2
          have f2 := HT.out.box.frozen 2
          simp only [List.getElem?_toArray, List.getElem?_cons_zero, List.getElem?_cons_succ] at x2
          have d2 : wr.drew.cell? ⟨gx, 2, none⟩ = some (.slice Av pl.length cv) := x2
          have hplN : pl.length ≤ 64 := by omega
          have HAF : Hid (∀ (A6 : Option Addr) (c6 : Nat) (w6 : World), w6.ownsRow wr.drew.heap.size 5 1 (.slice A6 x.length c6) x.length (BVs x) → wr.drew.grownBy w6 (some g) → RR w6 (fun k => X k ∨ w.heap.size ≤ k) g s6 → TR w X g w.heap.size gx n (bn : Int) pl [] (.slice Av pl.length cv) (.slice none 0 0) s6 w6 ∧ w6.ownsRow w.heap.size 5 1 (.slice A6 x.length c6) x.length (BVs x) ∧ w6.cell? ⟨gx, 2, none⟩ = some (.slice Av pl.length cv) ∧ (w6.alloc (.cells #[.slice A6 x.length c6] 55)).cell? ⟨gx, 2, none⟩ = some (.slice Av pl.length cv)) := Lib.hid (fun A6 c6 w6 ho hg hc => by
            have ht := (HT.out.later (Xj.below_drew0 wr)).read hg hc
            have y2 := ht.box.cell 2
            have y3 := (ht.later (Xr.op_below w6 (.cells #[.slice A6 x.length c6] 55))).box.cell 2
            simp only [List.getElem?_toArray, List.getElem?_cons_zero, List.getElem?_cons_succ] at y2 y3
            exact ⟨ht, own_base ho HT.out.ch.size, y2, y3⟩)
          have HAG : Hid (∀ (u : Value) (w6 w7 : World) (A7 : Option Addr) (c7 : Nat), TR w X g w.heap.size gx n (bn : Int) pl [] (.slice Av pl.length cv) (.slice none 0 0) s6 w6 → w6.ownsRow w.heap.size 5 1 u x.length (BVs x) → Appended (w6.alloc (.cells #[u] 55)) w.heap.size 55 1 (.slice Av pl.length cv) (pl.length + 1) (pl.map (·.2) ++ [u]) (.slice A7 (pl.length + 1) c7) w7 → TR w X g w.heap.size gx n (bn : Int) (pl ++ [(x, u)]) [] (.slice A7 (pl.length + 1) c7) (.slice none 0 0) s6 (w7.setCell ⟨gx, 2, none⟩ (.slice A7 (pl.length + 1) c7)) ∧ w7.cell? ⟨gx, 2, none⟩ = some (.slice Av pl.length cv) ∧ w7.frozen? ⟨gx, 2, none⟩ = false) := Lib.hid (fun u w6 w7 A7 c7 ht hu happ => by
            have ht2 := ht.later (Xr.op_below w6 (.cells #[u] 55))
            have hb7 := ht2.box.ch (Kw.Ch.of_grown happ.2.1 (fun q hq _ => hq) : Kw.Ch (fun q => (Value.slice Av pl.length cv).ownBlock = some q) _ w7) (own_far ht2.own ht2.box (by decide))
            have u2 := hb7.cell 2
            simp only [List.getElem?_toArray, List.getElem?_cons_zero, List.getElem?_cons_succ] at u2
            exact ⟨TR.addr ht2 (own_below hu (Xr.op_below w6 (.cells #[u] 55))) happ, u2, hb7.frozen 2⟩)
          have hszw := HT.out.ch.size
          have HPL := Lib.hid hpl
          clear hpl
          clear hs
          go_wp2_with fail
          go_region_law
            (first
              | (go_simp; go_at_call 76; refine HBY.out.mono ?_; rintro e w6 ⟨v6, rfl, ho6, hg6, hc6⟩; obtain ⟨A6, c6, rfl⟩ := own_shape ho6; have h6 := HAF.out A6 c6 w6 ho6 hg6 hc6; have HT6 := Lib.hid h6.1; have HU6 := Lib.hid h6.2.1; have y2 := h6.2.2.1; have y3 := h6.2.2.2; have hsz6 := HT6.out.ch.size; clear ho6 hg6 hc6 h6)
              | (refine step_append_sh (by rfl) (.tmp 34) (.tmp 37) _ (by rfl) w.heap.size 55 i0 _ 1 24 Tryz.underlying36 hi0 hz0 hz1 hz2 rfl (by omega) (.slice Av pl.length cv) pl.length (pl.map (·.2)) (by rfl) (show (w6.alloc (.cells #[.slice A6 x.length c6] 55)).ownsRow w.heap.size 55 1 (.slice Av pl.length cv) pl.length (pl.map (·.2)) from HT6.out.own.alloc _) (fun _ => False) _ 1 [.slice A6 x.length c6] (by rfl) (show Sl (w6.alloc (.cells #[.slice A6 x.length c6] 55)) (fun _ => False) _ _ _ _ from Ci.one_newv w6 (fun _ => False) 55 _ (fun h => h)) (by intro u hu; rw [List.mem_singleton] at hu; subst hu; rfl) (by simp only [maxLen]; omega) (by omega) (by simp; omega) ?_; intro A7 c7 w7 happ; have h7 := HAG.out _ w6 w7 A7 c7 HT6.out HU6.out happ; have HT7 := Lib.hid h7.1; have u2 := h7.2.1; have uf := h7.2.2; clear happ h7))
          all_goals
            go_wp2_with fail
            go_roundw
            case rel => exact ⟨k + 1, pl ++ [(x, _)], _, s6, by go_num, by omega, by have := HPL.out; simp; omega, by simpa using HT7.out, by rw [HM.out]; simp, HS6.out⟩
            case measure => simp [intOf]; omega
        · have hkN : (N : Int) ≤ (k : Int) := by omega
          have HE : Hid (R = (pl.map (·.1), s')) := Lib.hid (by rw [HRR.out, manyS_stop _ (.inr (by omega))])
          clear hs hsl
          go_wp2_with fail
          go_meet
          exact ⟨pl, _, s', by omega, HT.out, HE.out, HSL.out⟩
      · have es : (s'.2 == 0) = false := beq_eq_false_iff_ne.2 hs
        have HE : Hid (R = (pl.map (·.1), s')) := Lib.hid (by rw [HRR.out, manyS_stop _ (.inl hs)])
        clear hs hsl
        by_cases hkn : k < N
        · have hkN : (k : Int) < (N : Int) := by omega
          go_wp2_with fail
          go_meet
          exact ⟨pl, _, s', by omega, HT.out, HE.out, HSL.out⟩
        · have hkN : (N : Int) ≤ (k : Int) := by omega
          go_wp2_with fail
          go_meet
          exact ⟨pl, _, s', by omega, HT.out, HE.out, HSL.out⟩
  case rest =>
    obtain ⟨pl, vr, s4, hpl, ht, hR, hs4⟩ := hcut
    generalize wc = w6 at *
    have HT6 := Lib.hid ht
    rw [hR] at HQ
    simp only at HQ
    clear ht hR HR HT5
    obtain ⟨Av, cv, rfl⟩ := own_shape HT6.out.own
    unfold gpsS at HQ
    have hb3l := Cm.numS_len s4 8
    have hb3e := Cm.numS_le s4 8
    have HN3 := Lib.hid (fun (W : World) (Y : Nat → Prop) (hr : RR W Y g s4) => rnum_any W Y g s4 hr 8)
    unfold RNumed at HN3
    generalize Cm.numS s4 8 = b4 at *
    obtain ⟨N2, s5⟩ := b4
    simp only at HN3 HQ hb3l hb3e
    obtain ⟨R2, hR2⟩ : ∃ R2, R2 = manyS gpS N2 s5 [] := ⟨_, rfl⟩
    rw [← hR2] at HQ
    have HR2 := Lib.hid hR2
    have HS5 : Hid (s5.1.length ≤ 140737488355328) := Lib.hid (by omega)
    clear hR2 hb3l hs4
    go_wp2_with fail
    refine (HN3.out _ _ HT6.out.rr).mono ?_
    rintro e w7 ⟨rfl, hg7, hc7⟩
    have HT7 := Lib.hid (HT6.out.read hg7 hc7)
    have x0 := HT7.out.box.cell 0
    simp only [List.getElem?_toArray, List.getElem?_cons_zero, List.getElem?_cons_succ] at x0
    clear hg7 hc7
    go_upto_region 10 with fail
    go_cut [8] (fun s8 W => s8 = .bool (name n && decide ((bn : Int) + (pl.length : Int) ≤ 9007199254740992)) ∧ Below w7.heap.size w7 W)
    case first =>
      go_wp2_with fail
      refine (Pd.rname_any n w7).mono ?_
      rintro e w8 ⟨rfl, hb8⟩
      have HB8 := Lib.hid hb8
      have hk8 := HT7.out.box.below hb8 HT7.out.box.lt
      have y0 := hk8.cell 0
      have y1 := hk8.cell 1
      have y2 := hk8.cell 2
      have y3 := hk8.cell 3
      simp only [List.getElem?_toArray, List.getElem?_cons_zero, List.getElem?_cons_succ] at y0 y1 y2 y3
      clear hb8 hk8
      by_cases hn : name n = true
      · go_wp2_with fail
        refine (rnext2 w8 n Av cv pl.length (bn : Int) _ (by omega) (by have := HBE.out; omega) hpl).mono ?_
        rintro e w9 ⟨rfl, hb9⟩
        have HB9 := Lib.hid (HB8.out.trans (hb9.mono HB8.out.size))
        clear hb9
        go_wp2_with fail
        go_meet
        exact ⟨by simp [hn], HB9.out⟩
      · have hn := Bool.eq_false_iff.2 hn
        go_wp2_with fail
        go_meet
        exact ⟨by simp [hn], HB8.out⟩
    case rest =>
      obtain ⟨rfl, hb8⟩ := hcut
      generalize wc = w8 at *
      have HT8 := Lib.hid (HT7.out.later hb8)
      clear hb8 x0 HT7 HT6
      obtain ⟨ok0, hok0⟩ : ∃ b, b = (name n && decide ((bn : Int) + (pl.length : Int) ≤ 9007199254740992)) := ⟨_, rfl⟩
      rw [← hok0]
      have HOK0 := Lib.hid hok0
      clear hok0
      obtain ⟨nx, hnx⟩ : ∃ z : Int, z = (bn : Int) + (pl.length : Int) := ⟨_, rfl⟩
      have HNX := Lib.hid hnx
      clear hnx
      obtain ⟨j0, hj0, hy0, hy1, hy2⟩ := info_parts Xu.info_group
      go_upto_block 2 with fail
      go_cut [8] (fun s8 W => ∃ (gs : List Gp) (vg : Value) (s' : Cm.RS), s8 = .bool (ok0 && okGs nx [] gs) ∧ TR w X g w.heap.size gx n (bn : Int) pl gs (.slice Av pl.length cv) vg s' W ∧ R2 = (gs, s') ∧ s'.1.length ≤ 140737488355328)
      case first =>
        go_wp2_with fail
        go_loopw [7, 8, 9] (fun la ok i W => ∃ (k : Nat) (gs : List Gp) (vg : Value) (s' : Cm.RS), i = .int .u64 k ∧ k ≤ N2 ∧ gs.length ≤ k ∧ la = .string ⟨(lastN gs).toArray⟩ ∧ ok = .bool (ok0 && okGs nx [] gs) ∧ TR w X g w.heap.size gx n (bn : Int) pl gs (.slice Av pl.length cv) vg s' W ∧ R2 = manyS gpS (N2 - k) s' gs ∧ s'.1.length ≤ 140737488355328) (fun _ _ i _ => N2 - (intOf i).toNat)
        case atStart => exact ⟨0, [], _, s5, rfl, Nat.zero_le _, Nat.le_refl _, rfl, by simp [okGs], HT8.out, HR2.out, HS5.out⟩
        case round =>
          obtain ⟨k, gs, vg, s', rfl, hk, hgl, rfl, rfl, ht, hr, hsl⟩ := hrel
          have HSL := Lib.hid hsl
          have HT := Lib.hid ht
          have HRR := Lib.hid hr
          obtain ⟨Ag, cg, rfl⟩ := own_shape ht.gown
          have er := rr_err ht.rr
          clear ht hr
          by_cases hs : s'.2 = 0
          · have es : (s'.2 == 0) = true := by rw [hs]; rfl
            by_cases hkn : k < N2
            · have hkN : (k : Int) < (N2 : Int) := by omega
              have HM := Lib.hid (HRR.out.trans (by rw [show N2 - k = (N2 - (k + 1)) + 1 by omega, manyS_go _ hs]))
              unfold gpS at HM
              have hbl := Cm.bytesS_len s' 1024
              have HBY := Lib.hid (rbytes_any wr _ g s' HT.out.rr 1024 (by omega) (by omega) hsl)
              unfold RTaken at HBY
              generalize Cm.bytesS s' 1024 = bb at *
              obtain ⟨x, s6⟩ := bb
              simp only at HBY HM hbl
              have hcl := Cm.numS_len s6 9007199254740992
              have hce := Cm.numS_le s6 9007199254740992
              have HNM := Lib.hid (fun (W : World) (Y : Nat → Prop) (hr : RR W Y g s6) => rnum_any W Y g s6 hr 9007199254740992)
              unfold RNumed at HNM
              generalize Cm.numS s6 9007199254740992 = cc at *
              obtain ⟨pn, s7⟩ := cc
              simp only at HNM HM hcl hce
              have z2 : IntKind.i64.wrap (pn : Int) = (pn : Int) := Ga.wrap64 (by omega) (by omega)
              have HS7 : Hid (s7.1.length ≤ 140737488355328) := Lib.hid (by omega)
              clear hs hsl hbl hcl hce
              go_wp2_with fail
              refine HBY.out.mono ?_
              rintro e w9 ⟨v9, rfl, ho9, hg9, hc9⟩
              obtain ⟨A9, c9, rfl⟩ := own_shape ho9
              have hcv := run_convert_sl (P := Tryz.prog) w9 (fun _ => False) 49 9 5 A9 c9 x Tryz.underlying49 Tryz.underlying5 Tryz.underlying9 (Sl.of_own ho9 (fun _ _ _ h => h))
              have HT9 := Lib.hid ((HT.out.read hg9 hc9).later (Xr.op_below w9 (.cells #[.string ⟨x.toArray⟩, .int .i64 0] 76)))
              have HBX : Hid (Blk (w9.alloc (.cells #[.string ⟨x.toArray⟩, .int .i64 0] 76)) w9.heap.size 76 #[.string ⟨x.toArray⟩, .int .i64 0]) := Lib.hid (Blk.new w9 _ _)
              have HGS : Hid (w.heap.size ≤ w9.heap.size ∧ gx < w9.heap.size ∧ g < w9.heap.size ∧ ∀ q, (Value.slice Ag gs.length cg).ownBlock = some q → q < w9.heap.size) := Lib.hid ⟨(HT.out.read hg9 hc9).ch.size, (HT.out.read hg9 hc9).box.lt, (HT.out.read hg9 hc9).rr.lt, fun q hq => ((HT.out.read hg9 hc9).gown.lt q hq).2⟩
              clear ho9 hg9 hc9 HBY er
              go_wp2_with fail
              generalize w9.alloc (.cells #[.string ⟨x.toArray⟩, .int .i64 0] 76) = w10 at *
              generalize w9.heap.size = gb at *
              refine (HNM.out _ _ HT9.out.rr).mono ?_
              rintro e w11 ⟨rfl, hg11, hc11⟩
              have HTb := Lib.hid (HT9.out.read hg11 hc11)
              have hbx := HBX.out.grown hg11 (by have := HGS.out.2.2.1; simp; omega)
              have q1 := hbx.cell 1
              have qf := hbx.frozen 1
              simp only [List.getElem?_toArray, List.getElem?_cons_zero, List.getElem?_cons_succ] at q1
              have cgb : Kw.Ch (fun k => k = gb) w11 (w11.setCell ⟨gb, 1, none⟩ (.int .i64 (pn : Int))) := (Kw.Ch.refl (fun k => k = gb) w11).setCell (p := ⟨gb, 1, none⟩) (fun _ => rfl) _
              have hbx2 : Blk (w11.setCell ⟨gb, 1, none⟩ (.int .i64 (pn : Int))) gb 76 #[.string ⟨x.toArray⟩, .int .i64 (pn : Int)] := by have := hbx.set_ 1 (.int .i64 (pn : Int)); simpa using this
              have HBX2 := Lib.hid hbx2
              have HTc : Hid (TR w X g w.heap.size gx n (bn : Int) pl gs (.slice Av pl.length cv) (.slice Ag gs.length cg) s7 (w11.setCell ⟨gb, 1, none⟩ (.int .i64 (pn : Int)))) := Lib.hid (tr_box HTb.out hbx cgb HGS.out.1 (by have := HGS.out.2.1; omega) HGS.out.2.2.2 (HBX.out))
              clear hg11 hc11 hcv hbx cgb hbx2 HTb HT9 HBX
              go_wp2_with fail
              generalize w11.setCell ⟨gb, 1, none⟩ (.int .i64 (pn : Int)) = w12 at *
              clear q1 qf
              have q0 := HBX2.out.cell 0
              have q1 := HBX2.out.cell 1
              simp only [List.getElem?_toArray, List.getElem?_cons_zero, List.getElem?_cons_succ] at q0 q1
              obtain ⟨okc, hokc⟩ : ∃ b, b = (ok0 && okGs nx [] gs) := ⟨_, rfl⟩
              rw [← hokc]
              have HOKC := Lib.hid hokc
              clear hokc
              obtain ⟨la, hla⟩ : ∃ l : Tx, l = lastN gs := ⟨_, rfl⟩
              rw [← hla]
              have HLA := Lib.hid hla
              clear hla
              go_upto_region 16 with fail
              go_cut [8] (fun s8 W => s8 = .bool (okc && (name x && decide (la < x) && decide ((pn : Int) ≤ nx))) ∧ Below w12.heap.size w12 W)
              case first =>
                by_cases ho : okc = true
                · subst ho
                  have HSC : Hid (∀ W : World, Below w12.heap.size w12 W → (W.cell? ⟨gb, 0, none⟩ = some (.string ⟨x.toArray⟩) ∧ W.cell? ⟨gb, 1, none⟩ = some (.int .i64 (pn : Int)) ∧ W.cell? ⟨gx, 0, none⟩ = some (.string ⟨n.toArray⟩) ∧ W.cell? ⟨gx, 1, none⟩ = some (.int .i64 (bn : Int)) ∧ W.cell? ⟨gx, 2, none⟩ = some (.slice Av pl.length cv) ∧ W.cell? ⟨gx, 3, none⟩ = some (.slice Ag gs.length cg))) := Lib.hid (fun W h => by
                    have h1 := HBX2.out.below h HBX2.out.lt
                    have h2 := HTc.out.box.below h HTc.out.box.lt
                    exact ⟨h1.cell 0, h1.cell 1, h2.cell 0, h2.cell 1, h2.cell 2, h2.cell 3⟩)
                  have HQ0 := fun (W : World) => Pd.rname_any x W
                  unfold SV at HQ0
                  by_cases hn : name x = true
                  · rw [hn] at HQ0
                    have HQ := Lib.hid HQ0
                    clear HQ0
                    by_cases hgt : la < x
                    · have hb : (!Op.bytesLess x la && !x == la) = true := by rw [gtr_eq]; exact decide_eq_true hgt
                      have HRN := Lib.hid (fun (W : World) => rnext2 W n Av cv pl.length (bn : Int) (.slice Ag gs.length cg) (by omega) (by have := HBE.out; omega) hpl)
                      rw [← HNX.out] at HRN
                      have HE : Hid ((true && (name x && decide (la < x) && decide ((pn : Int) ≤ nx))) = decide ((pn : Int) ≤ nx)) := Lib.hid (by rw [hn, decide_eq_true hgt]; simp)
                      clear hgt
                      refine region_c (fun W => Below w12.heap.size w12 W) (by kernel_rfl) (by kernel_rfl) (Xj.below_drew0 w12) ?_
                      repeat (first
                            | go_big_quiet_skip
                            | (go_big_quiet_want; refine q_ex ?_; apply Exists.intro; refine ⟨fun W hW => ?_, ?_⟩; (obtain ⟨m0, m1, m2, m3, m4, m5⟩ := HSC.out W hW; go_simp; done); go_big_quiet_on; simp only [Act.put, List.setIfInBounds_toArray, List.set_cons_succ, List.set_cons_zero]; (try simp only [hb]))
                            | (go_big_quiet_want; refine q_ex ?_; apply Exists.intro; refine ⟨fun W hW => ?_, ?_⟩; (obtain ⟨m0, m1, m2, m3, m4, m5⟩ := HSC.out W hW; go_simp; rfl); go_big_quiet_on; simp only [Act.put, List.setIfInBounds_toArray, List.set_cons_succ, List.set_cons_zero]; (try simp only [hb]))
                            | (go_big_quiet_want; refine q_call 77 #[.string ⟨x.toArray⟩] (.bool true) (fun W hW => ?_) (fun W hW => (HQ.out W).mono fun e w' h => ⟨h.1, hW.trans (h.2.mono hW.size)⟩) ?_; (obtain ⟨m0, m1, m2, m3, m4, m5⟩ := HSC.out W hW; go_simp); go_big_quiet_on; simp only [Act.put, List.setIfInBounds_toArray, List.set_cons_succ, List.set_cons_zero]; (try simp only [hb]))
                            | (go_big_quiet_want; refine q_call 51 #[.agg #[.string ⟨n.toArray⟩, .int .i64 (bn : Int), .slice Av pl.length cv, .slice Ag gs.length cg]] (.int .i64 nx) (fun W hW => ?_) (fun W hW => (HRN.out W).mono fun e w' h => ⟨h.1, hW.trans (h.2.mono hW.size)⟩) ?_; (obtain ⟨m0, m1, m2, m3, m4, m5⟩ := HSC.out W hW; go_simp); go_big_quiet_on; simp only [Act.put, List.setIfInBounds_toArray, List.set_cons_succ, List.set_cons_zero]; (try simp only [hb])))
                      refine wpQuiet_nil ?_
                      intro w13 hb13
                      go_wp2_with fail
                      go_meet
                      exact ⟨by rw [HE.out], hb13⟩
                    · have hb : (!Op.bytesLess x la && !x == la) = false := by rw [gtr_eq]; exact decide_eq_false hgt
                      have HE : Hid ((true && (name x && decide (la < x) && decide ((pn : Int) ≤ nx))) = false) := Lib.hid (by rw [decide_eq_false hgt]; simp)
                      clear hgt
                      refine region_c (fun W => Below w12.heap.size w12 W) (by kernel_rfl) (by kernel_rfl) (Xj.below_drew0 w12) ?_
                      repeat (first
                            | go_big_quiet_skip
                            | (go_big_quiet_want; refine q_ex ?_; apply Exists.intro; refine ⟨fun W hW => ?_, ?_⟩; (obtain ⟨m0, m1, m2, m3, m4, m5⟩ := HSC.out W hW; go_simp; done); go_big_quiet_on; simp only [Act.put, List.setIfInBounds_toArray, List.set_cons_succ, List.set_cons_zero]; (try simp only [hb]))
                            | (go_big_quiet_want; refine q_ex ?_; apply Exists.intro; refine ⟨fun W hW => ?_, ?_⟩; (obtain ⟨m0, m1, m2, m3, m4, m5⟩ := HSC.out W hW; go_simp; rfl); go_big_quiet_on; simp only [Act.put, List.setIfInBounds_toArray, List.set_cons_succ, List.set_cons_zero]; (try simp only [hb]))
                            | (go_big_quiet_want; refine q_call 77 #[.string ⟨x.toArray⟩] (.bool true) (fun W hW => ?_) (fun W hW => (HQ.out W).mono fun e w' h => ⟨h.1, hW.trans (h.2.mono hW.size)⟩) ?_; (obtain ⟨m0, m1, m2, m3, m4, m5⟩ := HSC.out W hW; go_simp); go_big_quiet_on; simp only [Act.put, List.setIfInBounds_toArray, List.set_cons_succ, List.set_cons_zero]; (try simp only [hb]))
                            | (go_big_quiet_want; refine q_call 51 #[.agg #[.string ⟨n.toArray⟩, .int .i64 (bn : Int), .slice Av pl.length cv, .slice Ag gs.length cg]] (.int .i64 nx) (fun W hW => ?_) (fun W hW => (HRN.out W).mono fun e w' h => ⟨h.1, hW.trans (h.2.mono hW.size)⟩) ?_; (obtain ⟨m0, m1, m2, m3, m4, m5⟩ := HSC.out W hW; go_simp); go_big_quiet_on; simp only [Act.put, List.setIfInBounds_toArray, List.set_cons_succ, List.set_cons_zero]; (try simp only [hb])))
                      refine wpQuiet_nil ?_
                      intro w13 hb13
                      go_wp2_with fail
                      go_meet
                      exact ⟨by rw [HE.out], hb13⟩
                  · have hn := Bool.eq_false_iff.2 hn
                    rw [hn] at HQ0
                    have HQ := Lib.hid HQ0
                    have HE : Hid ((true && (name x && decide (la < x) && decide ((pn : Int) ≤ nx))) = false) := Lib.hid (by rw [hn]; simp)
                    clear HQ0
                    refine region_c (fun W => Below w12.heap.size w12 W) (by kernel_rfl) (by kernel_rfl) (Xj.below_drew0 w12) ?_
                    repeat (first
                          | go_big_quiet_skip
                          | (go_big_quiet_want; refine q_ex ?_; apply Exists.intro; refine ⟨fun W hW => ?_, ?_⟩; (obtain ⟨m0, m1, m2, m3, m4, m5⟩ := HSC.out W hW; go_simp; done); go_big_quiet_on; simp only [Act.put, List.setIfInBounds_toArray, List.set_cons_succ, List.set_cons_zero]; (try simp only [hb]))
                          | (go_big_quiet_want; refine q_ex ?_; apply Exists.intro; refine ⟨fun W hW => ?_, ?_⟩; (obtain ⟨m0, m1, m2, m3, m4, m5⟩ := HSC.out W hW; go_simp; rfl); go_big_quiet_on; simp only [Act.put, List.setIfInBounds_toArray, List.set_cons_succ, List.set_cons_zero]; (try simp only [hb]))
                          | (go_big_quiet_want; refine q_call 77 #[.string ⟨x.toArray⟩] (.bool false) (fun W hW => ?_) (fun W hW => (HQ.out W).mono fun e w' h => ⟨h.1, hW.trans (h.2.mono hW.size)⟩) ?_; (obtain ⟨m0, m1, m2, m3, m4, m5⟩ := HSC.out W hW; go_simp); go_big_quiet_on; simp only [Act.put, List.setIfInBounds_toArray, List.set_cons_succ, List.set_cons_zero]; (try simp only [hb]))
                          | (go_big_quiet_want; refine q_call 51 #[.agg #[.string ⟨n.toArray⟩, .int .i64 (bn : Int), .slice Av pl.length cv, .slice Ag gs.length cg]] (.int .i64 nx) (fun W hW => ?_) (fun W hW => (HRN.out W).mono fun e w' h => ⟨h.1, hW.trans (h.2.mono hW.size)⟩) ?_; (obtain ⟨m0, m1, m2, m3, m4, m5⟩ := HSC.out W hW; go_simp); go_big_quiet_on; simp only [Act.put, List.setIfInBounds_toArray, List.set_cons_succ, List.set_cons_zero]; (try simp only [hb])))
                    refine wpQuiet_nil ?_
                    intro w13 hb13
                    go_wp2_with fail
                    go_meet
                    exact ⟨by rw [HE.out], hb13⟩
                · have ho := Bool.eq_false_iff.2 ho
                  subst ho
                  go_quiet (fail)
                  go_wp2_with fail
                  go_meet
                  exact ⟨by simp, below_drewN (Below.refl _ _) _⟩
              case rest =>
                obtain ⟨rfl, hb13⟩ := hcut
                generalize wc = w13 at *
                have HTd := Lib.hid (HTc.out.later hb13)
                have hbx3 := HBX2.out.below hb13 HBX2.out.lt
                clear q0 q1 hb13
                have q0 := hbx3.cell 0
                have q1 := hbx3.cell 1
                have x3 := HTd.out.box.cell 3
                have f3 := HTd.out.box.frozen 3
                simp only [List.getElem?_toArray, List.getElem?_cons_zero, List.getElem?_cons_succ] at q0 q1 x3
                have HLT : Hid (∀ (A7 : Option Addr) (c7 : Nat) (w14 : World), Appended (w13.alloc (.cells #[.string ⟨x.toArray⟩, .int .i64 (pn : Int)] 76)) w.heap.size 76 2 (.slice Ag gs.length cg) (gs.length + 1) (GCs gs ++ GCs [⟨x, (pn : Int)⟩]) (.slice A7 (gs.length + 1) c7) w14 → TR w X g w.heap.size gx n (bn : Int) pl (gs ++ [⟨x, (pn : Int)⟩]) (.slice Av pl.length cv) (.slice A7 (gs.length + 1) c7) s7 (w14.setCell ⟨gx, 3, none⟩ (.slice A7 (gs.length + 1) c7)) ∧ Blk w14 gx 74 #[.string ⟨n.toArray⟩, .int .i64 (bn : Int), .slice Av pl.length cv, .slice Ag gs.length cg]) := Lib.hid (fun A7 c7 w14 happ => by
                  have ht := HTd.out.later (Xr.op_below w13 (.cells #[.string ⟨x.toArray⟩, .int .i64 (pn : Int)] 76))
                  exact ⟨ht.grp happ, ht.box.ch (Kw.Ch.of_grown happ.2.1 (fun q hq _ => hq) : Kw.Ch (fun q => (Value.slice Ag gs.length cg).ownBlock = some q) _ w14) (own_far ht.gown ht.box (by decide))⟩)
                have HOWN := Lib.hid HTd.out.gown
                have hsz := HTd.out.ch.size
                have hgl8 : gs.length ≤ 8 := by omega
                clear hbx3
                go_wp2_with (at_builtin; refine wpList_append_sh _ rfl (.tmp 92) (.tmp 94) _ rfl w.heap.size 76 j0 _ 2 24 Tryz.underlying72 hj0 hy0 hy1 hy2 rfl (by omega) (.slice Ag gs.length cg) gs.length (GCs gs) rfl (HOWN.out.alloc _) (fun _ => False) _ 1 (GCs [⟨x, (pn : Int)⟩]) rfl (Xu.group_lit w13 x (pn : Int)) (Xu.GCs_one _) (by simp only [maxLen]; omega) (by omega) (by simp; omega) ?_; intro A7 c7 w14 happ; have h5 := HLT.out A7 c7 w14 happ; have HT14 := Lib.hid h5.1; have u3 := h5.2.cell 3; have uf := h5.2.frozen 3; simp only [List.getElem?_toArray, List.getElem?_cons_zero, List.getElem?_cons_succ] at u3; clear happ h5 x3 f3 q0 q1)
                go_roundw
                case rel => exact ⟨k + 1, gs ++ [⟨x, (pn : Int)⟩], _, s7, by go_num, by omega, by simp; omega, by rw [lastN_snoc], by rw [okGs_snoc, HOKC.out, HLA.out, Bool.and_assoc]; rfl, by simpa using HT14.out, (show R2 = manyS gpS (N2 - (k + 1)) s7 (gs ++ [⟨x, (pn : Int)⟩]) from HM.out), HS7.out⟩
                case measure => simp [intOf]; omega
            · have hkN : (N2 : Int) ≤ (k : Int) := by omega
              have HE : Hid (R2 = (gs, s')) := Lib.hid (by rw [HRR.out, manyS_stop _ (.inr (by omega))])
              clear hs hsl
              go_wp2_with fail
              go_meet
              exact ⟨gs, _, s', rfl, HT.out, HE.out, HSL.out⟩
          · have es : (s'.2 == 0) = false := beq_eq_false_iff_ne.2 hs
            have HE : Hid (R2 = (gs, s')) := Lib.hid (by rw [HRR.out, manyS_stop _ (.inl hs)])
            clear hs hsl
            by_cases hkn : k < N2
            · have hkN : (k : Int) < (N2 : Int) := by omega
              go_wp2_with fail
              go_meet
              exact ⟨gs, _, s', rfl, HT.out, HE.out, HSL.out⟩
            · have hkN : (N2 : Int) ≤ (k : Int) := by omega
              go_wp2_with fail
              go_meet
              exact ⟨gs, _, s', rfl, HT.out, HE.out, HSL.out⟩
      case rest =>
        obtain ⟨gs, vg, s', rfl, ht, hR2, hsl⟩ := hcut
        have HSL := Lib.hid hsl
        clear hsl
        generalize wc = w9 at *
        obtain ⟨Ag, cg, rfl⟩ := own_shape ht.gown
        have HT9 := Lib.hid ht
        have hbx := ht.box
        have hrs := ht.res
        have x0 := hbx.cell 0
        have x1 := hbx.cell 1
        have x2 := hbx.cell 2
        have x3 := hbx.cell 3
        have r0 := hrs.cell 0
        have r1 := hrs.cell 1
        have r2 := hrs.cell 2
        have r3 := hrs.cell 3
        have f0 := hrs.frozen 0
        have f1 := hrs.frozen 1
        have f2 := hrs.frozen 2
        have f3 := hrs.frozen 3
        simp only [List.getElem?_toArray, List.getElem?_cons_zero, List.getElem?_cons_succ] at x0 x1 x2 x3 r0 r1 r2 r3
        have HRS := Lib.hid hrs
        rw [hR2] at HQ
        simp only at HQ
        clear ht hbx hrs hR2
        go_wp2_with fail
        refine bodyPost_ret (Ck.results_row_tmp rfl _ _ w.heap.size 74 #[.string ⟨n.toArray⟩, .int .i64 (bn : Int), .slice Av pl.length cv, .slice Ag gs.length cg] (0, 0) _ rfl (blk4 HRS.out) Tryz.underlying74 rfl size_top) rfl ?_
        have ct := four_ch w9 w.heap.size (.string ⟨n.toArray⟩) (.int .i64 (bn : Int)) (.slice Av pl.length cv) (.slice Ag gs.length cg)
        have hF := tr_res HT9.out ct
        rw [HQ.out]
        refine ⟨_, _, ?_, hF.1, hF.2.1, hF.2.2, HSL.out⟩
        have hoT : okT ⟨n, (bn : Int), pl.map (·.1), gs⟩ = (ok0 && okGs nx [] gs) := by
          rw [okT, HOK0.out, HNX.out]
          simp only [Tp.next, List.length_map, maxNum]
        rw [hoT]
        rfl
end Go.Proofs.YtkoedonllfmaaaaGreat.Xad

/-
  Layer 7: the document's trim (within does).
-/
import Derived.Test.YtkoedonllfmaaaaGreatVD24
import Derived.Deep.DeepCutAuto
namespace Go.Proofs.YtkoedonllfmaaaaGreat.Xx
set_option linter.unusedSimpArgs false
open Go Go.RowKit Ck Kw Ga Kf Km Pm Pe Pz Py Tm Tn Tq Ah Ta Tb Td Xa Xr Xs Xu Ph Xw
attribute [local go_sem ↓] Go.wp_at_zero Go.wp_at_succ
set_option linter.unusedVariables false
set_option maxRecDepth 100000

def trT (L : List Tp) (i : Nat) (t : Tp) (off : Int) : (Int × Int) × List Tp :=
  if off < t.base ∨ t.next < off then ((72, 0), L) else ((0, off), L.set i { t with base := off, recs := t.recs.drop (off - t.base).toNat })
theorem does_tri {L : List Tp} {topic group : Tx} {off : Int} {recs : List Tx} {i : Nat} {t : Tp} (hg : GoodL L) (hz : check ⟨4, topic, group, off, recs⟩ = 0) (hf : findT L topic = some t) (hi : L[i]? = some t) : doesS L ⟨4, topic, group, off, recs⟩ = ((trT L i t off).1, [], (trT L i t off).2) := by
  obtain ⟨-, hn⟩ := findT_some hf
  rw [doesS, if_neg (by omega), if_neg (by simp), if_neg (by simp)]
  simp only [hf, trT]
  rw [if_neg (by simp), if_neg (by simp)]
  split
  · rfl
  · rw [← hn, upd_set hg.rises hi]
theorem rslice_from (A : Option Addr) (n c k : Nat) (hk : k ≤ n) (hc : n ≤ c) : ∃ A', (∀ W : World, (Instr.slice 36 (.slice A n c) (some (.int .i64 (k : Int))) none none).run Tryz.prog W = .ok (.slice A' (n - k) (c - k)) W) ∧ (∀ ad, A = some ad → k < n → A' = some (ad.add (k * 1))) := by
  have he : ∀ W : World, (sizeOf (Tryz.prog.elem 36)).run Tryz.prog W = .ok 1 W := fun _ => by kernel_rfl
  refine ⟨if c = k then A else A.map (·.add (k * 1)), fun W => ?_, ?_⟩
  · rw [run_slice_l W 36 A n c (by kernel_rfl) .i64 k (by omega) (by omega), he]
    rfl
  · rintro ad rfl hlt
    rw [if_neg (by omega)]
    rfl
/-- A topic's records and its base are turned, and the result is written. -/
theorem rtrim_end {w w1 W : World} {S : Nat → Prop} {q i g cl B : Nat} {m : St} {l : List Tw} {ad : Addr} {t' : Tp} {recs : List Tx} {off : Int} {vals : List Value} {rv gv v u1 u2 : Value} (hL : l.map (·.1) = m.L) (hP : TParts w (fun k => S k ∧ k < w.heap.size) q l m.last (.slice (some ad) l.length cl)) (had : ad = ⟨ad.block, 0, none⟩) (hi : i < l.length) (hx : l[i] = (t', rv, gv))
    (hw : Below w.heap.size w w1) (hg0 : w.heap.size ≤ g) (hg1 : g < w1.heap.size) (hb : Below w1.heap.size w1 W) (hB : w1.heap.size ≤ B) (ho : W.ownsRow B 55 1 v recs.length vals)
    (hv : ∀ j (hj : j < recs.length), ∃ u, vals[j]? = some u ∧ Sl w (fun k => ¬ (S k ∧ k < w.heap.size) ∨ k = q ∨ some ad.block = some k) 1 u recs[j].length (BVs recs[j])) :
    RDone S q ⟨m.L.set i { t' with base := off, recs := recs }, m.last⟩ w ((((W.setCell ⟨ad.block, i * 4 + 2, none⟩ v).setCell ⟨ad.block, i * 4 + 1, none⟩ (.int .i64 off)).setCell ⟨g, 0, none⟩ u1).setCell ⟨g, 1, none⟩ u2) := by
  have hq := hP.blk.lt
  have s1 := hw.size
  have s2 := hb.size
  have hadl := hP.slv ad.block rfl
  have hadl2 : ad.block < w.heap.size := hadl.2
  have htw := hP.each l[i] (List.getElem_mem hi)
  rw [hx] at htw
  have hY : ∀ b, b < w.heap.size → (¬ (Up (fun k => S k ∧ k < w.heap.size) w1 W b) ∨ b = q ∨ some ad.block = some b) → (¬ (S b ∧ b < w.heap.size) ∨ b = q ∨ some ad.block = some b) := fun b hb h => by
    rcases h with h | h
    · exact .inl (fun hs => h (.inl hs))
    · exact .inr h
  have hx1 : TwOk W (fun k => ¬ (Up (fun k => S k ∧ k < w.heap.size) w1 W k) ∨ k = q ∨ some ad.block = some k) (({ t' with recs := recs } : Tp), v, gv) := by
    refine ⟨⟨vals, Sl.of_own ho (fun k h1 h2 h => ?_), fun j hj => ?_⟩, ((htw.gs.weaken hY).after hw).after hb⟩
    · rcases h with h | h | h
      · exact h (.inr ⟨by omega, h2⟩)
      · omega
      · injection h with h; omega
    · obtain ⟨u, h1, h2⟩ := hv j hj
      exact ⟨u, h1, ((h2.weaken hY).after hw).after hb⟩
  have hp1 := tparts_put (x' := (({ t' with recs := recs } : Tp), v, gv)) (v := v) (j := 2) (hP.later hw) had hi (by omega) hb (by rw [hx]; rfl) hx1
  generalize hW1 : W.setCell ⟨ad.block, i * 4 + 2, none⟩ v = W1 at *
  have hsz1 : W1.heap.size = W.heap.size := by rw [← hW1]; simp
  have hlen : l.length = (l.set i ((({ t' with recs := recs } : Tp), v, gv) : Tw)).length := by simp
  rw [hlen] at hp1
  have hmem : ((({ t' with recs := recs } : Tp), v, gv) : Tw) ∈ l.set i ((({ t' with recs := recs } : Tp), v, gv) : Tw) := List.mem_iff_getElem.2 ⟨i, by simpa using hi, by simp⟩
  have he1 := hp1.each _ hmem
  have hx2 : TwOk W1 (fun k => ¬ (Up (Up (fun k => S k ∧ k < w.heap.size) w1 W1) W1 W1 k) ∨ k = q ∨ some ad.block = some k) (({ t' with base := off, recs := recs } : Tp), v, gv) := by
    have hz : ∀ b, b < W1.heap.size → (¬ (Up (Up (fun k => S k ∧ k < w.heap.size) w1 W1) W1 W1 b) ∨ b = q ∨ some ad.block = some b) → (¬ (Up (fun k => S k ∧ k < w.heap.size) w1 W1 b) ∨ b = q ∨ some ad.block = some b) := fun b _ h => by
      rcases h with h | h
      · exact .inl (fun hs => h (.inl hs))
      · exact .inr h
    exact ⟨he1.recs.weaken hz, he1.gs.weaken hz⟩
  have hp2 := tparts_put (x' := (({ t' with base := off, recs := recs } : Tp), v, gv)) (v := .int .i64 off) (j := 1) hp1 had (by simpa using hi) (by omega) (Below.refl _ W1) (by rw [List.getElem_set_self]; rfl) hx2
  have hmap : ((l.set i ((({ t' with recs := recs } : Tp), v, gv) : Tw)).set i ((({ t' with base := off, recs := recs } : Tp), v, gv) : Tw)).map (·.1) = m.L.set i { t' with base := off, recs := recs } := by rw [List.set_set, List.map_set, hL]
  have c0 : Ch (fun k => k = ad.block) W W1 := by rw [← hW1]; exact (Ch.refl (fun k => k = ad.block) W).setCell (p := ⟨ad.block, i * 4 + 2, none⟩) (fun _ => rfl) _
  generalize hW2 : W1.setCell ⟨ad.block, i * 4 + 1, none⟩ (.int .i64 off) = W2 at *
  have hsz2 : W2.heap.size = W1.heap.size := by rw [← hW2]; simp
  have c1 : Ch (fun k => k = ad.block) W1 W2 := by rw [← hW2]; exact (Ch.refl (fun k => k = ad.block) W1).setCell (p := ⟨ad.block, i * 4 + 1, none⟩) (fun _ => rfl) _
  have cr := two_ch W2 g u1 u2
  have hsz3 : ((W2.setCell ⟨g, 0, none⟩ u1).setCell ⟨g, 1, none⟩ u2).heap.size = W2.heap.size := by simp
  refine ⟨⟨_, _, hmap, (hp2.ch cr (fun k hk e => ?_)).up (fun k hk => ?_)⟩, ?_⟩
  · rcases hk with (hk | hk) | hk <;> omega
  · rcases hk with (hk | hk) | hk
    · exact .inl hk.1
    · exact .inr ⟨by omega, by rw [hsz3]; omega⟩
    · exact .inr ⟨by omega, by rw [hsz3]; exact hk.2⟩
  · have d1 : Ch (fun k => k = ad.block) w W := (Ch.of_below (S := fun k => k = ad.block) hw (Nat.le_refl _)).trans (Ch.of_below (S := fun k => k = ad.block) hb (Nat.le_refl _)) (fun k _ h => h)
    have d2 := (d1.trans c0 (fun k _ h => h)).trans c1 (fun k _ h => h)
    exact (d2.trans cr (fun k hk h => by omega)).mono (fun k _ h => by rw [h]; exact hadl.1)
/-- The same, behind a draw, and said of the records that are left. -/
theorem rtrim_fin {w v1 w7 : World} {S : Nat → Prop} {q i g cl d : Nat} {m : St} {l : List Tw} {ad : Addr} {t' : Tp} {off : Int} {vs : List Value} {rv gv v u1 u2 : Value} (hL : l.map (·.1) = m.L) (hP : TParts w (fun k => S k ∧ k < w.heap.size) q l m.last (.slice (some ad) l.length cl)) (had : ad = ⟨ad.block, 0, none⟩) (hi : i < l.length) (hx : l[i] = (t', rv, gv))
    (hw : Below w.heap.size w v1) (hg0 : w.heap.size ≤ g) (hg1 : g < v1.heap.size) (hb : Below v1.heap.size v1 w7) (ho : w7.ownsRow v1.heap.size 55 1 v (t'.recs.length - d) (vs.drop d))
    (hv : ∀ j (hj : j < t'.recs.length), ∃ u, vs[j]? = some u ∧ Sl w (fun k => ¬ (S k ∧ k < w.heap.size) ∨ k = q ∨ (Value.slice (some ad) l.length cl).ownBlock = some k) 1 u t'.recs[j].length (BVs t'.recs[j])) (hl : vs.length = t'.recs.length) :
    RDone S q ⟨m.L.set i { t' with base := off, recs := t'.recs.drop d }, m.last⟩ w (((((w7.setCell ⟨ad.block, i * 4 + 2, none⟩ v).drew).setCell ⟨ad.block, i * 4 + 1, none⟩ (.int .i64 off)).setCell ⟨g, 0, none⟩ u1).setCell ⟨g, 1, none⟩ u2) := by
  have h := rtrim_end (W := w7.drew) (off := off) (recs := t'.recs.drop d) (u1 := u1) (u2 := u2) hL hP had hi hx hw hg0 hg1 (below_drewN hb 1) (Nat.le_refl _) (by rw [List.length_drop]; exact own_below ho (Xj.below_drew0 w7)) (fun j hj => by
    rw [List.length_drop] at hj
    obtain ⟨u, h1, h2⟩ := hv (d + j) (by omega)
    refine ⟨u, by rw [List.getElem?_drop]; exact h1, ?_⟩
    have e : (t'.recs.drop d)[j]'(by rw [List.length_drop]; exact hj) = t'.recs[d + j]'(by omega) := by rw [List.getElem_drop]
    rw [e]
    exact h2)
  exact h
set_option maxHeartbeats 4000000 in
theorem rdoes_4 (w : World) (S : Nat → Prop) (q : Nat) (m : St) (o : O) (X : Nat → Prop) (A : Option Addr) (c : Nat) (h : Tk w S q m) (hg : GoodL m.L) (hls : Ls w X (.slice A o.recs.length c) o.recs) (hl : o.recs.length ≤ 140737488355328) (hz : check o = 0) (hk : o.kind = 4) (t : Tp) (hf : findT m.L o.topic = some t) :
    Calls Tryz.prog 21 #[.pointer (some ⟨q, 0, none⟩), .agg #[.int .i64 o.kind, .string ⟨o.topic.toArray⟩, .string ⟨o.group.toArray⟩, .int .i64 o.off, .slice A o.recs.length c]] w (Did S q m o w) := by
  obtain ⟨kind, topic, group, off, recs⟩ := o
  simp only at hk
  subst hk
  simp only at hf
  have H := Lib.hid h
  have hb2 : Below w.heap.size w ((w.alloc (.cells #[.int .i64 4, .string ⟨topic.toArray⟩, .string ⟨group.toArray⟩, .int .i64 off, .slice A recs.length c] 38)).alloc (.cells #[.int .i64 0, .int .i64 0] 30)) := (op_below w _).trans ((op_below _ _).mono (by simp))
  have hs2 : w.heap.size + 1 < ((w.alloc (.cells #[.int .i64 4, .string ⟨topic.toArray⟩, .string ⟨group.toArray⟩, .int .i64 off, .slice A recs.length c] 38)).alloc (.cells #[.int .i64 0, .int .i64 0] 30)).heap.size := by simp
  have HPD := Lib.hid (pd_new w ⟨4, topic, group, off, recs⟩ A c)
  have HT := Lib.hid (h.bound.later hb2)
  have HLS := Lib.hid (hls.after hb2)
  have HG := Lib.hid hg
  have HB := Lib.hid (And.intro hb2 hs2)
  have HCK := Lib.hid (rcheck_any ⟨4, topic, group, off, recs⟩ (.agg #[.int .i64 4, .string ⟨topic.toArray⟩, .string ⟨group.toArray⟩, .int .i64 off, .slice A recs.length c]) X ((w.alloc (.cells #[.int .i64 4, .string ⟨topic.toArray⟩, .string ⟨group.toArray⟩, .int .i64 off, .slice A recs.length c] 38)).alloc (.cells #[.int .i64 0, .int .i64 0] 30)) ⟨A, c, rfl, HLS.out⟩ hl)
  have HE : Hid (∀ i, m.L[i]? = some t → doesS m.L ⟨4, topic, group, off, recs⟩ = ((trT m.L i t off).1, [], (trT m.L i t off).2)) := Lib.hid (fun i hi => does_tri hg hz hf hi)
  have HF := Lib.hid hf
  clear hf
  rw [hz] at HCK
  obtain ⟨l, lv, hL, hP⟩ := h.bound
  have hl8 : l.length ≤ 8 := by rw [← rows_len hL]; exact hg.few
  obtain ⟨Al, cl, rfl, hlc⟩ := hP.shape
  have HL := Lib.hid hL
  have HP := Lib.hid hP
  clear hL hP
  clear h hls hb2 hs2 hg
  have o0 := HPD.out.op.cell 0
  have o1 := HPD.out.op.cell 1
  have o2 := HPD.out.op.cell 2
  have o3 := HPD.out.op.cell 3
  have o4 := HPD.out.op.cell 4
  simp only [List.getElem?_toArray, List.getElem?_cons_zero, List.getElem?_cons_succ] at o0 o1 o2 o3 o4
  (try dsimp only at HCK HE o0 o1 o2 o3 o4)
  go_enter Tryz.func21, Tryz.ntmps21
  go_wp2_with fail
  generalize ((w.alloc (.cells #[.int .i64 4, .string ⟨topic.toArray⟩, .string ⟨group.toArray⟩, .int .i64 off, .slice A recs.length c] 38)).alloc (.cells #[.int .i64 0, .int .i64 0] 30)) = w2 at *
  refine HCK.out.mono ?_
  rintro e w3 ⟨rfl, hb3⟩
  have HPD3 := Lib.hid (HPD.out.later hb3)
  have HT3 := Lib.hid (HT.out.later hb3)
  have HB3 : Hid (Below w.heap.size w w3 ∧ w.heap.size + 1 < w3.heap.size) := Lib.hid ⟨HB.out.1.trans (hb3.mono HB.out.1.size), by have := HB.out.2; have := hb3.size; omega⟩
  have HLS3 := Lib.hid (HLS.out.after hb3)
  clear hb3 o0 o1 o2 o3 o4
  have o0 := HPD3.out.op.cell 0
  have o1 := HPD3.out.op.cell 1
  have o2 := HPD3.out.op.cell 2
  have o3 := HPD3.out.op.cell 3
  have o4 := HPD3.out.op.cell 4
  simp only [List.getElem?_toArray, List.getElem?_cons_zero, List.getElem?_cons_succ] at o0 o1 o2 o3 o4
  (try dsimp only at o0 o1 o2 o3 o4)
  have HAT := Lib.hid (rat_any w3 _ q m topic HT3.out HG.out.few)
  go_wp2_with fail
  refine HAT.out.mono ?_
  rintro e w' ⟨⟨z, rfl, hzz⟩, rfl⟩
  obtain ⟨i, hi, rfl⟩ : ∃ i : Nat, m.L[i]? = some t ∧ z = i := by
    rcases hzz with ⟨i, f', h1, h2, h3⟩ | ⟨h1, _⟩
    · rw [HF.out] at h1; injection h1 with h1; exact ⟨i, h1 ▸ h2, h3⟩
    · rw [HF.out] at h1; cases h1
  clear hzz
  have hi0 : (0 : Int) ≤ (i : Int) := by omega
  have HI := Lib.hid hi
  obtain ⟨hlt, hli⟩ := row_of HL.out hi
  have hft : FitT t := HG.out.fit t (by obtain ⟨hh, e⟩ := List.getElem?_eq_some_iff.1 hi; rw [← e]; exact List.getElem_mem hh)
  obtain ⟨ad, e0, had, hadq, hat⟩ := (HP.out.later HB3.out.1).at_ hlt
  subst e0
  have c0 : w3.cell? ⟨q, 0, none⟩ = some (.slice (some ad) l.length cl) := by have := (HP.out.blk.below HB3.out.1 HP.out.blk.lt).cell 0; simpa using this
  have htw := HP.out.each l[i] (List.getElem_mem hlt)
  obtain ⟨vs, hvl, hvr⟩ := htw.recs
  obtain ⟨Ar, cr, hrv, -, hcr, -⟩ := id hvl
  obtain ⟨Ag, cg, hgv, -⟩ := id htw.gs
  generalize hx : l[i] = x at *
  obtain ⟨t', rv, gv⟩ := x
  simp only at hli hrv hgv htw hvl hvr
  subst hli hrv hgv
  obtain ⟨a0, a1, a2, a3, f0, f1, f2, f3⟩ := hat
  simp only at a0 a1 a2 a3
  have HX := Lib.hid hx
  have HAD := Lib.hid had
  have HVR := Lib.hid hvr
  have HVL := Lib.hid (show Sl w (fun _ => False) 1 (.slice Ar t'.recs.length cr) t'.recs.length vs from hvl.weaken (fun _ _ h => h.elim))
  have h1v : ∀ u ∈ vs, u.oneCell' = true := fun u hu => by
    obtain ⟨j, hj, rfl⟩ := List.getElem_of_mem hu
    obtain ⟨_, _, _, hvlen, _⟩ := id hvl
    obtain ⟨u', hu', hs⟩ := hvr j (by omega)
    rw [List.getElem?_eq_getElem hj] at hu'
    injection hu' with e
    rw [e]
    obtain ⟨_, _, e2, _⟩ := hs
    rw [e2]
    rfl
  have H1V := Lib.hid h1v
  have hn0 := hft.base
  have hn1 := hft.next
  have HRN := Lib.hid fun (W : World) => rnext_any W t'.n Ar cr (.slice Ag t'.gs.length cg) t' hn0 hft.next
  have hfew := hft.few
  simp only [maxNum] at hn1
  have hil : (i : Int) < (l.length : Int) := by omega
  have hnx : t'.next = t'.base + (t'.recs.length : Int) := rfl
  clear hx had hvl hvr h1v htw hadq f0 f1 f2 f3 hi
  have HT4 : Hid (Blk (w3.alloc (.cells #[.string ⟨t'.n.toArray⟩, .int .i64 t'.base, .slice Ar t'.recs.length cr, .slice Ag t'.gs.length cg] 74)) w3.heap.size 74 #[.string ⟨t'.n.toArray⟩, .int .i64 t'.base, .slice Ar t'.recs.length cr, .slice Ag t'.gs.length cg]) := Lib.hid (Blk.new w3 _ _)
  have HB4 := Lib.hid (op_below w3 (.cells #[.string ⟨t'.n.toArray⟩, .int .i64 t'.base, .slice Ar t'.recs.length cr, .slice Ag t'.gs.length cg] 74))
  have HO4 := Lib.hid (HPD3.out.later HB4.out)
  by_cases y : off < t'.base ∨ t'.next < off
  · have y := Lib.hid y
    go_wp2_with fail
    generalize hw4 : w3.alloc (.cells #[.string ⟨t'.n.toArray⟩, .int .i64 t'.base, .slice Ar t'.recs.length cr, .slice Ag t'.gs.length cg] 74) = w4 at *
    clear hw4
    have SW : ∀ W : World, Below w4.heap.size w4 W → W.cell? ⟨w.heap.size, 3, none⟩ = some (.int .i64 off) ∧ W.cell? ⟨w3.heap.size, 0, none⟩ = some (.string ⟨t'.n.toArray⟩) ∧ W.cell? ⟨w3.heap.size, 1, none⟩ = some (.int .i64 t'.base) ∧ W.cell? ⟨w3.heap.size, 2, none⟩ = some (.slice Ar t'.recs.length cr) ∧ W.cell? ⟨w3.heap.size, 3, none⟩ = some (.slice Ag t'.gs.length cg) := fun W h => by
      have hp := HO4.out.later h
      have ht := HT4.out.below h HT4.out.lt
      have x3 := hp.op.cell 3
      have y0 := ht.cell 0
      have y1 := ht.cell 1
      have y2 := ht.cell 2
      have y3 := ht.cell 3
      simp only [List.getElem?_toArray, List.getElem?_cons_zero, List.getElem?_cons_succ] at x3 y0 y1 y2 y3
      exact ⟨x3, y0, y1, y2, y3⟩
    obtain ⟨p3, p4, p5, p6, p7⟩ := SW w4 (Below.refl _ _)
    have HSW := Lib.hid SW
    clear SW
    by_cases y1 : off < t'.base
    · have HTR : Hid (trT m.L i t' off = ((72, 0), m.L)) := Lib.hid (by rw [trT, if_pos (.inl y1)])
      go_quiet (fail)
      go_wp2_with fail
      generalize hWA : w4.drewN _ = WA
      have HBA : Hid (Below w4.heap.size w4 WA) := Lib.hid (hWA ▸ below_drewN (Below.refl _ w4) _)
      clear hWA
      refine (rbad_any _ 72).mono ?_
      rintro e wb ⟨rfl, hbb⟩
      have HPC := Lib.hid ((HO4.out.later HBA.out).later (W := WA) hbb)
      have HBC := Lib.hid (((HB3.out.1.trans (HB4.out.mono HB3.out.1.size)).trans (HBA.out.mono (by have := HB3.out.1.size; have := HB4.out.size; omega))).trans (hbb.mono (by have := HB3.out.1.size; have := HB4.out.size; have := HBA.out.size; omega)))
      clear hbb
      have q0 := HPC.out.res.cell 0
      have q1 := HPC.out.res.cell 1
      have qf0 := HPC.out.res.frozen 0
      have qf1 := HPC.out.res.frozen 1
      simp only [List.getElem?_toArray, List.getElem?_cons_zero, List.getElem?_cons_succ] at q0 q1
      go_wp2_with fail
      refine bodyPost_ret (Ck.results_row_tmp rfl _ _ (w.heap.size + 1) 30 #[.int .i64 72, .int .i64 0] (0, 0) _ rfl (Xr.blk2 HPC.out.res _ _) Tryz.underlying30 rfl Xr.size_res) rfl ?_
      have c3 := two_ch wb (w.heap.size + 1) (.int .i64 72) (.int .i64 0)
      exact did_of (by rw [HE.out _ HI.out, HTR.out]) (Ps.nil _ _) (rdone_below H.out (HBC.out.trans (c3.below (fun k hk h => by omega) HBC.out.size)))
    · have y2 : t'.next < off := y.out.resolve_left y1
      have HTR : Hid (trT m.L i t' off = ((72, 0), m.L)) := Lib.hid (by rw [trT, if_pos (.inr y2)])
      clear hnx
      generalize t'.next = nx at *
      go_region_law (go_simp; go_at_call 51; refine Calls.mono (HRN.out _) ?_; rintro e wn ⟨rfl, hbn⟩; have hbn' : Below w4.heap.size w4 wn := (by first | exact (below_drewN (Below.refl _ w4) _).trans hbn | exact (Xj.below_drew0 w4).trans hbn); have HBN := Lib.hid hbn'; obtain ⟨n3, n4, n5, n6, n7⟩ := HSW.out wn hbn')
      all_goals
        go_wp2_with fail
        refine (rbad_any _ 72).mono ?_
        rintro e wb ⟨rfl, hbb⟩
        have HPC := Lib.hid ((HO4.out.later HBN.out).later (W := wn) hbb)
        have HBC := Lib.hid (((HB3.out.1.trans (HB4.out.mono HB3.out.1.size)).trans (HBN.out.mono (by have := HB3.out.1.size; have := HB4.out.size; omega))).trans (hbb.mono (by have := HB3.out.1.size; have := HB4.out.size; have := HBN.out.size; omega)))
        clear hbb
        have q0 := HPC.out.res.cell 0
        have q1 := HPC.out.res.cell 1
        have qf0 := HPC.out.res.frozen 0
        have qf1 := HPC.out.res.frozen 1
        simp only [List.getElem?_toArray, List.getElem?_cons_zero, List.getElem?_cons_succ] at q0 q1
        go_wp2_with fail
        refine bodyPost_ret (Ck.results_row_tmp rfl _ _ (w.heap.size + 1) 30 #[.int .i64 72, .int .i64 0] (0, 0) _ rfl (Xr.blk2 HPC.out.res _ _) Tryz.underlying30 rfl Xr.size_res) rfl ?_
        have c3 := two_ch wb (w.heap.size + 1) (.int .i64 72) (.int .i64 0)
        exact did_of (by rw [HE.out _ HI.out, HTR.out]) (Ps.nil _ _) (rdone_below H.out (HBC.out.trans (c3.below (fun k hk h => by omega) HBC.out.size)))
  · have y1 : ¬ off < t'.base := fun h => y (.inl h)
    have y2 : ¬ t'.next < off := fun h => y (.inr h)
    clear y
    obtain ⟨d, hd⟩ : ∃ d : Nat, off - t'.base = (d : Int) := ⟨(off - t'.base).toNat, by omega⟩
    have hdl : d ≤ t'.recs.length := by rw [hnx] at y2; omega
    have HTR : Hid (trT m.L i t' off = ((0, off), m.L.set i { t' with base := off, recs := t'.recs.drop d })) := Lib.hid (by rw [trT, if_neg (by rintro (h | h); exact y1 h; exact y2 h), hd]; rfl)
    have z1 : IntKind.i64.wrap (off - t'.base) = (d : Int) := by rw [hd]; exact Ga.wrap64 (by omega) (by omega)
    have hoff : 0 ≤ off ∧ off ≤ 9007199254740992 := by rw [hnx] at y2; omega
    have HD := Lib.hid hd
    clear hd hnx
    obtain ⟨A', hs2, hA'⟩ := rslice_from Ar t'.recs.length cr d hdl hcr
    have HR := Lib.hid (show Sl w (fun _ => False) 1 (.slice A' (t'.recs.length - d) (cr - d)) (t'.recs.length - d) (vs.drop d) from by have := HVL.out.cut (i := d) hdl A' hA'; rwa [Nat.mul_one] at this)
    have hone : ∀ u ∈ vs.drop d, u.oneCell' = true := fun u hu => H1V.out u (List.mem_of_mem_drop hu)
    have HONE := Lib.hid hone
    clear hA' hone
    generalize t'.next = nx at *
    go_upto_region 17 with fail
    generalize hw4 : w3.alloc (.cells #[.string ⟨t'.n.toArray⟩, .int .i64 t'.base, .slice Ar t'.recs.length cr, .slice Ag t'.gs.length cg] 74) = w4 at *
    clear hw4
    have SW : ∀ W : World, Below w4.heap.size w4 W → W.cell? ⟨w.heap.size, 3, none⟩ = some (.int .i64 off) ∧ W.cell? ⟨w3.heap.size, 0, none⟩ = some (.string ⟨t'.n.toArray⟩) ∧ W.cell? ⟨w3.heap.size, 1, none⟩ = some (.int .i64 t'.base) ∧ W.cell? ⟨w3.heap.size, 2, none⟩ = some (.slice Ar t'.recs.length cr) ∧ W.cell? ⟨w3.heap.size, 3, none⟩ = some (.slice Ag t'.gs.length cg) := fun W h => by
      have hp := HO4.out.later h
      have ht := HT4.out.below h HT4.out.lt
      have x3 := hp.op.cell 3
      have y0 := ht.cell 0
      have y1 := ht.cell 1
      have y2 := ht.cell 2
      have y3 := ht.cell 3
      simp only [List.getElem?_toArray, List.getElem?_cons_zero, List.getElem?_cons_succ] at x3 y0 y1 y2 y3
      exact ⟨x3, y0, y1, y2, y3⟩
    obtain ⟨p3, p4, p5, p6, p7⟩ := SW w4 (Below.refl _ _)
    have HSW := Lib.hid SW
    clear SW
    have y1d : decide (off < t'.base) = false := decide_eq_false (by omega)
    have y2d : decide (nx < off) = false := decide_eq_false (by omega)
    have y1n : ¬ off < t'.base := by omega
    have y2n : ¬ nx < off := by omega
    clear y1 y2
    go_cut [68] (fun s68 wx => s68 = .bool false ∧ Below w4.heap.size w4 wx)
    case first =>
      go_region_law (go_simp; go_at_call 51; refine Calls.mono (HRN.out _) ?_; rintro e wn ⟨rfl, hbn⟩; have hbn' : Below w4.heap.size w4 wn := (by first | exact (below_drewN (Below.refl _ w4) _).trans hbn | exact (Xj.below_drew0 w4).trans hbn); have HBN := Lib.hid hbn'; obtain ⟨n3, n4, n5, n6, n7⟩ := HSW.out wn hbn')
      all_goals
        go_wp2_with fail
        go_meet
        exact ⟨rfl, hbn'⟩
    case rest =>
      obtain ⟨rfl, hbc⟩ := hcut
      generalize wc = v1 at *
      have HV1 := Lib.hid hbc
      clear hbc p3 p4 p5 p6 p7
      have HB1 : Hid (Below w.heap.size w v1) := Lib.hid ((HB3.out.1.trans (HB4.out.mono HB3.out.1.size)).trans (HV1.out.mono (by have := HB3.out.1.size; have := HB4.out.size; omega)))
      have SQ : ∀ W : World, Below v1.heap.size v1 W → W.cell? ⟨w.heap.size, 3, none⟩ = some (.int .i64 off) ∧ W.cell? ⟨w3.heap.size, 0, none⟩ = some (.string ⟨t'.n.toArray⟩) ∧ W.cell? ⟨w3.heap.size, 1, none⟩ = some (.int .i64 t'.base) ∧ W.cell? ⟨w3.heap.size, 2, none⟩ = some (.slice Ar t'.recs.length cr) ∧ W.cell? ⟨w3.heap.size, 3, none⟩ = some (.slice Ag t'.gs.length cg) ∧ W.cell? ⟨q, 0, none⟩ = some (.slice (some ad) l.length cl) := fun W h => by
        have hs := HSW.out W (HV1.out.trans (h.mono HV1.out.size))
        have hc := (HP.out.blk.below (HB1.out.trans (h.mono HB1.out.size)) HP.out.blk.lt).cell 0
        exact ⟨hs.1, hs.2.1, hs.2.2.1, hs.2.2.2.1, hs.2.2.2.2, by simpa using hc⟩
      have S0 := SQ v1 (Below.refl _ _)
      have S1 := SQ v1.drew (Xj.below_drew0 _)
      have HSQ := Lib.hid SQ
      clear SQ c0
      have HR1 := Lib.hid (show Sl v1.drew (fun _ => False) 1 (.slice A' (t'.recs.length - d) (cr - d)) (t'.recs.length - d) (vs.drop d) from (HR.out.after HB1.out).after (Xj.below_drew0 v1))
      obtain ⟨i0, hi0', hz0, hz1, hz2⟩ := info_parts Xs.info_rec
      have hadb : (ad.add (i * 4)).block = ad.block := by rw [add_zero' HAD.out (i * 4)]
      have hadl : ad.block < w.heap.size := (HP.out.slv ad.block rfl).2
      have hqad : q ≠ ad.block := fun e => own_far HP.out.row HP.out.blk (by decide) (by show some ad.block = some q; rw [e])
      have s3 := HB3.out.1.size
      have SF : ∀ (W : World) (u : Value), (W.cell? ⟨w.heap.size, 3, none⟩ = some (.int .i64 off) ∧ W.cell? ⟨w3.heap.size, 0, none⟩ = some (.string ⟨t'.n.toArray⟩) ∧ W.cell? ⟨w3.heap.size, 1, none⟩ = some (.int .i64 t'.base) ∧ W.cell? ⟨w3.heap.size, 2, none⟩ = some (.slice Ar t'.recs.length cr) ∧ W.cell? ⟨w3.heap.size, 3, none⟩ = some (.slice Ag t'.gs.length cg) ∧ W.cell? ⟨q, 0, none⟩ = some (.slice (some ad) l.length cl)) → (let V := W.setCell ⟨(ad.add (i * 4)).block, (ad.add (i * 4)).off + 2, none⟩ u; V.cell? ⟨w.heap.size, 3, none⟩ = some (.int .i64 off) ∧ V.cell? ⟨w3.heap.size, 0, none⟩ = some (.string ⟨t'.n.toArray⟩) ∧ V.cell? ⟨w3.heap.size, 1, none⟩ = some (.int .i64 t'.base) ∧ V.cell? ⟨w3.heap.size, 2, none⟩ = some (.slice Ar t'.recs.length cr) ∧ V.cell? ⟨w3.heap.size, 3, none⟩ = some (.slice Ag t'.gs.length cg) ∧ V.cell? ⟨q, 0, none⟩ = some (.slice (some ad) l.length cl)) := fun W u h => ⟨(World.cell?_setCell_far W _ _ u (by show (ad.add (i * 4)).block ≠ w.heap.size; omega)).trans h.1, (World.cell?_setCell_far W _ _ u (by show (ad.add (i * 4)).block ≠ w3.heap.size; omega)).trans h.2.1, (World.cell?_setCell_far W _ _ u (by show (ad.add (i * 4)).block ≠ w3.heap.size; omega)).trans h.2.2.1, (World.cell?_setCell_far W _ _ u (by show (ad.add (i * 4)).block ≠ w3.heap.size; omega)).trans h.2.2.2.1, (World.cell?_setCell_far W _ _ u (by show (ad.add (i * 4)).block ≠ w3.heap.size; omega)).trans h.2.2.2.2.1, (World.cell?_setCell_far W _ _ u (by show (ad.add (i * 4)).block ≠ q; omega)).trans h.2.2.2.2.2⟩
      have HSF := Lib.hid SF
      clear SF hadb hadl hqad s3
      go_upto_region 20 with fail
      go_cut [] (fun wx => ∃ A7 c7 w7, wx = w7.setCell ⟨ad.block, i * 4 + 2, none⟩ (.slice A7 (t'.recs.length - d) c7) ∧ w7.ownsRow v1.heap.size 55 1 (.slice A7 (t'.recs.length - d) c7) (t'.recs.length - d) (vs.drop d) ∧ Below v1.heap.size v1 w7)
      case first =>
        go_region_held3 (fun W => W.cell? ⟨w.heap.size, 3, none⟩ = some (.int .i64 off) ∧ W.cell? ⟨w3.heap.size, 0, none⟩ = some (.string ⟨t'.n.toArray⟩) ∧ W.cell? ⟨w3.heap.size, 1, none⟩ = some (.int .i64 t'.base) ∧ W.cell? ⟨w3.heap.size, 2, none⟩ = some (.slice Ar t'.recs.length cr) ∧ W.cell? ⟨w3.heap.size, 3, none⟩ = some (.slice Ag t'.gs.length cg) ∧ W.cell? ⟨q, 0, none⟩ = some (.slice (some ad) l.length cl)) (first | with_reducible exact S0 | with_reducible exact S1 | with_reducible exact S2 | with_reducible exact S3 _) (first | (refine step_append_new (by rfl) (.tmp 75) (.tmp 83) _ (by rfl) 55 i0 _ 1 24 Tryz.underlying36 hi0' hz0 hz1 hz2 rfl (by omega) (by rfl) _ _ (t'.recs.length - d) (vs.drop d) (by rfl) HR1.out HONE.out (by simp only [maxLen]; omega) (by omega) ?_; intro A7 c7 w7 ho7 hb7; have HA7 : Hid (w7.ownsRow v1.heap.size 55 1 (.slice A7 (t'.recs.length - d) c7) (t'.recs.length - d) (vs.drop d)) := Lib.hid ho7; have HB7 : Hid (Below v1.heap.size v1 w7) := Lib.hid (below_of_drew hb7); have S2 := HSQ.out w7 HB7.out; have S3 := fun u => HSF.out w7 u S2; dsimp only at S3; have HAT7 := (HP.out.later (HB1.out.trans (HB7.out.mono HB1.out.size))).at_ hlt; obtain ⟨ad', e7, -, -, hat7⟩ := HAT7; injection e7 with e7; subst e7; have g2 := hat7.a2; have gf := hat7.f2; rw [HX.out] at g2; clear ho7 hb7 hat7))
        all_goals
          go_wp2_with fail
          go_meet
          have haddr : (⟨(ad.add (i * 4)).block, (ad.add (i * 4)).off + 2, none⟩ : Addr) = ⟨ad.block, i * 4 + 2, none⟩ := by rw [add_zero' HAD.out (i * 4)]
          rw [haddr]
          exact ⟨_, _, w7, rfl, HA7.out, HB7.out⟩
      case rest =>
        obtain ⟨A7, c7, w7, hw, ha7, hb7⟩ := hcut
        generalize wc = v2 at *
        have HA7 := Lib.hid ha7
        have HB7 := Lib.hid (HB1.out.trans (hb7.mono HB1.out.size))
        have HB17 := Lib.hid hb7
        clear ha7 S0 S1
        have hadl : ad.block < w.heap.size := (HP.out.slv ad.block rfl).2
        have hqad : q ≠ ad.block := fun e => own_far HP.out.row HP.out.blk (by decide) (by show some ad.block = some q; rw [e])
        have s3 := HB3.out.1.size
        have s1 := HB1.out.size
        have s7 := hb7.size
        have hs7 := HSQ.out w7 hb7
        have hd7 := ((HPD3.out.later HB4.out).later HV1.out).later hb7
        have hk7 := hd7.res.far (p := ⟨ad.block, i * 4 + 2, none⟩) (by show w.heap.size + 1 ≠ ad.block; omega) (.slice A7 (t'.recs.length - d) c7)
        have hj7 := hd7.op.far (p := ⟨ad.block, i * 4 + 2, none⟩) (by show w.heap.size ≠ ad.block; omega) (.slice A7 (t'.recs.length - d) c7)
        have hq7 := (HP.out.blk.below HB7.out HP.out.blk.lt).far (p := ⟨ad.block, i * 4 + 2, none⟩) hqad (.slice A7 (t'.recs.length - d) c7)
        obtain ⟨ad', e7, -, -, hat7⟩ := (HP.out.later HB7.out).at_ hlt
        injection e7 with e7
        subst e7
        have g1 := hat7.a1
        have gf := hat7.f1
        rw [HX.out] at g1
        have haddr1 : (⟨(ad.add (i * 4)).block, (ad.add (i * 4)).off + 1, none⟩ : Addr) = ⟨ad.block, i * 4 + 1, none⟩ := by rw [add_zero' HAD.out (i * 4)]
        rw [haddr1] at g1 gf
        have g1' : (w7.setCell ⟨ad.block, i * 4 + 2, none⟩ (.slice A7 (t'.recs.length - d) c7)).cell? ⟨ad.block, i * 4 + 1, none⟩ = some (.int .i64 t'.base) := (World.cell?_setCell_other _ _ _ _ (fun e => by have := congrArg Addr.off e; simp at this)).trans g1
        have gf' : (w7.setCell ⟨ad.block, i * 4 + 2, none⟩ (.slice A7 (t'.recs.length - d) c7)).frozen? ⟨ad.block, i * 4 + 1, none⟩ = false := by first | (simpa using gf) | exact gf
        rw [← hw] at hk7 hj7 hq7 g1' gf'
        have HW := Lib.hid hw
        have HK7 := Lib.hid hk7
        have q3 := hj7.cell 3
        have x0 := hq7.cell 0
        simp only [List.getElem?_toArray, List.getElem?_cons_zero, List.getElem?_cons_succ] at q3
        have x0' : v2.cell? ⟨q, 0, none⟩ = some (.slice (some ad) l.length cl) := by simpa using x0
        have dq3 : v2.drew.cell? ⟨w.heap.size, 3, none⟩ = some (.int .i64 off) := q3
        have dx0 : v2.drew.cell? ⟨q, 0, none⟩ = some (.slice (some ad) l.length cl) := x0'
        have dg1 : v2.drew.cell? ⟨ad.block, i * 4 + 1, none⟩ = some (.int .i64 t'.base) := g1'
        have dgf : v2.drew.frozen? ⟨ad.block, i * 4 + 1, none⟩ = false := gf'
        clear x0 hw hs7 hd7 hj7 hq7 hat7 g1 gf hb7 hk7
        go_upto_region 21 with fail
        go_cut [] (fun wx => wx = (v2.drew).setCell ⟨ad.block, i * 4 + 1, none⟩ (.int .i64 off))
        case first =>
          go_region_law (fail)
          all_goals
            go_wp2_with fail
            go_meet
            first | rfl | (simp only [haddr1]; rfl)
        case rest =>
          have hr8 := (HK7.out.below (Xj.below_drew0 v2) HK7.out.lt).far (p := ⟨ad.block, i * 4 + 1, none⟩) (by show w.heap.size + 1 ≠ ad.block; omega) (.int .i64 off)
          have hj8 : (v2.drew.setCell ⟨ad.block, i * 4 + 1, none⟩ (.int .i64 off)).cell? ⟨w.heap.size, 3, none⟩ = some (.int .i64 off) := (World.cell?_setCell_far _ _ _ _ (by show ad.block ≠ w.heap.size; omega)).trans dq3
          rw [← hcut] at hr8 hj8
          have HW8 := Lib.hid hcut
          clear hcut
          have HR8 := Lib.hid hr8
          have q0 := hr8.cell 0
          have q1 := hr8.cell 1
          have qf0 := hr8.frozen 0
          have qf1 := hr8.frozen 1
          simp only [List.getElem?_toArray, List.getElem?_cons_zero, List.getElem?_cons_succ] at q0 q1
          clear hr8 q3 x0' dq3 dx0 dg1 dgf g1' gf'
          go_wp2_with fail
          refine bodyPost_ret (Ck.results_row_tmp rfl _ _ (w.heap.size + 1) 30 #[.int .i64 0, .int .i64 off] (0, 0) _ rfl (Xr.blk2 HR8.out _ _) Tryz.underlying30 rfl Xr.size_res) rfl ?_
          rw [HW8.out, HW.out]
          exact did_of (by rw [HE.out _ HI.out, HTR.out]) (Ps.nil _ _) (rtrim_fin HL.out HP.out HAD.out hlt HX.out HB1.out (by omega) (by have := HB3.out.2; have := HB4.out.size; have := HV1.out.size; omega) HB17.out HA7.out HVR.out (by obtain ⟨_, _, _, hvlen, _⟩ := HVL.out; omega))
end Go.Proofs.YtkoedonllfmaaaaGreat.Xx

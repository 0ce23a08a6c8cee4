import Derived.Deep.DeepAppendWide
import Derived.BigQuiet
import Derived.Test.YtmhmnkpaijoaaaaGreatS01
namespace Go.Proofs.YtmhmnkpaijoaaaaGreat.Pry
set_option linter.unusedSimpArgs false
open Go Go.RowKit Ck Kw Ga Kf Pm Pe Pg Ik Lk Jm Ja Jb Jc Jd Je Jf Jg Jl Jn Kc Prv Prw Prx
set_option linter.unusedVariables false
theorem sl_hue {W W' : World} {c c' : Nat -> Nat} {i size n : Nat} {v : Value} {xs : List Value} (h : Sl W (fun k => c k ≠ 0) size v n xs) (cc : Ch (fun k => c k = i) W W') (hi : i ≠ 0) (ag : Ag W c c') : Sl W' (fun k => c' k ≠ 0) size v n xs :=
  ((h.old (Nat.le_refl _)).ch cc (fun k _ hk => .inl (by rw [hk]; exact hi))).weaken (fun k _ hk => by
    by_cases hl : k < W.heap.size
    . exact .inl (by rw [<- ag k hl]; exact hk)
    . exact .inr (by omega))
def IV (l : List Int) : List Value := l.map fun n => Value.int .i64 n
theorem IV_app (l m : List Int) : IV (l ++ m) = IV l ++ IV m := by simp [IV]
def SB (p g p' g' : Nat) (vb vd vs : Value) : Array Value := #[.pointer (some ⟨p, 0, none⟩), .pointer (some ⟨g, 0, none⟩), .pointer (some ⟨p', 0, none⟩), .pointer (some ⟨g', 0, none⟩), vb, vd, vs]
structure BG (B : Nat) (w0 : World) (q p g p' g' : Nat) (L1 : List (List UInt8)) (G1 : List Sg) (L : List (List UInt8)) (G : List Sg) (bs : List (List Sd)) (ds : List Int) (ss : List Sg) (vb vd vs v : Value) (R : List Sd) (vals : List Value) (rs : List (Option Addr × Nat)) (sb : Array Value) (vq : Value) (lq : List Value) (c : Nat -> Nat) (W : World) : Prop where
  below : Below w0.heap.size w0 W
  hue : Hue W c
  lo : ∀ k, k < w0.heap.size -> c k = 0
  hB : B <= w0.heap.size
  tl : TL W (fun k => c k = 1) p g L1 G1
  rt : RT W (fun k => c k = 2) p' g' L G
  cq : c q = 3
  st : Blk W q 51 sb
  rb : Row W c 4 w0.heap.size 39 1 vb bs.length vals
  bb : Bs W c vals bs
  rd : Row W c 5 w0.heap.size 31 1 vd ds.length (IV ds)
  rg : Row W c 6 w0.heap.size 36 2 vs ss.length (GVs ss)
  rr : Row W c 7 w0.heap.size 113 9 v R.length (flat R rs)
  dd : Ds W c rs R
  rq : Sl W (fun k => c k ≠ 0) 1 vq lq.length lq
section
variable {B : Nat} {w0 W W' : World} {q p g p' g' : Nat} {L1 L1' L L' : List (List UInt8)} {G1 G1' G G' : List Sg} {bs : List (List Sd)} {ds : List Int} {ss : List Sg} {vb vd vs v v' : Value} {R : List Sd} {vals : List Value} {rs : List (Option Addr × Nat)} {c c' : Nat -> Nat} {sb : Array Value} {vq : Value} {lq : List Value}
theorem BG.later (h : BG B w0 q p g p' g' L1 G1 L G bs ds ss vb vd vs v R vals rs sb vq lq c W) (b : Below W.heap.size W W') : BG B w0 q p g p' g' L1 G1 L G bs ds ss vb vd vs v R vals rs sb vq lq c W' := by
  have cc : Ch (fun k => c k = 100) W W' := Ch.of_below b (Nat.le_refl _)
  have ag := Ag.refl W c
  exact ⟨h.below.trans (b.mono h.below.size), h.hue.later b.size, h.lo, h.hB, tl_hue h.tl h.hue (by decide) cc (by decide) ag, rt_hue h.rt h.hue (by decide) cc (by decide) ag, h.cq, blk_hue h.st h.cq cc (by decide), h.rb.turn cc (by decide) ag, h.bb.turn cc (by decide) ag, h.rd.turn cc (by decide) ag, h.rg.turn cc (by decide) ag, h.rr.turn cc (by decide) ag, h.dd.turn cc (by decide) ag, sl_hue h.rq cc (by decide) ag⟩
theorem BG.doc (h : BG B w0 q p g p' g' L1 G1 L G bs ds ss vb vd vs v R vals rs sb vq lq c W) (t : RT W' (Nw (fun k => c k = 2) W.heap.size W'.heap.size) p' g' L' G') (cc : Ch (fun k => c k = 2) W W') : BG B w0 q p g p' g' L1 G1 L' G' bs ds ss vb vd vs v R vals rs sb vq lq (paint c 2 W.heap.size W'.heap.size) W' := by
  have ag := ag_paint W c 2 W'.heap.size
  have hq := h.st.lt
  have hl := h.below.size
  exact ⟨below_hue h.lo h.below cc (by decide), h.hue.paint 2 cc.size, fun k hk => (paint_old (by omega)).trans (h.lo k hk), h.hB, tl_hue h.tl h.hue (by decide) cc (by decide) ag, rt_paint t h.hue (by decide), (paint_old hq).trans h.cq, blk_hue h.st h.cq cc (by decide), h.rb.turn cc (by decide) ag, h.bb.turn cc (by decide) ag, h.rd.turn cc (by decide) ag, h.rg.turn cc (by decide) ag, h.rr.turn cc (by decide) ag, h.dd.turn cc (by decide) ag, sl_hue h.rq cc (by decide) ag⟩
theorem BG.own (h : BG B w0 q p g p' g' L1 G1 L G bs ds ss vb vd vs v R vals rs sb vq lq c W) (t : TL W' (Nw (fun k => c k = 1) W.heap.size W'.heap.size) p g L1' G1') (cc : Ch (fun k => c k = 1) W W') : BG B w0 q p g p' g' L1' G1' L G bs ds ss vb vd vs v R vals rs sb vq lq (paint c 1 W.heap.size W'.heap.size) W' := by
  have ag := ag_paint W c 1 W'.heap.size
  have hq := h.st.lt
  have hl := h.below.size
  exact ⟨below_hue h.lo h.below cc (by decide), h.hue.paint 1 cc.size, fun k hk => (paint_old (by omega)).trans (h.lo k hk), h.hB, tl_paint t h.hue (by decide), rt_hue h.rt h.hue (by decide) cc (by decide) ag, (paint_old hq).trans h.cq, blk_hue h.st h.cq cc (by decide), h.rb.turn cc (by decide) ag, h.bb.turn cc (by decide) ag, h.rd.turn cc (by decide) ag, h.rg.turn cc (by decide) ag, h.rr.turn cc (by decide) ag, h.dd.turn cc (by decide) ag, sl_hue h.rq cc (by decide) ag⟩
theorem BG.more {d : Sd} {A : Option Addr} {n : Nat} (h : BG B w0 q p g p' g' L1 G1 L G bs ds ss vb vd vs v R vals rs sb vq lq c W) (hl : Ls W (fun k => c k ≠ 0) (.slice A d.q.o.recs.length n) d.q.o.recs) (ha : Appended W w0.heap.size 113 9 v (R.length + 1) (flat R rs ++ (DC d A n).toList) v' W') : BG B w0 q p g p' g' L1 G1 L G bs ds ss vb vd vs v' (R ++ [d]) vals (rs ++ [(A, n)]) sb vq lq (paint c 7 W.heap.size W'.heap.size) W' := by
  obtain ⟨hr, cc⟩ := h.rr.put ha
  have ag := ag_paint W c 7 W'.heap.size
  have hq := h.st.lt
  have hlo := h.below.size
  refine ⟨below_hue h.lo h.below cc (by decide), h.hue.paint 7 cc.size, fun k hk => (paint_old (by omega)).trans (h.lo k hk), h.hB, tl_hue h.tl h.hue (by decide) cc (by decide) ag, rt_hue h.rt h.hue (by decide) cc (by decide) ag, (paint_old hq).trans h.cq, blk_hue h.st h.cq cc (by decide), h.rb.turn cc (by decide) ag, h.bb.turn cc (by decide) ag, h.rd.turn cc (by decide) ag, h.rg.turn cc (by decide) ag, ?_, (h.dd.turn cc (by decide) ag).snoc (ls_hue hl cc (by decide) ag), sl_hue h.rq cc (by decide) ag⟩
  have e : flat (R ++ [d]) (rs ++ [(A, n)]) = flat R rs ++ (DC d A n).toList := by
    unfold flat
    rw [List.zip_append h.dd.1.symm, List.flatMap_append]
    simp
  rw [e, List.length_append]
  exact hr
theorem BG.fresh (h : BG B w0 q p g p' g' L1 G1 L G bs ds ss vb vd vs v R vals rs sb vq lq c W) : BG B w0 q p g p' g' L1 G1 L G bs ds ss vb vd vs (.slice none 0 0) [] vals [] sb vq lq (off c 7) W := by
  have o : ∀ {i k : Nat}, i ≠ 7 -> c k = i -> off c 7 k = i := fun hi hk => off_of hk hi
  have z : ∀ k, off c 7 k ≠ 0 -> c k ≠ 0 := fun k hk => (off_ne hk).1
  refine ⟨h.below, fun k hk => ?_, fun k hk => o (by decide) (h.lo k hk), h.hB, h.tl.weaken (fun k _ hk => o (by decide) hk), h.rt.weaken (fun k _ hk => o (by decide) hk), o (by decide) h.cq, h.st, ⟨h.rb.1, fun k hk => o (by decide) (h.rb.2 k hk)⟩, ⟨h.bb.1, fun i hi => ?_⟩, ⟨h.rd.1, fun k hk => o (by decide) (h.rd.2 k hk)⟩, ⟨h.rg.1, fun k hk => o (by decide) (h.rg.2 k hk)⟩, Row.nil _ _ _ _ _ _, Ds.nil _ _, h.rq.weaken (fun k _ hk => z k hk)⟩
  . exact o (by decide) (h.hue k hk)
  . obtain ⟨u, h1, h2⟩ := h.bb.2 i hi
    exact ⟨u, h1, h2.weaken (fun k _ hk => z k hk)⟩
theorem BG.putb {vb' u : Value} {b : List Sd} (h : BG B w0 q p g p' g' L1 G1 L G bs ds ss vb vd vs v R vals rs sb vq lq c W) (hu : BI W (fun k => c k ≠ 0) u b) (ha : Appended W w0.heap.size 39 1 vb (bs.length + 1) (vals ++ [u]) vb' W') : BG B w0 q p g p' g' L1 G1 L G (bs ++ [b]) ds ss vb' vd vs v R (vals ++ [u]) rs sb vq lq (paint c 4 W.heap.size W'.heap.size) W' := by
  obtain ⟨hr, cc⟩ := h.rb.put ha
  have ag := ag_paint W c 4 W'.heap.size
  have hq := h.st.lt
  have hlo := h.below.size
  refine ⟨below_hue h.lo h.below cc (by decide), h.hue.paint 4 cc.size, fun k hk => (paint_old (by omega)).trans (h.lo k hk), h.hB, tl_hue h.tl h.hue (by decide) cc (by decide) ag, rt_hue h.rt h.hue (by decide) cc (by decide) ag, (paint_old hq).trans h.cq, blk_hue h.st h.cq cc (by decide), ?_, (h.bb.turn cc (by decide) ag).snoc (batch_hue hu cc (by decide) ag), h.rd.turn cc (by decide) ag, h.rg.turn cc (by decide) ag, h.rr.turn cc (by decide) ag, h.dd.turn cc (by decide) ag, sl_hue h.rq cc (by decide) ag⟩
  rw [List.length_append]
  exact hr
theorem BG.putd {vd' : Value} {d : Int} (h : BG B w0 q p g p' g' L1 G1 L G bs ds ss vb vd vs v R vals rs sb vq lq c W) (ha : Appended W w0.heap.size 31 1 vd (ds.length + 1) (IV ds ++ [.int .i64 d]) vd' W') : BG B w0 q p g p' g' L1 G1 L G bs (ds ++ [d]) ss vb vd' vs v R vals rs sb vq lq (paint c 5 W.heap.size W'.heap.size) W' := by
  obtain ⟨hr, cc⟩ := h.rd.put ha
  have ag := ag_paint W c 5 W'.heap.size
  have hq := h.st.lt
  have hlo := h.below.size
  refine ⟨below_hue h.lo h.below cc (by decide), h.hue.paint 5 cc.size, fun k hk => (paint_old (by omega)).trans (h.lo k hk), h.hB, tl_hue h.tl h.hue (by decide) cc (by decide) ag, rt_hue h.rt h.hue (by decide) cc (by decide) ag, (paint_old hq).trans h.cq, blk_hue h.st h.cq cc (by decide), h.rb.turn cc (by decide) ag, h.bb.turn cc (by decide) ag, ?_, h.rg.turn cc (by decide) ag, h.rr.turn cc (by decide) ag, h.dd.turn cc (by decide) ag, sl_hue h.rq cc (by decide) ag⟩
  rw [List.length_append, IV_app]
  exact hr
theorem BG.putg {vs' : Value} {s : Sg} (h : BG B w0 q p g p' g' L1 G1 L G bs ds ss vb vd vs v R vals rs sb vq lq c W) (ha : Appended W w0.heap.size 36 2 vs (ss.length + 1) (GVs ss ++ [.int .i64 s.1, .int .i64 s.2]) vs' W') : BG B w0 q p g p' g' L1 G1 L G bs ds (ss ++ [s]) vb vd vs' v R vals rs sb vq lq (paint c 6 W.heap.size W'.heap.size) W' := by
  obtain ⟨hr, cc⟩ := h.rg.put ha
  have ag := ag_paint W c 6 W'.heap.size
  have hq := h.st.lt
  have hlo := h.below.size
  refine ⟨below_hue h.lo h.below cc (by decide), h.hue.paint 6 cc.size, fun k hk => (paint_old (by omega)).trans (h.lo k hk), h.hB, tl_hue h.tl h.hue (by decide) cc (by decide) ag, rt_hue h.rt h.hue (by decide) cc (by decide) ag, (paint_old hq).trans h.cq, blk_hue h.st h.cq cc (by decide), h.rb.turn cc (by decide) ag, h.bb.turn cc (by decide) ag, h.rd.turn cc (by decide) ag, ?_, h.rr.turn cc (by decide) ag, h.dd.turn cc (by decide) ag, sl_hue h.rq cc (by decide) ag⟩
  rw [List.length_append, GVs_app]
  exact hr
theorem BG.set {sb' : Array Value} (h : BG B w0 q p g p' g' L1 G1 L G bs ds ss vb vd vs v R vals rs sb vq lq c W) (cc : Ch (fun k => k = q) W W') (hk : Blk W' q 51 sb') : BG B w0 q p g p' g' L1 G1 L G bs ds ss vb vd vs v R vals rs sb' vq lq c W' := by
  have cc : Ch (fun k => c k = 3) W W' := cc.mono (fun k _ hk => by rw [hk]; exact h.cq)
  have ag := Ag.refl W c
  exact ⟨below_hue h.lo h.below cc (by decide), h.hue.later cc.size, h.lo, h.hB, tl_hue h.tl h.hue (by decide) cc (by decide) ag, rt_hue h.rt h.hue (by decide) cc (by decide) ag, h.cq, hk, h.rb.turn cc (by decide) ag, h.bb.turn cc (by decide) ag, h.rd.turn cc (by decide) ag, h.rg.turn cc (by decide) ag, h.rr.turn cc (by decide) ag, h.dd.turn cc (by decide) ag, sl_hue h.rq cc (by decide) ag⟩
end
end Go.Proofs.YtmhmnkpaijoaaaaGreat.Pry
namespace Go.Proofs.YtmhmnkpaijoaaaaGreat.Prz
set_option linter.unusedSimpArgs false
open Go Go.RowKit Ck Kw Ga Kf Pm Pe Pg Pk Pn Py Qb Qg Ik Lk La Lb Lc Ld Jm Ja Jb Jc Jd Je Jf Jg Jh Jn Kc Ke Kg Prh Pri Prj Prk Prl Prm Prv Prw
open Im (num isIn add sum)
attribute [local go_sem ↓] Go.wp_at_zero Go.wp_at_succ
set_option linter.unusedVariables false
set_option maxRecDepth 100000
def RDig2 (S : Nat -> Prop) (p g : Nat) (l : List Sd) (L : List (List UInt8)) (G : List Sg) (w : World) (e : Ending) (w' : World) : Prop :=
  e = .returned (.tuple #[.int .i64 (digR L l).1, .int .i64 (digR L l).2]) /\ RT w' (Nw S w.heap.size w'.heap.size) p g (digT L l) G /\ Ch S w w'
set_option maxHeartbeats 4000000 in
theorem rdigest2_any (w : World) (S X : Nat -> Prop) (p g : Nat) (L : List (List UInt8)) (G : List Sg) (l : List Sd) (vl : Value) (h : RT w S p g L G) (hb : BI w X vl l) (hr : ∀ x ∈ l, x.q.o.recs.length <= 140737488355328) (hl63 : l.length <= 140737488355328) :
    Calls Tryz.prog 41 #[.pointer (some ⟨p, 0, none⟩), vl] w (RDig2 S p g l L G w) := by
  obtain ⟨A, c, rfl, -⟩ := hb.shape
  have HC := Lib.hid (rcbatch_any w X _ l hb hr hl63)
  have HT := Lib.hid h
  have HB := Lib.hid hb
  have HR := Lib.hid hr
  have HL := Lib.hid hl63
  clear h hb hr hl63
  by_cases hc : bcheck l = 0
  . rw [hc] at HC
    have HBL := Lib.hid (braw_len hc)
    have HBF := Lib.hid (bform_eq hc)
    have HDO := Lib.hid fun h => digR_ok (L := L) hc h
    have HDT := Lib.hid (digT_ok (L := L) hc)
    have HDF := Lib.hid fun h => digR_full (L := L) hc h
    clear hc
    go_enter Tryz.func41, Tryz.ntmps41
    go_wp2_with fail
    refine HC.out.mono ?_
    rintro e w1 ⟨rfl, hb1⟩
    have HB1 := Lib.hid hb1
    have HT1 := Lib.hid (HT.out.later hb1)
    have HI1 := Lib.hid (HB.out.after hb1)
    have HP := Lib.hid (rputbatch_any l _ X (fun _ => False) (.slice none 0 0) 0 [] w1 (HI1.out) HR.out HL.out (Sl.nil _ _ _) (by simp))
    rw [HBF.out, List.nil_append] at HP
    clear hb1
    go_wp2_with fail
    refine HP.out.mono ?_
    rintro e w3 ⟨v3, rfl, ho3, hb3⟩
    obtain ⟨A3, c3, rfl, -⟩ := id ho3
    have HB3 := Lib.hid (HB1.out.trans (hb3.mono HB1.out.size))
    have HT3 := Lib.hid (HT1.out.later hb3)
    have HO3 := Lib.hid ho3
    clear ho3 hb3 HP
    have HS := Lib.hid (HT3.out.callT (P := Tryz.prog) (f := 71) (args := #[.pointer (some ⟨p, 0, none⟩), .slice A3 (braw l).length c3]) (r := .returned (.int .i64 (sum L (braw l) : Int))) (L' := add L (braw l)) (fun S1 h1 => Ij.rsum_any w3 S1 _ p L A3 c3 (braw l) h1 HO3.out (by have := HBL.out; omega)))
    go_wp2_with fail
    refine HS.out.mono ?_
    rintro e w4 ⟨rfl, ht4, hc4⟩
    have HT4 : Hid (RT w4 (Nw S w.heap.size w4.heap.size) p g (add L (braw l)) G) := Lib.hid (ht4.weaken (fun k _ hk => by
      have := HB3.out.size
      rcases hk with hk | hk
      . exact .inl hk
      . exact .inr ⟨by omega, hk.2⟩))
    have HC4 : Hid (Ch S w w4) := Lib.hid ((Ch.of_below (S := S) HB3.out (Nat.le_refl _)).trans hc4 (fun _ _ h => h))
    clear hc4 ht4 HS
    by_cases h0 : sum L (braw l) = 0
    . have HD := Lib.hid (HDF.out h0)
      have hd : ((sum L (braw l) : Int) == 0) = true := by rw [h0]; rfl
      clear h0
      generalize (sum L (braw l) : Int) = z at *
      go_wp2_with fail
      go_ret2
      exact ⟨by rw [HD.out]; rfl, by rw [HDT.out]; exact HT4.out, HC4.out⟩
    . have HD := Lib.hid (HDO.out h0)
      have hd : ((sum L (braw l) : Int) == 0) = false := by rw [beq_eq_false_iff_ne]; omega
      clear h0 HDO HDF
      generalize (sum L (braw l) : Int) = z at *
      go_wp2_with fail
      go_ret2
      exact ⟨by rw [HD.out]; rfl, by rw [HDT.out]; exact HT4.out, HC4.out⟩
  . have hd : (bcheck l != 0) = true := by simpa using hc
    have hd2 : (bcheck l == 0) = false := by simpa using hc
    have HD := Lib.hid (digR_bad (L := L) hc)
    have HDT := Lib.hid (digT_bad (L := L) hc)
    clear hc
    go_enter Tryz.func41, Tryz.ntmps41
    go_wp2_with fail
    refine HC.out.mono ?_
    rintro e w1 ⟨rfl, hb1⟩
    have HB1 := Lib.hid hb1
    clear hb1
    go_wp2_with fail
    go_ret2
    exact ⟨by rw [HD.out]; rfl, by rw [HDT.out]; exact (HT.out.later HB1.out).weaken (fun k _ hk => .inl hk), Ch.of_below (S := S) HB1.out (Nat.le_refl _)⟩
def stepQ (y : List (List UInt8) × List Sg × List Sd) (q : Q) : List (List UInt8) × List Sg × List Sd := (sealT y.1 q, sealG y.1 y.2.1 q, sealS y.1 q y.2.2)
def sealsQ (L : List (List UInt8)) (G : List Sg) (qs : List Q) : List (List UInt8) × List Sg × List Sd := qs.foldl stepQ (L, G, [])
theorem sealsQ_step {L : List (List UInt8)} {G : List Sg} {qs : List Q} {k : Nat} (hk : k < qs.length) : sealsQ L G (qs.take (k + 1)) = stepQ (sealsQ L G (qs.take k)) qs[k] := by
  unfold sealsQ
  rw [List.take_succ_eq_append_getElem hk, List.foldl_append]
  rfl
structure Bz where
  L : List (List UInt8)
  G : List Sg
  bs : List (List Sd)
  ds : List Int
def stepB (z : Bz) (qs : List Q) : Bz :=
  ⟨digT (sealsQ z.L z.G qs).1 (sealsQ z.L z.G qs).2.2, (sealsQ z.L z.G qs).2.1, z.bs ++ [(sealsQ z.L z.G qs).2.2], z.ds ++ [(digR (sealsQ z.L z.G qs).1 (sealsQ z.L z.G qs).2.2).1]⟩
def madeB (qss : List (List Q)) : Bz := qss.foldl stepB ⟨[], [], [], []⟩
theorem madeB_step {qss : List (List Q)} {k : Nat} (hk : k < qss.length) : madeB (qss.take (k + 1)) = stepB (madeB (qss.take k)) qss[k] := by
  unfold madeB
  rw [List.take_succ_eq_append_getElem hk, List.foldl_append]
  rfl
structure Vz where
  L : List (List UInt8)
  G : List Sg
  ss : List Sg
def vDig (ds : List Int) (v : Vt × Nat) : Int := (ds[v.2 % ds.length]?).getD 0
def stepV (ds : List Int) (z : Vz) (v : Vt × Nat) : Vz := ⟨vT z.L v.1 (vDig ds v), vG z.L z.G v.1 (vDig ds v), z.ss ++ [(vR z.L v.1 (vDig ds v)).1]⟩
def votesV (b : Bz) (vs : List (Vt × Nat)) : Vz := vs.foldl (stepV b.ds) ⟨b.L, b.G, [(0, 0)]⟩
theorem votesV_step {b : Bz} {vs : List (Vt × Nat)} {k : Nat} (hk : k < vs.length) : votesV b (vs.take (k + 1)) = stepV b.ds (votesV b (vs.take k)) vs[k] := by
  unfold votesV
  rw [List.take_succ_eq_append_getElem hk, List.foldl_append]
  rfl
theorem vsG_len (L : List (List UInt8)) (G : List Sg) (key : Int) (b : List UInt8) : (vsG L G key b).length <= G.length + 1 := by
  unfold vsG
  split
  . omega
  . exact pay_len _ _
theorem vG_len (L : List (List UInt8)) (G : List Sg) (x : Vt) (d : Int) : (vG L G x d).length <= G.length + 1 := by
  unfold vG
  split
  . exact vsG_len _ _ _ _
  . omega
theorem sealsQ_len (L : List (List UInt8)) (G : List Sg) (qs : List Q) : ∀ k, k <= qs.length -> (sealsQ L G (qs.take k)).2.1.length <= G.length + k /\ (sealsQ L G (qs.take k)).2.2.length <= k
  | 0, _ => by simp [sealsQ]
  | k + 1, hk => by
    have ih := sealsQ_len L G qs k (by omega)
    rw [sealsQ_step (by omega)]
    have h1 := sealG_len (sealsQ L G (qs.take k)).1 (sealsQ L G (qs.take k)).2.1 qs[k]
    simp only [stepQ, sealS]
    refine ⟨by omega, ?_⟩
    split
    . simp; omega
    . omega
theorem madeB_len {qss : List (List Q)} {M : Nat} (hM : ∀ qs ∈ qss, qs.length <= M) : ∀ k, k <= qss.length -> (madeB (qss.take k)).G.length <= k * M /\ (madeB (qss.take k)).bs.length = k /\ (madeB (qss.take k)).ds.length = k
  | 0, _ => by simp [madeB]
  | k + 1, hk => by
    have ih := madeB_len hM k (by omega)
    rw [madeB_step (by omega)]
    have hl := hM _ (List.getElem_mem (show k < qss.length by omega))
    have h1 := (sealsQ_len (madeB (qss.take k)).L (madeB (qss.take k)).G qss[k] _ (Nat.le_refl _)).1
    rw [List.take_length] at h1
    simp only [stepB, List.length_append, List.length_singleton, Nat.add_mul, Nat.one_mul]
    refine ⟨?_, by omega, by omega⟩
    have := ih.1
    omega
theorem votesV_len (b : Bz) (vs : List (Vt × Nat)) : ∀ k, k <= vs.length -> (votesV b (vs.take k)).G.length <= b.G.length + k /\ (votesV b (vs.take k)).ss.length = k + 1
  | 0, _ => by simp [votesV]
  | k + 1, hk => by
    have ih := votesV_len b vs k (by omega)
    rw [votesV_step (by omega)]
    have h1 := vG_len (votesV b (vs.take k)).L (votesV b (vs.take k)).G vs[k].1 (vDig b.ds vs[k])
    simp only [stepV, List.length_append, List.length_singleton]
    omega
end Go.Proofs.YtmhmnkpaijoaaaaGreat.Prz
namespace Go.Proofs.YtmhmnkpaijoaaaaGreat.Psa
set_option linter.unusedSimpArgs false
open Go Go.RowKit Ck Kw Ga Kf Pm Pe Pg Ik Lk Jm Ja Jb Jl Jn Prv Prw Prx Pry Prz
set_option linter.unusedVariables false
def QQ (w : World) (X : Nat -> Prop) (v : Value) (l : List (List Q)) : Prop := ∃ vals, vals.length = l.length /\ Sl w X 1 v l.length vals /\ ∀ i (h : i < l.length), ∃ u, vals[i]? = some u /\ RI w X u l[i]
theorem QQ.after {w w' : World} {X : Nat -> Prop} {v : Value} {l : List (List Q)} (h : QQ w X v l) (hb : Below w.heap.size w w') : QQ w' X v l := by
  obtain ⟨vals, h0, h1, h2⟩ := h
  exact ⟨vals, h0, h1.after hb, fun i hi => by obtain ⟨u, h3, h4⟩ := h2 i hi; exact ⟨u, h3, h4.after hb⟩⟩
theorem QQ.shape {w : World} {X : Nat -> Prop} {v : Value} {l : List (List Q)} (h : QQ w X v l) : ∃ A c, v = .slice A l.length c := by
  obtain ⟨vals, h0, ⟨A, c, rfl, _⟩, h2⟩ := h
  exact ⟨A, c, rfl⟩
def VC (v : Vt × Nat) : List Value := [.int .i64 v.1.key, .int .i64 v.1.kind, .int .i64 v.1.view, .int .i64 v.1.seq, .int .u8 (v.2 : Int)]
theorem VC_len (v : Vt × Nat) : (VC v).length = 5 := rfl
def VL (w : World) (X : Nat -> Prop) (v : Value) (l : List (Vt × Nat)) : Prop := Sl w X 5 v l.length (l.flatMap VC)
theorem VL.at_ {w : World} {X : Nat -> Prop} {A : Option Addr} {n c i : Nat} {l : List (Vt × Nat)} (h : VL w X (.slice A n c) l) (hi : i < l.length) :
    ∃ ad, A = some ad /\ w.cell? (ad.add (i * 5)) = some (.int .i64 l[i].1.key) /\ w.cell? ⟨(ad.add (i * 5)).block, (ad.add (i * 5)).off + 1, none⟩ = some (.int .i64 l[i].1.kind) /\ w.cell? ⟨(ad.add (i * 5)).block, (ad.add (i * 5)).off + 2, none⟩ = some (.int .i64 l[i].1.view) /\ w.cell? ⟨(ad.add (i * 5)).block, (ad.add (i * 5)).off + 3, none⟩ = some (.int .i64 l[i].1.seq) /\ w.cell? ⟨(ad.add (i * 5)).block, (ad.add (i * 5)).off + 4, none⟩ = some (.int .u8 (l[i].2 : Int)) := by
  obtain ⟨A', c', hv, hl, hc, hm, hx⟩ := h
  injection hv with e1 e2 e3
  subst e1
  obtain ⟨ad, hA, hb, hX, hcell⟩ := hx (by omega)
  have hof : ∀ j u, j < 5 -> (VC l[i])[j]? = some u -> w.cell? ((ad.add (i * 5)).add j) = some u := fun j u hj hu => by
    rw [add_add]
    exact hcell _ _ (by rw [flat_get VC_len l i hi j hj]; exact hu)
  refine ⟨ad, hA, ?_⟩
  generalize ad.add (i * 5) = a at hof ⊢
  have ha : ∀ j, 0 < j -> a.add j = ⟨a.block, a.off + j, none⟩ := fun j hj => by unfold Addr.add; rw [if_neg (by omega)]
  have h0 : a.add 0 = a := by unfold Addr.add; rw [if_pos rfl]
  refine ⟨?_, ?_, ?_, ?_, ?_⟩
  . have := hof 0 _ (by omega) rfl; rwa [h0] at this
  . have := hof 1 _ (by omega) rfl; rwa [ha _ (by omega)] at this
  . have := hof 2 _ (by omega) rfl; rwa [ha _ (by omega)] at this
  . have := hof 3 _ (by omega) rfl; rwa [ha _ (by omega)] at this
  . have := hof 4 _ (by omega) rfl; rwa [ha _ (by omega)] at this
structure CI (w : World) (f : Int) (vb vv vs : Value) (view low : Int) (qss : List (List Q)) (vts : List (Vt × Nat)) : Prop where
  bs : QQ w (fun k => w.heap.size <= k) vb qss
  vt : VL w (fun k => w.heap.size <= k) vv vts
  hq : ∀ qs ∈ qss, qs.length <= 1048576 /\ ∀ q ∈ qs, q.o.recs.length <= 1048576
  hn : qss.length <= 1048576
  hv : vts.length <= 1048576
  h8 : ∀ v ∈ vts, v.2 < 256
theorem RI.weak {w : World} {X Y : Nat -> Prop} {v : Value} {l : List Q} (h : RI w X v l) (hk : ∀ b, b < w.heap.size -> Y b -> X b) : RI w Y v l := by
  obtain ⟨rs, h1, h2, h3⟩ := h
  exact ⟨rs, h1, h2.weaken hk, fun i hi => by obtain ⟨r, h4, h5⟩ := h3 i hi; exact ⟨r, h4, h5.weaken hk⟩⟩
theorem CI.later {w w' : World} {f : Int} {vb vv vs : Value} {view low : Int} {qss : List (List Q)} {vts : List (Vt × Nat)} (h : CI w f vb vv vs view low qss vts) (b : Below w.heap.size w w') : CI w' f vb vv vs view low qss vts := by
  have hs := b.size
  refine ⟨?_, Sl.weaken (Sl.after h.vt b) (fun k _ hk => by omega), h.hq, h.hn, h.hv, h.h8⟩
  obtain ⟨vals, h0, h1, h2⟩ := h.bs.after b
  exact ⟨vals, h0, h1.weaken (fun k _ hk => by omega), fun i hi => by obtain ⟨u, h3, h4⟩ := h2 i hi; exact ⟨u, h3, RI.weak h4 (fun k _ hk => by omega)⟩⟩
end Go.Proofs.YtmhmnkpaijoaaaaGreat.Psa
namespace Go.Proofs.YtmhmnkpaijoaaaaGreat.Kj
set_option linter.unusedSimpArgs false
open Go Go.RowKit Ck Kw Ga Kf Pm Pe Pg Pk Pn Py Qb Qg Ik Lk La Lb Lc Ld Jm Ja Jb Jc Jd Je Jf Jg Jh Jl Jn Kc Ke Kg
open Im (num isIn add sum)
set_option linter.unusedVariables false
set_option maxRecDepth 100000
section
variable {P : Program} (w : World)
theorem run_append_one (base : Nat) (t ty e : TypeId) (i : TypeInfo) (z : Value) (size bytes : Nat) (ht : P.underlying t = some (.slice e)) (hi : P.info? e = some i) (hz : i.zero = some z)
    (hsize : i.size = size) (hby : i.bytes = bytes) (hzs : z.cells.size = size) (hsz : 0 < size)
    (v : Value) (n : Nat) (xs : List Value) (hown : w.ownsRow base e size v n xs)
    (a : Addr) (c : Nat) (news : List Value) (hl : news.length = 1 * size) (hnews : ∀ j u, news[j]? = some u -> w.cell? (a.add j) = some u) (h1 : ∀ u ∈ news, u.oneCell' = true)
    (h63 : n + 1 <= maxLen) (hb : ((n + 1) + (n + 1) / 4 + 192) * bytes <= 281474976710656) (hbase : base <= w.heap.size) :
    ∃ v' w', (Builtin.append_ #[t, t] ty #[v, .slice (some a) 1 c]).run P w = .ok v' w' /\ Appended w base e size v (n + 1) (xs ++ news) v' w' := by
  obtain ⟨v', w', hr, h2, h3, -⟩ := run_append_own_wide (P := P) w base t ty e i z size bytes ht hi hz hsize hby hzs hsz v n xs hown a 1 c news hl hnews h1 h63 hb hbase
  refine ⟨v', w', hr, h2, h3, ?_⟩
  subst hsize
  subst hby
  have h63' : ((n + 1 : Nat) : Int) <= 9223372036854775807 := by simp only [maxLen] at h63; omega
  have hone : (n + 1) * i.bytes <= ((n + 1) + (n + 1) / 4 + 192) * i.bytes := Nat.mul_le_mul_right _ (by omega)
  rcases hown.2 with ⟨rfl, rfl⟩ | ⟨g, cap, cur, rfl, hbg, hg, hnc, hcm, hcs, htake⟩
  . have hr2 := run_append_nil (P := P) w t ty e i z ht hi hz a 1 c news hl hnews (by omega) (by omega) (by simp only [Nat.zero_add] at hone hb; omega)
    have := hr.symm.trans hr2
    injection this with e1 _
    exact .inr (by rw [e1]; rfl)
  . by_cases hroom : n + 1 <= cap
    . have hfit : n * i.size + news.length <= cur.size := by rw [hl, hcs, <- Nat.add_mul]; exact Nat.mul_le_mul_right _ hroom
      have hr2 := run_append_room (P := P) w t ty e i ht hi g n cap cur hg a 1 c news hl hnews h1 hroom hfit
      have := hr.symm.trans hr2
      injection this with e1 _
      exact .inl (by rw [e1]; rfl)
    . have holds : ∀ j u, xs[j]? = some u -> w.cell? ((⟨g, 0, none⟩ : Addr).add j) = some u := hown.cells (g := g) rfl
      have hr2 := run_append_grow (P := P) w t ty e i z ht hi hz ⟨g, 0, none⟩ n cap xs hown.1 holds a 1 c news hl hnews (by omega) h63' (growslice_fits_wide (by omega) hb)
      have := hr.symm.trans hr2
      injection this with e1 _
      exact .inr (by rw [e1]; rfl)
end
theorem snoc_flat {l : List Sd} {rs : List (Option Addr × Nat)} (h : rs.length = l.length) (d : Sd) (A : Option Addr) (c : Nat) : flat (l ++ [d]) (rs ++ [(A, c)]) = flat l rs ++ (DC d A c).toList := by
  unfold flat
  rw [List.zip_append h.symm, List.flatMap_append]
  simp
theorem dc_ones {d : Sd} {A : Option Addr} {c : Nat} : ∀ u ∈ (DC d A c).toList, u.oneCell' = true := by
  intro u hu
  simp only [DC, List.mem_cons, List.not_mem_nil, or_false] at hu
  rcases hu with rfl | rfl | rfl | rfl | rfl | rfl | rfl | rfl | rfl <;> rfl
theorem dc_cells (w : World) (d : Sd) (A : Option Addr) (c : Nat) : ∀ j u, (DC d A c).toList[j]? = some u -> (w.alloc (.cells (DC d A c) 113)).cell? ((⟨w.heap.size, 0, none⟩ : Addr).add j) = some u := by
  intro j u hu
  have h2 : (⟨w.heap.size, 0, none⟩ : Addr).add j = ⟨w.heap.size, j, none⟩ := by unfold Addr.add; split <;> simp_all
  rw [h2, Blk.cell (Blk.new w 113 _) j]
  simpa using hu
theorem old_ls {w : World} {X : Nat -> Prop} {v : Value} {ls : List (List UInt8)} (h : Ls w X v ls) {B : Nat} (hB : w.heap.size <= B) : Ls w (fun k => X k \/ B <= k) v ls := by
  obtain ⟨vals, a, b⟩ := h
  exact ⟨vals, a.old hB, fun i hi => by obtain ⟨u, hu, h⟩ := b i hi; exact ⟨u, hu, h.old hB⟩⟩
structure QO (w0 : World) (p g p' g' : Nat) (L : List (List UInt8)) (G : List Sg) (L' : List (List UInt8)) (G' : List Sg) (v : Value) (R : List Sd) (P : List (Sd × (Option Addr × Nat))) (rs : List (Option Addr × Nat)) (S S' : Nat -> Prop) (W : World) : Prop where
  two : w0.heap.size + 1 <= W.heap.size
  tl : TL W S p g L G
  rt : RT W S' p' g' L' G'
  s1 : ∀ k, S k -> w0.heap.size + 1 <= k /\ k < W.heap.size
  s2 : ∀ k, S' k -> w0.heap.size + 1 <= k /\ k < W.heap.size
  ap : ∀ k, S k -> S' k -> False
  row : W.ownsRow (w0.heap.size + 1) 113 9 v R.length (flat R rs)
  rap : ∀ k, v.ownBlock = some k -> ¬ S k /\ ¬ S' k
  len : rs.length = R.length
  els : ∀ i (h : i < R.length), ∃ r, rs[i]? = some r /\ Ls W (fun k => (S k \/ S' k) \/ v.ownBlock = some k) (.slice r.1 R[i].q.o.recs.length r.2) R[i].q.o.recs
  pend : ∀ x ∈ P, Ls W (fun k => (S k \/ S' k) \/ v.ownBlock = some k) (.slice x.2.1 x.1.q.o.recs.length x.2.2) x.1.q.o.recs
section
variable {w0 W W' : World} {p g p' g' : Nat} {L L2 L' L3 : List (List UInt8)} {G G2 G' G3 : List Sg} {v v' : Value} {R : List Sd} {P : List (Sd × (Option Addr × Nat))} {rs : List (Option Addr × Nat)} {S S' T T' X : Nat -> Prop}
theorem QO.turn (h : QO w0 p g p' g' L G L' G' v R P rs S S' W) (c : Ch X W W') (hx : ∀ k, k < W.heap.size -> X k -> S k \/ S' k) (t1 : TL W' T p g L2 G2) (t2 : RT W' T' p' g' L3 G3) (ha : ∀ k, T k -> (S k \/ W.heap.size <= k) /\ k < W'.heap.size) (hb : ∀ k, T' k -> (S' k \/ W.heap.size <= k) /\ k < W'.heap.size) (hab : ∀ k, T k -> T' k -> False) : QO w0 p g p' g' L2 G2 L3 G3 v R P rs T T' W' := by
  have hsz := c.size
  have h2 := h.two
  have hlt := h.row.lt
  have hr : ∀ k, v.ownBlock = some k -> k < W.heap.size /\ ¬ S k /\ ¬ S' k := fun k hk => ⟨(hlt k hk).2, h.rap k hk⟩
  have mv : ∀ {u : Value} {ls : List (List UInt8)}, Ls W (fun k => (S k \/ S' k) \/ v.ownBlock = some k) u ls -> Ls W' (fun k => (T k \/ T' k) \/ v.ownBlock = some k) u ls := fun {u ls} hl => by
    refine ((old_ls hl (Nat.le_refl _)).ch c (fun k hk hX => .inl (.inl (hx k hk hX)))).weaken (fun k _ hk => ?_)
    rcases hk with (hk | hk) | hk
    . rcases (ha k hk).1 with q | q
      . exact .inl (.inl (.inl q))
      . exact .inr q
    . rcases (hb k hk).1 with q | q
      . exact .inl (.inl (.inr q))
      . exact .inr q
    . exact .inl (.inr hk)
  refine ⟨by omega, t1, t2, fun k hk => ?_, fun k hk => ?_, hab, own_ch h.row c (fun k hk hX => ?_), fun k hk => ⟨fun ht => ?_, fun ht => ?_⟩, h.len, fun i hi => ?_, fun x hx => mv (h.pend x hx)⟩
  . have h4 := ha k hk
    rcases h4.1 with q | q
    . exact ⟨(h.s1 k q).1, h4.2⟩
    . exact ⟨by omega, h4.2⟩
  . have h4 := hb k hk
    rcases h4.1 with q | q
    . exact ⟨(h.s2 k q).1, h4.2⟩
    . exact ⟨by omega, h4.2⟩
  . have h4 := hr k hk
    rcases hx k h4.1 hX with q | q
    . exact h4.2.1 q
    . exact h4.2.2 q
  . have h4 := hr k hk
    rcases (ha k ht).1 with q | q
    . exact h4.2.1 q
    . omega
  . have h4 := hr k hk
    rcases (hb k ht).1 with q | q
    . exact h4.2.2 q
    . omega
  . obtain ⟨r, h4, h5⟩ := h.els i hi
    exact ⟨r, h4, mv h5⟩
theorem QO.later (h : QO w0 p g p' g' L G L' G' v R P rs S S' W) (b : Below W.heap.size W W') : QO w0 p g p' g' L G L' G' v R P rs S S' W' :=
  h.turn (X := fun _ => False) (Ch.of_below b (Nat.le_refl _)) (fun _ _ h => h.elim) (h.tl.later b) (h.rt.later b) (fun k hk => ⟨.inl hk, Nat.lt_of_lt_of_le (h.s1 k hk).2 b.size⟩) (fun k hk => ⟨.inl hk, Nat.lt_of_lt_of_le (h.s2 k hk).2 b.size⟩) h.ap
theorem QO.one {B : Nat} (h : QO w0 p g p' g' L G L' G' v R P rs S S' W) (t : TL W' (Nw S W.heap.size B) p g L2 G2) (c : Ch S W W') (hB2 : B <= W'.heap.size) : QO w0 p g p' g' L2 G2 L' G' v R P rs (Nw S W.heap.size B) S' W' := by
  have hsz := c.size
  refine h.turn c (fun k _ hk => .inl hk) t (h.rt.ch c (fun k hk hx => h.ap k hx hk)) (fun k hk => ?_) (fun k hk => ⟨.inl hk, by have := (h.s2 k hk).2; omega⟩) (fun k hk hk2 => ?_)
  . rcases hk with hk | hk
    . exact ⟨.inl hk, by have := (h.s1 k hk).2; omega⟩
    . exact ⟨.inr hk.1, by omega⟩
  . rcases hk with hk | hk
    . exact h.ap k hk hk2
    . have := (h.s2 k hk2).2; omega
theorem QO.keep {B : Nat} {y : Sd} {A : Option Addr} {c : Nat} (h : QO w0 p g p' g' L G L' G' v R P rs S S' W) (hs : ∀ k, S k -> k < B) (hs2 : ∀ k, S' k -> k < B) (hr : ∀ k, v.ownBlock = some k -> k < B) (hl : Ls W (fun k => k < B) (.slice A y.q.o.recs.length c) y.q.o.recs) : QO w0 p g p' g' L G L' G' v R [(y, (A, c))] rs S S' W :=
  ⟨h.two, h.tl, h.rt, h.s1, h.s2, h.ap, h.row, h.rap, h.len, h.els, fun x hx => by
    rw [List.mem_singleton.1 hx]
    refine hl.weaken (fun k _ hk => ?_)
    rcases hk with (hk | hk) | hk
    . exact hs k hk
    . exact hs2 k hk
    . exact hr k hk⟩
theorem QO.drop (h : QO w0 p g p' g' L G L' G' v R P rs S S' W) : QO w0 p g p' g' L G L' G' v R [] rs S S' W :=
  ⟨h.two, h.tl, h.rt, h.s1, h.s2, h.ap, h.row, h.rap, h.len, h.els, fun x hx => absurd hx (by simp)⟩
theorem QO.put {y : Sd} {A : Option Addr} {c : Nat} (h : QO w0 p g p' g' L G L' G' v R [(y, (A, c))] rs S S' W) (happ : Appended (W.alloc (.cells (DC y A c) 113)) (w0.heap.size + 1) 113 9 v (R.length + 1) (flat R rs ++ (DC y A c).toList) v' W') : QO w0 p g p' g' L G L' G' v' (R ++ [y]) [] (rs ++ [(A, c)]) S S' W' := by
  have hb : Below W.heap.size W (W.alloc (.cells (DC y A c) 113)) := op_below W _
  have h1 := h.later hb
  have hz : (W.alloc (.cells (DC y A c) 113)).heap.size = W.heap.size + 1 := by simp
  have ch : Ch (fun k => v.ownBlock = some k) (W.alloc (.cells (DC y A c) 113)) W' := Ch.of_grown happ.2.1 (fun k hk _ => hk)
  have hsz := ch.size
  have h2 := h.two
  have mv : ∀ {u : Value} {ls : List (List UInt8)}, Ls (W.alloc (.cells (DC y A c) 113)) (fun k => (S k \/ S' k) \/ v.ownBlock = some k) u ls -> Ls W' (fun k => (S k \/ S' k) \/ v'.ownBlock = some k) u ls := fun {u ls} hl => by
    refine ((old_ls hl (Nat.le_refl _)).ch ch (fun k hk hX => .inl (.inr hX))).weaken (fun k _ hk => ?_)
    rcases hk with hk | hk
    . exact .inl (.inl hk)
    . rcases happ.2.2 with q | q
      . exact .inl (.inr (by rw [<- q]; exact hk))
      . rw [q] at hk; injection hk with hk; exact .inr (by omega)
  refine ⟨by omega, h1.tl.ch ch (fun k hk hx => (h.rap k hx).1 hk), h1.rt.ch ch (fun k hk hx => (h.rap k hx).2 hk), fun k hk => ⟨(h.s1 k hk).1, by have := (h.s1 k hk).2; omega⟩, fun k hk => ⟨(h.s2 k hk).1, by have := (h.s2 k hk).2; omega⟩, h.ap, ?_, fun k hk => ?_, by simp [h.len], fun i hi => ?_, fun x hx => absurd hx (by simp)⟩
  . rw [List.length_append, snoc_flat h.len]; exact happ.1
  . rcases happ.2.2 with q | q
    . rw [q] at hk; exact h.rap k hk
    . rw [q] at hk; injection hk with hk
      exact ⟨fun hs => by have := (h.s1 k hs).2; omega, fun hs => by have := (h.s2 k hs).2; omega⟩
  . rw [List.length_append, List.length_singleton] at hi
    by_cases hl : i < R.length
    . obtain ⟨r, hr, h3⟩ := h1.els i hl
      refine ⟨r, by rw [List.getElem?_append_left (by rw [h.len]; exact hl)]; exact hr, ?_⟩
      have e : (R ++ [y])[i] = R[i] := List.getElem_append_left hl
      rw [e]
      exact mv h3
    . have he : i = R.length := by omega
      subst he
      refine ⟨(A, c), by rw [List.getElem?_append_right (by rw [h.len]; omega), h.len]; simp, ?_⟩
      have e : (R ++ [y])[R.length] = y := by simp
      rw [e]
      exact mv (h1.pend (y, (A, c)) (by simp))
theorem QO.bi (h : QO w0 p g p' g' L G L' G' v R P rs S S' W) : BI W (fun k => S k \/ S' k) v R :=
  ⟨rs, h.len, Sl.of_own' h.row (fun k hk hs => hs.elim (h.rap k hk).1 (h.rap k hk).2), fun i hi => by
    obtain ⟨r, h4, h5⟩ := h.els i hi
    exact ⟨r, h4, h5.weaken (fun k _ hk => .inl hk)⟩⟩
end
structure QS (w0 : World) (s : Sd) (A : Option Addr) (c : Nat) (p g p' g' : Nat) (L : List (List UInt8)) (G : List Sg) (v : Value) (R : List Sd) (W : World) : Prop where
  below : Below w0.heap.size w0 W
  box : DK W w0.heap.size s A c
  own : ∃ S S' rs, QO w0 p g p' g' L G L G v R [] rs S S' W
theorem QS.later {w0 W W' : World} {s : Sd} {A : Option Addr} {c p g p' g' : Nat} {L : List (List UInt8)} {G : List Sg} {v : Value} {R : List Sd} (h : QS w0 s A c p g p' g' L G v R W) (b : Below W.heap.size W W') : QS w0 s A c p g p' g' L G v R W' := by
  obtain ⟨S, S', rs, ho⟩ := h.own
  exact ⟨h.below.trans (b.mono h.below.size), Blk.below h.box b (Blk.lt h.box), S, S', rs, ho.later b⟩
theorem rt_new (w : World) : RT ((w.alloc (.cells #[.slice none 0 0] 58)).alloc (.cells #[.slice none 0 0] 60)) (fun k => w.heap.size <= k /\ k < w.heap.size + 2) w.heap.size (w.heap.size + 1) [] [] := by
  have b1 : Below (w.heap.size + 1) (w.alloc (.cells #[.slice none 0 0] 58)) ((w.alloc (.cells #[.slice none 0 0] 58)).alloc (.cells #[.slice none 0 0] 60)) := by
    have := op_below (w.alloc (.cells #[.slice none 0 0] 58)) (.cells #[.slice none 0 0] 60)
    simpa using this
  have k1 : Blk (w.alloc (.cells #[.slice none 0 0] 58)) w.heap.size 58 #[.slice none 0 0] := Blk.new _ _ _
  have k2 : Blk ((w.alloc (.cells #[.slice none 0 0] 58)).alloc (.cells #[.slice none 0 0] 60)) (w.heap.size + 1) 60 #[.slice none 0 0] := by
    have := Blk.new (w.alloc (.cells #[.slice none 0 0] 58)) 60 #[.slice none 0 0]
    simpa using this
  refine ⟨fun k => k = w.heap.size, fun k => k = w.heap.size + 1, ⟨_, k1.below b1 (by omega), rfl, ⟨[], Sl.nil _ _ _, fun i hi => absurd hi (by simp)⟩, by simp, by simp⟩, ⟨_, k2, rfl, Sl.nil _ _ _⟩, fun k h1 h2 => by omega, fun k hk => ?_, fun k hk => ?_⟩
  . subst hk; simp; omega
  . subst hk; simp
end Go.Proofs.YtmhmnkpaijoaaaaGreat.Kj
namespace Go.Proofs.YtmhmnkpaijoaaaaGreat.Psb
set_option linter.unusedSimpArgs false
open Go Go.RowKit Ck Kw Ga Kf Pm Pe Pg Ik Lk Jm Ja Jb Jf Jh Jl Jn Kc Kj Prv Prw Prx Pry Prz Psa
set_option linter.unusedVariables false
def hue0 (a b : Nat) (k : Nat) : Nat := if k < a then 0 else if k < b then 1 else if k < b + 2 then 2 else if k = b + 2 then 3 else 0
theorem bg_new {w w0 w1 w2 : World} {p g : Nat} (hb : Below w.heap.size w w0) (ht : Tb w1 (New w0 w1) p []) (b1 : Below w0.heap.size w0 w1) (hl : Lg w2 (New w1 w2) g []) (b2 : Below w1.heap.size w1 w2) :
    BG 0 w (w2.heap.size + 2) p g w2.heap.size (w2.heap.size + 1) [] [] [] [] [] [] [] (.slice none 0 0) (.slice none 0 0) (.slice none 0 0) (.slice none 0 0) [] [] [] (SB p g w2.heap.size (w2.heap.size + 1) (.slice none 0 0) (.slice none 0 0) (.slice none 0 0)) (.slice none 0 0) [] (hue0 w0.heap.size w2.heap.size)
      (((w2.alloc (.cells #[.slice none 0 0] 58)).alloc (.cells #[.slice none 0 0] 60)).alloc (.cells (SB p g w2.heap.size (w2.heap.size + 1) (.slice none 0 0) (.slice none 0 0) (.slice none 0 0)) 51)) := by
  have t2 := tl_new ht b1 hl b2
  have r4 := rt_new w2
  generalize hw4 : (w2.alloc (.cells #[.slice none 0 0] 58)).alloc (.cells #[.slice none 0 0] 60) = w4 at *
  have b24 : Below w2.heap.size w2 w4 := by
    rw [<- hw4]
    exact ((Below.refl _ w2).alloc (Nat.le_refl _) _).alloc (by simp) _
  have z4 : w4.heap.size = w2.heap.size + 2 := by rw [<- hw4]; simp
  have b45 : Below w4.heap.size w4 (w4.alloc (.cells (SB p g w2.heap.size (w2.heap.size + 1) (.slice none 0 0) (.slice none 0 0) (.slice none 0 0)) 51)) := (Below.refl _ w4).alloc (Nat.le_refl _) _
  have hk : Blk (w4.alloc (.cells (SB p g w2.heap.size (w2.heap.size + 1) (.slice none 0 0) (.slice none 0 0) (.slice none 0 0)) 51)) w4.heap.size 51 (SB p g w2.heap.size (w2.heap.size + 1) (.slice none 0 0) (.slice none 0 0) (.slice none 0 0)) := Blk.new w4 _ _
  have z5 : (w4.alloc (.cells (SB p g w2.heap.size (w2.heap.size + 1) (.slice none 0 0) (.slice none 0 0) (.slice none 0 0)) 51)).heap.size = w2.heap.size + 3 := by simp; omega
  generalize w4.alloc (.cells (SB p g w2.heap.size (w2.heap.size + 1) (.slice none 0 0) (.slice none 0 0) (.slice none 0 0)) 51) = w5 at *
  have h01 := b1.size
  have h12 := b2.size
  have hb0 := hb.size
  have b02 := b1.trans (b2.mono b1.size)
  have bw2 := hb.trans (b02.mono hb.size)
  have bw4 := bw2.trans (b24.mono bw2.size)
  refine ⟨bw4.trans (b45.mono bw4.size), fun k hk => ?_, fun k hk => ?_, Nat.zero_le _, ?_, ?_, ?_, by rw [<- z4]; exact hk, Row.nil _ _ _ _ _ _, Bs.nil _ _, Row.nil _ _ _ _ _ _, Row.nil _ _ _ _ _ _, Row.nil _ _ _ _ _ _, Ds.nil _ _, Sl.nil _ _ _⟩
  . unfold hue0
    rw [if_neg (by omega), if_neg (by omega), if_neg (by omega), if_neg (by omega)]
  . unfold hue0
    rw [if_pos (by omega)]
  . have t5 := (((t2.weaken (T := fun k => w0.heap.size <= k /\ k < w2.heap.size) (fun k hk h => ⟨h, hk⟩)).later b24).later b45)
    exact t5.weaken (fun k _ h => by unfold hue0; rw [if_neg (by omega), if_pos (by omega)])
  . exact (r4.later b45).weaken (fun k _ h => by unfold hue0; rw [if_neg (by omega), if_neg (by omega), if_pos (by omega)])
  . unfold hue0
    rw [if_neg (by omega), if_neg (by omega), if_neg (by omega), if_pos rfl]
end Go.Proofs.YtmhmnkpaijoaaaaGreat.Psb
namespace Go.Proofs.YtmhmnkpaijoaaaaGreat.Psi
set_option linter.unusedSimpArgs false
open Go Go.RowKit Ck Kw Ga Pra Prh
attribute [local go_sem ↓] Go.wp_at_zero Go.wp_at_succ
set_option linter.unusedVariables false
set_option maxRecDepth 100000
def shr (s : Int) : Nat -> Int
  | 0 => s
  | k + 1 => shr s k / 2
def bitS (s : Int) (k : Nat) : Bool := decide (shr s k % 2 = 1)
def hasS (s : Int) (b : Int) : Bool := decide (0 <= b) && decide (b < 13) && bitS s b.toNat
end Go.Proofs.YtmhmnkpaijoaaaaGreat.Psi
namespace Go.Proofs.YtmhmnkpaijoaaaaGreat.Pre
set_option linter.unusedSimpArgs false
open Go Go.RowKit Cm Ck Kw Ga Kf Pm Pe Pg Ph Qb Lk Ld Jm Ja Jb Jk Pra Prb Prc Prd
attribute [local go_sem ↓] Go.wp_at_zero Go.wp_at_succ
set_option linter.unusedVariables false
set_option maxRecDepth 100000
def RH (w : World) (X : Nat -> Prop) (g : Nat) (l : List Pd) : Prop := ∃ v, Blk w g 67 #[v] /\ PL w (fun k => X k \/ k = g) v l
section
variable {w w' : World} {X Y S : Nat -> Prop} {g : Nat} {l : List Pd}
theorem RH.after (h : RH w X g l) (b : Below w.heap.size w w') : RH w' X g l := by
  obtain ⟨v, h1, h2⟩ := h
  exact ⟨v, h1.below b h1.lt, h2.after b⟩
theorem RH.ch (h : RH w X g l) (c : Ch S w w') (hg : ¬ S g) (hd : ∀ k, k < w.heap.size -> S k -> X k) : RH w' X g l := by
  obtain ⟨v, h1, h2⟩ := h
  exact ⟨v, h1.ch c hg, h2.ch c (fun k h1 h2 => .inl (hd k h1 h2))⟩
end
theorem PI_zero (w : World) (X : Nat -> Prop) : PI w X Pd.zero ((none, 0), (none, 0)) := ⟨Sl.nil _ _ _, bi_nil _ _⟩
def Told (w : World) (X : Nat -> Prop) (o : Option Pd) (e : Ending) (w' : World) : Prop :=
  ∃ r, e = .returned (.tuple #[.agg (PC (o.getD Pd.zero) r), .bool o.isSome]) /\ PI w' X (o.getD Pd.zero) r /\ Below w.heap.size w w'
theorem blk7 {w : World} {g : Nat} {t : TypeId} {a0 a1 a2 a3 a4 a5 a6 x0 x1 x2 x3 x4 x5 x6 : Value} (h : Blk w g t #[a0, a1, a2, a3, a4, a5, a6]) : Blk ((((((((w).setCell ⟨g, 0, none⟩ x0).setCell ⟨g, 1, none⟩ x1).setCell ⟨g, 2, none⟩ x2).setCell ⟨g, 3, none⟩ x3).setCell ⟨g, 4, none⟩ x4).setCell ⟨g, 5, none⟩ x5).setCell ⟨g, 6, none⟩ x6) g t #[x0, x1, x2, x3, x4, x5, x6] := by
  have := (((((((h).set_ 0 x0).set_ 1 x1).set_ 2 x2).set_ 3 x3).set_ 4 x4).set_ 5 x5).set_ 6 x6
  simpa using this
theorem ch7 (w : World) (g : Nat) (x0 x1 x2 x3 x4 x5 x6 : Value) : Ch (fun k => k = g) w ((((((((w).setCell ⟨g, 0, none⟩ x0).setCell ⟨g, 1, none⟩ x1).setCell ⟨g, 2, none⟩ x2).setCell ⟨g, 3, none⟩ x3).setCell ⟨g, 4, none⟩ x4).setCell ⟨g, 5, none⟩ x5).setCell ⟨g, 6, none⟩ x6) := (((((((Ch.refl (fun k => k = g) w).setCell (p := ⟨g, 0, none⟩) (fun _ => rfl) x0).setCell (p := ⟨g, 1, none⟩) (fun _ => rfl) x1).setCell (p := ⟨g, 2, none⟩) (fun _ => rfl) x2).setCell (p := ⟨g, 3, none⟩) (fun _ => rfl) x3).setCell (p := ⟨g, 4, none⟩) (fun _ => rfl) x4).setCell (p := ⟨g, 5, none⟩) (fun _ => rfl) x5).setCell (p := ⟨g, 6, none⟩) (fun _ => rfl) x6
theorem size_prep : (Tryz.prog.info? 41).map (·.size) = some 7 := by kernel_rfl
end Go.Proofs.YtmhmnkpaijoaaaaGreat.Pre
namespace Go.Proofs.YtmhmnkpaijoaaaaGreat.Prf
set_option linter.unusedSimpArgs false
open Go Go.RowKit Cm Ck Kw Ga Kf Pm Pe Pg Ph Qb Lk Ld Jm Ja Jb Jk Pra Prb Prc Prd Pre
attribute [local go_sem ↓] Go.wp_at_zero Go.wp_at_succ
set_option linter.unusedVariables false
set_option maxRecDepth 100000
theorem info_prep : (Tryz.prog.info? 41).map (fun i => (i.zero, i.size, i.bytes)) = some (some (.agg #[.int .i64 0, .int .i64 0, .int .i64 0, .int .i64 0, .int .i64 0, .slice none 0 0, .slice none 0 0]), 7, 88) := by kernel_rfl
structure OP (w : World) (B : Nat) (X : Nat -> Prop) (v : Value) (l : List Pd) : Prop where
  ex : ∃ rs, Pts w X l rs /\ w.ownsRow B 41 7 v l.length (flatP l rs)
theorem OP.nil (w : World) (B : Nat) (X : Nat -> Prop) : OP w B X (.slice none 0 0) [] := ⟨[], Pts.nil, World.ownsRow_nil _ _ _ _⟩
theorem OP.below {w w' : World} {B : Nat} {X : Nat -> Prop} {v : Value} {l : List Pd} (h : OP w B X v l) (b : Below w.heap.size w w') : OP w' B X v l := by
  obtain ⟨rs, h1, h2⟩ := h.ex
  exact ⟨rs, h1.after b, own_below h2 b⟩
theorem OP.pl {w : World} {B : Nat} {X Y : Nat -> Prop} {v : Value} {l : List Pd} (h : OP w B X v l) (hX : ∀ k, Y k -> X k) (hB : ∀ k, B <= k -> ¬ Y k) : PL w Y v l := by
  obtain ⟨rs, h1, h2⟩ := h.ex
  exact ⟨rs, h1.weaken (fun b _ hy => hX b hy), Sl.of_own h2 (fun k hk _ => hB k hk)⟩
theorem OP.snoc {w w' : World} {B : Nat} {X : Nat -> Prop} {v v' : Value} {l : List Pd} {rs : List Pl2} {p : Pd} {r : Pl2} (h : Pts w X l rs) (hp : PI w X p r) (ha : Appended w B 41 7 v (l.length + 1) (flatP l rs ++ (PC p r).toList) v' w') (c : Ch (fun k => v.ownBlock = some k) w w') (hX : ∀ k, v.ownBlock = some k -> X k) : OP w' B X v' (l ++ [p]) := by
  refine ⟨rs ++ [r], (h.app (Pts.one hp)).ch c (fun k _ hk => hX k hk), ?_⟩
  rw [flatP_app h.1, flatP_single, List.length_append, List.length_singleton]
  exact ha.1
end Go.Proofs.YtmhmnkpaijoaaaaGreat.Prf
namespace Go.Proofs.YtmhmnkpaijoaaaaGreat.Psj
set_option linter.unusedSimpArgs false
open Go Go.RowKit Cm Ck Kw Ga Kf Pm Pe Pg Ph Qb Lk Ld Jm Ja Jb Jk Pra Prb Prc Prd Pre Prf Prh Psi
attribute [local go_sem ↓] Go.wp_at_zero Go.wp_at_succ
set_option linter.unusedVariables false
set_option maxRecDepth 100000
def listTo (P : Int -> Bool) (k : Nat) : List Int := ((List.range k).filter fun i : Nat => P (i : Int)).map fun i : Nat => (i : Int)
def listS (s : Int) : List Int := listTo (hasS s) 13
end Go.Proofs.YtmhmnkpaijoaaaaGreat.Psj
namespace Go.Proofs.YtmhmnkpaijoaaaaGreat.Psm
set_option linter.unusedSimpArgs false
open Go
set_option linter.unusedVariables false
theorem nodup_le : ∀ (l m : List Int), l.Nodup -> (∀ x ∈ l, x ∈ m) -> l.length <= m.length
  | [], m, _, _ => by simp
  | x :: l, m, h, hs => by
    obtain ⟨h1, h2⟩ := List.nodup_cons.1 h
    have hx := hs x (by simp)
    have hr := nodup_le l (m.erase x) h2 (fun y hy => by
      have hne : y ≠ x := fun e => h1 (e ▸ hy)
      exact (List.mem_erase_of_ne hne).2 (hs y (by simp [hy])))
    have hle := List.length_erase_of_mem hx
    have hpos : 0 < m.length := List.length_pos_of_mem hx
    simp only [List.length_cons]
    omega
end Go.Proofs.YtmhmnkpaijoaaaaGreat.Psm
namespace Go.Proofs.YtmhmnkpaijoaaaaGreat.Psn
set_option linter.unusedSimpArgs false
open Go Lk Jm Jn Kg Pra Prh Pri Prj Prk Prl Prn Psm
open Im (num isIn)
set_option linter.unusedVariables false
def Stands (L : List (List UInt8)) (G : List Sg) (x v q d : Int) : Prop := ∃ (s : Sg) (k : Int), (k = 2 \/ k = 3) /\ validVoteB L G s x k v q d = true
theorem Stands.out {L : List (List UInt8)} {G : List Sg} {x v q d : Int} (h : Stands L G x v q d) : ∃ k : Int, (k = 2 \/ k = 3) /\ num L (voteB k.toNat v.toNat q.toNat d.toNat) ≠ 0 /\ (x, (num L (voteB k.toNat v.toNat q.toNat d.toNat) : Int)) ∈ G := by
  obtain ⟨s, k, hk, hv⟩ := h
  simp only [validVoteB, signedB, isIn, Lk.isS, Bool.and_eq_true, decide_eq_true_eq] at hv
  obtain ⟨-, ⟨⟨h1, h2⟩, h3⟩, h4⟩ := hv
  refine ⟨k, hk, h1, ?_⟩
  have : s = (x, (num L (voteB k.toNat v.toNat q.toNat d.toNat) : Int)) := Prod.ext h2 h3
  rw [<- this]
  exact h4
end Go.Proofs.YtmhmnkpaijoaaaaGreat.Psn
namespace Go.Proofs.YtmhmnkpaijoaaaaGreat.Pso
set_option linter.unusedSimpArgs false
open Go Lk Jm Jn Kg Pra Prh Pri Prj Prk Prl Prn Psm Psn
open Im (num isIn)
set_option linter.unusedVariables false
structure Vt where
  key : Int
  kind : Int
  view : Int
  seq : Int
  batch : Nat
def alike (a b : Vt) : Bool := decide (a.key = b.key) && decide (a.view = b.view) && decide (a.seq = b.seq)
theorem alike_iff {a b : Vt} : alike a b = true ↔ a.key = b.key /\ a.view = b.view /\ a.seq = b.seq := by simp [alike, and_assoc]
def hadV (acc : List Vt) (u : Vt) : Option Nat := (acc.reverse.find? (alike u)).map (·.batch)
end Go.Proofs.YtmhmnkpaijoaaaaGreat.Pso
namespace Go.Proofs.YtmhmnkpaijoaaaaGreat.Psq
set_option linter.unusedSimpArgs false
open Go Lk Jm Jg Jn Pra Prh Pri Prj Prv Prw Prz
open Im (num isIn add sum)
set_option linter.unusedVariables false
theorem mem_pay {G : List Sg} {s t : Sg} (h : s ∈ pay G t) : s ∈ G \/ s = t := by
  unfold pay at h
  split at h
  . split at h
    . exact .inl h
    . rcases List.mem_append.1 h with h | h
      . exact .inl h
      . exact .inr (List.mem_singleton.1 h)
  . exact .inl h
def VI (ds : List Int) (L : List (List UInt8)) (G : List Sg) (vs : List (Vt × Nat)) : Prop :=
  ∀ s ∈ G, s.1 < 13 -> ∃ u ∈ vs, u.1.key = s.1 /\ vMay u.1 (vDig ds u) = true /\ s.2 = (num L (vB u.1 (vDig ds u)) : Int) /\ num L (vB u.1 (vDig ds u)) ≠ 0
theorem VI.step {ds : List Int} {z : Vz} {vs : List (Vt × Nat)} (h : VI ds z.L z.G vs) (v : Vt × Nat) : VI ds (stepV ds z v).L (stepV ds z v).G (vs ++ [v]) := by
  simp only [stepV]
  unfold vT vG
  by_cases hm : vMay v.1 (vDig ds v) = true
  . rw [if_pos hm, if_pos hm]
    have hold : ∀ s ∈ z.G, s.1 < 13 -> ∃ u ∈ vs ++ [v], u.1.key = s.1 /\ vMay u.1 (vDig ds u) = true /\ s.2 = (num (add z.L (vB v.1 (vDig ds v))) (vB u.1 (vDig ds u)) : Int) /\ num (add z.L (vB v.1 (vDig ds v))) (vB u.1 (vDig ds u)) ≠ 0 := by
      intro s hs hk
      obtain ⟨u, hu, a1, a2, a3, a4⟩ := h s hs hk
      have e := num_add (b := vB v.1 (vDig ds v)) a4
      exact ⟨u, List.mem_append.2 (.inl hu), a1, a2, by rw [e]; exact a3, by rw [e]; exact a4⟩
    intro s hs hk
    unfold vsG at hs
    split at hs
    . exact hold s hs hk
    . rename_i hne
      rcases mem_pay hs with hs | rfl
      . exact hold s hs hk
      . obtain ⟨e1, e2⟩ := sum_num hne
        exact ⟨v, List.mem_append.2 (.inr (List.mem_singleton.2 rfl)), rfl, hm, by rw [e1]; rfl, e2⟩
  . rw [if_neg hm, if_neg hm]
    intro s hs hk
    obtain ⟨u, hu, a⟩ := h s hs hk
    exact ⟨u, List.mem_append.2 (.inl hu), a⟩
theorem VI.steps {ds : List Int} : ∀ (ws : List (Vt × Nat)) (z : Vz) (vs : List (Vt × Nat)), VI ds z.L z.G vs -> VI ds (ws.foldl (stepV ds) z).L (ws.foldl (stepV ds) z).G (vs ++ ws)
  | [], z, vs, h => by simpa using h
  | w :: ws, z, vs, h => by
    have := VI.steps ws _ _ (h.step w)
    simpa using this
end Go.Proofs.YtmhmnkpaijoaaaaGreat.Psq
namespace Go.Proofs.YtmhmnkpaijoaaaaGreat.Psr
set_option linter.unusedSimpArgs false
open Go Lk Jm Jg Jn Pra Prh Pri Prj Prv Prw Prz
open Im (num isIn add sum)
set_option linter.unusedVariables false
structure Sp where
  view : Int
  seq : Int
  batch : Nat
  dig : Int
  first : Nat
  signs : List Nat
def sgAt (ss : List Sg) (k : Nat) : Sg := (ss[k % ss.length]?).getD (0, 0)
def madeP (b : Bz) (ss : List Sg) (p : Sp) : Pd :=
  ⟨p.view, p.seq, if p.dig = 0 then (b.ds[p.batch % b.bs.length]?).getD 0 else p.dig, sgAt ss p.first, p.signs.map (sgAt ss), (b.bs[p.batch % b.bs.length]?).getD []⟩
def liveB : Bz := madeB [[]]
def liveVs : List (Vt × Nat) := [(⟨0, 2, 0, 1⟩, 0), (⟨1, 3, 0, 1⟩, 0), (⟨3, 3, 0, 1⟩, 0)]
def liveV : Vz := votesV liveB liveVs
theorem live_ds : liveB.ds = [1] := by decide +kernel
theorem live_bs : liveB.bs = [[]] := by decide +kernel
theorem live_G : liveV.G = [(0, 2), (1, 3), (3, 3)] := by decide +kernel
theorem live_ss : liveV.ss = [(0, 0), (0, 2), (1, 3), (3, 3)] := by decide +kernel
def liveGood : Pd := ⟨0, 1, 1, (0, 2), [(1, 3), (3, 3)], []⟩
def liveBad : Pd := ⟨0, 1, 1, (0, 2), [(1, 3)], []⟩
theorem live_made : madeP liveB liveV.ss ⟨0, 1, 0, 0, 1, [2, 3]⟩ = liveGood := by decide +kernel
theorem live_made2 : madeP liveB liveV.ss ⟨0, 1, 0, 0, 1, [2]⟩ = liveBad := by decide +kernel
theorem live_good : Prn.validP liveV.L liveV.G 1 liveGood = true := by decide +kernel
theorem live_bad : Prn.validP liveV.L liveV.G 1 liveBad = false := by decide +kernel
theorem live_put : putP [] liveGood = ([liveGood], true) := by decide +kernel
theorem live_put2 : putP [liveGood] liveGood = ([liveGood], false) := by decide +kernel
end Go.Proofs.YtmhmnkpaijoaaaaGreat.Psr
namespace Go.Proofs.YtmhmnkpaijoaaaaGreat.Psu
set_option linter.unusedSimpArgs false
open Go Go.RowKit Ck Cf Kw Ga Kf Pm Pe Pg Ik Lk Jm Ja Jb Jf Jl Jn Kc Pra Prb Prv Prw Prx Pry Prz Psa Psb Psr
set_option linter.unusedVariables false
structure AtS (W : World) (B q p g p' g' : Nat) (z : Bz) (x : Vz) (vb vd vs : Value) : Prop where
  hB : B <= W.heap.size
  tl : TL W (fun k => k < B) p g x.L x.G
  rt : RT W (fun k => k < B) p' g' x.L x.G
  hq : q < B
  st : Blk W q 51 (SB p g p' g' vb vd vs)
  rb : ∃ vals, vals.length = z.bs.length /\ Sl W (fun k => B <= k) 1 vb z.bs.length vals /\ ∀ i (h : i < z.bs.length), ∃ u, vals[i]? = some u /\ BI W (fun k => B <= k) u z.bs[i]
  rd : Sl W (fun k => B <= k) 1 vd z.ds.length (IV z.ds)
  rg : Sl W (fun k => B <= k) 2 vs x.ss.length (GVs x.ss)
section
variable {W W' : World} {B q p g p' g' : Nat} {z : Bz} {x : Vz} {vb vd vs : Value}
theorem AtS.ch (h : AtS W B q p g p' g' z x vb vd vs) (cc : Ch (fun k => B <= k) W W') : AtS W' B q p g p' g' z x vb vd vs := by
  obtain ⟨vals, h1, h2, h3⟩ := h.rb
  exact ⟨Nat.le_trans h.hB cc.size, h.tl.ch cc (fun k h1 h2 => by omega), h.rt.ch cc (fun k h1 h2 => by omega), h.hq, h.st.ch cc (fun hx => by have := h.hq; omega),
    ⟨vals, h1, h2.ch cc (fun _ _ h => h), fun i hi => by obtain ⟨u, h4, h5⟩ := h3 i hi; exact ⟨u, h4, h5.ch cc (fun _ _ h => h)⟩⟩, h.rd.ch cc (fun _ _ h => h), h.rg.ch cc (fun _ _ h => h)⟩
theorem AtS.later (h : AtS W B q p g p' g' z x vb vd vs) (b : Below W.heap.size W W') : AtS W' B q p g p' g' z x vb vd vs := h.ch ((Ch.of_below (S := fun _ => False) b (Nat.le_refl _)).mono (fun _ _ h => h.elim))
theorem sl_under {w : World} {X : Nat -> Prop} {size n : Nat} {v : Value} {xs : List Value} (h : Sl w X size v n xs) : Sl w (fun k => w.heap.size <= k) size v n xs := (h.old (Nat.le_refl _)).weaken (fun k _ hk => .inr hk)
theorem bi_under {w : World} {X : Nat -> Prop} {v : Value} {l : List Sd} (h : BI w X v l) : BI w (fun k => w.heap.size <= k) v l := (batch_old h (Nat.le_refl _)).weaken (fun k _ hk => .inr hk)
theorem AtS.of {w0 : World} {vals : List Value} {c : Nat -> Nat} {vq v : Value} {lq : List Value} (h : BG 0 w0 q p g p' g' x.L x.G x.L x.G z.bs z.ds x.ss vb vd vs v [] vals [] (SB p g p' g' vb vd vs) vq lq c W) : AtS W W.heap.size q p g p' g' z x vb vd vs :=
  ⟨Nat.le_refl _, h.tl.weaken (fun k hk _ => hk), h.rt.weaken (fun k hk _ => hk), h.st.lt, h.st,
    ⟨vals, h.bb.1, sl_under (Sl.of_own' (X := fun _ => False) h.rb.1 (fun _ _ h => h)), fun i hi => by obtain ⟨u, h4, h5⟩ := h.bb.2 i hi; exact ⟨u, h4, bi_under h5⟩⟩,
    sl_under (Sl.of_own' (X := fun _ => False) h.rd.1 (fun _ _ h => h)), sl_under (Sl.of_own' (X := fun _ => False) h.rg.1 (fun _ _ h => h))⟩
theorem AtS.batch {A : Option Addr} {n c k : Nat} (h : AtS W B q p g p' g' z x (.slice A n c) vd vs) (hk : k < z.bs.length) : ∃ ad D d, A = some ad /\ W.cell? (ad.add k) = some (.slice D z.bs[k].length d) /\ BI W (fun k => B <= k) (.slice D z.bs[k].length d) z.bs[k] := by
  obtain ⟨vals, h1, ⟨A', c', hv, hl, hc, hm, hx⟩, h3⟩ := h.rb
  injection hv with e1 e2 e3
  subst e1
  obtain ⟨ad, hA, hb, hX, hcell⟩ := hx (by omega)
  obtain ⟨u, h4, h5⟩ := h3 k hk
  obtain ⟨D, d, rfl, -⟩ := h5.shape
  exact ⟨ad, D, d, hA, hcell _ _ h4, h5⟩
theorem AtS.digest {A : Option Addr} {n c k : Nat} (h : AtS W B q p g p' g' z x vb (.slice A n c) vs) (hk : k < z.ds.length) : ∃ ad, A = some ad /\ W.cell? (ad.add k) = some (.int .i64 z.ds[k]) := by
  obtain ⟨A', c', hv, hl, hc, hm, hx⟩ := h.rd
  injection hv with e1 e2 e3
  subst e1
  obtain ⟨ad, hA, hb, hX, hcell⟩ := hx (by omega)
  refine ⟨ad, hA, hcell _ _ ?_⟩
  unfold IV
  rw [List.getElem?_map, List.getElem?_eq_getElem hk]
  rfl
theorem AtS.sign {A : Option Addr} {n c k : Nat} (h : AtS W B q p g p' g' z x vb vd (.slice A n c)) (hk : k < x.ss.length) : ∃ ad, A = some ad /\ W.cell? (ad.add (k * 2)) = some (.int .i64 x.ss[k].1) /\ W.cell? ⟨(ad.add (k * 2)).block, (ad.add (k * 2)).off + 1, none⟩ = some (.int .i64 x.ss[k].2) := by
  obtain ⟨A0, c0, hv, hl, hc, hm, hx⟩ := h.rg
  injection hv with e1 e2 e3
  subst e1
  obtain ⟨ad, hA, hb, hX, hcell⟩ := hx (by omega)
  obtain ⟨g0, g1⟩ := GVs_get x.ss k hk
  have h0 := hcell _ _ g0
  have h1 := hcell _ _ g1
  refine ⟨ad, hA, h0, ?_⟩
  rw [<- add_add] at h1
  rw [show (⟨(ad.add (k * 2)).block, (ad.add (k * 2)).off + 1, none⟩ : Addr) = (ad.add (k * 2)).add 1 from by
    unfold Addr.add
    split <;> rfl]
  exact h1
theorem AtS.shapes (h : AtS W B q p g p' g' z x vb vd vs) : (∃ A c, vb = .slice A z.bs.length c) /\ (∃ A c, vd = .slice A z.ds.length c) /\ ∃ A c, vs = .slice A x.ss.length c := by
  obtain ⟨vals, h1, ⟨A1, c1, rfl, _⟩, _⟩ := h.rb
  obtain ⟨A2, c2, rfl, _⟩ := h.rd
  obtain ⟨A3, c3, rfl, _⟩ := h.rg
  exact ⟨⟨_, _, rfl⟩, ⟨_, _, rfl⟩, ⟨_, _, rfl⟩⟩
end
def SpC (s : Sp) (A : Option Addr) (n c : Nat) : Array Value := #[.int .i64 s.view, .int .i64 s.seq, .int .u8 (s.batch : Int), .int .i64 s.dig, .int .u8 (s.first : Int), .slice A n c]
end Go.Proofs.YtmhmnkpaijoaaaaGreat.Psu

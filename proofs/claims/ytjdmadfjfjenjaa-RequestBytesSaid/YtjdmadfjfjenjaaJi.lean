/-
  Layer 8: RequestBytes, whatever it is asked of.
-/
import Derived.Test.YtjdmadfjfjenjaaJh
namespace Go.Proofs.Ytjdmadfjfjenjaa.Ji
set_option linter.unusedSimpArgs false
open Go Go.RowKit Ck Kw Ca Ga Kf Pm Pe Pg Pk Pn Py Qb Lk Jm Ja Jb Jc Jd Je Jh
attribute [local go_sem ↓] Go.wp_at_zero Go.wp_at_succ
set_option linter.unusedVariables false
set_option maxRecDepth 100000

/-- What stands there all the while. -/
structure BS (w0 : World) (b : List UInt8) (vb : Value) (x : Q) (A : Option Addr) (c : Nat) (s : Sg) (l : List Sd) (vl : Value) (W : World) : Prop where
  below : Below w0.heap.size w0 W
  req : QB W w0.heap.size x A c
  sign : Blk W (w0.heap.size + 1) 29 #[.int .i64 s.1, .int .i64 s.2]
  arg : Sl W (fun k => w0.heap.size ≤ k) 1 vb b.length (BVs b)
  recs : Ls W (fun k => w0.heap.size ≤ k) (.slice A x.o.recs.length c) x.o.recs
  batch : BI W (fun k => w0.heap.size ≤ k) vl l
theorem BS.later {w0 W W' : World} {b : List UInt8} {vb : Value} {x : Q} {A : Option Addr} {c : Nat} {s : Sg} {l : List Sd} {vl : Value} (h : BS w0 b vb x A c s l vl W) (k : Below W.heap.size W W') : BS w0 b vb x A c s l vl W' :=
  ⟨h.below.trans (k.mono h.below.size), Blk.below h.req k (Blk.lt h.req), h.sign.below k h.sign.lt, h.arg.after k, h.recs.after k, h.batch.after k⟩
theorem bs_new {w : World} {b : List UInt8} {vb : Value} {x : Q} {A : Option Addr} {c : Nat} {s : Sg} {l : List Sd} {vl : Value} (h1 : Sl w (fun k => w.heap.size ≤ k) 1 vb b.length (BVs b)) (h2 : Ls w (fun k => w.heap.size ≤ k) (.slice A x.o.recs.length c) x.o.recs) (h3 : BI w (fun k => w.heap.size ≤ k) vl l) :
    BS w b vb x A c s l vl ((w.alloc (.cells (QC x A c) 26)).alloc (.cells #[.int .i64 s.1, .int .i64 s.2] 29)) := by
  have b1 : Below w.heap.size w ((w.alloc (.cells (QC x A c) 26)).alloc (.cells #[.int .i64 s.1, .int .i64 s.2] 29)) := (op_below w _).trans ((op_below _ _).mono (by simp))
  exact ⟨b1, Blk.alloc (Blk.new w _ _) _, Blk.new_at (by simp) rfl, h1.after b1, h2.after b1, h3.after b1⟩

set_option maxHeartbeats 8000000 in
theorem reqbytes_any (w : World) (A0 : Option Addr) (c0 : Nat) (b : List UInt8) (x : Q) (A : Option Addr) (c : Nat) (s : Sg) (l : List Sd) (vl : Value) (hb : Sl w (fun k => w.heap.size ≤ k) 1 (.slice A0 b.length c0) b.length (BVs b)) (hbl : b.length ≤ 140737488351232)
    (hx : Ls w (fun k => w.heap.size ≤ k) (.slice A x.o.recs.length c) x.o.recs) (hxl : x.o.recs.length ≤ 140737488355328) (hl : BI w (fun k => w.heap.size ≤ k) vl l) (hr : ∀ y ∈ l, y.q.o.recs.length ≤ 140737488355328) (hl63 : l.length ≤ 140737488355328) :
    Calls Try.prog 4 #[.slice A0 b.length c0, QV x A c, GV s, vl] w fun e w' => e = .returned (.bool true) ∧ Below w.heap.size w w' := by
  have hbs := bs_new (s := s) hb hx hl
  obtain ⟨s1, s2⟩ := s
  obtain ⟨Al, cl, rfl, -⟩ := hl.shape
  have HB0 := Lib.hid hbs
  obtain ⟨a0, a1, a2, a3, a4, a5, a6⟩ := hbs.req.cells
  have HBL := Lib.hid hbl
  have HXL := Lib.hid hxl
  have HR := Lib.hid hr
  have HL63 := Lib.hid hl63
  clear hbs hb hbl hx hxl hl hr hl63
  have HC1 := Lib.hid (qbytes_any x (QV x A c) _ _ ⟨A, c, rfl, HB0.out.recs⟩ HXL.out)
  unfold Byt at HC1
  unfold QV QC at HC1
  unfold QV GV
  unfold QC at HB0 a0 a1 a2 a3 a4 a5 a6 ⊢
  simp only at HB0 HC1 a0 a1 a2 a3 a4 a5 a6 ⊢
  go_enter Try.func4, Try.ntmps4
  go_wp2_with fail
  refine HC1.out.mono ?_
  rintro e w1 ⟨v1, rfl, hp1, hb1⟩
  have HB1 := Lib.hid (HB0.out.later hb1)
  have HP1 : Hid (Sl w1 (fun k => k < w.heap.size) 1 v1 (qform x).length (BVs (qform x))) := Lib.hid (hp1.weaken (fun k _ h => by simp; omega))
  have HC2 := Lib.hid (rqbytes_any x (QV x A c) _ w1 ⟨A, c, rfl, HB1.out.recs⟩ HXL.out)
  unfold Byt at HC2
  unfold QV QC at HC2
  clear hp1 hb1 a0 a1 a2 a3 a4 a5 a6
  obtain ⟨a0, a1, a2, a3, a4, a5, a6⟩ := QB.cells HB1.out.req
  go_wp2_with fail
  refine HC2.out.mono ?_
  rintro e w2 ⟨v2, rfl, hq2, hb2⟩
  have HB2 := Lib.hid (HB1.out.later hb2)
  have HP2 := Lib.hid (HP1.out.after hb2)
  have HQ2 : Hid (Sl w2 (fun k => k < w.heap.size) 1 v2 (qform x).length (BVs (qform x))) := Lib.hid (hq2.weaken (fun k _ h => by have := HB1.out.below.size; omega))
  have HC3 := Lib.hid (Qa.sclb_any _ _ b.length b w2 HB2.out.arg (by have := HBL.out; omega))
  clear hq2 hb2 a0 a1 a2 a3 a4 a5 a6
  go_wp2_with fail
  refine HC3.out.mono ?_
  rintro e w3 ⟨v3, rfl, hw3, hb3⟩
  have HB3 := Lib.hid (HB2.out.later hb3)
  have HP3 := Lib.hid (HP2.out.after hb3)
  have HQ3 := Lib.hid (HQ2.out.after hb3)
  have HW3 : Hid (Sl w3 (fun k => k < w.heap.size) 1 v3 b.length (BVs b)) := Lib.hid (Sl.of_own hw3 (fun k h1 _ h2 => by have := HB2.out.below.size; omega))
  clear hw3 hb3
  go_wp2_with fail
  have hbs3 := HB3.out.sign
  have j0 : w3.cell? ⟨w.heap.size + 1, 0, none⟩ = some (.int .i64 s1) := hbs3.cell 0
  have j1 : w3.cell? ⟨w.heap.size + 1, 1, none⟩ = some (.int .i64 s2) := hbs3.cell 1
  clear hbs3
  have HCL : ∀ {W : World}, BS w b (.slice A0 b.length c0) x A c (s1, s2) l (.slice Al l.length cl) W → Hid (W.cell? ⟨w.heap.size + 1, 0, none⟩ = some (.int .i64 s1) ∧ W.cell? ⟨w.heap.size + 1, 1, none⟩ = some (.int .i64 s2)) := fun h => Lib.hid ⟨h.sign.cell 0, h.sign.cell 1⟩
  generalize qcheck x = z at *
  generalize qform x = f at *
  have hzz : (z == z) = true := beq_self_eq_true z
  have HB3' : Hid (BS w b (.slice A0 b.length c0) x A c (s1, s2) l (.slice Al l.length cl) w3.drew) := Lib.hid (HB3.out.later (below_drewN (Below.refl _ _) 1))
  have HP3' : Hid (Sl w3.drew (fun k => k < w.heap.size) 1 v1 f.length (BVs f)) := Lib.hid HP3.out.drew
  have HQ3' : Hid (Sl w3.drew (fun k => k < w.heap.size) 1 v2 f.length (BVs f)) := Lib.hid HQ3.out.drew
  have HW3' : Hid (Sl w3.drew (fun k => k < w.heap.size) 1 v3 b.length (BVs b)) := Lib.hid HW3.out.drew
  have HPS := fun W Y vb nb b h h2 => Lib.hid (putsign_any (s1, s2) Y vb nb b W h h2)
  have HRS := fun W Y vb nb b h h2 => Lib.hid (rputsign_any (s1, s2) Y vb nb b W h h2)
  unfold GV Behind at HRS
  unfold GV at HPS
  simp only at HPS HRS
  have tok1 : True := trivial
  have tok2 : True := trivial
  have tok3 : True := trivial
  have tok4 : True := trivial
  go_region_held3 (fun w' => w'.cell? ⟨w.heap.size + 1, 0, none⟩ = some (.int .i64 s1) ∧ w'.cell? ⟨w.heap.size + 1, 1, none⟩ = some (.int .i64 s2)) (first | exact ⟨j0, j1⟩ | exact (HCL HB4.out).out | exact (HCL HB6.out).out | exact (HCL HB7.out).out | exact (HCL HB8.out).out | exact (HCL HB9.out).out)
    (first
    | (go_at_call 7; refine (begun_any _).mono ?_; rintro e w4 ⟨rfl, hb4⟩; have HB4 := Lib.hid (HB3'.out.later hb4); have HP4 := Lib.hid (HP3'.out.after hb4); have HQ4 := Lib.hid (HQ3'.out.after hb4); have HW4 := Lib.hid (HW3'.out.after hb4); clear hb4)
    | (go_at_call 22; have _t := tok1; clear tok1 _t; refine (Ca.equal_any _ _ _ v1 v2 _ _ f f HP4.out HQ4.out).mono ?_; rintro e w5 ⟨he, rfl⟩; rw [beq_self_eq_true] at he; subst he)
    | (go_at_call 23; refine (HPS _ _ _ _ b HB4.out.arg HBL.out).out.mono ?_; rintro e w6 ⟨v6, rfl, ho6, hb6⟩; have HB6 := Lib.hid (HB4.out.later hb6); have HW6 := Lib.hid (HW4.out.after hb6); have HX6 : Hid (Sl w6 (fun k => k < w.heap.size) 1 v6 _ _) := Lib.hid (Sl.of_own ho6 (fun k h1 _ h2 => by have := HB4.out.below.size; omega)); clear hb6 ho6)
    | (go_at_call 24; refine (HRS _ _ _ _ b HW6.out (Nat.le_trans HBL.out (by decide))).out.mono ?_; rintro e w7 ⟨v7, rfl, ho7, hb7⟩; have HB7 := Lib.hid (HB6.out.later hb7); have HW7 := Lib.hid (HW6.out.after hb7); have HX7 := Lib.hid (HX6.out.after hb7); have HY7 := Lib.hid ho7; clear hb7 ho7)
    | (go_at_call 22; have _t := tok2; clear tok2 _t; refine (Ca.equal_any _ _ _ v6 v7 _ _ _ _ HX7.out HY7.out).mono ?_; rintro e w5 ⟨he, rfl⟩; rw [beq_self_eq_true] at he; subst he)
    | (go_at_call 25; refine (putbatch_any l _ _ _ _ _ b _ HB7.out.batch HR.out HL63.out HB7.out.arg HBL.out).mono ?_; rintro e w8 ⟨v8, rfl, ho8, hb8⟩; have HB8 := Lib.hid (HB7.out.later hb8); have HW8 := Lib.hid (HW7.out.after hb8); have HX8 : Hid (Sl w8 (fun k => k < w.heap.size) 1 v8 _ _) := Lib.hid (Sl.of_own ho8 (fun k h1 _ h2 => by have := HB7.out.below.size; omega)); clear hb8 ho8)
    | (go_at_call 26; refine (rputbatch_any l _ _ _ _ _ b _ HB8.out.batch HR.out HL63.out HW8.out HBL.out).mono ?_; rintro e w9 ⟨v9, rfl, ho9, hb9⟩; have HB9 := Lib.hid (HB8.out.later hb9); have HW9 := Lib.hid (HW8.out.after hb9); have HX9 := Lib.hid (HX8.out.after hb9); have HY9 := Lib.hid ho9; clear hb9 ho9)
    | (go_at_call 22; have _t := tok3; clear tok3 _t; refine (Ca.equal_any _ _ _ v8 v9 _ _ _ _ HX9.out HY9.out).mono ?_; rintro e w5 ⟨he, rfl⟩; rw [beq_self_eq_true] at he; subst he)
    | (go_at_call 22; have _t := tok4; clear tok4 _t; refine (Ca.equal_any _ _ _ _ v3 _ _ b b HB9.out.arg HW9.out).mono ?_; rintro e w5 ⟨he, rfl⟩; rw [beq_self_eq_true] at he; subst he))
  all_goals
    go_wp2_with fail
    go_ret
    exact ⟨rfl, HB9.out.below⟩
end Go.Proofs.Ytjdmadfjfjenjaa.Ji

/-
  Layer 8 (request): the contracts of Bytes, both sides; a signature's form; put; PutSign, both sides.
-/
import Derived.Test.YtobphijbhghgmaaGreatO05
import Derived.Deep.RegionHeld3
import Derived.Test.YtobphijbhghgmaaGreatO04
import Derived.Test.YtobphijbhghgmaaGreatO03
import Derived.Test.YtobphijbhghgmaaGreatO01
import Derived.ProofKit
import Derived.OpenShut
import Derived.JoinedCond
import Derived.Deep.Slices
import Derived.SizedLaws
import Derived.JoinedOf
import Derived.Test.YtobphijbhghgmaaGreatO02
import Derived.Test.YtobphijbhghgmaaGreatBulk
namespace Go.Proofs.YtobphijbhghgmaaGreat.Jd
set_option linter.unusedSimpArgs false
open Go Go.RowKit Ck Kw Ca Cb Cd Ga Kf Pm Pe Pg Ph Pk Pn Pj Po Qb Lk Jm Ja Jb
attribute [local go_sem ↓] Go.wp_at_zero Go.wp_at_succ
set_option linter.unusedVariables false

/-- The bytes of a request, and its error. -/
def Byt (w : World) (q : Q) (e : Ending) (w' : World) : Prop := ∃ v, e = .returned (.tuple #[v, .int .i64 (qcheck q)]) ∧ Sl w' (fun k => k < w.heap.size) 1 v (qform q).length (BVs (qform q)) ∧ Below w.heap.size w w'
theorem byt_no {w w' : World} {q : Q} (h : qcheck q ≠ 0) (hb : Below w.heap.size w w') : Byt w q (.returned (.tuple #[.slice none 0 0, .int .i64 (qcheck q)])) w' := by
  have : qform q = [] := by rw [qform, if_pos h]
  exact ⟨_, rfl, by rw [this]; exact Sl.nil _ _ _, hb⟩
/-- A request lies there. -/
structure K0 (w0 : World) (g : Nat) (q : Q) (A : Option Addr) (c : Nat) (W : World) : Prop where
  below : Below w0.heap.size w0 W
  one : QB W g q A c
theorem K0.later {w0 W W' : World} {g : Nat} {q : Q} {A : Option Addr} {c : Nat} (h : K0 w0 g q A c W) (b : Below W.heap.size W W') : K0 w0 g q A c W' := ⟨h.below.trans (b.mono h.below.size), h.one.below b h.one.lt⟩
theorem k0_new (w : World) (q : Q) (A : Option Addr) (c : Nat) : K0 w w.heap.size q A c (w.alloc (.cells (QC q A c) 100)) := ⟨op_below w _, Blk.new w _ _⟩
theorem sl_len {w : World} {X : Nat → Prop} {v : Value} {n : Nat} {b : List UInt8} (h : Sl w X 1 v n (BVs b)) : n = b.length := by obtain ⟨_, _, _, h, _⟩ := h; rw [BVs_len] at h; omega

theorem Made.of_parts {w w' : World} {l : List UInt8} {v : Value} (h : w'.ownsRow w.heap.size 5 1 v l.length (BVs l)) (hb : Below w.heap.size w w') : Ck.Made w 5 l (.returned v) w' := ⟨v, rfl, h, hb⟩

set_option maxRecDepth 100000 in
set_option maxHeartbeats 2000000 in
theorem qbytes_any (x : Q) (v : Value) (X : Nat → Prop) (w : World) (h : QI w X v x) (hl : x.o.recs.length ≤ 140737488355328) :
    Calls Tryz.prog 130 #[v] w (Byt w x) := by
  obtain ⟨A, c, rfl, hls⟩ := h
  have hk := k0_new w x A c
  have HC := Lib.hid (check_any x (QV x A c) X _ ⟨A, c, rfl, hls.after hk.below⟩ hl)
  have HLS := Lib.hid hls
  have HNO := Lib.hid fun (h : qcheck x ≠ 0) (w' : World) (hb : Below w.heap.size w w') => byt_no h hb
  clear hls
  by_cases hq : qcheck x = 0
  · have HQF := Lib.hid (qform_eq hq)
    have HQE := Lib.hid hq
    have HRL := Lib.hid (raw_len (qcheck_ok hq).2.2)
    have HRF : Hid (form x.o = raw x.o) := Lib.hid (by rw [form, if_neg (by rw [(qcheck_ok hq).2.2]; simp)])
    obtain ⟨⟨q1, q2⟩, ⟨q3, q4⟩, q5⟩ := qcheck_ok hq
    rw [hq] at HC
    clear hq HNO
    obtain ⟨cl, ti, o⟩ := x
    simp only at q1 q2 q3 q4 q5 hl HLS HRL HRF
    obtain ⟨n, rfl⟩ := Int.eq_ofNat_of_zero_le q1
    obtain ⟨m, rfl⟩ := Int.eq_ofNat_of_zero_le (show 0 ≤ ti by omega)
    have hwn := wrap_u64' n (by omega)
    have hwm := wrap_u64' m (by omega)
    have hn1 : n < 8 := by omega
    have hm1 : m ≤ 9007199254740992 := by omega
    have HM1 := Lib.hid hm1
    obtain ⟨a0, a1, a2, a3, a4, a5, a6⟩ := hk.one.cells
    have HK := Lib.hid hk
    have HQR : Hid (qraw ⟨(n : Int), (m : Int), o⟩ = Cm.enc n ++ (Cm.enc m ++ raw o)) := Lib.hid rfl
    clear hk q1 q2 q3 q4 q5 hm1
    unfold QV at HC ⊢
    unfold QC at *
    simp only at a0 a1 a2 a3 a4 a5 a6 HC HK ⊢
    go_enter Tryz.func130, Tryz.ntmps130
    go_wp2_with fail
    refine HC.out.mono ?_
    rintro e w1 ⟨rfl, hb1⟩
    have HK1 := Lib.hid (HK.out.later hb1)
    clear hb1 a0 a1 a2 a3 a4 a5 a6
    obtain ⟨a0, a1, a2, a3, a4, a5, a6⟩ := HK1.out.one.cells
    simp only at a0 a1 a2 a3 a4 a5 a6
    go_wp2_with fail
    refine (putnum_any (fun _ => False) (.slice none 0 0) 0 [] n _ (Sl.nil _ _ _) (by omega) (by omega)).mono ?_
    rintro e w2 ⟨v2, rfl, hown2, hb2⟩
    have HK2 := Lib.hid (HK1.out.later hb2)
    have HO2 : Hid (w2.ownsRow w.heap.size 5 1 v2 (Cm.enc n).length (BVs (Cm.enc n))) := Lib.hid (own_base hown2 HK1.out.below.size)
    clear hb2 hown2 a0 a1 a2 a3 a4 a5 a6
    obtain ⟨a0, a1, a2, a3, a4, a5, a6⟩ := HK2.out.one.cells
    simp only at a0 a1 a2 a3 a4 a5 a6
    have hl2 := Cm.enc_len n
    go_wp2_with fail
    refine (putnum_any (fun _ => False) v2 _ (Cm.enc n) m _ (Sl.of_own HO2.out (fun _ _ _ h => h)) (by omega) (by have := HM1.out; omega)).mono ?_
    rintro e w3 ⟨v3, rfl, hown3, hb3⟩
    have HK3 := Lib.hid (HK2.out.later hb3)
    have HO3 := Lib.hid (own_base hown3 HK2.out.below.size)
    clear hb3 hown3 a0 a1 a2 a3 a4 a5 a6
    obtain ⟨a0, a1, a2, a3, a4, a5, a6⟩ := HK3.out.one.cells
    simp only at a0 a1 a2 a3 a4 a5 a6
    have hl3 := Cm.enc_len m
    have HOI : Hid (OI w3 X (OV o A c) o) := Lib.hid ⟨A, c, rfl, HLS.out.after HK3.out.below⟩
    unfold OV at HOI
    go_wp2_with fail
    refine (put_any o _ X (fun _ => False) v3 _ (Cm.enc n ++ Cm.enc m) _ HOI.out hl (Sl.of_own HO3.out (fun _ _ _ h => h)) (by rw [List.length_append]; omega)).mono ?_
    rintro e w4 ⟨v4, rfl, hown4, hb4⟩
    have HO4 := Lib.hid (own_base hown4 HK3.out.below.size)
    clear hown4
    have HB4 := Lib.hid (HK3.out.below.trans (hb4.mono HK3.out.below.size))
    clear a0 a1 a2 a3 a4 a5 a6
    go_wp2_with fail
    go_ret2
    refine ⟨v4, by rw [HQE.out]; rfl, ?_, HB4.out⟩
    rw [HQF.out, HQR.out, ← List.append_assoc, ← HRF.out]
    exact Sl.of_own HO4.out (fun k h1 _ h2 => by omega)
  · have hd : (qcheck x != 0) = true := by simpa using hq
    have hd2 : (qcheck x == 0) = false := by simpa using hq
    have HN := Lib.hid (HNO.out hq)
    obtain ⟨a0, a1, a2, a3, a4, a5, a6⟩ := hk.one.cells
    have HK := Lib.hid hk
    clear hk hq HNO
    unfold QV at HC ⊢
    unfold QC at *
    go_enter Tryz.func130, Tryz.ntmps130
    go_wp2_with fail
    refine HC.out.mono ?_
    rintro e w1 ⟨rfl, hb1⟩
    have HK1 := Lib.hid (HK.out.later hb1)
    clear hb1 a0 a1 a2 a3 a4 a5 a6
    go_wp2_with fail
    go_ret2
    exact HN.out _ HK1.out.below

set_option maxRecDepth 100000 in
set_option maxHeartbeats 2000000 in
theorem sform_any (s : Int × Int) (hs : scheck s = 0) (w : World) : Calls Tryz.prog 155 #[GV s] w fun e w' => Made w 5 (sraw s) e w' := by
  obtain ⟨⟨k1, k2⟩, ⟨d1, d2⟩⟩ := scheck_ok hs
  obtain ⟨k, d⟩ := s
  simp only at k1 k2 d1 d2
  obtain ⟨n, rfl⟩ := Int.eq_ofNat_of_zero_le k1
  obtain ⟨m, rfl⟩ := Int.eq_ofNat_of_zero_le (show 0 ≤ d by omega)
  have hwn := wrap_u64' n (by omega)
  have hwm := wrap_u64' m (by omega)
  have hn1 : n < 21 := by omega
  have HM1 : Hid (m ≤ 9007199254740992) := Lib.hid (by omega)
  have HR : Hid (sraw ((n : Int), (m : Int)) = Cm.enc n ++ Cm.enc m) := Lib.hid rfl
  have hw0 : Below w.heap.size w (w.alloc (.cells #[.int .i64 (n : Int), .int .i64 (m : Int)] 226)) := op_below w _
  have hk0 : Blk (w.alloc (.cells #[.int .i64 (n : Int), .int .i64 (m : Int)] 226)) w.heap.size 226 #[.int .i64 (n : Int), .int .i64 (m : Int)] := Blk.new _ _ _
  clear hs k1 k2 d1 d2
  unfold GV
  simp only
  go_enter Tryz.func155, Tryz.ntmps155
  go_wp2_with fail
  generalize w.alloc (.cells #[.int .i64 (n : Int), .int .i64 (m : Int)] 226) = w0 at hw0 hk0 ⊢
  have ln := Cm.enc_len n
  have HC1 := Lib.hid (putnum_any (fun _ => False) (.slice none 0 0) 0 [] n w0.drew (Sl.nil _ _ _) (by omega) (by omega))
  have HC2 : Hid (∀ w1 v1, w1.ownsRow w0.heap.size 5 1 v1 (Cm.enc n).length (BVs (Cm.enc n)) → Calls Tryz.prog 27 #[v1, .int .u64 (m : Int)] w1 fun e w' => Made w1 5 (Cm.enc n ++ Cm.enc m) e w') := Lib.hid fun w1 v1 ho => putnum_any (fun _ => False) v1 _ (Cm.enc n) m w1 (Sl.of_own ho (fun _ _ _ h => h)) (by omega) (by have := HM1.out; omega)
  have j0 := hk0.cell 0
  have j1 := hk0.cell 1
  simp only [List.getElem?_toArray, List.getElem?_cons_zero, List.getElem?_cons_succ] at j0 j1
  have HK0 := Lib.hid hk0
  have HW0 := Lib.hid hw0
  clear hk0 hw0
  have tok1 : True := trivial
  go_region_held3 (fun w' => w'.cell? ⟨w.heap.size, 0, none⟩ = some (.int .i64 (n : Int)) ∧ w'.cell? ⟨w.heap.size, 1, none⟩ = some (.int .i64 (m : Int))) (first | exact ⟨j0, j1⟩ | exact ⟨k0, k1⟩ | exact ⟨q0, q1⟩)
    (first
    | (go_at_call 27; have _t := tok1; clear tok1 _t; refine HC1.out.mono ?_; rintro e1 w1 ⟨v1, rfl, hown1, hb1⟩; have hk1 := (show Blk w0.drew _ _ _ from HK0.out).below hb1 HK0.out.lt; have k0 := hk1.cell 0; have k1 := hk1.cell 1; simp only [List.getElem?_toArray, List.getElem?_cons_zero, List.getElem?_cons_succ] at k0 k1; have HK1 := Lib.hid hk1; have HO1 : Hid (w1.ownsRow w0.heap.size 5 1 v1 (Cm.enc n).length (BVs (Cm.enc n))) := Lib.hid hown1; have HB1 := Lib.hid hb1; clear hk1 hown1 hb1)
    | (go_at_call 27; refine (HC2.out _ _ HO1.out).mono ?_; rintro e2 w2 ⟨v2, rfl, hown2, hb2⟩; have hk2 := HK1.out.below hb2 HK1.out.lt; have q0 := hk2.cell 0; have q1 := hk2.cell 1; simp only [List.getElem?_toArray, List.getElem?_cons_zero, List.getElem?_cons_succ] at q0 q1; have HO2 := Lib.hid hown2; have HB2 := Lib.hid hb2; clear hk2 hown2 hb2))
  all_goals
    go_wp2_with fail
    go_ret
    have b1 : Below w0.heap.size w0 w1 := Ga.below_of_drew HB1.out
    refine ⟨v2, rfl, ?_, HW0.out.trans ((b1.trans (HB2.out.mono b1.size)).mono HW0.out.size)⟩
    rw [HR.out]
    exact own_base HO2.out (Nat.le_trans HW0.out.size b1.size)

set_option maxRecDepth 100000 in
set_option maxHeartbeats 1000000 in
theorem put_no (z : Int) (hz : z ≠ 0) (F : Value) (Y : Nat → Prop) (vb : Value) (nb : Nat) (b : List UInt8) (w : World) (hb : Sl w Y 1 vb nb (BVs b)) (hbl : b.length ≤ 140737488351232) :
    Calls Tryz.prog 108 #[vb, .int .i64 z, F] w fun e w' => Made w 5 b e w' := by
  have hnb := sl_len hb
  subst hnb
  have hd : (z != 0) = true := by simpa using hz
  have hd2 : (z == 0) = false := by simpa using hz
  have HC := Lib.hid (Qa.sclb_any Y vb b.length b w hb (by omega))
  clear hz hb
  go_enter Tryz.func108, Tryz.ntmps108
  go_wp2_with fail
  refine HC.out.mono ?_
  rintro e w1 ⟨v1, rfl, hown1, hb1⟩
  have HO := Lib.hid hown1
  have HB := Lib.hid hb1
  clear hown1 hb1
  go_wp2_with fail
  go_ret
  exact ⟨v1, rfl, HO.out, HB.out⟩

set_option maxRecDepth 100000 in
set_option maxHeartbeats 1000000 in
theorem put_sign (arg : Value) (l : List UInt8) (hll : l.length ≤ 4090) (Y : Nat → Prop) (vb : Value) (nb : Nat) (b : List UInt8) (w : World) (hb : Sl w Y 1 vb nb (BVs b)) (hbl : b.length ≤ 140737488351232)
    (HF : Hid (Calls Tryz.prog 155 #[arg] w fun e w' => Made w 5 l e w')) :
    Calls Tryz.prog 108 #[vb, .int .i64 0, .func (.func 155) #[arg] #[]] w fun e w' => Made w 5 (b ++ l) e w' := by
  have hnb := sl_len hb
  subst hnb
  have HSB := Lib.hid hb
  obtain ⟨Ab, cb, rfl, -⟩ := hb
  have HLL := Lib.hid hll
  have HBL := Lib.hid hbl
  clear hll hbl
  go_enter Tryz.func108, Tryz.ntmps108
  go_wp2_with fail
  refine HF.out.mono ?_
  rintro e w2 ⟨v2, rfl, hown2, hb2⟩
  obtain ⟨A2, c2, rfl⟩ := own_shape hown2
  have HB2 := Lib.hid hb2
  have HL : Hid (Ls (w2.alloc (.cells #[.slice Ab b.length cb, .slice A2 l.length c2] 25)) (fun _ => False) (.slice (some ⟨w2.heap.size, 0, none⟩) 2 2) [b, l]) := Lib.hid (two_new ((HSB.out.after HB2.out).weaken (fun _ _ h => h.elim)) (Sl.of_own hown2 (fun _ _ _ h => h)) (fun h => h))
  have HB3 : Hid (Below w.heap.size w (w2.alloc (.cells #[.slice Ab b.length cb, .slice A2 l.length c2] 25))) := Lib.hid (HB2.out.alloc HB2.out.size _)
  clear hown2 hb2
  go_wp2_with fail
  refine (concat_any _ _ _ _ [b, l] HL.out (by simp) (by simp; have := HLL.out; have := HBL.out; omega)).mono ?_
  rintro e w4 ⟨v4, rfl, hown4, hb4⟩
  have HO4 := Lib.hid hown4
  have HB4 := Lib.hid (HB3.out.trans (hb4.mono HB3.out.size))
  clear hown4 hb4
  go_wp2_with fail
  go_ret
  refine ⟨v4, rfl, ?_, HB4.out⟩
  have := own_base HO4.out HB3.out.size
  simpa using this

set_option maxRecDepth 100000 in
set_option maxHeartbeats 1000000 in
theorem put_list (arg : Value) (l : List UInt8) (hll : l.length ≤ 4090) (Y : Nat → Prop) (vb : Value) (nb : Nat) (b : List UInt8) (w : World) (hb : Sl w Y 1 vb nb (BVs b)) (hbl : b.length ≤ 140737488351232)
    (HF : Hid (Calls Tryz.prog 109 #[arg] w fun e w' => Made w 5 l e w')) :
    Calls Tryz.prog 108 #[vb, .int .i64 0, .func (.func 109) #[arg] #[]] w fun e w' => Made w 5 (b ++ l) e w' := by
  have hnb := sl_len hb
  subst hnb
  have HSB := Lib.hid hb
  obtain ⟨Ab, cb, rfl, -⟩ := hb
  have HLL := Lib.hid hll
  have HBL := Lib.hid hbl
  clear hll hbl
  go_enter Tryz.func108, Tryz.ntmps108
  go_wp2_with fail
  refine HF.out.mono ?_
  rintro e w2 ⟨v2, rfl, hown2, hb2⟩
  obtain ⟨A2, c2, rfl⟩ := own_shape hown2
  have HB2 := Lib.hid hb2
  have HL : Hid (Ls (w2.alloc (.cells #[.slice Ab b.length cb, .slice A2 l.length c2] 25)) (fun _ => False) (.slice (some ⟨w2.heap.size, 0, none⟩) 2 2) [b, l]) := Lib.hid (two_new ((HSB.out.after HB2.out).weaken (fun _ _ h => h.elim)) (Sl.of_own hown2 (fun _ _ _ h => h)) (fun h => h))
  have HB3 : Hid (Below w.heap.size w (w2.alloc (.cells #[.slice Ab b.length cb, .slice A2 l.length c2] 25))) := Lib.hid (HB2.out.alloc HB2.out.size _)
  clear hown2 hb2
  go_wp2_with fail
  refine (concat_any _ _ _ _ [b, l] HL.out (by simp) (by simp; have := HLL.out; have := HBL.out; omega)).mono ?_
  rintro e w4 ⟨v4, rfl, hown4, hb4⟩
  have HO4 := Lib.hid hown4
  have HB4 := Lib.hid (HB3.out.trans (hb4.mono HB3.out.size))
  clear hown4 hb4
  go_wp2_with fail
  go_ret
  refine ⟨v4, rfl, ?_, HB4.out⟩
  have := own_base HO4.out HB3.out.size
  simpa using this

set_option maxRecDepth 100000 in
set_option maxHeartbeats 2000000 in
theorem putsign_any (s : Int × Int) (Y : Nat → Prop) (vb : Value) (nb : Nat) (b : List UInt8) (w : World) (hb : Sl w Y 1 vb nb (BVs b)) (hbl : b.length ≤ 140737488351232) :
    Calls Tryz.prog 131 #[vb, GV s] w fun e w' => Made w 5 (b ++ sform s) e w' := by
  obtain ⟨k, d⟩ := s
  have hw0 : Below w.heap.size w (w.alloc (.cells #[.int .i64 k, .int .i64 d] 102)) := op_below w _
  have hk0 : Blk (w.alloc (.cells #[.int .i64 k, .int .i64 d] 102)) w.heap.size 102 #[.int .i64 k, .int .i64 d] := Blk.new _ _ _
  have HSB := Lib.hid hb
  have HBL := Lib.hid hbl
  have HCK := fun W : World => Lib.hid (csign_any (k, d) W)
  have HP : Hid (∀ W : World, Below w.heap.size w W → Calls Tryz.prog 108 #[vb, .int .i64 (scheck (k, d)), .func (.func 155) #[GV (k, d)] #[]] W fun e w' => Made W 5 (b ++ sform (k, d)) e w') := Lib.hid fun W hW => by
    by_cases hs : scheck (k, d) = 0
    · rw [hs, sform_eq hs]
      have := sraw_len hs
      exact put_sign _ _ (by omega) Y vb nb b W (HSB.out.after hW) HBL.out (Lib.hid (sform_any _ hs W))
    · have : sform (k, d) = [] := by rw [sform, if_pos hs]
      rw [this, List.append_nil]
      exact put_no _ hs _ Y vb nb b W (HSB.out.after hW) HBL.out
  clear hb hbl
  unfold GV at HCK HP ⊢
  simp only at HCK HP ⊢
  generalize sform (k, d) = f at *
  go_enter Tryz.func131, Tryz.ntmps131
  go_wp2_with fail
  generalize w.alloc (.cells #[.int .i64 k, .int .i64 d] 102) = w0 at hw0 hk0 ⊢
  have j0 := hk0.cell 0
  have j1 := hk0.cell 1
  simp only [List.getElem?_toArray, List.getElem?_cons_zero, List.getElem?_cons_succ] at j0 j1
  have HK0 := Lib.hid hk0
  have HW0 := Lib.hid hw0
  clear hk0 hw0
  go_region_held3 (fun w' => w'.cell? ⟨w.heap.size, 0, none⟩ = some (.int .i64 k) ∧ w'.cell? ⟨w.heap.size, 1, none⟩ = some (.int .i64 d)) (first | exact ⟨j0, j1⟩ | exact ⟨k0, k1⟩ | exact ⟨q0, q1⟩)
    (first
    | (go_at_call 126; refine (HCK _).out.mono ?_; rintro e1 w1 ⟨rfl, hb1⟩; have hk1 := (show Blk w0.drew _ _ _ from HK0.out).below hb1 HK0.out.lt; have k0 := hk1.cell 0; have k1 := hk1.cell 1; simp only [List.getElem?_toArray, List.getElem?_cons_zero, List.getElem?_cons_succ] at k0 k1; have HK1 := Lib.hid hk1; have HB1 := Lib.hid (HW0.out.trans ((Ga.below_of_drew hb1).mono HW0.out.size)); clear hk1 hb1)
    | (go_at_call 108; refine (HP.out _ HB1.out).mono ?_; rintro e2 w2 ⟨v2, rfl, hown2, hb2⟩; have hk2 := HK1.out.below hb2 HK1.out.lt; have q0 := hk2.cell 0; have q1 := hk2.cell 1; simp only [List.getElem?_toArray, List.getElem?_cons_zero, List.getElem?_cons_succ] at q0 q1; have HO2 := Lib.hid (own_base hown2 HB1.out.size); have HB2 := Lib.hid (HB1.out.trans (hb2.mono HB1.out.size)); clear hk2 hown2 hb2))
  all_goals
    go_wp2_with fail
    go_ret
    exact ⟨v2, rfl, HO2.out, HB2.out⟩

end Go.Proofs.YtobphijbhghgmaaGreat.Jd

/-
  Layer 9 (block): a header in memory; the contracts of numbers, Check and Bytes, and of the document's Check and Bytes.
-/
namespace Go.Proofs.YtobphijbhghgmaaGreat.Zb
set_option linter.unusedSimpArgs false
open Go Go.RowKit Ck Kw Ca Cb Cd Ga Kf Pm Pe Pk Qb Ja Jd Za
attribute [local go_sem ↓] Go.wp_at_zero Go.wp_at_succ
set_option linter.unusedVariables false

def HC (h : H) : Array Value := #[.int .i64 h.seq, .int .i64 h.prev, .int .i64 h.batch, .int .i64 h.root, .int .i64 h.state]
def HV (h : H) : Value := .agg (HC h)
/-- A header's block. -/
def HB (w : World) (g : Nat) (h : H) : Prop := Blk w g 24 (HC h)
theorem HB.cells {w : World} {g : Nat} {h : H} (k : HB w g h) : w.cell? ⟨g, 0, none⟩ = some (.int .i64 h.seq) ∧ w.cell? ⟨g, 1, none⟩ = some (.int .i64 h.prev) ∧ w.cell? ⟨g, 2, none⟩ = some (.int .i64 h.batch) ∧ w.cell? ⟨g, 3, none⟩ = some (.int .i64 h.root) ∧ w.cell? ⟨g, 4, none⟩ = some (.int .i64 h.state) :=
  (Blk.cells5 k).1
theorem HB.below {w w' : World} {g : Nat} {h : H} (k : HB w g h) (b : Below w.heap.size w w') : HB w' g h := Blk.below k b (Blk.lt k)
theorem size_arr5 : (Tryz.prog.info? 77).map (·.size) = some 5 := by kernel_rfl
theorem size_hdr : (Tryz.prog.info? 24).map (·.size) = some 5 := by kernel_rfl
set_option maxRecDepth 100000 in
set_option maxHeartbeats 4000000 in
theorem numbers_any (w : World) (h : H) : Calls Tryz.prog 26 #[HV h] w fun e w' => e = .returned (HV h) ∧ Below w.heap.size w w' := by
  have b2 : Below w.heap.size w ((w.alloc (.cells (HC h) 24)).alloc (.cells #[.int .i64 0, .int .i64 0, .int .i64 0, .int .i64 0, .int .i64 0] 77)) := (op_below w _).trans ((op_below _ _).mono (by simp))
  have k0 : HB ((w.alloc (.cells (HC h) 24)).alloc (.cells #[.int .i64 0, .int .i64 0, .int .i64 0, .int .i64 0, .int .i64 0] 77)) w.heap.size h := Blk.alloc (Blk.new w _ _) _
  have k1 : Blk ((w.alloc (.cells (HC h) 24)).alloc (.cells #[.int .i64 0, .int .i64 0, .int .i64 0, .int .i64 0, .int .i64 0] 77)) (w.heap.size + 1) 77 #[.int .i64 0, .int .i64 0, .int .i64 0, .int .i64 0, .int .i64 0] := Blk.new_at (by simp) rfl
  obtain ⟨a0, a1, a2, a3, a4⟩ := k0.cells
  obtain ⟨⟨z0, z1, z2, z3, z4⟩, ⟨f0, f1, f2, f3, f4⟩⟩ := Blk.cells5 k1
  have HB2 := Lib.hid b2
  have HK1 := Lib.hid k1
  clear b2 k0 k1
  unfold HV
  unfold HC at *
  go_enter Tryz.func26, Tryz.ntmps26
  go_wp2_with fail
  refine bodyPost_ret (results_row1 rfl _ _ (w.heap.size + 1) 77 #[.int .i64 h.seq, .int .i64 h.prev, .int .i64 h.batch, .int .i64 h.root, .int .i64 h.state] (0, 0) _ rfl (Blk.new_at (by simp) rfl) Tryz.underlying77 rfl size_arr5) rfl ?_
  exact ⟨rfl, (op_below w _).trans ((op_below _ _).mono (by simp))⟩

theorem idx5 (h : H) (k : Nat) (hk : k < 5) (W : World) : (Instr.index 77 (HV h) (.int .i64 (k : Int))).run Tryz.prog W = .ok (.int .i64 (h.nums[k]'(by simp [H.nums]; exact hk))) W := by
  obtain ⟨a, b, c, d, e⟩ := h
  match k, hk with
  | 0, _ => (show _ = _; kernel_rfl)
  | 1, _ => (show _ = _; kernel_rfl)
  | 2, _ => (show _ = _; kernel_rfl)
  | 3, _ => (show _ = _; kernel_rfl)
  | 4, _ => (show _ = _; kernel_rfl)
theorem nums_len (h : H) : h.nums.length = 5 := rfl
theorem all_take {l : List Int} {i : Nat} (hi : i < l.length) : (l.take (i + 1)).all okN = ((l.take i).all okN && okN l[i]) := by
  rw [List.take_succ_eq_append_getElem hi, List.all_append]
  simp
theorem all_no {l : List Int} {i : Nat} (hi : i < l.length) (h : okN l[i] = false) : l.all okN = false := by
  rw [List.all_eq_false]
  exact ⟨l[i], List.getElem_mem hi, by simp [h]⟩

set_option maxRecDepth 100000 in
set_option maxHeartbeats 2000000 in
theorem hcheck_any (w : World) (h : H) : Calls Tryz.prog 16 #[HV h] w fun e w' => e = .returned (.int .i64 (hcheck h)) ∧ Below w.heap.size w w' := by
  have hk := Blk.new w 24 (HC h)
  have HB0 := Lib.hid (op_below w (.cells (HC h) 24))
  have HN := fun W : World => Lib.hid (numbers_any W h)
  have HIX := Lib.hid (idx5 h)
  obtain ⟨a0, a1, a2, a3, a4⟩ := HB.cells hk
  have HCK : Hid (hcheck h = if h.nums.all okN then 0 else 90) := Lib.hid rfl
  generalize hcheck h = z at *
  clear hk
  unfold HV at *
  unfold HC at *
  go_enter Tryz.func16, Tryz.ntmps16
  go_wp2_with fail
  refine (HN _).out.mono ?_
  rintro e w1 ⟨rfl, hb1⟩
  have HB1 := Lib.hid (HB0.out.trans (hb1.mono HB0.out.size))
  clear hb1 a0 a1 a2 a3 a4
  go_wp2_with fail
  go_loopw [7] (fun j wr => ∃ i : Nat, i ≤ 5 ∧ j = .int .i64 i ∧ (h.nums.take i).all okN = true ∧ Below w.heap.size w wr) (fun j _ => 5 - (intOf j).toNat)
  case atStart => exact ⟨0, Nat.zero_le _, rfl, rfl, HB1.out⟩
  case round =>
    obtain ⟨i, hi, rfl, hal, hb⟩ := hrel
    have HBR := Lib.hid hb
    have HAL := Lib.hid hal
    clear hb hal
    by_cases hlt : i < 5
    · have hin : (i : Int) < 5 := by omega
      have hix := HIX.out i hlt
      have hst := all_take (l := h.nums) (i := i) (by rw [nums_len]; exact hlt)
      have hno := all_no (l := h.nums) (i := i) (by rw [nums_len]; exact hlt)
      rw [HAL.out, Bool.true_and] at hst
      generalize h.nums[i]'(by rw [nums_len]; exact hlt) = n at *
      by_cases h0 : n < 0
      · have d0 : decide (n < 0) = true := decide_eq_true h0
        have HZ : Hid (z = 90) := Lib.hid (by rw [HCK.out, hno (by rw [Bool.eq_false_iff]; intro h; have := (okN_iff.1 h).1; omega)]; rfl)
        clear hst hno hlt
        go_wp2_with fail
        go_ret
        exact ⟨by rw [HZ.out]; rfl, HBR.out⟩
      · have d0 : decide (n < 0) = false := decide_eq_false h0
        by_cases h1 : 9007199254740992 < n
        · have d1 : decide (9007199254740992 < n) = true := decide_eq_true h1
          have HZ : Hid (z = 90) := Lib.hid (by rw [HCK.out, hno (by rw [Bool.eq_false_iff]; intro h; have := (okN_iff.1 h).2; omega)]; rfl)
          clear hst hno hlt
          go_wp2_with fail
          go_ret
          exact ⟨by rw [HZ.out]; rfl, HBR.out⟩
        · have d1 : decide (9007199254740992 < n) = false := decide_eq_false h1
          have HS : Hid ((h.nums.take (i + 1)).all okN = true) := Lib.hid (by rw [hst]; exact okN_iff.2 ⟨by omega, by omega⟩)
          clear hst hno h0 h1
          go_wp2_with fail
          go_roundw
          case rel => exact ⟨i + 1, by omega, by go_num, HS.out, HBR.out⟩
          case measure => simp [intOf]; omega
    · have hi5 : i = 5 := by omega
      subst hi5
      have HZ : Hid (z = 0) := Lib.hid (by rw [HCK.out]; have := HAL.out; rw [List.take_of_length_le (by rw [nums_len]; omega)] at this; rw [this]; rfl)
      go_wp2_with fail
      go_ret
      exact ⟨by rw [HZ.out]; rfl, HBR.out⟩
/-- The bytes so far. -/
def hpre (h : H) (i : Nat) : Tx := 3 :: (h.nums.take i).flatMap (fun n => Cm.enc n.toNat)
theorem hpre_five (h : H) : hpre h 5 = hraw h := by simp [hpre, hraw, H.nums]
theorem hpre_next (h : H) {i : Nat} (hi : i < h.nums.length) : hpre h (i + 1) = hpre h i ++ Cm.enc (h.nums[i]).toNat := by
  unfold hpre
  rw [List.take_succ_eq_append_getElem hi, List.flatMap_append]
  simp
theorem hpre_len (h : H) (i : Nat) (hi : i ≤ 5) : (hpre h i).length ≤ 61 := by
  have key : ∀ l : List Int, (l.flatMap (fun n => Cm.enc n.toNat)).length ≤ 10 * l.length := by
    intro l
    induction l with
    | nil => simp
    | cons x l ih =>
      have := (Cm.enc_len x.toNat).1
      simp only [List.flatMap_cons, List.length_append, List.length_cons]
      omega
  have h1 := key (h.nums.take i)
  have h2 : (h.nums.take i).length ≤ 5 := by rw [List.length_take, nums_len]; omega
  simp only [hpre, List.length_cons]
  omega
theorem nums_ok {h : H} (k : hcheck h = 0) {i : Nat} (hi : i < h.nums.length) : 0 ≤ h.nums[i] ∧ h.nums[i] ≤ 9007199254740992 := by
  unfold hcheck at k
  split at k
  · rename_i h1
    exact okN_iff.1 (List.all_eq_true.1 h1 _ (List.getElem_mem hi))
  · cases k
/-- The bytes of a header, and its error. -/
def HByt (w : World) (h : H) (e : Ending) (w' : World) : Prop := ∃ v, e = .returned (.tuple #[v, .int .i64 (hcheck h)]) ∧ Sl w' (fun k => k < w.heap.size) 1 v (hform h).length (BVs (hform h)) ∧ Below w.heap.size w w'
theorem hbyt_no {w w' : World} {h : H} (k : hcheck h ≠ 0) (hb : Below w.heap.size w w') : HByt w h (.returned (.tuple #[.slice none 0 0, .int .i64 (hcheck h)])) w' := by
  have : hform h = [] := by rw [hform, if_pos k]
  exact ⟨_, rfl, by rw [this]; exact Sl.nil _ _ _, hb⟩
/-- A literal of one byte. -/
theorem lit_one (w : World) (X : Nat → Prop) (x : UInt8) {cs : Array Value} (hc : cs = #[.int .u8 (x.toNat : Int)]) (hX : ¬ X w.heap.size) : Sl (w.alloc (.cells cs 5)) X 1 (.slice (some ⟨w.heap.size, 0, none⟩) 1 1) 1 (BVs [x]) :=
  Sl_lit w X 5 [x] (by rw [hc]; rfl) rfl (by omega) hX

set_option maxRecDepth 100000 in
set_option maxHeartbeats 4000000 in
theorem hbytes_any (w : World) (h : H) : Calls Tryz.prog 8 #[HV h] w (HByt w h) := by
  have hk : HB (w.alloc (.cells (HC h) 24)) w.heap.size h := Blk.new w _ _
  have HB0 := Lib.hid (op_below w (.cells (HC h) 24))
  have HC0 := Lib.hid (hcheck_any (w.alloc (.cells (HC h) 24)) h)
  have HNO := Lib.hid fun (k : hcheck h ≠ 0) (w' : World) (hb : Below w.heap.size w w') => hbyt_no k hb
  obtain ⟨a0, a1, a2, a3, a4⟩ := hk.cells
  have HK := Lib.hid hk
  clear hk
  by_cases hq : hcheck h = 0
  · have HQ := Lib.hid hq
    have HIX := Lib.hid (idx5 h)
    rw [hq] at HC0
    clear hq HNO
    unfold HV at HC0 HIX ⊢
    have HN := fun W : World => Lib.hid (numbers_any W h)
    unfold HV at HN
    unfold HC at *
    go_enter Tryz.func8, Tryz.ntmps8
    go_wp2_with fail
    refine HC0.out.mono ?_
    rintro e w1 ⟨rfl, hb1⟩
    have HB1 := Lib.hid (HB0.out.trans (hb1.mono HB0.out.size))
    have HK1 : Hid (Blk w1 w.heap.size 24 (HC h)) := Lib.hid (Blk.below HK.out hb1 (Blk.lt HK.out))
    clear hb1 a0 a1 a2 a3 a4
    unfold HC at HK1
    obtain ⟨⟨a0, a1, a2, a3, a4⟩, -⟩ := Blk.cells5 (Blk.alloc HK1.out (.cells #[.int .u8 3] 5))
    go_wp2_with fail
    have hs0 := HB1.out.size
    have HL1 : Hid (Sl (w1.alloc (.cells #[.int .u8 3] 5)) (fun k => k < w.heap.size) 1 (.slice (some ⟨w1.heap.size, 0, none⟩) 1 1) ([3] : Tx).length (BVs [3])) := Lib.hid (lit_one w1 _ 3 rfl (by omega))
    have HB2 := Lib.hid (HB1.out.trans ((op_below w1 (.cells #[.int .u8 3] 5)).mono hs0))
    clear hs0
    generalize w1.alloc (.cells #[.int .u8 3] 5) = w2 at *
    generalize w1.heap.size = g1 at *
    refine (HN _).out.mono ?_
    rintro e w3 ⟨rfl, hb3⟩
    have HB3 := Lib.hid (HB2.out.trans (hb3.mono HB2.out.size))
    have HL3 : Hid (Sl w3 (fun k => k < w.heap.size) 1 (.slice (some ⟨g1, 0, none⟩) 1 1) (hpre h 0).length (BVs (hpre h 0))) := Lib.hid (HL1.out.after hb3)
    clear hb3 a0 a1 a2 a3 a4
    go_wp2_with fail
    go_loopw [5, 16] (fun v j wr => ∃ i : Nat, i ≤ 5 ∧ j = .int .i64 i ∧ Sl wr (fun k => k < w.heap.size) 1 v (hpre h i).length (BVs (hpre h i)) ∧ Below w.heap.size w wr) (fun _ j _ => 5 - (intOf j).toNat)
    case atStart => exact ⟨0, Nat.zero_le _, rfl, HL3.out, HB3.out⟩
    case round =>
      obtain ⟨i, hi, rfl, hsl, hb⟩ := hrel
      have HBR := Lib.hid hb
      have HSL := Lib.hid hsl
      obtain ⟨Av, cv, rfl, -⟩ := id hsl
      clear hb hsl
      by_cases hlt : i < 5
      · have hin : (i : Int) < 5 := by omega
        have hix := HIX.out i hlt
        have hl5 : i < h.nums.length := by rw [nums_len]; exact hlt
        have hnx := Lib.hid (hpre_next h hl5)
        have hok := nums_ok HQ.out hl5
        have hpl := hpre_len h i hi
        generalize h.nums[i]'hl5 = n at *
        obtain ⟨m, rfl⟩ := Int.eq_ofNat_of_zero_le hok.1
        have hwm := wrap_u64' m (by omega)
        have HPN := Lib.hid (putnum_any (fun k => k < w.heap.size) (.slice Av (hpre h i).length cv) (hpre h i).length (hpre h i) m wr HSL.out (by omega) (by omega))
        simp only [Int.toNat_natCast] at hnx
        clear hok hl5
        go_wp2_with fail
        refine HPN.out.mono ?_
        rintro e w4 ⟨v4, rfl, hown4, hb4⟩
        have hbs := HBR.out.size
        have HS4 : Hid (Sl w4 (fun k => k < w.heap.size) 1 v4 (hpre h (i + 1)).length (BVs (hpre h (i + 1)))) := Lib.hid (by rw [hnx.out]; exact Sl.of_own hown4 (fun k h1 _ h2 => by omega))
        have HB4 := Lib.hid (HBR.out.trans (hb4.mono hbs))
        clear hown4 hb4 hbs
        go_wp2_with fail
        go_roundw
        case rel => exact ⟨i + 1, by omega, by go_num, HS4.out, HB4.out⟩
        case measure => simp [intOf]; omega
      · have hi5 : i = 5 := by omega
        subst hi5
        go_wp2_with fail
        go_ret2
        exact ⟨_, by rw [HQ.out]; rfl, by rw [hform_eq HQ.out, ← hpre_five]; exact HSL.out, HBR.out⟩
  · have hd : (hcheck h != 0) = true := by simpa using hq
    have hd2 : (hcheck h == 0) = false := by simpa using hq
    have HN := Lib.hid (HNO.out hq)
    clear hq HNO
    generalize hcheck h = z at *
    unfold HV at *
    unfold HC at *
    go_enter Tryz.func8, Tryz.ntmps8
    go_wp2_with fail
    refine HC0.out.mono ?_
    rintro e w1 ⟨rfl, hb1⟩
    have HB1 := Lib.hid (HB0.out.trans (hb1.mono HB0.out.size))
    clear hb1 a0 a1 a2 a3 a4
    go_wp2_with fail
    go_ret2
    exact HN.out _ HB1.out
end Go.Proofs.YtobphijbhghgmaaGreat.Zb

/-
  Opening a law's arguments under the form's own reach (byte strings, strings, numbers), and closing its row: the result is true and the arguments read as they did. For any layer.
-/
namespace Go.Proofs.YtobphijbhghgmaaGreat.Kp
set_option linter.unusedSimpArgs false
set_option linter.unusedVariables false
open Go Go.RowKit Go.ChangeShapes Go.WideShapes Go.ChangeAt Go.Deep Ck

section
variable {H : Type} {enc : TypeId × Value → H} {P : Program}

theorem trodAll_below (hl : laidOutB P = true) : ∀ (ts : List TypeId) (vs : List Value) (ds : List (DataW H)) (ps : List MemPlace) {W W' : World} {sp : Nat → Bool},
    (ts.all fun t => P.readableRec t && decide (t < P.types.size)) = true → DataW.TrodAll enc P W 0 (fun _ => true) true ts vs ds ps → Below W.heap.size W W' →
    (∀ x ∈ ps, x.block < W.heap.size) → (∀ x ∈ ps, sp x.block = true) → DataW.TrodAll enc P W' 0 sp true ts vs ds ps
  | [], [], [], ps, W, W', sp, _, h, _, _, _ => h
  | t :: ts, v :: vs, d :: ds, ps, W, W', sp, hr, h, hb, hlt, hs => by
    obtain ⟨p, q, h1, h2, rfl⟩ := h
    simp only [List.all_cons, Bool.and_eq_true, decide_eq_true_eq] at hr
    refine ⟨p, q, ?_, ?_, rfl⟩
    · exact WideElems.Trod_stays hl hr.1.1 hr.1.2 h1 (fun x hx => hb.same (hlt x (by simp [hx]))) (fun x hx => hs x (by simp [hx]))
    · exact trodAll_below hl ts vs ds q (by simpa using hr.2) h2 hb (fun x hx => hlt x (by simp [hx])) (fun x hx => hs x (by simp [hx]))
  | [], [], _ :: _, _, _, _, _, _, h, _, _, _ => h.elim
  | [], _ :: _, _, _, _, _, _, _, h, _, _, _ => h.elim
  | _ :: _, [], _, _, _, _, _, _, h, _, _, _ => h.elim
  | _ :: _, _ :: _, [], _, _, _, _, _, h, _, _, _ => h.elim

/-- THE ROW's LAST STEP, for a law that answers true and leaves what was there as it was. -/
theorem law_post {f : Func} {s : ChangeSpec} {W W' : World} {args : Array Value} {ds gs : List (DataW H)} {before : List MemPlace} {tb : TypeId} (hl : laidOutB P = true) (hr : (f.params.toList.all fun t => P.readableRec t && decide (t < P.types.size)) = true)
    (hv : s.vars = []) (ht : f.resultTypes = #[tb]) (htb : P.underlying tb = some .bool) (hW : DataW.Whole enc P f.params.toList s.vars false W args.toList ds gs before)
    (hsr : (s.fn H (ds ++ gs)).results = [.lit (.bool true)]) (hsa : (s.fn H (ds ++ gs)).args = ds) (hsv : (s.fn H (ds ++ gs)).vars = []) (hb : Below W.heap.size W W') : s.post enc P f false true false false W args (.bool true) W' := by
  have hlt : ∀ p ∈ before, p.block < W.heap.size := fun p hp => hW.lt p hp
  have hW2 := hW
  obtain ⟨p, q, hA, hV, rfl, _, _⟩ := hW2
  rw [hv] at hV
  obtain ⟨rfl, rfl⟩ := trodVars_none hV
  have hold : ∀ x ∈ p, (fun b => decide (b < W.heap.size)) x.block = true := fun x hx => by simpa using hlt x (by simp [hx])
  refine ⟨ds, [], p ++ [], [], p, [], hW, ?_, ?_, ?_, World.keptBut_mono (fun x hx => ⟨hx, ?_⟩) (hb.frame (· ∈ p ++ [])), fun h => by cases h⟩
  · rw [hsr, ht]
    exact trodAll_cons_mk (shut_bool htb true) trodAll_mk0
  · rw [hsa]
    exact trodAll_below hl _ _ _ _ hr hA hb (fun x hx => hlt x (by simp [hx])) hold
  · rw [hsv, hv]
    rfl
  · rw [List.append_nil] at hx
    exact .inr (.inl hx)
end

section
variable {H : Type} {enc : TypeId × Value → H}
theorem cells_u8 : Tryz.prog.cellsOf 5 = 1 := by kernel_rfl

theorem ofNat_int {z : Int} (h : (Lit.int .u8 z).wf = true) : ((UInt8.ofNat z.toNat).toNat : Int) = z := by
  have h2 : 0 ≤ z ∧ z ≤ 255 := by simpa [Lit.wf, IntKind.min, IntKind.max, IntKind.signed, IntKind.bits] using h
  rw [Cm.toNat_ofNat (by omega)]
  omega
theorem bytes_u8 : Tryz.prog.bytesOf 5 = 1 := by kernel_rfl
theorem all_mem {P : Program} {e : TypeId} {d : DataW H} {n : Nat} (hn : n ∈ d.weights P e) : ∀ {l : List (DataW H)}, d ∈ l → n ∈ DataW.weightsAll P e l
  | x :: r, h => by
    simp only [DataW.weightsAll, List.mem_append]
    rcases List.mem_cons.1 h with rfl | h
    · exact .inl hn
    · exact .inr (all_mem hn h)

theorem one_int {w : World} {base : Nat} {sp : Nat → Bool} {held : Bool} {n : Nat} {t : TypeId} {k : IntKind} {cs : List Value} {xs : List (DataW H × List MemPlace)} {j : Nat} (ht : Tryz.prog.underlying t = some (.int k)) (hj : j < xs.length)
    (h : DataW.trod enc Tryz.prog w base sp held n t cs = xs[j]?) : ∃ z, cs = [.int k z] ∧ (Lit.int k z).wf = true := by
  rw [List.getElem?_eq_getElem hj] at h
  obtain ⟨z, h1, _, h2⟩ := DataW.trod_int ht h
  exact ⟨z, h1, h2⟩
theorem reach_of {P : Program} {ts : List TypeId} {ds : List (DataW H)} (h : (DataW.weightsEach P ts ds).all (· ≤ reachBytes) = true) {j : Nat} {t : TypeId} {d : DataW H} (ht : ts[j]? = some t) (hd : ds[j]? = some d) : ∀ n ∈ d.weights P t, n ≤ 140737488351232 := fun n hn => by
  have := List.all_eq_true.1 h n (DataW.weights_mem_each ht hd n hn)
  exact (of_decide_eq_true this : n ≤ reachBytes)
end

end Go.Proofs.YtobphijbhghgmaaGreat.Kp

/-
  Layer 6 (op): opening operations and results under the form's own reach.
-/
namespace Go.Proofs.YtobphijbhghgmaaGreat.Py
set_option linter.unusedSimpArgs false
open Go Go.RowKit Go.ChangeShapes Go.WideShapes Go.ChangeAt Go.Deep Ck Kp Pm Pe
set_option linter.unusedVariables false

section
variable {H : Type} {enc : TypeId × Value → H}
theorem cells_rec : Tryz.prog.cellsOf 145 = 1 := by kernel_rfl
theorem bytes_rec : Tryz.prog.bytesOf 145 = 24 := by kernel_rfl
theorem cells_op : Tryz.prog.cellsOf 98 = 5 := by kernel_rfl
theorem cells_int : Tryz.prog.cellsOf 3 = 1 := by kernel_rfl
theorem cells_i64 : Tryz.prog.cellsOf 2 = 1 := by kernel_rfl
theorem cells_str : Tryz.prog.cellsOf 9 = 1 := by kernel_rfl
theorem cells_recs : Tryz.prog.cellsOf 96 = 1 := by kernel_rfl

theorem open_recW {w : World} {fuel : Nat} {base : Nat} {v : Value} {x : DataW H × List MemPlace} (h : DataW.trod enc Tryz.prog w base (fun _ => true) true fuel 145 [v] = some x) :
    ∃ b : List UInt8, Sl w (fun k => w.heap.size ≤ k) 1 v b.length (BVs b) ∧ ∀ R, (∀ n ∈ x.1.weights Tryz.prog 145, n ≤ R) → b.length ≤ R := by
  rcases open_ints Tryz.underlying145 Tryz.underlying5 cells_u8 h with ⟨hcs, rfl⟩ | ⟨a, len, cap, zs, hcs, _, hl, hm, hz, rfl, hc, hw⟩
  · obtain rfl : v = .slice none 0 0 := by simpa using hcs
    exact ⟨[], Sl.nil _ _ _, fun R _ => Nat.zero_le _⟩
  · obtain rfl : v = .slice (some a) len cap := by simpa using hcs
    simp only [if_true] at hz
    have hbl : ((zs.take len).map fun z => UInt8.ofNat z.toNat).length = len := by simp only [List.length_map, List.length_take]; omega
    refine ⟨(zs.take len).map fun z => UInt8.ofNat z.toNat, ?_, fun R hR => ?_⟩
    · refine ⟨some a, cap, by rw [hbl], by rw [BVs_len]; omega, by omega, hm, fun hn => ?_⟩
      rw [hbl] at hn
      have h0 := hc 0 (by omega)
      refine ⟨a, rfl, by have := World.block_lt_of_cell? w _ h0; rw [add_block] at this; exact this, by have := World.block_lt_of_cell? w _ h0; rw [add_block] at this; omega, fun j u hu => ?_⟩
      have hj : j < (BVs ((zs.take len).map fun z => UInt8.ofNat z.toNat)).length := (List.getElem?_eq_some_iff.1 hu).1
      rw [BVs_len, hbl] at hj
      rw [hc j (by omega), ← hu]
      have hjz : j < zs.length := by omega
      simp only [BVs, BV, List.map_map, List.getElem?_map, List.getElem?_take, if_pos hj, List.getElem?_eq_getElem hjz, Option.map_some, Function.comp, List.getD_eq_getElem?_getD, Option.getD_some]
      rw [ofNat_int (hw _ (List.getElem_mem hjz))]
    · have := hR _ (by simp only [DataW.weights, Tryz.underlying145]; exact List.mem_cons_self)
      rw [bytes_u8] at this
      rw [hbl]
      simp only [lits, List.length_map, List.length_take] at this
      omega

theorem open_recsW {w : World} {fuel : Nat} {base : Nat} {v : Value} {x : DataW H × List MemPlace} (h : DataW.trod enc Tryz.prog w base (fun _ => true) true fuel 96 [v] = some x) :
    ∃ ls : List (List UInt8), Ls w (fun k => w.heap.size ≤ k) v ls ∧ ∀ R, (∀ n ∈ x.1.weights Tryz.prog 96, n ≤ R) → ls.length * 24 ≤ R ∧ ∀ l ∈ ls, l.length ≤ R := by
  rcases open_slice1 Tryz.underlying96 cells_rec h with ⟨hcs, rfl⟩ | ⟨a, len, cap, m, n, V, D, Pl, hcs, _, hl, hm, hmm, rfl, hx⟩
  · obtain rfl : v = .slice none 0 0 := by simpa using hcs
    exact ⟨[], ⟨[], Sl.nil _ _ _, fun i hi => absurd hi (by simp)⟩, fun R _ => by simp⟩
  · obtain rfl : v = .slice (some a) len cap := by simpa using hcs
    simp only [if_true] at hmm
    have each : ∀ r, ∃ b : List UInt8, r < len → w.cell? (a.add r) = some (V r) ∧ Sl w (fun k => w.heap.size ≤ k) 1 (V r) b.length (BVs b) ∧ ∀ R, (∀ n ∈ (D r).weights Tryz.prog 145, n ≤ R) → b.length ≤ R := by
      intro r
      by_cases hr : r < len
      · obtain ⟨hc, ht⟩ := hx r (by omega)
        obtain ⟨b, hb1, hb2⟩ := open_recW ht
        exact ⟨b, fun _ => ⟨hc, hb1, hb2⟩⟩
      · exact ⟨[], fun h => absurd h hr⟩
    obtain ⟨f, hf⟩ := Classical.axiomOfChoice each
    refine ⟨(List.range len).map f, ⟨(List.range len).map V, ?_, fun i hi => ?_⟩, fun R hR => ⟨?_, fun l hl2 => ?_⟩⟩
    · refine ⟨some a, cap, by simp, by simp, by simpa using hl, hm, fun hn => ?_⟩
      have hn' : 0 < len := by simpa using hn
      have h0 := (hf 0 hn').1
      refine ⟨a, rfl, by have := World.block_lt_of_cell? w _ h0; rw [add_block] at this; exact this, by have := World.block_lt_of_cell? w _ h0; rw [add_block] at this; omega, fun j u hu => ?_⟩
      have hj : j < ((List.range len).map V).length := (List.getElem?_eq_some_iff.1 hu).1
      simp only [List.length_map, List.length_range] at hj
      rw [(hf j hj).1, ← hu]
      simp [hj]
    · have hi' : i < len := by simpa using hi
      refine ⟨V i, by simp [hi'], ?_⟩
      simpa using (hf i hi').2.1
    · have := hR _ (by simp only [DataW.weights, Tryz.underlying96]; exact List.mem_cons_self)
      rw [bytes_rec] at this
      simp only [List.length_map, List.length_range] at this ⊢
      omega
    · obtain ⟨r, hr, rfl⟩ := List.mem_map.1 hl2
      have hr' : r < len := by simpa using hr
      refine (hf r hr').2.2 R (fun n hn => hR n ?_)
      simp only [DataW.weights, Tryz.underlying96, List.mem_cons, List.mem_append]
      exact .inr (.inl (all_mem hn (List.mem_map.2 ⟨r, hr, rfl⟩)))


theorem one_str {w : World} {base : Nat} {sp : Nat → Bool} {held : Bool} {n : Nat} {cs : List Value} {xs : List (DataW H × List MemPlace)} {j : Nat} (hj : j < xs.length)
    (h : DataW.trod enc Tryz.prog w base sp held n 9 cs = xs[j]?) : ∃ s : Tx, cs = [.string ⟨s.toArray⟩] ∧ ∀ R, (∀ n ∈ xs[j].1.weights Tryz.prog 9, n ≤ R) → s.length ≤ R := by
  rw [List.getElem?_eq_getElem hj] at h
  obtain ⟨s, h1, h2, _⟩ := DataW.trod_string Tryz.underlying9 h
  refine ⟨s.data.toList, by rw [h1], fun R hR => ?_⟩
  rw [h2] at hR
  exact hR _ (by simp [DataW.weights])

/-- How far an operation goes. -/
def far (o : O) (R : Nat) : Prop := o.topic.length ≤ R ∧ o.group.length ≤ R ∧ o.recs.length * 24 ≤ R ∧ ∀ l ∈ o.recs, l.length ≤ R
def wfO (o : O) : Prop := (-9223372036854775808 ≤ o.kind ∧ o.kind ≤ 9223372036854775807) ∧ (-9223372036854775808 ≤ o.off ∧ o.off ≤ 9223372036854775807)

set_option maxRecDepth 100000 in
theorem open_op {w : World} {base : Nat} {fuel : Nat} {cs : List Value} {x : DataW H × List MemPlace} (h : DataW.trod enc Tryz.prog w base (fun _ => true) true fuel 98 cs = some x) :
    ∃ (o : O) (A : Option Addr) (c : Nat), cs = [.int .i64 o.kind, .string ⟨o.topic.toArray⟩, .string ⟨o.group.toArray⟩, .int .i64 o.off, .slice A o.recs.length c] ∧ Ls w (fun k => w.heap.size ≤ k) (.slice A o.recs.length c) o.recs
      ∧ wfO o ∧ ∀ R, (∀ n ∈ x.1.weights Tryz.prog 98, n ≤ R) → far o R := by
  obtain ⟨xs, n', _, hx, hl, hxl, hf⟩ := DataW.trod_struct Tryz.underlying98 h
  rw [cells_op] at hl
  have hxl' : xs.length = 5 := hxl
  match cs, hl with
  | [v0, v1, v2, v3, v4], _ =>
    have f0 : DataW.trod enc Tryz.prog w base (fun _ => true) true n' 3 (([v0, v1, v2, v3, v4].drop 0).take (Tryz.prog.cellsOf 3)) = xs[0]? := hf 0 _ rfl
    have f1 : DataW.trod enc Tryz.prog w base (fun _ => true) true n' 9 (([v0, v1, v2, v3, v4].drop 1).take (Tryz.prog.cellsOf 9)) = xs[1]? := hf 1 _ rfl
    have f2 : DataW.trod enc Tryz.prog w base (fun _ => true) true n' 9 (([v0, v1, v2, v3, v4].drop 2).take (Tryz.prog.cellsOf 9)) = xs[2]? := hf 2 _ rfl
    have f3 : DataW.trod enc Tryz.prog w base (fun _ => true) true n' 2 (([v0, v1, v2, v3, v4].drop 3).take (Tryz.prog.cellsOf 2)) = xs[3]? := hf 3 _ rfl
    have f4 : DataW.trod enc Tryz.prog w base (fun _ => true) true n' 96 (([v0, v1, v2, v3, v4].drop 4).take (Tryz.prog.cellsOf 96)) = xs[4]? := hf 4 _ rfl
    rw [cells_int] at f0
    rw [cells_i64] at f3
    rw [cells_str] at f1 f2
    rw [cells_recs] at f4
    simp only [List.drop_zero, List.drop_succ_cons, List.take_succ_cons, List.take_zero] at f0 f1 f2 f3 f4
    obtain ⟨z0, e0, w0⟩ := one_int Tryz.underlying3 (by omega) f0
    obtain ⟨s1, e1, r1⟩ := one_str (by omega) f1
    obtain ⟨s2, e2, r2⟩ := one_str (by omega) f2
    obtain ⟨z3, e3, w3⟩ := one_int Tryz.underlying2 (by omega) f3
    rw [List.getElem?_eq_getElem (by omega)] at f4
    obtain ⟨ls, hb, r4⟩ := open_recsW f4
    have b0 : -9223372036854775808 ≤ z0 ∧ z0 ≤ 9223372036854775807 := by simpa [Lit.wf, IntKind.min, IntKind.max, IntKind.signed, IntKind.bits] using w0
    have b3 : -9223372036854775808 ≤ z3 ∧ z3 ≤ 9223372036854775807 := by simpa [Lit.wf, IntKind.min, IntKind.max, IntKind.signed, IntKind.bits] using w3
    simp only [List.cons.injEq, and_true] at e0 e1 e2 e3
    obtain ⟨B, c, hv⟩ : ∃ B c, v4 = .slice B ls.length c := by
      obtain ⟨vals, ⟨B, c, hv, _⟩, _⟩ := id hb
      exact ⟨B, c, hv⟩
    refine ⟨⟨z0, s1, s2, z3, ls⟩, B, c, by rw [e0, e1, e2, e3, hv], by rw [← hv]; exact hb, ⟨b0, b3⟩, fun R hR => ?_⟩
    have hm : ∀ (j : Nat) (t : TypeId) (hj : j < xs.length), [3, 9, 9, 2, 96][j]? = some t → ∀ n ∈ xs[j].1.weights Tryz.prog t, n ≤ R := fun j t hj ht n hn => by
      refine hR n ?_
      rw [hx]
      simp only [DataW.weights, Tryz.underlying98]
      exact DataW.weights_mem_each (ts := [3, 9, 9, 2, 96]) ht (by simp [List.getElem?_eq_getElem hj]) n hn
    have q := r4 R (hm 4 _ (by omega) rfl)
    exact ⟨r1 R (hm 1 _ (by omega) rfl), r2 R (hm 2 _ (by omega) rfl), q.1, q.2⟩

end

end Go.Proofs.YtobphijbhghgmaaGreat.Py

/-
  Layer 8: opening requests, signatures, signed requests, batches and lists of requests under the form's own reach.
-/
namespace Go.Proofs.YtobphijbhghgmaaGreat.Jo
set_option linter.unusedSimpArgs false
open Go Go.RowKit Go.ChangeShapes Go.WideShapes Go.ChangeAt Go.Deep Ck Kf Kp Pm Pe Py Lk Jm Ja Jb
set_option linter.unusedVariables false
set_option maxRecDepth 100000

section
variable {H : Type} {enc : TypeId × Value → H}
theorem cells_req : Tryz.prog.cellsOf 100 = 7 := by kernel_rfl
theorem cells_sgn : Tryz.prog.cellsOf 102 = 2 := by kernel_rfl
theorem cells_dig : Tryz.prog.cellsOf 22 = 1 := by kernel_rfl
theorem cells_sd : Tryz.prog.cellsOf 104 = 9 := by kernel_rfl
theorem bytes_sd : Tryz.prog.bytesOf 104 = 104 := by kernel_rfl
def wfQ (q : Q) : Prop := (-9223372036854775808 ≤ q.client ∧ q.client ≤ 9223372036854775807) ∧ (-9223372036854775808 ≤ q.time ∧ q.time ≤ 9223372036854775807)
theorem open_q {w : World} {base : Nat} {fuel : Nat} {cs : List Value} {x : DataW H × List MemPlace} (h : DataW.trod enc Tryz.prog w base (fun _ => true) true fuel 100 cs = some x) :
    ∃ (q : Q) (A : Option Addr) (c : Nat), cs = (QC q A c).toList ∧ Ls w (fun k => w.heap.size ≤ k) (.slice A q.o.recs.length c) q.o.recs
      ∧ wfQ q ∧ ∀ R, (∀ n ∈ x.1.weights Tryz.prog 100, n ≤ R) → far q.o R := by
  obtain ⟨xs, n', _, hx, hl, hxl, hf⟩ := DataW.trod_struct Tryz.underlying100 h
  rw [cells_req] at hl
  have hxl' : xs.length = 3 := hxl
  match cs, hl with
  | [v0, v1, v2, v3, v4, v5, v6], _ =>
    have f0 : DataW.trod enc Tryz.prog w base (fun _ => true) true n' 3 (([v0, v1, v2, v3, v4, v5, v6].drop 0).take (Tryz.prog.cellsOf 3)) = xs[0]? := hf 0 _ rfl
    have f1 : DataW.trod enc Tryz.prog w base (fun _ => true) true n' 2 (([v0, v1, v2, v3, v4, v5, v6].drop 1).take (Tryz.prog.cellsOf 2)) = xs[1]? := hf 1 _ rfl
    have f2 : DataW.trod enc Tryz.prog w base (fun _ => true) true n' 98 (([v0, v1, v2, v3, v4, v5, v6].drop 2).take (Tryz.prog.cellsOf 98)) = xs[2]? := hf 2 _ rfl
    rw [Py.cells_int] at f0
    rw [Py.cells_i64] at f1
    rw [Py.cells_op] at f2
    simp only [List.drop_zero, List.drop_succ_cons, List.take_succ_cons, List.take_zero] at f0 f1 f2
    obtain ⟨z0, e0, w0⟩ := one_int Tryz.underlying3 (by omega) f0
    obtain ⟨z1, e1, w1⟩ := one_int Tryz.underlying2 (by omega) f1
    rw [List.getElem?_eq_getElem (by omega)] at f2
    obtain ⟨o, A, c, e2, hls, _, hfar⟩ := open_op f2
    have b0 : -9223372036854775808 ≤ z0 ∧ z0 ≤ 9223372036854775807 := by simpa [Lit.wf, IntKind.min, IntKind.max, IntKind.signed, IntKind.bits] using w0
    have b1 : -9223372036854775808 ≤ z1 ∧ z1 ≤ 9223372036854775807 := by simpa [Lit.wf, IntKind.min, IntKind.max, IntKind.signed, IntKind.bits] using w1
    simp only [List.cons.injEq, and_true] at e0 e1 e2
    obtain ⟨rfl, rfl, rfl, rfl, rfl⟩ := e2
    refine ⟨⟨z0, z1, o⟩, A, c, by rw [e0, e1]; rfl, hls, ⟨b0, b1⟩, fun R hR => hfar R fun n hn => ?_⟩
    refine hR n ?_
    rw [hx]
    simp only [DataW.weights, Tryz.underlying100]
    exact DataW.weights_mem_each (ts := [3, 2, 98]) (j := 2) (t := 98) rfl (by simp [List.getElem?_eq_getElem (show 2 < xs.length by omega)]) n hn
theorem open_sg {w : World} {base : Nat} {sp : Nat → Bool} {held : Bool} {n : Nat} {cs : List Value} {x : DataW H × List MemPlace} (h : DataW.trod enc Tryz.prog w base sp held n 102 cs = some x) :
    ∃ s : Sg, cs = [.int .i64 s.1, .int .i64 s.2] ∧ wfS s := by
  obtain ⟨xs, n', _, _, hl, hxl, hf⟩ := DataW.trod_struct Tryz.underlying102 h
  rw [cells_sgn] at hl
  have hxl' : xs.length = 2 := hxl
  match cs, hl with
  | [v0, v1], _ =>
    have f0 : DataW.trod enc Tryz.prog w base sp held n' 3 (([v0, v1].drop 0).take (Tryz.prog.cellsOf 3)) = xs[0]? := hf 0 _ rfl
    have f1 : DataW.trod enc Tryz.prog w base sp held n' 22 (([v0, v1].drop 1).take (Tryz.prog.cellsOf 22)) = xs[1]? := hf 1 _ rfl
    rw [Py.cells_int] at f0
    rw [cells_dig] at f1
    simp only [List.drop_zero, List.drop_succ_cons, List.take_succ_cons, List.take_zero] at f0 f1
    obtain ⟨z0, e0, w0⟩ := one_int Tryz.underlying3 (by omega) f0
    obtain ⟨z1, e1, w1⟩ := one_int Tryz.underlying22 (by omega) f1
    have b0 : -9223372036854775808 ≤ z0 ∧ z0 ≤ 9223372036854775807 := by simpa [Lit.wf, IntKind.min, IntKind.max, IntKind.signed, IntKind.bits] using w0
    have b1 : -9223372036854775808 ≤ z1 ∧ z1 ≤ 9223372036854775807 := by simpa [Lit.wf, IntKind.min, IntKind.max, IntKind.signed, IntKind.bits] using w1
    simp only [List.cons.injEq, and_true] at e0 e1
    exact ⟨(z0, z1), by rw [e0, e1], b0.1, b0.2, b1.1, b1.2⟩
theorem open_sd {w : World} {base : Nat} {fuel : Nat} {cs : List Value} {x : DataW H × List MemPlace} (h : DataW.trod enc Tryz.prog w base (fun _ => true) true fuel 104 cs = some x) :
    ∃ (d : Sd) (A : Option Addr) (c : Nat), cs = (DC d A c).toList ∧ Ls w (fun k => w.heap.size ≤ k) (.slice A d.q.o.recs.length c) d.q.o.recs
      ∧ wfS d.s ∧ wfQ d.q ∧ ∀ R, (∀ n ∈ x.1.weights Tryz.prog 104, n ≤ R) → far d.q.o R := by
  obtain ⟨xs, n', _, hx, hl, hxl, hf⟩ := DataW.trod_struct Tryz.underlying104 h
  rw [cells_sd] at hl
  have hxl' : xs.length = 2 := hxl
  match cs, hl with
  | [v0, v1, v2, v3, v4, v5, v6, v7, v8], _ =>
    have f0 : DataW.trod enc Tryz.prog w base (fun _ => true) true n' 100 (([v0, v1, v2, v3, v4, v5, v6, v7, v8].drop 0).take (Tryz.prog.cellsOf 100)) = xs[0]? := hf 0 _ rfl
    have f1 : DataW.trod enc Tryz.prog w base (fun _ => true) true n' 102 (([v0, v1, v2, v3, v4, v5, v6, v7, v8].drop 7).take (Tryz.prog.cellsOf 102)) = xs[1]? := hf 1 _ rfl
    rw [cells_req] at f0
    rw [cells_sgn] at f1
    simp only [List.drop_zero, List.drop_succ_cons, List.take_succ_cons, List.take_zero] at f0 f1
    rw [List.getElem?_eq_getElem (by omega)] at f0 f1
    obtain ⟨q, A, c, e0, hls, hwq, hfar⟩ := open_q f0
    obtain ⟨s, e1, hws⟩ := open_sg f1
    simp only [QC, List.cons.injEq, and_true] at e0 e1
    obtain ⟨rfl, rfl, rfl, rfl, rfl, rfl, rfl⟩ := e0
    obtain ⟨rfl, rfl⟩ := e1
    refine ⟨⟨q, s⟩, A, c, rfl, hls, hws, hwq, fun R hR => hfar R fun n hn => ?_⟩
    refine hR n ?_
    rw [hx]
    simp only [DataW.weights, Tryz.underlying104]
    exact DataW.weights_mem_each (ts := [100, 102]) (j := 0) (t := 100) rfl (by simp [List.getElem?_eq_getElem (show 0 < xs.length by omega)]) n hn
theorem open_batch {w : World} {fuel : Nat} {base : Nat} {v : Value} {x : DataW H × List MemPlace} (h : DataW.trod enc Tryz.prog w base (fun _ => true) true fuel 52 [v] = some x) (hR : ∀ n ∈ x.1.weights Tryz.prog 52, n ≤ 140737488351232) :
    ∃ (l : List Sd), BI w (fun k => w.heap.size ≤ k) v l ∧ l.length * 104 ≤ 140737488351232 ∧ ∀ y ∈ l, far y.q.o 140737488351232 ∧ wfS y.s := by
  rcases open_slice Tryz.underlying52 h with ⟨hcs, rfl⟩ | ⟨a, len, cap, m, n, D, Pl, hcs, _, hl, hm, hmm, rfl, hx⟩
  · obtain rfl : v = .slice none 0 0 := by simpa using hcs
    exact ⟨[], bi_nil _ _, by simp, fun y hy => absurd hy (by simp)⟩
  · obtain rfl : v = .slice (some a) len cap := by simpa using hcs
    simp only [if_true] at hmm
    have each : ∀ i, ∃ r : Sd × (Option Addr × Nat), i < len → (∀ j u, (DC r.1 r.2.1 r.2.2).toList[j]? = some u → w.cell? (a.add (i * 9 + j)) = some u) ∧ Ls w (fun k => w.heap.size ≤ k) (.slice r.2.1 r.1.q.o.recs.length r.2.2) r.1.q.o.recs ∧ far r.1.q.o 140737488351232 ∧ wfS r.1.s := by
      intro i
      by_cases hi : i < len
      · obtain ⟨cs', hc, ht⟩ := hx i (by omega)
        obtain ⟨d, Ar, cr, rfl, hb, hws, _, hr⟩ := open_sd ht
        rw [cells_sd] at hc
        obtain ⟨_, _, hcell⟩ := World.cells?_some hc
        have hw := hr 140737488351232 (fun n hn => hR n (by
          simp only [DataW.weights, Tryz.underlying52, List.mem_cons, List.mem_append]
          exact .inr (.inl (all_mem hn (List.mem_map.2 ⟨i, by simpa using hi, rfl⟩)))))
        refine ⟨(d, (Ar, cr)), fun _ => ⟨fun j u hu => ?_, hb, hw, hws⟩⟩
        have hj : j < 9 := (List.getElem?_eq_some_iff.1 hu).1
        have h1 := hcell j hj
        rw [Ck.add_add] at h1
        rw [h1, ← hu, List.getElem?_eq_getElem (show j < (DC d Ar cr).toList.length from hj)]
      · exact ⟨(Sd.zero, (none, 0)), fun h => absurd h hi⟩
    obtain ⟨f, hf⟩ := Classical.axiomOfChoice each
    have hlen : ((List.range len).map fun i => (f i).1).length = len := by simp
    have hrl : ((List.range len).map fun i => (f i).2).length = ((List.range len).map fun i => (f i).1).length := by simp
    refine ⟨(List.range len).map fun i => (f i).1, ⟨(List.range len).map fun i => (f i).2, hrl, ?_, fun i hi => ?_⟩, ?_, fun y hy => ?_⟩
    · refine ⟨some a, cap, by rw [hlen], by rw [flat_length hrl], by rw [hlen]; exact hl, hm, fun hn => ?_⟩
      rw [hlen] at hn
      have h0 := (hf 0 hn).1 0 _ rfl
      refine ⟨a, rfl, by have := World.block_lt_of_cell? w _ h0; rw [Ck.add_block] at this; exact this, by have := World.block_lt_of_cell? w _ h0; rw [Ck.add_block] at this; omega, fun j u hu => ?_⟩
      have hj : j < len * 9 := by
        have := (List.getElem?_eq_some_iff.1 hu).1
        rw [flat_length hrl, hlen] at this
        exact this
      have hi : j / 9 < len := by omega
      have hz : j / 9 < (((List.range len).map fun i => (f i).1).zip ((List.range len).map fun i => (f i).2)).length := by rw [zip_len hrl, hlen]; exact hi
      have hg := flat_get DC_len (((List.range len).map fun i => (f i).1).zip ((List.range len).map fun i => (f i).2)) (j / 9) hz (j % 9) (by omega)
      rw [show j / 9 * 9 + j % 9 = j by omega] at hg
      rw [flat, hg] at hu
      have := (hf (j / 9) hi).1 (j % 9) u (by
        rw [← hu]
        congr 1
        simp)
      rwa [show j / 9 * 9 + j % 9 = j by omega] at this
    · have hi' : i < len := by simpa using hi
      refine ⟨(f i).2, by simp [hi'], ?_⟩
      have := (hf i hi').2.1
      simpa using this
    · have := hR _ (by simp only [DataW.weights, Tryz.underlying52]; exact List.mem_cons_self)
      rw [bytes_sd] at this
      simp only [List.length_map, List.length_range] at this ⊢
      omega
    · obtain ⟨i, hi, rfl⟩ := List.mem_map.1 hy
      have hi' : i < len := by simpa using hi
      exact (hf i hi').2.2
end
end Go.Proofs.YtobphijbhghgmaaGreat.Jo

/-
  Layer 9 (block): opening headers under the form's reach.
-/
namespace Go.Proofs.YtobphijbhghgmaaGreat.Zq
set_option linter.unusedSimpArgs false
open Go Go.RowKit Go.ChangeShapes Go.WideShapes Go.ChangeAt Go.Deep Ck Kp Pm Pe Py Jm Ja Jb Jo Za Zb
set_option linter.unusedVariables false
set_option maxRecDepth 100000

theorem cells_hdr : Tryz.prog.cellsOf 24 = 5 := by kernel_rfl
theorem cells_i64h : Tryz.prog.cellsOf 2 = 1 := by kernel_rfl
theorem cells_digh : Tryz.prog.cellsOf 22 = 1 := by kernel_rfl
section
variable {X : Type} {enc : TypeId × Value → X}
theorem open_hdr {w : World} {base : Nat} {sp : Nat → Bool} {held : Bool} {n : Nat} {cs : List Value} {x : DataW X × List MemPlace} (h : DataW.trod enc Tryz.prog w base sp held n 24 cs = some x) :
    ∃ a : H, cs = (HC a).toList := by
  obtain ⟨xs, n', _, _, hl, hxl, hf⟩ := DataW.trod_struct Tryz.underlying24 h
  rw [cells_hdr] at hl
  have hxl' : xs.length = 5 := hxl
  match cs, hl with
  | [v0, v1, v2, v3, v4], _ =>
    have f0 : DataW.trod enc Tryz.prog w base sp held n' 2 (([v0, v1, v2, v3, v4].drop 0).take (Tryz.prog.cellsOf 2)) = xs[0]? := hf 0 _ rfl
    have f1 : DataW.trod enc Tryz.prog w base sp held n' 22 (([v0, v1, v2, v3, v4].drop 1).take (Tryz.prog.cellsOf 22)) = xs[1]? := hf 1 _ rfl
    have f2 : DataW.trod enc Tryz.prog w base sp held n' 22 (([v0, v1, v2, v3, v4].drop 2).take (Tryz.prog.cellsOf 22)) = xs[2]? := hf 2 _ rfl
    have f3 : DataW.trod enc Tryz.prog w base sp held n' 22 (([v0, v1, v2, v3, v4].drop 3).take (Tryz.prog.cellsOf 22)) = xs[3]? := hf 3 _ rfl
    have f4 : DataW.trod enc Tryz.prog w base sp held n' 22 (([v0, v1, v2, v3, v4].drop 4).take (Tryz.prog.cellsOf 22)) = xs[4]? := hf 4 _ rfl
    rw [cells_i64h] at f0
    rw [cells_digh] at f1 f2 f3 f4
    simp only [List.drop_zero, List.drop_succ_cons, List.take_succ_cons, List.take_zero] at f0 f1 f2 f3 f4
    obtain ⟨z0, e0, _⟩ := one_int Tryz.underlying2 (by omega) f0
    obtain ⟨z1, e1, _⟩ := one_int Tryz.underlying22 (by omega) f1
    obtain ⟨z2, e2, _⟩ := one_int Tryz.underlying22 (by omega) f2
    obtain ⟨z3, e3, _⟩ := one_int Tryz.underlying22 (by omega) f3
    obtain ⟨z4, e4, _⟩ := one_int Tryz.underlying22 (by omega) f4
    simp only [List.cons.injEq, and_true] at e0 e1 e2 e3 e4
    exact ⟨⟨z0, z1, z2, z3, z4⟩, by rw [e0, e1, e2, e3, e4]; rfl⟩
end
end Go.Proofs.YtobphijbhghgmaaGreat.Zq

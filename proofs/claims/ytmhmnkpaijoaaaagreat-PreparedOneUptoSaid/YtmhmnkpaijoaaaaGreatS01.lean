import Derived.BigQuiet
import Derived.Deep.RegionHeld3
import Derived.Deep.RegionLaw
import Derived.Test.YtmhmnkpaijoaaaaGreatRows
import Derived.Test.YtmhmnkpaijoaaaaGreatQ01
import Derived.Test.YtmhmnkpaijoaaaaGreatQ02
import Derived.Test.YtmhmnkpaijoaaaaGreatQ03
import Derived.Test.YtmhmnkpaijoaaaaGreatQ04
import Derived.Test.YtmhmnkpaijoaaaaGreatQ05
import Derived.Test.YtmhmnkpaijoaaaaGreatQCi
import Derived.Test.YtmhmnkpaijoaaaaGreatQ06
import Derived.Test.YtmhmnkpaijoaaaaGreatQ07
import Derived.Test.YtmhmnkpaijoaaaaGreatQ08
import Derived.Test.YtmhmnkpaijoaaaaGreatQ09
import Derived.Test.YtmhmnkpaijoaaaaGreatQ10
import Derived.Test.YtmhmnkpaijoaaaaGreatQ11
import Derived.Test.YtmhmnkpaijoaaaaGreatQ12
import Derived.Test.YtmhmnkpaijoaaaaGreatQCn
import Derived.Test.YtmhmnkpaijoaaaaGreatQ13
import Derived.Test.YtmhmnkpaijoaaaaGreatQ14
namespace Go.Proofs.YtmhmnkpaijoaaaaGreat.Kg
set_option linter.unusedSimpArgs false
open Go Go.RowKit Ck Kw Ga Kf Pm Pe Pg Pk Py Qb Qg Ik Lk La Lb Lc Ld Jm Ja Jb Jc Jd Je Jf Jg Jh Jn Kc Ke
open Im (num isIn add sum)
attribute [local go_sem ↓] Go.wp_at_zero Go.wp_at_succ
set_option linter.unusedVariables false
set_option maxRecDepth 100000
def validsB (L : List (List UInt8)) (G : List Sg) (l : List Sd) : Bool := if bcheck l ≠ 0 then false else l.all (validB L G)
theorem valids_bad {L : List (List UInt8)} {G : List Sg} {l : List Sd} (h : bcheck l ≠ 0) : validsB L G l = false := by rw [validsB, if_pos h]
theorem valids_ok {L : List (List UInt8)} {G : List Sg} {l : List Sd} (h : bcheck l = 0) : validsB L G l = l.all (validB L G) := by rw [validsB, if_neg (by omega)]
theorem all_step {f : Sd -> Bool} {l : List Sd} {i : Nat} (hi : i < l.length) (h : (l.take i).all f = true) (k : f l[i] = true) : (l.take (i + 1)).all f = true := by
  rw [List.take_succ_eq_append_getElem hi, List.all_append, h]
  simp [k]
theorem all_none {f : Sd -> Bool} {l : List Sd} {i : Nat} (hi : i < l.length) (k : f l[i] = false) : l.all f = false := by
  rw [List.all_eq_false]
  exact ⟨l[i], List.getElem_mem hi, by simp [k]⟩
set_option maxHeartbeats 8000000 in
theorem vbatch_any (w : World) (S X : Nat -> Prop) (p g : Nat) (L : List (List UInt8)) (G : List Sg) (v : Value) (l : List Sd) (h : TL w S p g L G) (hb : BI w X v l) (hr : ∀ x ∈ l, x.q.o.recs.length <= 140737488355328) (hl63 : l.length <= 140737488355328) (hw : ∀ x ∈ l, wfS x.s) :
    Calls Tryz.prog 80 #[.pointer (some ⟨p, 0, none⟩), .pointer (some ⟨g, 0, none⟩), v] w fun e w' => e = .returned (.bool (validsB L G l)) /\ Below w.heap.size w w' := by
  obtain ⟨A, c, rfl, -⟩ := hb.shape
  have HC := Lib.hid (cbatch_any w X _ l hb hr hl63)
  have HT := Lib.hid h
  have HB := Lib.hid hb
  have HR := Lib.hid hr
  have HW := Lib.hid hw
  clear hw
  clear h hb hr
  by_cases hc : bcheck l = 0
  . have HV := Lib.hid (valids_ok (L := L) (G := G) hc)
    rw [hc] at HC
    clear hc
    go_enter Tryz.func80, Tryz.ntmps80
    go_wp2_with fail
    refine HC.out.mono ?_
    rintro e w1 ⟨rfl, hb1⟩
    have HB1 := Lib.hid hb1
    clear hb1
    go_wp2_with fail
    go_loopw [14] (fun j wr => ∃ i : Nat, i <= l.length /\ j = .int .i64 i /\ (l.take i).all (validB L G) = true /\ Below w.heap.size w wr) (fun j _ => l.length - (intOf j).toNat)
    case atStart => exact ⟨0, Nat.zero_le _, rfl, rfl, HB1.out⟩
    case round =>
      obtain ⟨i, hi, rfl, hal, hbw⟩ := hrel
      have HAL := Lib.hid hal
      have HBW := Lib.hid hbw
      clear HB1 hal
      by_cases hlt : i < l.length
      . obtain ⟨ad, Ar, cr, rfl, ⟨a0, a1, a2, a3, a4, a5, a6, a7, a8⟩, hls⟩ := (HB.out.after hbw).at_ hlt
        have hin : (i : Int) < (l.length : Int) := by omega
        have hrx := HR.out _ (List.getElem_mem hlt)
        have HST := Lib.hid fun k => all_step (f := validB L G) hlt HAL.out k
        have HNO := Lib.hid fun k => all_none (f := validB L G) hlt k
        have hwx := HW.out _ (List.getElem_mem hlt)
        generalize l[i] = x at *
        have b2 := op_below wr (.cells (DC x Ar cr) 113)
        have HBX := Lib.hid (hbw.trans (b2.mono hbw.size))
        have HVX := Lib.hid (valid_any (wr.alloc (.cells (DC x Ar cr) 113)) S X p g L G x Ar cr (HT.out.later HBX.out) (hls.after b2) hrx hwx)
        unfold DV at HVX
        unfold DC at HVX HBX
        clear b2
        cases hvx : validB L G x with
        | true =>
          rw [hvx] at HVX
          have HS2 := Lib.hid (HST.out hvx)
          clear hvx HNO HST hls hbw
          go_wp2_with fail
          refine HVX.out.mono ?_
          rintro e w3 ⟨rfl, hb3⟩
          have HB3 := Lib.hid (HBX.out.trans (hb3.mono HBX.out.size))
          clear hb3
          go_wp2_with fail
          go_roundw
          case rel => exact ⟨i + 1, by omega, by go_num, HS2.out, HB3.out⟩
          case measure => simp [intOf]; omega
        | false =>
          rw [hvx] at HVX
          have HV2 : Hid (validsB L G l = false) := Lib.hid (by rw [HV.out, HNO.out hvx])
          clear hvx HNO HST hls hbw
          go_wp2_with fail
          refine HVX.out.mono ?_
          rintro e w3 ⟨rfl, hb3⟩
          have HB3 := Lib.hid (HBX.out.trans (hb3.mono HBX.out.size))
          clear hb3
          go_wp2_with fail
          go_ret
          exact ⟨by rw [HV2.out]; rfl, HB3.out⟩
      . have hke : i = l.length := by omega
        subst hke
        have HV2 : Hid (validsB L G l = true) := Lib.hid (by have h := HAL.out; rw [List.take_length] at h; rw [HV.out, h])
        clear hbw
        go_wp2_with fail
        go_ret
        exact ⟨by rw [HV2.out]; rfl, HBW.out⟩
  . have HV := Lib.hid (valids_bad (L := L) (G := G) hc)
    have hd : (bcheck l != 0) = true := by simpa using hc
    have hd2 : (bcheck l == 0) = false := by simpa using hc
    clear hc
    go_enter Tryz.func80, Tryz.ntmps80
    go_wp2_with fail
    refine HC.out.mono ?_
    rintro e w1 ⟨rfl, hb1⟩
    have HB1 := Lib.hid hb1
    clear hb1
    go_wp2_with fail
    go_ret
    exact ⟨by rw [HV.out]; rfl, HB1.out⟩
end Go.Proofs.YtmhmnkpaijoaaaaGreat.Kg
namespace Go.Proofs.YtmhmnkpaijoaaaaGreat.Prn
set_option linter.unusedSimpArgs false
open Go Lk Jm Jn Kg Pra Prh Pri Prj Prk Prl
open Im (num isIn)
set_option linter.unusedVariables false
def backOne (L : List (List UInt8)) (G : List Sg) (f lead v q d last : Int) (s : Sg) : Bool := decide (last < s.1) && decide (s.1 < brokersP f) && !decide (s.1 = lead) && validVoteB L G s s.1 3 v q d
def backB (L : List (List UInt8)) (G : List Sg) (f lead v q d : Int) : Int -> List Sg -> Bool
  | _, [] => true
  | last, s :: l => backOne L G f lead v q d last s && backB L G f lead v q d s.1 l
def lastB (last : Int) (l : List Sg) : Int := (l.getLast?.map (·.1)).getD last
theorem lastB_snoc (last : Int) (l : List Sg) (s : Sg) : lastB last (l ++ [s]) = s.1 := by simp [lastB]
theorem backB_app (L : List (List UInt8)) (G : List Sg) (f lead v q d : Int) : ∀ (l : List Sg) (last : Int) (m : List Sg), backB L G f lead v q d last (l ++ m) = (backB L G f lead v q d last l && backB L G f lead v q d (lastB last l) m)
  | [], last, m => by simp [backB, lastB]
  | s :: l, last, m => by
    have e : lastB last (s :: l) = lastB s.1 l := by
      simp only [lastB, List.getLast?_cons]
      cases l.getLast? <;> rfl
    rw [List.cons_append, backB, backB, backB_app L G f lead v q d l s.1 m, e, Bool.and_assoc]
def preP (L : List (List UInt8)) (G : List Sg) (f : Int) (p : Pd) : Bool := okF f && numP p.view && okN p.seq && validsB L G p.batch && decide ((p.signs.length : Int) = 2 * f)
def digP (L : List (List UInt8)) (p : Pd) : Int := (num L (bform p.batch) : Int)
def headP (L : List (List UInt8)) (G : List Sg) (f : Int) (p : Pd) : Bool := isIn L (bform p.batch) && decide (digP L p = p.dig) && validVoteB L G p.first (primaryP f p.view) 2 p.view p.seq (digP L p)
def validP (L : List (List UInt8)) (G : List Sg) (f : Int) (p : Pd) : Bool := preP L G f p && headP L G f p && backB L G f (primaryP f p.view) p.view p.seq (digP L p) (-1) p.signs
section
variable {L : List (List UInt8)} {G : List Sg} {f : Int} {p : Pd}
theorem valid_f (h : okF f = false) : validP L G f p = false := by simp [validP, preP, h]
theorem valid_view (h : numP p.view = false) : validP L G f p = false := by simp [validP, preP, h]
theorem valid_seq (h : okN p.seq = false) : validP L G f p = false := by simp [validP, preP, h]
theorem valid_dig (h : digP L p ≠ p.dig) : validP L G f p = false := by simp [validP, headP, h]
end
theorem back_step {L : List (List UInt8)} {G : List Sg} {f lead v q d : Int} {l : List Sg} {k : Nat} (hk : k < l.length) (h : backB L G f lead v q d (-1) (l.take k) = true) :
    (backOne L G f lead v q d (lastB (-1) (l.take k)) l[k] = false -> backB L G f lead v q d (-1) l = false) /\ (backOne L G f lead v q d (lastB (-1) (l.take k)) l[k] = true -> backB L G f lead v q d (-1) (l.take (k + 1)) = true /\ lastB (-1) (l.take (k + 1)) = l[k].1) := by
  have e : l = l.take k ++ (l[k] :: l.drop (k + 1)) := by rw [<- List.drop_eq_getElem_cons hk, List.take_append_drop]
  constructor
  . intro hb
    rw [e, backB_app, backB, hb]
    simp
  . intro hb
    rw [List.take_succ_eq_append_getElem hk, backB_app, lastB_snoc, h, backB, hb, backB]
    exact ⟨rfl, rfl⟩
def aboveOne (L : List (List UInt8)) (G : List Sg) (f view low last : Int) (p : Pd) : Bool := validP L G f p && decide (p.view < view) && decide (last < p.seq) && decide (p.seq - 8 <= low)
def aboveB (L : List (List UInt8)) (G : List Sg) (f view low : Int) : Int -> List Pd -> Bool
  | _, [] => true
  | last, p :: l => aboveOne L G f view low last p && aboveB L G f view low p.seq l
def lastP (last : Int) (l : List Pd) : Int := (l.getLast?.map (·.seq)).getD last
theorem lastP_snoc (last : Int) (l : List Pd) (p : Pd) : lastP last (l ++ [p]) = p.seq := by simp [lastP]
theorem aboveB_app (L : List (List UInt8)) (G : List Sg) (f view low : Int) : ∀ (l : List Pd) (last : Int) (m : List Pd), aboveB L G f view low last (l ++ m) = (aboveB L G f view low last l && aboveB L G f view low (lastP last l) m)
  | [], last, m => by simp [aboveB, lastP]
  | p :: l, last, m => by
    have e : lastP last (p :: l) = lastP p.seq l := by
      simp only [lastP, List.getLast?_cons]
      cases l.getLast? <;> rfl
    rw [List.cons_append, aboveB, aboveB, aboveB_app L G f view low l p.seq m, e, Bool.and_assoc]
theorem above_step {L : List (List UInt8)} {G : List Sg} {f view low : Int} {l : List Pd} {k : Nat} (hk : k < l.length) (h : aboveB L G f view low low (l.take k) = true) :
    (aboveOne L G f view low (lastP low (l.take k)) l[k] = false -> aboveB L G f view low low l = false) /\ (aboveOne L G f view low (lastP low (l.take k)) l[k] = true -> aboveB L G f view low low (l.take (k + 1)) = true /\ lastP low (l.take (k + 1)) = l[k].seq) := by
  have e : l = l.take k ++ (l[k] :: l.drop (k + 1)) := by rw [<- List.drop_eq_getElem_cons hk, List.take_append_drop]
  constructor
  . intro hb
    rw [e, aboveB_app, aboveB, hb]
    simp
  . intro hb
    rw [List.take_succ_eq_append_getElem hk, aboveB_app, lastP_snoc, h, aboveB, hb, aboveB]
    exact ⟨rfl, rfl⟩
end Go.Proofs.YtmhmnkpaijoaaaaGreat.Prn
namespace Go.Proofs.YtmhmnkpaijoaaaaGreat.Jk
set_option linter.unusedSimpArgs false
open Go Go.RowKit Ck Kw Ga Kf Pm Pe Pg Pk Qb Qs Lk Ld Jm Ja Jb Jc
attribute [local go_sem ↓] Go.wp_at_zero Go.wp_at_succ
set_option linter.unusedVariables false
set_option maxRecDepth 100000
theorem sameO_dec (a b : O) : sameO a b = decide (a = b) := rfl
theorem Q_ext {x y : Q} (h1 : x.client = y.client) (h2 : x.time = y.time) (h3 : x.o = y.o) : x = y := by cases x; cases y; simp_all
theorem Sd_ext {x y : Sd} (h1 : x.q = y.q) (h2 : x.s = y.s) : x = y := by cases x; cases y; simp_all
theorem at9_later {w w' : World} {ad : Addr} {d : Sd} {A : Option Addr} {c : Nat} (h : At9 w ad d A c) (b : Below w.heap.size w w') : At9 w' ad d A c := by
  have k : ∀ {a : Addr} {v : Value}, w.cell? a = some v -> w'.cell? a = some v := fun {a v} hc => by rw [b.cell (World.block_lt_of_cell? w _ hc)]; exact hc
  obtain ⟨a0, a1, a2, a3, a4, a5, a6, a7, a8⟩ := h
  exact ⟨k a0, k a1, k a2, k a3, k a4, k a5, k a6, k a7, k a8⟩
structure S2 (w0 : World) (X Y : Nat -> Prop) (va vb : Value) (l m : List Sd) (W : World) : Prop where
  below : Below w0.heap.size w0 W
  one : BI W X va l
  two : BI W Y vb m
theorem S2.later {w0 W W' : World} {X Y : Nat -> Prop} {va vb : Value} {l m : List Sd} (h : S2 w0 X Y va vb l m W) (b : Below W.heap.size W W') : S2 w0 X Y va vb l m W' := ⟨h.below.trans (b.mono h.below.size), h.one.after b, h.two.after b⟩
end Go.Proofs.YtmhmnkpaijoaaaaGreat.Jk
namespace Go.Proofs.YtmhmnkpaijoaaaaGreat.Prc
set_option linter.unusedSimpArgs false
open Go Go.RowKit Cm Ck Kw Ga Kf Pm Pe Pg Ph Qb Lk Ld Jm Ja Jb Jk Pra Prb
attribute [local go_sem ↓] Go.wp_at_zero Go.wp_at_succ
set_option linter.unusedVariables false
set_option maxRecDepth 100000
structure T2 (w0 : World) (X Y : Nat -> Prop) (va vb : Value) (l m : List (Int × Int)) (W : World) : Prop where
  below : Below w0.heap.size w0 W
  one : SS W X va l
  two : SS W Y vb m
theorem T2.later {w0 W W' : World} {X Y : Nat -> Prop} {va vb : Value} {l m : List (Int × Int)} (h : T2 w0 X Y va vb l m W) (b : Below W.heap.size W W') : T2 w0 X Y va vb l m W' := ⟨h.below.trans (b.mono h.below.size), h.one.after b, h.two.after b⟩
theorem SS.shape {w : World} {X : Nat -> Prop} {v : Value} {l : List (Int × Int)} (h : SS w X v l) : ∃ A c, v = .slice A l.length c := by
  obtain ⟨A, c, rfl, _⟩ := h
  exact ⟨A, c, rfl⟩
theorem pd_ext {p q : Pd} (h1 : p.view = q.view) (h2 : p.seq = q.seq) (h3 : p.dig = q.dig) (h4 : p.first = q.first) (h5 : p.signs = q.signs) (h6 : p.batch = q.batch) : p = q := by
  cases p
  cases q
  simp only at h1 h2 h3 h4 h5 h6
  subst h1 h2 h3 h4 h5 h6
  rfl
end Go.Proofs.YtmhmnkpaijoaaaaGreat.Prc
namespace Go.Proofs.YtmhmnkpaijoaaaaGreat.Prd
set_option linter.unusedSimpArgs false
open Go Go.RowKit Cm Ck Kw Ga Kf Pm Pe Pg Ph Qb Lk Ld Jm Ja Jb Jk Pra Prb Prc
attribute [local go_sem ↓] Go.wp_at_zero Go.wp_at_succ
set_option linter.unusedVariables false
set_option maxRecDepth 100000
structure U2 (w0 : World) (X Y : Nat -> Prop) (va vb : Value) (l m : List Pd) (W : World) : Prop where
  below : Below w0.heap.size w0 W
  one : PL W X va l
  two : PL W Y vb m
theorem U2.later {w0 W W' : World} {X Y : Nat -> Prop} {va vb : Value} {l m : List Pd} (h : U2 w0 X Y va vb l m W) (b : Below W.heap.size W W') : U2 w0 X Y va vb l m W' := ⟨h.below.trans (b.mono h.below.size), h.one.after b, h.two.after b⟩
end Go.Proofs.YtmhmnkpaijoaaaaGreat.Prd
namespace Go.Proofs.YtmhmnkpaijoaaaaGreat.Pro
set_option linter.unusedSimpArgs false
open Go Go.RowKit Ck Kw Ga Kf Pm Pe Pg Ph Qb Ik Lk Ld Jm Ja Jb Jc Jd Je Jk Kc Kg Pra Prb Prc Prd Prh Pri Prj Prk Prl Prm Prn
open Im (num isIn)
attribute [local go_sem ↓] Go.wp_at_zero Go.wp_at_succ
set_option linter.unusedVariables false
set_option maxRecDepth 100000
theorem PC_cells {w : World} {g : Nat} {t : TypeId} {p : Pd} {r : Pl2} (h : Blk w g t (PC p r)) : w.cell? ⟨g, 0, none⟩ = some (.int .i64 p.view) /\ w.cell? ⟨g, 1, none⟩ = some (.int .i64 p.seq) /\ w.cell? ⟨g, 2, none⟩ = some (.int .i64 p.dig) /\ w.cell? ⟨g, 3, none⟩ = some (.int .i64 p.first.1) /\ w.cell? ⟨g, 4, none⟩ = some (.int .i64 p.first.2) /\ w.cell? ⟨g, 5, none⟩ = some (.slice r.1.1 p.signs.length r.1.2) /\ w.cell? ⟨g, 6, none⟩ = some (.slice r.2.1 p.batch.length r.2.2) :=
  ⟨h.cell 0, h.cell 1, h.cell 2, h.cell 3, h.cell 4, h.cell 5, h.cell 6⟩
structure VS (w0 : World) (S X : Nat -> Prop) (p g : Nat) (L : List (List UInt8)) (G : List Sg) (x : Pd) (r : Pl2) (w : World) : Prop where
  below : Below w0.heap.size w0 w
  box : Blk w w0.heap.size 41 (PC x r)
  rt : RT w S p g L G
  pi : PI w X x r
theorem VS.later {w0 w w' : World} {S X : Nat -> Prop} {p g : Nat} {L : List (List UInt8)} {G : List Sg} {x : Pd} {r : Pl2} (h : VS w0 S X p g L G x r w) (b : Below w.heap.size w w') : VS w0 S X p g L G x r w' :=
  ⟨h.below.trans (b.mono h.below.size), h.box.below b h.box.lt, h.rt.later b, h.pi.after b⟩
theorem VS.vote {w0 w : World} {S X : Nat -> Prop} {p g : Nat} {L : List (List UInt8)} {G : List Sg} {x : Pd} {r : Pl2} (h : VS w0 S X p g L G x r w) (hG : G.length <= 140737488355328) (s : Sg) (key k v q d : Int) :
    Calls Tryz.prog 54 #[.pointer (some ⟨p, 0, none⟩), .pointer (some ⟨g, 0, none⟩), GV s, .int .i64 key, .int .i64 k, .int .i64 v, .int .i64 q, .int .i64 d] w fun e w' => e = .returned (.bool (validVoteB L G s key k v q d)) /\ Below w.heap.size w w' :=
  rvalidvote_any w p g L G s key k v q d (fun W hW => by obtain ⟨S1, S2, h1, h2, _⟩ := h.rt.later hW; exact ⟨S1, h1⟩) (fun W hW => by obtain ⟨S1, S2, h1, h2, _⟩ := h.rt.later hW; exact ⟨S2, h2⟩) hG
end Go.Proofs.YtmhmnkpaijoaaaaGreat.Pro
namespace Go.Proofs.YtmhmnkpaijoaaaaGreat.Prr
set_option linter.unusedSimpArgs false
open Go Go.RowKit Ck Kw Ga Kf Pm Pe Pg Ph Qb Ik Lk Ld Jm Ja Jb Jc Jd Je Jk Kc Kg Pra Prb Prc Prd Prh Pri Prj Prk Prl Prm Prn Pro
open Im (num isIn)
attribute [local go_sem ↓] Go.wp_at_zero Go.wp_at_succ
set_option linter.unusedVariables false
set_option maxRecDepth 100000
def okP (x : Pd) : Prop := (∀ y ∈ x.batch, y.q.o.recs.length <= 140737488355328) /\ x.batch.length <= 140737488355328 /\ x.signs.length <= 140737488355328
theorem valid_seqs {L : List (List UInt8)} {G : List Sg} {f : Int} {x : Pd} (h : validP L G f x = true) : 1 <= x.seq /\ x.seq <= 9007199254740992 := by
  simp only [validP, preP, Bool.and_eq_true] at h
  exact okN_iff.1 h.1.1.1.1.2
end Go.Proofs.YtmhmnkpaijoaaaaGreat.Prr
namespace Go.Proofs.YtmhmnkpaijoaaaaGreat.Prv
set_option linter.unusedSimpArgs false
open Go Go.RowKit Ck Kw Ga Ik Lk Ld Le Ij Jf Kc Pra Prh Pri Prj Prk Prl Prm
open Im (num isIn add sum)
attribute [local go_sem ↓] Go.wp_at_zero Go.wp_at_succ
set_option linter.unusedVariables false
set_option maxRecDepth 100000
def voteS (L : List (List UInt8)) (key : Int) (b : List UInt8) : Sg := (key, (sum L b : Int))
def vsG (L : List (List UInt8)) (G : List Sg) (key : Int) (b : List UInt8) : List Sg := if sum L b = 0 then G else pay G (voteS L key b)
def vsR (L : List (List UInt8)) (key : Int) (b : List UInt8) : Sg × Int := if sum L b = 0 then ((0, 0), 6) else (ans (voteS L key b), code (voteS L key b))
def VSigned (S : Nat -> Prop) (p g : Nat) (r : Sg × Int) (L' : List (List UInt8)) (G' : List Sg) (w : World) (e : Ending) (w' : World) : Prop :=
  e = .returned (.tuple #[GV r.1, .int .i64 r.2]) /\ RT w' (Nw S w.heap.size w'.heap.size) p g L' G' /\ Ch S w w'
theorem blk2 {w : World} {g : Nat} {t : TypeId} {a0 a1 x0 x1 : Value} (h : Blk w g t #[a0, a1]) : Blk ((w.setCell ⟨g, 0, none⟩ x0).setCell ⟨g, 1, none⟩ x1) g t #[x0, x1] := by
  have := ((h.set_ 0 x0).set_ 1 x1)
  simpa using this
theorem ch2 (w : World) (g : Nat) (x0 x1 : Value) : Ch (fun k => k = g) w ((w.setCell ⟨g, 0, none⟩ x0).setCell ⟨g, 1, none⟩ x1) := ((Ch.refl (fun k => k = g) w).setCell (p := ⟨g, 0, none⟩) (fun _ => rfl) x0).setCell (p := ⟨g, 1, none⟩) (fun _ => rfl) x1
theorem cells2 {w : World} {g : Nat} {t : TypeId} {a0 a1 : Value} (h : Blk w g t #[a0, a1]) : (w.cell? ⟨g, 0, none⟩ = some a0 /\ w.cell? ⟨g, 1, none⟩ = some a1) /\ w.frozen? ⟨g, 0, none⟩ = false /\ w.frozen? ⟨g, 1, none⟩ = false :=
  ⟨⟨h.cell 0, h.cell 1⟩, h.frozen 0, h.frozen 1⟩
theorem size_sign : (Tryz.prog.info? 36).map (·.size) = some 2 := by kernel_rfl
set_option maxHeartbeats 4000000 in
theorem rsign11_any (w : World) (S X : Nat -> Prop) (p g : Nat) (L : List (List UInt8)) (G : List Sg) (key : Int) (v : Value) (n : Nat) (b : List UInt8) (h : RT w S p g L G) (hb : Sl w X 1 v n (BVs b)) (hbl : b.length <= 140737488355328) (hG : (G.length + 1) * 16 <= 140737488355328) :
    Calls Tryz.prog 74 #[.pointer (some ⟨p, 0, none⟩), .pointer (some ⟨g, 0, none⟩), .int .i64 key, v] w (VSigned S p g (vsR L key b) (add L b) (vsG L G key b) w) := by
  obtain ⟨A, c, rfl, -⟩ := id hb
  have hn : n = b.length := by obtain ⟨A0, c0, _, h0, _⟩ := hb; rw [BVs_len] at h0; omega
  subst hn
  have hb0 : Below w.heap.size w (w.alloc (.cells #[.int .i64 0, .int .i64 0] 36)) := (Below.refl _ w).alloc (Nat.le_refl _) _
  have HT : Hid (RT w (fun k => S k /\ k < w.heap.size) p g L G) := Lib.hid (h.weaken (fun k hk hs => ⟨hs, hk⟩))
  have HT0 := Lib.hid (HT.out.later hb0)
  have HB0 := Lib.hid hb0
  have HK0 : Hid (Blk (w.alloc (.cells #[.int .i64 0, .int .i64 0] 36)) w.heap.size 36 #[.int .i64 0, .int .i64 0]) := Lib.hid (Blk.new w _ _)
  have hz0 : (w.alloc (.cells #[.int .i64 0, .int .i64 0] 36)).heap.size = w.heap.size + 1 := by simp
  have HZ0 := Lib.hid hz0
  have HSM := Lib.hid (HT0.out.callT (P := Tryz.prog) (f := 71) (args := #[.pointer (some ⟨p, 0, none⟩), .slice A b.length c]) (r := .returned (.int .i64 (sum L b : Int))) (L' := add L b) (fun S1 h1 => Ij.rsum_any _ S1 _ p L A c b h1 (hb.after hb0) hbl))
  have HG := Lib.hid hG
  have HC0 : Hid (Ch (fun k => S k /\ k < w.heap.size) w (w.alloc (.cells #[.int .i64 0, .int .i64 0] 36))) := Lib.hid (Ch.of_below hb0 (Nat.le_refl _))
  have HVR : Hid (vsR L key b = if sum L b = 0 then ((0, 0), 6) else (ans (voteS L key b), code (voteS L key b))) := Lib.hid rfl
  have HVG : Hid (vsG L G key b = if sum L b = 0 then G else pay G (voteS L key b)) := Lib.hid rfl
  clear h hb hbl hG hb0 hz0
  go_enter Tryz.func74, Tryz.ntmps74
  go_wp2_with fail
  generalize w.alloc (.cells #[.int .i64 0, .int .i64 0] 36) = w0 at *
  refine HSM.out.mono ?_
  rintro e w2 ⟨rfl, ht2, hc2⟩
  have HT2 : Hid (RT w2 (Nw (fun k => S k /\ k < w.heap.size) (w.heap.size + 1) w2.heap.size) p g (add L b) G) := Lib.hid (by rw [<- HZ0.out]; exact ht2)
  have HC2 := Lib.hid (HC0.out.trans hc2 (fun _ _ h => h))
  have HK2 := Lib.hid (HK0.out.ch hc2 (fun h => by omega))
  have HZ2 : Hid (w.heap.size + 1 <= w2.heap.size) := Lib.hid (by have := hc2.size; have := HZ0.out; omega)
  clear ht2 hc2 HT0 HK0 HSM HC0
  obtain ⟨⟨z0, z1⟩, y0, y1⟩ := cells2 HK2.out
  by_cases hs : sum L b = 0
  . rw [if_pos hs] at HVR HVG
    have hd : ((sum L b : Nat) : Int) = 0 := by omega
    go_wp2_with fail
    refine bodyPost_ret (results_row_tmp rfl _ _ w.heap.size 36 #[.int .i64 0, .int .i64 0] (0, 0) _ rfl (blk2 HK2.out) Tryz.underlying36 rfl size_sign) rfl ?_
    have hch := ch2 w2 w.heap.size (.int .i64 0) (.int .i64 0)
    refine ⟨by rw [HVR.out]; rfl, ?_, (HC2.out.mono (fun k _ hk => hk.1)).trans hch (fun k h1 h2 => by omega)⟩
    rw [HVG.out]
    refine (HT2.out.ch hch (fun k hk hx => by rcases hk with hk | hk <;> omega)).weaken (fun k hk h => ?_)
    rcases h with h | h
    . exact .inl h.1
    . exact .inr ⟨by omega, hk⟩
  . rw [if_neg hs] at HVR HVG
    have hd : (((sum L b : Nat) : Int) == 0) = false := by rw [beq_eq_false_iff_ne]; omega
    have hd2 : decide (((sum L b : Nat) : Int) = 0) = false := decide_eq_false (by omega)
    have HSG := Lib.hid (HT2.out.callG (P := Tryz.prog) (f := 69) (args := #[.pointer (some ⟨g, 0, none⟩), .int .i64 key, .int .i64 (sum L b : Int)]) (r := .returned (.tuple #[GV (ans (voteS L key b)), .int .i64 (code (voteS L key b))])) (G' := pay G (voteS L key b)) (fun S2 h2 => Le.rsign_any w2 S2 g G (voteS L key b) h2 HG.out))
    clear hs
    generalize ((sum L b : Nat) : Int) = sm at *
    go_wp2_with fail
    refine HSG.out.mono ?_
    rintro e w3 ⟨rfl, ht3, hc3⟩
    have HK3 := Lib.hid (HK2.out.ch hc3 (fun h => by rcases h with h | h <;> omega))
    have HC3 : Hid (Ch (fun k => S k /\ k < w.heap.size) w w3) := Lib.hid (HC2.out.trans hc3 (fun k hk h => by
      rcases h with h | h
      . exact h
      . exfalso; omega))
    have HT3 := Lib.hid ht3
    have HZ3 := Lib.hid hc3.size
    clear ht3 hc3 HSG HT2 HK2 HC2 z0 z1 y0 y1
    obtain ⟨⟨z0, z1⟩, y0, y1⟩ := cells2 HK3.out
    generalize ans (voteS L key b) = sg at *
    generalize code (voteS L key b) = cd at *
    obtain ⟨s1, s2⟩ := sg
    unfold GV
    go_wp2_with fail
    refine bodyPost_ret (results_row_tmp rfl _ _ w.heap.size 36 #[.int .i64 s1, .int .i64 s2] (0, 0) _ rfl (blk2 HK3.out) Tryz.underlying36 rfl size_sign) rfl ?_
    have hch := ch2 w3 w.heap.size (.int .i64 s1) (.int .i64 s2)
    refine ⟨by rw [HVR.out]; rfl, ?_, (HC3.out.mono (fun k _ hk => hk.1)).trans hch (fun k h1 h2 => by omega)⟩
    rw [HVG.out]
    have hz2 := HZ2.out
    have hz3 := HZ3.out
    refine (HT3.out.ch hch (fun k hk hx => by rcases hk with (hk | hk) | hk <;> omega)).weaken (fun k hk h => ?_)
    rcases h with (h | h) | h
    . exact .inl h.1
    . exact .inr ⟨by omega, hk⟩
    . exact .inr ⟨by omega, hk⟩
end Go.Proofs.YtmhmnkpaijoaaaaGreat.Prv
namespace Go.Proofs.YtmhmnkpaijoaaaaGreat.Prw
set_option linter.unusedSimpArgs false
open Go Go.RowKit Ck Kw Ga Ik Lk Ld Le Ij Jf Kc Pra Prh Pri Prj Prk Prl Prm Prv
open Im (num isIn add sum)
attribute [local go_sem ↓] Go.wp_at_zero Go.wp_at_succ
set_option linter.unusedVariables false
set_option maxRecDepth 100000
structure Vt where
  key : Int
  kind : Int
  view : Int
  seq : Int
def vB (x : Vt) (d : Int) : List UInt8 := voteB x.kind.toNat x.view.toNat x.seq.toNat d.toNat
def vMay (x : Vt) (d : Int) : Bool := mayP x.kind x.view x.seq d
def vT (L : List (List UInt8)) (x : Vt) (d : Int) : List (List UInt8) := if vMay x d then add L (vB x d) else L
def vG (L : List (List UInt8)) (G : List Sg) (x : Vt) (d : Int) : List Sg := if vMay x d then vsG L G x.key (vB x d) else G
def vR (L : List (List UInt8)) (x : Vt) (d : Int) : Sg × Int := if vMay x d then vsR L x.key (vB x d) else ((0, 0), 1)
set_option maxHeartbeats 4000000 in
theorem rvote_any (w : World) (S : Nat -> Prop) (p g : Nat) (L : List (List UInt8)) (G : List Sg) (x : Vt) (d : Int) (h : RT w S p g L G) (hG : (G.length + 1) * 16 <= 140737488355328) :
    Calls Tryz.prog 42 #[.pointer (some ⟨p, 0, none⟩), .pointer (some ⟨g, 0, none⟩), .int .i64 x.key, .int .i64 x.kind, .int .i64 x.view, .int .i64 x.seq, .int .i64 d] w (VSigned S p g (vR L x d) (vT L x d) (vG L G x d) w) := by
  have hb0 : Below w.heap.size w (w.alloc (.cells #[.int .i64 0, .int .i64 0] 36)) := (Below.refl _ w).alloc (Nat.le_refl _) _
  have HT : Hid (RT w (fun k => S k /\ k < w.heap.size) p g L G) := Lib.hid (h.weaken (fun k hk hs => ⟨hs, hk⟩))
  have HT0 := Lib.hid (HT.out.later hb0)
  have HB0 := Lib.hid hb0
  have HK0 : Hid (Blk (w.alloc (.cells #[.int .i64 0, .int .i64 0] 36)) w.heap.size 36 #[.int .i64 0, .int .i64 0]) := Lib.hid (Blk.new w _ _)
  have HZ0 : Hid ((w.alloc (.cells #[.int .i64 0, .int .i64 0] 36)).heap.size = w.heap.size + 1) := Lib.hid (by simp)
  have HG := Lib.hid hG
  have HM : Hid (∀ W, Calls Tryz.prog 73 #[.int .i64 x.kind, .int .i64 x.view, .int .i64 x.seq, .int .i64 d] W fun e w' => e = .returned (.bool (vMay x d)) /\ W = w') := Lib.hid fun W => may_any W _ _ _ _
  have HVT : Hid (vT L x d = if vMay x d then add L (vB x d) else L) := Lib.hid rfl
  have HVG : Hid (vG L G x d = if vMay x d then vsG L G x.key (vB x d) else G) := Lib.hid rfl
  have HVR : Hid (vR L x d = if vMay x d then vsR L x.key (vB x d) else ((0, 0), 1)) := Lib.hid rfl
  have HC0 : Hid (Ch (fun k => S k /\ k < w.heap.size) w (w.alloc (.cells #[.int .i64 0, .int .i64 0] 36))) := Lib.hid (Ch.of_below hb0 (Nat.le_refl _))
  clear h hG hb0
  cases hm : vMay x d with
  | false =>
    simp only [hm, if_false, Bool.false_eq_true] at HM HVT HVG HVR
    clear hm
    obtain ⟨⟨z0, z1⟩, y0, y1⟩ := cells2 HK0.out
    go_enter Tryz.func42, Tryz.ntmps42
    go_wp2_with fail
    refine (HM.out _).mono ?_
    rintro e w1 ⟨rfl, rfl⟩
    generalize w.alloc (.cells #[.int .i64 0, .int .i64 0] 36) = w0 at *
    go_wp2_with fail
    refine bodyPost_ret (results_row_tmp rfl _ _ w.heap.size 36 #[.int .i64 0, .int .i64 0] (0, 0) _ rfl (blk2 HK0.out) Tryz.underlying36 rfl size_sign) rfl ?_
    have hch := ch2 w0 w.heap.size (.int .i64 0) (.int .i64 0)
    refine ⟨by rw [HVR.out]; rfl, ?_, (HC0.out.mono (fun k _ hk => hk.1)).trans hch (fun k h1 h2 => by omega)⟩
    rw [HVG.out, HVT.out]
    exact (HT0.out.ch hch (fun k hk hx => by omega)).weaken (fun k hk h => .inl h.1)
  | true =>
    simp only [hm, if_true] at HM HVT HVG HVR
    have HVB : Hid (∀ W, Calls Tryz.prog 75 #[.int .i64 x.kind, .int .i64 x.view, .int .i64 x.seq, .int .i64 d] W fun e w' => Made W 5 (vB x d) e w') := Lib.hid fun W => by
      obtain ⟨k', v', q', d', e1, e2, e3, e4, h1, h2, h3, h4⟩ := may_parts hm
      have := votebytes_any W k' v' q' d' h1 h2 h3 h4
      unfold vB
      rw [e1, e2, e3, e4]
      simpa using this
    have HBL : Hid ((vB x d).length <= 140737488355328) := Lib.hid (by have := (voteB_len (k := x.kind.toNat) (v := x.view.toNat) (s := x.seq.toNat) (d := d.toNat)).2.2.2; unfold vB; omega)
    clear hm
    go_enter Tryz.func42, Tryz.ntmps42
    go_wp2_with fail
    refine (HM.out _).mono ?_
    rintro e w1 ⟨rfl, rfl⟩
    generalize w.alloc (.cells #[.int .i64 0, .int .i64 0] 36) = w0 at *
    go_wp2_with fail
    refine (HVB.out _).mono ?_
    rintro e w1 ⟨v1, rfl, ho1, hb1⟩
    have HT1 := Lib.hid (HT0.out.later hb1)
    have HK1 := Lib.hid (HK0.out.below hb1 HK0.out.lt)
    have HC1 := Lib.hid (HC0.out.trans (Ch.of_below (S := fun k => S k /\ k < w.heap.size) hb1 (Nat.le_refl _)) (fun _ _ h => h))
    have HZ1 : Hid (w.heap.size + 1 <= w1.heap.size) := Lib.hid (by have := hb1.size; have := HZ0.out; omega)
    have HSG := Lib.hid (rsign11_any w1 _ (fun _ => False) p g L G x.key v1 _ (vB x d) HT1.out (Sl.of_own ho1 (fun _ _ _ h => h)) HBL.out HG.out)
    clear ho1 hb1
    go_wp2_with fail
    refine HSG.out.mono ?_
    rintro e w3 ⟨rfl, ht3, hc3⟩
    have HK3 := Lib.hid (HK1.out.ch hc3 (fun h => by omega))
    have HC3 : Hid (Ch (fun k => S k /\ k < w.heap.size) w w3) := Lib.hid (HC1.out.trans hc3 (fun k hk h => h))
    have HT3 := Lib.hid ht3
    have HZ3 := Lib.hid hc3.size
    clear ht3 hc3 HSG
    obtain ⟨⟨z0, z1⟩, y0, y1⟩ := cells2 HK3.out
    generalize vsR L x.key (vB x d) = sr at *
    obtain ⟨⟨s1, s2⟩, cd⟩ := sr
    unfold GV
    simp only
    go_wp2_with fail
    refine bodyPost_ret (results_row_tmp rfl _ _ w.heap.size 36 #[.int .i64 s1, .int .i64 s2] (0, 0) _ rfl (blk2 HK3.out) Tryz.underlying36 rfl size_sign) rfl ?_
    have hch := ch2 w3 w.heap.size (.int .i64 s1) (.int .i64 s2)
    refine ⟨by rw [HVR.out]; rfl, ?_, (HC3.out.mono (fun k _ hk => hk.1)).trans hch (fun k h1 h2 => by omega)⟩
    rw [HVG.out, HVT.out]
    have hz1 := HZ1.out
    have hz3 := HZ3.out
    refine (HT3.out.ch hch (fun k hk hx => by rcases hk with hk | hk <;> omega)).weaken (fun k hk h => ?_)
    rcases h with h | h
    . exact .inl h.1
    . exact .inr ⟨by omega, hk⟩
end Go.Proofs.YtmhmnkpaijoaaaaGreat.Prw
namespace Go.Proofs.YtmhmnkpaijoaaaaGreat.Bulk
set_option linter.unusedSimpArgs false
set_option linter.unusedVariables false
theorem one_le {H : Type} (d : DataW H) : 1 <= Rows.uptoBulk d := by
  cases d with
  | lit l => cases l <;> simp [Rows.uptoBulk]
  | nil => simp [Rows.uptoBulk]
  | ptr d => simp [Rows.uptoBulk]
  | slice elems spare => simp [Rows.uptoBulk]
  | agg parts => simp [Rows.uptoBulk]
  | iface t d => simp [Rows.uptoBulk]
  | map entries => simp [Rows.uptoBulk]
  | held h => simp [Rows.uptoBulk]
theorem length_le {H : Type} (l : List (DataW H)) : l.length <= Rows.uptoBulkAll l := by
  induction l with
  | nil => simp [Rows.uptoBulkAll]
  | cons x r ih => have := one_le x; simp only [Rows.uptoBulkAll, List.length_cons]; omega
theorem slice_len {H : Type} (elems spare : List (DataW H)) : elems.length + 1 <= Rows.uptoBulk (.slice elems spare) := by
  have h1 := length_le elems
  simp only [Rows.uptoBulk]
  omega
end Go.Proofs.YtmhmnkpaijoaaaaGreat.Bulk
namespace Go.Proofs.YtmhmnkpaijoaaaaGreat.Jo
set_option linter.unusedSimpArgs false
open Go Go.RowKit Go.ChangeShapes Go.WideShapes Go.ChangeAt Go.Deep Ck Kf Kp Pm Pe Py Lk Jm Ja Jb
set_option linter.unusedVariables false
set_option maxRecDepth 100000
section
variable {H : Type} {enc : TypeId × Value -> H}
theorem cells_req : Tryz.prog.cellsOf 111 = 7 := by kernel_rfl
theorem cells_dig : Tryz.prog.cellsOf 31 = 1 := by kernel_rfl
def wfQ (q : Q) : Prop := (-9223372036854775808 <= q.client /\ q.client <= 9223372036854775807) /\ (-9223372036854775808 <= q.time /\ q.time <= 9223372036854775807)
theorem open_q {w : World} {base : Nat} {fuel : Nat} {cs : List Value} {x : DataW H × List MemPlace} (h : DataW.trod enc Tryz.prog w base (fun _ => true) true fuel 111 cs = some x) :
    ∃ (q : Q) (A : Option Addr) (c : Nat), cs = (QC q A c).toList /\ Ls w (fun k => w.heap.size <= k) (.slice A q.o.recs.length c) q.o.recs
      /\ wfQ q /\ ∀ R, (∀ n ∈ x.1.weights Tryz.prog 111, n <= R) -> far q.o R := by
  obtain ⟨xs, n', _, hx, hl, hxl, hf⟩ := DataW.trod_struct Tryz.underlying111 h
  rw [cells_req] at hl
  have hxl' : xs.length = 3 := hxl
  match cs, hl with
  | [v0, v1, v2, v3, v4, v5, v6], _ =>
    have f0 : DataW.trod enc Tryz.prog w base (fun _ => true) true n' 3 (([v0, v1, v2, v3, v4, v5, v6].drop 0).take (Tryz.prog.cellsOf 3)) = xs[0]? := hf 0 _ rfl
    have f1 : DataW.trod enc Tryz.prog w base (fun _ => true) true n' 2 (([v0, v1, v2, v3, v4, v5, v6].drop 1).take (Tryz.prog.cellsOf 2)) = xs[1]? := hf 1 _ rfl
    have f2 : DataW.trod enc Tryz.prog w base (fun _ => true) true n' 109 (([v0, v1, v2, v3, v4, v5, v6].drop 2).take (Tryz.prog.cellsOf 109)) = xs[2]? := hf 2 _ rfl
    rw [Py.cells_int] at f0
    rw [Py.cells_i64] at f1
    rw [Py.cells_op] at f2
    simp only [List.drop_zero, List.drop_succ_cons, List.take_succ_cons, List.take_zero] at f0 f1 f2
    obtain ⟨z0, e0, w0⟩ := one_int Tryz.underlying3 (by omega) f0
    obtain ⟨z1, e1, w1⟩ := one_int Tryz.underlying2 (by omega) f1
    rw [List.getElem?_eq_getElem (by omega)] at f2
    obtain ⟨o, A, c, e2, hls, _, hfar⟩ := open_op f2
    have b0 : -9223372036854775808 <= z0 /\ z0 <= 9223372036854775807 := by simpa [Lit.wf, IntKind.min, IntKind.max, IntKind.signed, IntKind.bits] using w0
    have b1 : -9223372036854775808 <= z1 /\ z1 <= 9223372036854775807 := by simpa [Lit.wf, IntKind.min, IntKind.max, IntKind.signed, IntKind.bits] using w1
    simp only [List.cons.injEq, and_true] at e0 e1 e2
    obtain ⟨rfl, rfl, rfl, rfl, rfl⟩ := e2
    refine ⟨⟨z0, z1, o⟩, A, c, by rw [e0, e1]; rfl, hls, ⟨b0, b1⟩, fun R hR => hfar R fun n hn => ?_⟩
    refine hR n ?_
    rw [hx]
    simp only [DataW.weights, Tryz.underlying111]
    exact DataW.weights_mem_each (ts := [3, 2, 109]) (j := 2) (t := 109) rfl (by simp [List.getElem?_eq_getElem (show 2 < xs.length by omega)]) n hn
end
end Go.Proofs.YtmhmnkpaijoaaaaGreat.Jo
namespace Go.Proofs.YtmhmnkpaijoaaaaGreat.Jl
set_option linter.unusedSimpArgs false
open Go Go.RowKit Go.ChangeShapes Go.WideShapes Go.ChangeAt Go.Deep Ck Kf Kw Ga Kp Pm Pe Pk Py Qb Ik Lk Ld Jm Ja Jb Jc Jd Je Jf Jg Jh Jn Jo
open Im (num isIn add sum)
attribute [local go_sem ↓] Go.wp_at_zero Go.wp_at_succ
set_option linter.unusedVariables false
set_option maxRecDepth 100000
theorem QC_len (p : Q × (Option Addr × Nat)) : ((QC p.1 p.2.1 p.2.2).toList).length = 7 := rfl
def flatQ (l : List Q) (rs : List (Option Addr × Nat)) : List Value := (l.zip rs).flatMap fun p => (QC p.1 p.2.1 p.2.2).toList
theorem zipQ_len {l : List Q} {rs : List (Option Addr × Nat)} (h : rs.length = l.length) : (l.zip rs).length = l.length := by rw [List.length_zip]; omega
def RI (w : World) (X : Nat -> Prop) (v : Value) (l : List Q) : Prop :=
  ∃ rs, rs.length = l.length /\ Sl w X 7 v l.length (flatQ l rs) /\ ∀ i (h : i < l.length), ∃ r, rs[i]? = some r /\ Ls w X (.slice r.1 l[i].o.recs.length r.2) l[i].o.recs
section
variable {w w' : World} {X Y S : Nat -> Prop} {v : Value} {l : List Q}
theorem RI.after (h : RI w X v l) (hb : Below w.heap.size w w') : RI w' X v l := by
  obtain ⟨rs, h1, h2, h3⟩ := h
  exact ⟨rs, h1, h2.after hb, fun i hi => by obtain ⟨r, h4, h5⟩ := h3 i hi; exact ⟨r, h4, h5.after hb⟩⟩
theorem RI.ch (h : RI w X v l) (c : Ch S w w') (hd : ∀ k, k < w.heap.size -> S k -> X k) : RI w' X v l := by
  obtain ⟨rs, h1, h2, h3⟩ := h
  exact ⟨rs, h1, h2.ch c hd, fun i hi => by obtain ⟨r, h4, h5⟩ := h3 i hi; exact ⟨r, h4, h5.ch c hd⟩⟩
theorem RI.shape (h : RI w X v l) : ∃ A c, v = .slice A l.length c /\ l.length <= c := by
  obtain ⟨rs, h1, ⟨A, c, rfl, _, hc, _⟩, h3⟩ := h
  exact ⟨A, c, rfl, hc⟩
def At7 (w : World) (ad : Addr) (q : Q) (Ar : Option Addr) (cr : Nat) : Prop :=
  w.cell? ad = some (.int .i64 q.client) /\ w.cell? ⟨ad.block, ad.off + 1, none⟩ = some (.int .i64 q.time) /\ w.cell? ⟨ad.block, ad.off + 2, none⟩ = some (.int .i64 q.o.kind) /\ w.cell? ⟨ad.block, ad.off + 3, none⟩ = some (.string ⟨q.o.topic.toArray⟩)
    /\ w.cell? ⟨ad.block, ad.off + 4, none⟩ = some (.string ⟨q.o.group.toArray⟩) /\ w.cell? ⟨ad.block, ad.off + 5, none⟩ = some (.int .i64 q.o.off) /\ w.cell? ⟨ad.block, ad.off + 6, none⟩ = some (.slice Ar q.o.recs.length cr)
theorem RI.at_ {A : Option Addr} {n c i : Nat} (h : RI w X (.slice A n c) l) (hi : i < l.length) :
    ∃ ad Ar cr, A = some ad /\ At7 w (ad.add (i * 7)) l[i] Ar cr /\ Ls w X (.slice Ar l[i].o.recs.length cr) l[i].o.recs := by
  obtain ⟨rs, h1, ⟨A', c', hv, hl, hc, hm, hx⟩, h3⟩ := h
  injection hv with e1 e2 e3
  subst e1
  obtain ⟨⟨Ar, cr⟩, h4, h5⟩ := h3 i hi
  obtain ⟨ad, hA, hb, hX, hcell⟩ := hx (by omega)
  refine ⟨ad, Ar, cr, hA, ?_, h5⟩
  have hz : i < (l.zip rs).length := by rw [zipQ_len h1]; exact hi
  have hr : i < rs.length := by omega
  have he : (l.zip rs)[i] = (l[i], (Ar, cr)) := by
    rw [List.getElem_zip]
    have : rs[i] = (Ar, cr) := by have := List.getElem?_eq_getElem hr; rw [this] at h4; exact Option.some.inj h4
    rw [this]
  have hg : ∀ j, j < 7 -> (flatQ l rs)[i * 7 + j]? = ((QC l[i] Ar cr).toList)[j]? := fun j hj => by
    rw [flatQ, flat_get QC_len _ _ hz j hj, he]
  have hof : ∀ j u, j < 7 -> ((QC l[i] Ar cr).toList)[j]? = some u -> w.cell? ((ad.add (i * 7)).add j) = some u := fun j u hj hu => by
    rw [Ck.add_add]
    exact hcell _ _ (by rw [hg j hj]; exact hu)
  generalize ad.add (i * 7) = a at hof ⊢
  have ha : ∀ j, 0 < j -> a.add j = ⟨a.block, a.off + j, none⟩ := fun j hj => by unfold Addr.add; rw [if_neg (by omega)]
  have h0 : a.add 0 = a := by unfold Addr.add; rw [if_pos rfl]
  refine ⟨?_, ?_, ?_, ?_, ?_, ?_, ?_⟩
  . have := hof 0 _ (by omega) rfl; rwa [h0] at this
  . have := hof 1 _ (by omega) rfl; rwa [ha _ (by omega)] at this
  . have := hof 2 _ (by omega) rfl; rwa [ha _ (by omega)] at this
  . have := hof 3 _ (by omega) rfl; rwa [ha _ (by omega)] at this
  . have := hof 4 _ (by omega) rfl; rwa [ha _ (by omega)] at this
  . have := hof 5 _ (by omega) rfl; rwa [ha _ (by omega)] at this
  . have := hof 6 _ (by omega) rfl; rwa [ha _ (by omega)] at this
end
section
variable {H : Type} {enc : TypeId × Value -> H}
end
end Go.Proofs.YtmhmnkpaijoaaaaGreat.Jl
namespace Go.Proofs.YtmhmnkpaijoaaaaGreat.Prx
set_option linter.unusedSimpArgs false
open Go Go.RowKit Ck Kw Ga Kf Pm Pe Pg Ik Lk Jm Ja Jb Jc Jd Je Jf Jl Kc
set_option linter.unusedVariables false
def paint (c : Nat -> Nat) (i a b : Nat) (k : Nat) : Nat := if a <= k /\ k < b then i else c k
theorem paint_old {c : Nat -> Nat} {i a b k : Nat} (h : k < a) : paint c i a b k = c k := by
  unfold paint
  rw [if_neg (by omega)]
theorem paint_new {c : Nat -> Nat} {i a b k : Nat} (h : a <= k) (h' : k < b) : paint c i a b k = i := by
  unfold paint
  rw [if_pos ⟨h, h'⟩]
def Hue (W : World) (c : Nat -> Nat) : Prop := ∀ k, W.heap.size <= k -> c k = 0
theorem Hue.paint {W W' : World} {c : Nat -> Nat} (i : Nat) (h : Hue W c) (hs : W.heap.size <= W'.heap.size) : Hue W' (paint c i W.heap.size W'.heap.size) := fun k hk => by
  unfold Prx.paint
  rw [if_neg (by omega)]
  exact h k (by omega)
theorem Hue.later {W W' : World} {c : Nat -> Nat} (h : Hue W c) (hs : W.heap.size <= W'.heap.size) : Hue W' c := fun k hk => h k (by omega)
def Ag (W : World) (c c' : Nat -> Nat) : Prop := ∀ k, k < W.heap.size -> c' k = c k
theorem Ag.refl (W : World) (c : Nat -> Nat) : Ag W c c := fun _ _ => rfl
theorem ag_paint (W : World) (c : Nat -> Nat) (i b : Nat) : Ag W c (paint c i W.heap.size b) := fun k hk => paint_old hk
theorem below_hue {W0 W W' : World} {c : Nat -> Nat} {i : Nat} (lo : ∀ k, k < W0.heap.size -> c k = 0) (hb : Below W0.heap.size W0 W) (cc : Ch (fun k => c k = i) W W') (hi : i ≠ 0) : Below W0.heap.size W0 W' :=
  hb.trans (cc.below (fun k hk h => hi (by rw [<- h]; exact lo k hk)) hb.size)
section
variable {W W' : World} {c c' : Nat -> Nat} {i j : Nat}
theorem tl_hue {p g : Nat} {L : List (List UInt8)} {G : List Sg} (h : TL W (fun k => c k = j) p g L G) (hc : Hue W c) (hj : j ≠ 0) (cc : Ch (fun k => c k = i) W W') (hi : i ≠ j) (ag : Ag W c c') : TL W' (fun k => c' k = j) p g L G :=
  (h.ch cc (fun k h1 h2 => hi (h2.symm.trans h1))).weaken (fun k _ h1 => by
    by_cases hk : k < W.heap.size
    . exact (ag k hk).trans h1
    . exact absurd (h1.symm.trans (hc k (by omega))) hj)
theorem rt_hue {p g : Nat} {L : List (List UInt8)} {G : List Sg} (h : RT W (fun k => c k = j) p g L G) (hc : Hue W c) (hj : j ≠ 0) (cc : Ch (fun k => c k = i) W W') (hi : i ≠ j) (ag : Ag W c c') : RT W' (fun k => c' k = j) p g L G :=
  (h.ch cc (fun k h1 h2 => hi (h2.symm.trans h1))).weaken (fun k _ h1 => by
    by_cases hk : k < W.heap.size
    . exact (ag k hk).trans h1
    . exact absurd (h1.symm.trans (hc k (by omega))) hj)
theorem rt_paint {p g : Nat} {L : List (List UInt8)} {G : List Sg} (h : RT W' (Nw (fun k => c k = j) W.heap.size W'.heap.size) p g L G) (hc : Hue W c) (hj : j ≠ 0) : RT W' (fun k => paint c j W.heap.size W'.heap.size k = j) p g L G :=
  h.weaken (fun k hk h1 => by
    rcases h1 with h1 | h1
    . by_cases hk : k < W.heap.size
      . exact (paint_old hk).trans h1
      . exact absurd (h1.symm.trans (hc k (by omega))) hj
    . exact paint_new h1.1 h1.2)
theorem tl_paint {p g : Nat} {L : List (List UInt8)} {G : List Sg} (h : TL W' (Nw (fun k => c k = j) W.heap.size W'.heap.size) p g L G) (hc : Hue W c) (hj : j ≠ 0) : TL W' (fun k => paint c j W.heap.size W'.heap.size k = j) p g L G :=
  h.weaken (fun k hk h1 => by
    rcases h1 with h1 | h1
    . by_cases hk : k < W.heap.size
      . exact (paint_old hk).trans h1
      . exact absurd (h1.symm.trans (hc k (by omega))) hj
    . exact paint_new h1.1 h1.2)
def Row (W : World) (c : Nat -> Nat) (j B : Nat) (e : TypeId) (size : Nat) (v : Value) (n : Nat) (xs : List Value) : Prop := W.ownsRow B e size v n xs /\ ∀ k, v.ownBlock = some k -> c k = j
theorem Row.nil (W : World) (c : Nat -> Nat) (j B : Nat) (e : TypeId) (size : Nat) : Row W c j B e size (.slice none 0 0) 0 [] := ⟨World.ownsRow_nil _ _ _ _, fun k hk => by simp [Value.ownBlock] at hk⟩
theorem Row.turn {B : Nat} {e : TypeId} {size n : Nat} {v : Value} {xs : List Value} (h : Row W c j B e size v n xs) (cc : Ch (fun k => c k = i) W W') (hi : i ≠ j) (ag : Ag W c c') : Row W' c' j B e size v n xs :=
  ⟨own_ch h.1 cc (fun k hk hx => hi (hx.symm.trans (h.2 k hk))), fun k hk => (ag k (h.1.lt k hk).2).trans (h.2 k hk)⟩
theorem Row.put {B : Nat} {e : TypeId} {size n : Nat} {v v' : Value} {xs ys : List Value} (h : Row W c j B e size v n xs) {m : Nat} (ha : Appended W B e size v m ys v' W') : Row W' (paint c j W.heap.size W'.heap.size) j B e size v' m ys /\ Ch (fun k => c k = j) W W' := by
  refine ⟨⟨ha.1, fun k hk => ?_⟩, Ch.of_grown ha.2.1 (fun k hk _ => h.2 k hk)⟩
  have hlt := ha.1.lt k hk
  rcases ha.2.2 with q | q
  . rw [q] at hk
    exact (paint_old (h.1.lt k hk).2).trans (h.2 k hk)
  . rw [q] at hk
    injection hk with hk
    exact paint_new (by omega) hlt.2
theorem blk_hue {g : Nat} {t : TypeId} {cs : Array Value} (h : Blk W g t cs) (hg : c g = j) (cc : Ch (fun k => c k = i) W W') (hi : i ≠ j) : Blk W' g t cs := h.ch cc (fun hx => hi (hx.symm.trans hg))
theorem ls_old {w : World} {X : Nat -> Prop} {v : Value} {ls : List (List UInt8)} (h : Ls w X v ls) {B : Nat} (hB : w.heap.size <= B) : Ls w (fun k => X k \/ B <= k) v ls := by
  obtain ⟨vals, a, b⟩ := h
  exact ⟨vals, a.old hB, fun i hi => by obtain ⟨u, hu, h⟩ := b i hi; exact ⟨u, hu, h.old hB⟩⟩
theorem batch_old {w : World} {X : Nat -> Prop} {v : Value} {l : List Sd} (h : BI w X v l) {B : Nat} (hB : w.heap.size <= B) : BI w (fun k => X k \/ B <= k) v l := by
  obtain ⟨rs, h1, h2, h3⟩ := h
  exact ⟨rs, h1, h2.old hB, fun i hi => by obtain ⟨r, h4, h5⟩ := h3 i hi; exact ⟨r, h4, ls_old h5 hB⟩⟩
theorem ls_hue {v : Value} {ls : List (List UInt8)} (h : Ls W (fun k => c k ≠ 0) v ls) (cc : Ch (fun k => c k = i) W W') (hi : i ≠ 0) (ag : Ag W c c') : Ls W' (fun k => c' k ≠ 0) v ls :=
  ((ls_old h (Nat.le_refl _)).ch cc (fun k _ hk => .inl (by rw [hk]; exact hi))).weaken (fun k _ hk => by
    by_cases hl : k < W.heap.size
    . exact .inl (by rw [<- ag k hl]; exact hk)
    . exact .inr (by omega))
theorem batch_hue {v : Value} {l : List Sd} (h : BI W (fun k => c k ≠ 0) v l) (cc : Ch (fun k => c k = i) W W') (hi : i ≠ 0) (ag : Ag W c c') : BI W' (fun k => c' k ≠ 0) v l :=
  ((batch_old h (Nat.le_refl _)).ch cc (fun k _ hk => .inl (by rw [hk]; exact hi))).weaken (fun k _ hk => by
    by_cases hl : k < W.heap.size
    . exact .inl (by rw [<- ag k hl]; exact hk)
    . exact .inr (by omega))
end
def Bs (W : World) (c : Nat -> Nat) (vals : List Value) (bs : List (List Sd)) : Prop := vals.length = bs.length /\ ∀ i (h : i < bs.length), ∃ u, vals[i]? = some u /\ BI W (fun k => c k ≠ 0) u bs[i]
theorem Bs.nil (W : World) (c : Nat -> Nat) : Bs W c [] [] := ⟨rfl, fun i h => absurd h (by simp)⟩
theorem Bs.turn {W W' : World} {c c' : Nat -> Nat} {i : Nat} {vals : List Value} {bs : List (List Sd)} (h : Bs W c vals bs) (cc : Ch (fun k => c k = i) W W') (hi : i ≠ 0) (ag : Ag W c c') : Bs W' c' vals bs :=
  ⟨h.1, fun k hk => by obtain ⟨u, h1, h2⟩ := h.2 k hk; exact ⟨u, h1, batch_hue h2 cc hi ag⟩⟩
theorem Bs.snoc {W : World} {c : Nat -> Nat} {vals : List Value} {bs : List (List Sd)} {u : Value} {b : List Sd} (h : Bs W c vals bs) (hu : BI W (fun k => c k ≠ 0) u b) : Bs W c (vals ++ [u]) (bs ++ [b]) := by
  refine ⟨by simp [h.1], fun i hi => ?_⟩
  rw [List.length_append, List.length_singleton] at hi
  by_cases hl : i < bs.length
  . obtain ⟨u', h1, h2⟩ := h.2 i hl
    refine ⟨u', by rw [List.getElem?_append_left (by rw [h.1]; exact hl)]; exact h1, ?_⟩
    rw [List.getElem_append_left hl]
    exact h2
  . have he : i = bs.length := by omega
    subst he
    refine ⟨u, by rw [List.getElem?_append_right (by rw [h.1]; omega), h.1]; simp, ?_⟩
    simpa using hu
def Ds (W : World) (c : Nat -> Nat) (rs : List (Option Addr × Nat)) (R : List Sd) : Prop := rs.length = R.length /\ ∀ i (h : i < R.length), ∃ r, rs[i]? = some r /\ Ls W (fun k => c k ≠ 0) (.slice r.1 R[i].q.o.recs.length r.2) R[i].q.o.recs
theorem Ds.nil (W : World) (c : Nat -> Nat) : Ds W c [] [] := ⟨rfl, fun i h => absurd h (by simp)⟩
theorem Ds.turn {W W' : World} {c c' : Nat -> Nat} {i : Nat} {rs : List (Option Addr × Nat)} {R : List Sd} (h : Ds W c rs R) (cc : Ch (fun k => c k = i) W W') (hi : i ≠ 0) (ag : Ag W c c') : Ds W' c' rs R :=
  ⟨h.1, fun k hk => by obtain ⟨u, h1, h2⟩ := h.2 k hk; exact ⟨u, h1, ls_hue h2 cc hi ag⟩⟩
theorem Ds.snoc {W : World} {c : Nat -> Nat} {rs : List (Option Addr × Nat)} {R : List Sd} {A : Option Addr} {n : Nat} {d : Sd} (h : Ds W c rs R) (hu : Ls W (fun k => c k ≠ 0) (.slice A d.q.o.recs.length n) d.q.o.recs) : Ds W c (rs ++ [(A, n)]) (R ++ [d]) := by
  refine ⟨by simp [h.1], fun i hi => ?_⟩
  rw [List.length_append, List.length_singleton] at hi
  by_cases hl : i < R.length
  . obtain ⟨u', h1, h2⟩ := h.2 i hl
    refine ⟨u', by rw [List.getElem?_append_left (by rw [h.1]; exact hl)]; exact h1, ?_⟩
    rw [List.getElem_append_left hl]
    exact h2
  . have he : i = R.length := by omega
    subst he
    refine ⟨(A, n), by rw [List.getElem?_append_right (by rw [h.1]; omega), h.1]; simp, ?_⟩
    simpa using hu
def off (c : Nat -> Nat) (j : Nat) (k : Nat) : Nat := if c k = j then 0 else c k
theorem off_ne {c : Nat -> Nat} {j k : Nat} (h : off c j k ≠ 0) : c k ≠ 0 /\ c k ≠ j := by
  unfold off at h
  split at h
  . exact absurd rfl h
  . exact ⟨h, by assumption⟩
theorem off_of {c : Nat -> Nat} {i j k : Nat} (h : c k = i) (hij : i ≠ j) : off c j k = i := by
  unfold off
  rw [if_neg (by rw [h]; exact hij)]
  exact h
theorem Ds.bi {W : World} {c : Nat -> Nat} {j B : Nat} {e : TypeId} {v : Value} {rs : List (Option Addr × Nat)} {R : List Sd} (h : Ds W c rs R) (hr : Row W c j B e 9 v R.length (flat R rs)) : BI W (fun k => off c j k ≠ 0) v R :=
  ⟨rs, h.1, Sl.of_own' hr.1 (fun k hk hx => (off_ne hx).2 (hr.2 k hk)), fun i hi => by
    obtain ⟨r, h4, h5⟩ := h.2 i hi
    exact ⟨r, h4, h5.weaken (fun k _ hk => (off_ne hk).1)⟩⟩
end Go.Proofs.YtmhmnkpaijoaaaaGreat.Prx

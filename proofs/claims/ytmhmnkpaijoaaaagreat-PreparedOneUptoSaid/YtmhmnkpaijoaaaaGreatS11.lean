import Derived.Deep.RegionHeld3
import Derived.BigQuiet
import Derived.Test.YtmhmnkpaijoaaaaGreatS10
namespace Go.Proofs.YtmhmnkpaijoaaaaGreat.Puq
set_option linter.unusedSimpArgs false
open Go Go.RowKit Ck Cf Kw Ga Kf Pm Pe Pg Ik Lk Jm Ja Jb Jf Jg Jl Jn Kc Kj Pra Prb Prc Prd Pre Prf Prn Prr Prx Psg Psh Psx Pta Ptd Pte Pth Pua Jt Pub Puc Pud Pug
attribute [local go_sem ↓] Go.wp_at_zero Go.wp_at_succ
set_option linter.unusedVariables false
set_option maxRecDepth 100000
theorem fromP_app : ∀ (l : List Pd) (a : Int) (m : List Pd), fromP a (l ++ m) = (fromP a l && fromP (lastP a l) m)
  | [], a, m => by simp [fromP, lastP]
  | p :: l, a, m => by
    have e : lastP a (p :: l) = lastP p.seq l := by
      simp only [lastP, List.getLast?_cons]
      cases l.getLast? <;> rfl
    rw [List.cons_append, fromP, fromP, fromP_app l p.seq m, e, Bool.and_assoc, Bool.and_assoc, Bool.and_assoc]
theorem from_step {l : List Pd} {k : Nat} (hk : k < l.length) (h : fromP 0 (l.take k) = true) :
    ((okN l[k].seq && decide (lastP 0 (l.take k) < l[k].seq)) = false -> fromP 0 l = false) /\ ((okN l[k].seq && decide (lastP 0 (l.take k) < l[k].seq)) = true -> fromP 0 (l.take (k + 1)) = true /\ lastP 0 (l.take (k + 1)) = l[k].seq) := by
  have e : l = l.take k ++ (l[k] :: l.drop (k + 1)) := by rw [<- List.drop_eq_getElem_cons hk, List.take_append_drop]
  constructor
  . intro hb
    rw [e, fromP_app, fromP, hb]
    simp
  . intro hb
    rw [List.take_succ_eq_append_getElem hk, fromP_app, lastP_snoc, h, fromP, hb, fromP]
    exact ⟨rfl, rfl⟩
theorem from_low : ∀ (l : List Pd) (a : Int), fromP a l = true -> a <= lastP a l /\ ∀ p ∈ l, p.seq <= lastP a l
  | [], a, _ => ⟨by simp [lastP], fun p hp => by simp at hp⟩
  | q :: l, a, h => by
    have e : lastP a (q :: l) = lastP q.seq l := by
      simp only [lastP, List.getLast?_cons]
      cases l.getLast? <;> rfl
    simp only [fromP, Bool.and_eq_true, decide_eq_true_eq] at h
    obtain ⟨h1, h2⟩ := from_low l q.seq h.2
    rw [e]
    refine ⟨by have := h.1.2; omega, fun p hp => ?_⟩
    rcases List.mem_cons.1 hp with rfl | hp
    . exact h1
    . exact h2 p hp
theorem kOf_all {n : Int} : ∀ (l : List Pd), (∀ p ∈ l, p.seq < n) -> kOf l n = l.length
  | [], _ => rfl
  | p :: l, h => by
    rw [kOf, if_pos (h p (by simp)), kOf_all l (fun q hq => h q (List.mem_cons_of_mem _ hq))]
    rfl
theorem put_end {m : List Pd} {x : Pd} (h : fromP 0 m = true) (ho : okN x.seq = true) (hl : lastP 0 m < x.seq) : putP m x = (m ++ [x], true) := by
  have hk := kOf_all m (n := x.seq) (fun p hp => by have := (from_low m 0 h).2 p hp; omega)
  unfold putP hadP
  rw [if_pos ho, hk]
  simp
def FromAt (w : World) (l : List Pd) (e : Ending) (w' : World) : Prop := if fromP 0 l then ∃ g, e = .returned (.tuple #[.pointer (some ⟨g, 0, none⟩), .int .i64 0]) /\ Hd w' (fun k => w.heap.size <= k /\ k < w'.heap.size) g l else e = .returned (.tuple #[.pointer none, .int .i64 1])
theorem from_no {w w' : World} {l : List Pd} (h : fromP 0 l = false) : FromAt w l (.returned (.tuple #[.pointer none, .int .i64 1])) w' := by unfold FromAt; rw [h]; rfl
theorem from_yes {w w' : World} {l : List Pd} {g : Nat} (h : fromP 0 l = true) (hh : Hd w' (fun k => w.heap.size <= k /\ k < w'.heap.size) g l) : FromAt w l (.returned (.tuple #[.pointer (some ⟨g, 0, none⟩), .int .i64 0])) w' := by unfold FromAt; rw [h]; exact ⟨g, rfl, hh⟩
set_option maxHeartbeats 8000000 in
theorem pfrom_any (w : World) (X : Nat -> Prop) (v : Value) (l : List Pd) (hp : PL w X v l) (hl : l.length <= 1599289640355) (hok : ∀ p ∈ l, okV p) :
    Calls Tryz.prog 30 #[v] w fun e w' => Below w.heap.size w w' /\ FromAt w l e w' := by
  obtain ⟨A, c, rfl, hc⟩ := hp.shape
  have HP := Lib.hid hp
  have HX := Lib.hid hok
  have hli : (l.length : Int) <= 1599289640355 := by omega
  clear hp hc hok hl
  go_enter Tryz.func30, Tryz.ntmps30
  go_wp2_with fail
  refine (pnew_any w).mono ?_
  rintro e w1 ⟨g, rfl, hh, hb1⟩
  have HH1 := Lib.hid (And.intro hh hb1)
  clear hh hb1
  go_wp2_with fail
  go_loopw [5, 11] (fun lst i wr => ∃ k : Nat, k <= l.length /\ i = .int .i64 k /\ lst = .int .i64 (lastP 0 (l.take k)) /\ fromP 0 (l.take k) = true /\ Hd wr (fun q => w.heap.size <= q /\ q < wr.heap.size) g (l.take k) /\ Below w.heap.size w wr) (fun _ i _ => l.length - (intOf i).toNat)
  case atStart => exact ⟨0, Nat.zero_le _, rfl, rfl, rfl, HH1.out.1, HH1.out.2⟩
  case round =>
    obtain ⟨k, hk, rfl, rfl, hfr, hh, hb⟩ := hrel
    clear HH1
    have HB := Lib.hid hb
    by_cases hlt : k < l.length
    . obtain ⟨ad, r, rfl, hat, hpi⟩ := HP.out.at_ hlt
      obtain ⟨a0, a1, a2, a3, a4, a5, a6⟩ := hat.later hb
      have hkp : (0 : Int) <= (k : Int) := by omega
      have hkl : (k : Int) < (l.length : Int) := by omega
      have HST := Lib.hid (from_step hlt hfr)
      have HPE := Lib.hid (fun (ho : okN l[k].seq = true) (hl' : lastP 0 (l.take k) < l[k].seq) => put_end (m := l.take k) (x := l[k]) hfr ho hl')
      have hokv := HX.out _ (List.getElem_mem hlt)
      have HTK := Lib.hid (List.take_succ_eq_append_getElem hlt)
      have HKL := Lib.hid hlt
      have hlen : (l.take k).length <= 1599289640354 := by rw [List.length_take]; omega
      have hb2 : Below wr.heap.size wr (wr.alloc (.cells (PC l[k] r) 41)) := (Below.refl _ wr).alloc (Nat.le_refl _) _
      have hbb : Below w.heap.size w (wr.alloc (.cells (PC l[k] r) 41)) := hb.trans (hb2.mono hb.size)
      have HPU := Lib.hid (pput_any (wr.alloc (.cells (PC l[k] r) 41)) _ X g (l.take k) l[k] r (hh.later hb2) (hpi.after hbb) hokv hlen)
      have HBB := Lib.hid hbb
      have HS2 : Hid (wr.heap.size <= (wr.alloc (.cells (PC l[k] r) 41)).heap.size) := Lib.hid hb2.size
      have HBK : Hid (Blk (wr.alloc (.cells (PC l[k] r) 41)) wr.heap.size 41 (PC l[k] r)) := Lib.hid (Blk.new _ _ _)
      generalize lastP 0 (l.take k) = last at *
      generalize l.take k = m at *
      generalize l[k] = x at *
      clear hat hpi hk hlt hb hh hfr hokv hlen hb2 hbb
      unfold PC at HPU HBB HS2 HBK
      by_cases h1 : x.seq <= last
      . have HF := Lib.hid (HST.out.1 (by rw [decide_eq_false (by omega)]; simp))
        go_wp2_with fail
        refine bodyPost_ret (results_tmp2 rfl _ _ _) rfl ?_
        exact ⟨HBB.out, from_no HF.out⟩
      . have HN1 := Lib.hid h1
        cases ho : okN x.seq with
        | false =>
          have HF := Lib.hid (HST.out.1 (by rw [ho]; rfl))
          have HPB := Lib.hid (Pug.put_bad (l := m) ho)
          rw [HPB.out] at HPU
          clear ho
          go_wp2_with fail
          refine HPU.out.mono ?_
          rintro e w3 ⟨rfl, -, hc3⟩
          have HB3 := Lib.hid (HBB.out.trans (hc3.below (B := w.heap.size) (fun q hq h => by omega) HBB.out.size))
          clear hc3
          go_wp2_with fail
          refine bodyPost_ret (results_tmp2 rfl _ _ _) rfl ?_
          exact ⟨HB3.out, from_no HF.out⟩
        | true =>
          have HF := Lib.hid (HST.out.2 (by rw [ho, decide_eq_true (show last < x.seq by omega)]; rfl))
          have HPB := Lib.hid (HPE.out ho (by omega))
          rw [HPB.out] at HPU
          clear ho
          go_wp2_with fail
          refine HPU.out.mono ?_
          rintro e w3 ⟨rfl, hh3, hc3⟩
          have HB3 := Lib.hid (HBB.out.trans (hc3.below (B := w.heap.size) (fun q hq h => by omega) HBB.out.size))
          have hk3 := HBK.out.ch hc3 (fun h => by omega)
          have e1 := hk3.cell 1
          simp only [List.getElem?_toArray, List.getElem?_cons_zero, List.getElem?_cons_succ] at e1
          have HH3 : Hid (Hd w3 (fun q => w.heap.size <= q /\ q < w3.heap.size) g (m ++ [x])) := Lib.hid (hh3.weaken (fun q hq hn => by
            have hs := hc3.size
            rcases hn with hn | hn
            . exact ⟨hn.1, hq⟩
            . exact ⟨by have := HBB.out.size; omega, hq⟩))
          clear hh3 hc3 hk3
          go_wp2_with fail
          go_roundw
          case rel => exact ⟨k + 1, by have := HKL.out; omega, by go_num, by rw [HF.out.2], HF.out.1, by rw [HTK.out]; exact HH3.out, HB3.out⟩
          case measure => have := HKL.out; simp [intOf]; omega
    . have hke : k = l.length := by omega
      subst hke
      rw [List.take_length] at hfr hh
      have HF := Lib.hid hfr
      have HH := Lib.hid hh
      clear hfr hh hk hlt hb
      go_wp2_with fail
      refine bodyPost_ret (results_tmp2 rfl _ _ _) rfl ?_
      exact ⟨HB.out, from_yes HF.out HH.out⟩
end Go.Proofs.YtmhmnkpaijoaaaaGreat.Puq
namespace Go.Proofs.YtmhmnkpaijoaaaaGreat.Pur
set_option linter.unusedSimpArgs false
open Go Go.RowKit Ck Kw Ga Kf Pm Pe Pg Ik Lk Ld Jm Ja Jb Jk Js Pra Prb Prc
attribute [local go_sem ↓] Go.wp_at_zero Go.wp_at_succ
set_option linter.unusedVariables false
set_option maxRecDepth 100000
theorem esigns_any (w : World) (X Y : Nat -> Prop) (A B : Option Addr) (c d : Nat) (ls ks : List (Int × Int)) (ha : SS w X (.slice A ls.length c) ls) (hb : SS w Y (.slice B ks.length d) ks) (hl : ls.length <= 140737488355328) :
    Calls Tryz.prog 63 #[.slice A ls.length c, .slice B ks.length d] w fun e w' => e = .returned (.bool (decide (ls = ks))) /\ Below w.heap.size w w' :=
  (sequal_any w X Y A B c d ls ks ha hb hl).mono (by
    rintro e w' ⟨he, n, rfl⟩
    exact ⟨he, below_drewN (Below.refl _ _) n⟩)
set_option maxHeartbeats 4000000 in
theorem psame_any (w : World) (X Y : Nat -> Prop) (p q : Pd) (rp rq : Pl2) (hp : PI w X p rp) (hq : PI w Y q rq) (hs : p.signs.length <= 140737488355328) (hb : p.batch.length <= 140737488355328) (hr : ∀ x ∈ p.batch, x.q.o.recs.length <= 140737488355328) :
    Calls Tryz.prog 32 #[.agg (PC p rp), .agg (PC q rq)] w fun e w' => e = .returned (.bool (decide (p = q))) /\ Below w.heap.size w w' := by
  have hB : ∀ o o', Below w.heap.size w ((w.alloc o).alloc o') := fun o o' => ((Below.refl _ w).alloc (Nat.le_refl _) _).alloc (by simp) _
  have HB := Lib.hid hB
  have HSI := Lib.hid (fun W (hW : Below w.heap.size w W) => esigns_any W X Y _ _ _ _ p.signs q.signs (hp.signs.after hW) (hq.signs.after hW) hs)
  have HBA := Lib.hid (fun W (hW : Below w.heap.size w W) => sameb_any W X Y _ _ p.batch q.batch (hp.batch.after hW) (hq.batch.after hW) hr hb)
  have hge := guard_sign
  have hqe := run_eql_sign
  clear hp hq hs hb hr hB
  unfold PC
  by_cases h1 : p.view = q.view
  . by_cases h2 : p.seq = q.seq
    . by_cases h3 : p.dig = q.dig
      . by_cases h4 : p.first = q.first
        . have e1 : (p.view == q.view) = true := by simp [h1]
          have e2 : (p.seq == q.seq) = true := by simp [h2]
          have e3 : (p.dig == q.dig) = true := by simp [h3]
          have e4 : ∀ W : World, (binOp .eql 36 (.agg #[.int .i64 p.first.1, .int .i64 p.first.2]) (.agg #[.int .i64 q.first.1, .int .i64 q.first.2])).run Tryz.prog W = .ok (.bool true) W := fun W => by rw [hqe, show sgB (p.first.1, p.first.2) (q.first.1, q.first.2) = true from by rw [h4]; exact sgB_yes _]
          by_cases h5 : p.signs = q.signs
          . have HS1 := Lib.hid fun W hW => (HSI.out W hW).mono (fun e w' h => show e = .returned (.bool true) /\ _ from ⟨by rw [h.1, decide_eq_true h5], h.2⟩)
            have HD : Hid (decide (p = q) = decide (p.batch = q.batch)) := Lib.hid (by
              by_cases h6 : p.batch = q.batch
              . rw [decide_eq_true h6, decide_eq_true (pd_ext h1 h2 h3 h4 h5 h6)]
              . rw [decide_eq_false h6, decide_eq_false (fun h => h6 (by rw [h]))])
            have hk0 : ∀ o', Blk ((w.alloc (.cells #[.int .i64 p.view, .int .i64 p.seq, .int .i64 p.dig, .int .i64 p.first.1, .int .i64 p.first.2, .slice rp.1.1 p.signs.length rp.1.2, .slice rp.2.1 p.batch.length rp.2.2] 41)).alloc o') w.heap.size 41 #[.int .i64 p.view, .int .i64 p.seq, .int .i64 p.dig, .int .i64 p.first.1, .int .i64 p.first.2, .slice rp.1.1 p.signs.length rp.1.2, .slice rp.2.1 p.batch.length rp.2.2] := fun o' => (Blk.new w _ _).alloc _
            have hk1 : ∀ o, Blk ((w.alloc o).alloc (.cells #[.int .i64 q.view, .int .i64 q.seq, .int .i64 q.dig, .int .i64 q.first.1, .int .i64 q.first.2, .slice rq.1.1 q.signs.length rq.1.2, .slice rq.2.1 q.batch.length rq.2.2] 41)) (w.heap.size + 1) 41 #[.int .i64 q.view, .int .i64 q.seq, .int .i64 q.dig, .int .i64 q.first.1, .int .i64 q.first.2, .slice rq.1.1 q.signs.length rq.1.2, .slice rq.2.1 q.batch.length rq.2.2] := fun o => Blk.new_at (by simp) rfl
            have HK := Lib.hid (And.intro hk0 hk1)
            clear hqe HSI h1 h2 h3 h4 h5 hk0 hk1
            go_enter Tryz.func32, Tryz.ntmps32
            go_wp2_with fail
            refine (HS1.out _ (HB.out _ _)).mono ?_
            rintro e w3 ⟨rfl, hb3⟩
            have c0 := ((HK.out.1 _).below hb3 (HK.out.1 _).lt).cell 6
            have c1 := ((HK.out.2 _).below hb3 (HK.out.2 _).lt).cell 6
            simp only [List.getElem?_toArray, List.getElem?_cons_zero, List.getElem?_cons_succ] at c0 c1
            have HB3 := Lib.hid ((HB.out _ _).trans (hb3.mono (HB.out _ _).size))
            clear hb3 HS1
            go_wp2_with fail
            refine (HBA.out _ HB3.out).mono ?_
            rintro e w4 ⟨rfl, hb4⟩
            have HB4 := Lib.hid (HB3.out.trans (hb4.mono HB3.out.size))
            rw [<- HD.out]
            clear hb4 HBA
            go_wp2_with fail
            go_ret
            exact ⟨rfl, HB4.out⟩
          . have HS1 := Lib.hid fun W hW => (HSI.out W hW).mono (fun e w' h => show e = .returned (.bool false) /\ _ from ⟨by rw [h.1, decide_eq_false h5], h.2⟩)
            have HN : Hid (decide (p = q) = false) := Lib.hid (decide_eq_false (fun h => h5 (by rw [h])))
            clear hqe HSI HBA h1 h2 h3 h4 h5
            go_enter Tryz.func32, Tryz.ntmps32
            go_wp2_with fail
            refine (HS1.out _ (HB.out _ _)).mono ?_
            rintro e w3 ⟨rfl, hb3⟩
            have HB3 := Lib.hid ((HB.out _ _).trans (hb3.mono (HB.out _ _).size))
            clear hb3 HS1
            go_wp2_with fail
            go_ret
            exact ⟨by rw [HN.out]; rfl, HB3.out⟩
        . have e1 : (p.view == q.view) = true := by simp [h1]
          have e2 : (p.seq == q.seq) = true := by simp [h2]
          have e3 : (p.dig == q.dig) = true := by simp [h3]
          have e4 : ∀ W : World, (binOp .eql 36 (.agg #[.int .i64 p.first.1, .int .i64 p.first.2]) (.agg #[.int .i64 q.first.1, .int .i64 q.first.2])).run Tryz.prog W = .ok (.bool false) W := fun W => by rw [hqe, show sgB (p.first.1, p.first.2) (q.first.1, q.first.2) = false from sgB_no h4]
          have HN : Hid (decide (p = q) = false) := Lib.hid (decide_eq_false (fun h => h4 (by rw [h])))
          clear hqe HSI HBA h1 h2 h3 h4
          go_enter Tryz.func32, Tryz.ntmps32
          go_wp2_with fail
          go_ret
          exact ⟨by rw [HN.out]; rfl, HB.out _ _⟩
      . have e1 : (p.view == q.view) = true := by simp [h1]
        have e2 : (p.seq == q.seq) = true := by simp [h2]
        have e3 : (p.dig == q.dig) = false := by rw [beq_eq_false_iff_ne]; exact h3
        have HN : Hid (decide (p = q) = false) := Lib.hid (decide_eq_false (fun h => h3 (by rw [h])))
        clear h1 h2 h3 hqe HSI HBA
        go_enter Tryz.func32, Tryz.ntmps32
        go_wp2_with fail
        go_ret
        exact ⟨by rw [HN.out]; rfl, HB.out _ _⟩
    . have e1 : (p.view == q.view) = true := by simp [h1]
      have e2 : (p.seq == q.seq) = false := by rw [beq_eq_false_iff_ne]; exact h2
      have HN : Hid (decide (p = q) = false) := Lib.hid (decide_eq_false (fun h => h2 (by rw [h])))
      clear h1 h2 hqe HSI HBA
      go_enter Tryz.func32, Tryz.ntmps32
      go_wp2_with fail
      go_ret
      exact ⟨by rw [HN.out]; rfl, HB.out _ _⟩
  . have e1 : (p.view == q.view) = false := by rw [beq_eq_false_iff_ne]; exact h1
    have HN : Hid (decide (p = q) = false) := Lib.hid (decide_eq_false (fun h => h1 (by rw [h])))
    clear h1 hqe HSI HBA
    go_enter Tryz.func32, Tryz.ntmps32
    go_wp2_with fail
    go_ret
    exact ⟨by rw [HN.out]; rfl, HB.out _ _⟩
end Go.Proofs.YtmhmnkpaijoaaaaGreat.Pur
namespace Go.Proofs.YtmhmnkpaijoaaaaGreat.Prs
set_option linter.unusedSimpArgs false
open Go Go.RowKit Ck Kw Ga Pra Prh Pri
attribute [local go_sem ↓] Go.wp_at_zero Go.wp_at_succ
set_option linter.unusedVariables false
theorem qcheck_any (w : World) (f : Int) : Calls Tryz.prog 78 #[.int .i64 f] w fun e w' => e = .returned (.int .i64 (checkP f)) /\ w = w' := by
  by_cases h1 : f < 1
  . have HO : Hid (checkP f = 120) := Lib.hid (checkP_no (by omega))
    go_enter Tryz.func78, Tryz.ntmps78
    go_wp2_with fail
    go_ret
    exact ⟨by rw [HO.out]; rfl, rfl⟩
  . by_cases h2 : 4 < f
    . have HO : Hid (checkP f = 120) := Lib.hid (checkP_no (by omega))
      go_enter Tryz.func78, Tryz.ntmps78
      go_wp2_with fail
      go_ret
      exact ⟨by rw [HO.out]; rfl, rfl⟩
    . have HO : Hid (checkP f = 0) := Lib.hid (checkP_yes h1 h2)
      go_enter Tryz.func78, Tryz.ntmps78
      go_wp2_with fail
      go_ret
      exact ⟨by rw [HO.out]; rfl, rfl⟩
theorem qone_any (w : World) (f : Int) : Calls Tryz.prog 105 #[.int .i64 3, .int .i64 f] w fun e w' => e = .returned (.int .i64 (brokersP f)) /\ w = w' := by
  have HC := qcheck_any w f
  cases h : okF f with
  | true =>
    obtain ⟨h1, h2⟩ := okF_yes h
    have hcp : checkP f = 0 := by simp [checkP, h]
    rw [hcp] at HC
    have HC := Lib.hid HC
    clear hcp
    have w1 : IntKind.i64.wrap (3 * f) = 3 * f := wrap64 (by omega) (by omega)
    have w2 : IntKind.i64.wrap (3 * f + 1) = 3 * f + 1 := wrap64 (by omega) (by omega)
    have HB : Hid (brokersP f = 3 * f + 1) := Lib.hid (by simp [brokersP, h])
    clear h h1 h2
    go_enter Tryz.func105, Tryz.ntmps105
    go_wp2_with fail
    refine HC.out.mono ?_
    rintro e w1 ⟨rfl, rfl⟩
    go_wp2_with fail
    go_ret
    exact ⟨by rw [HB.out]; rfl, rfl⟩
  | false =>
    have hcp : checkP f = 120 := by simp [checkP, h]
    rw [hcp] at HC
    have HC := Lib.hid HC
    clear hcp
    have HB : Hid (brokersP f = 0) := Lib.hid (by simp [brokersP, h])
    clear h
    go_enter Tryz.func105, Tryz.ntmps105
    go_wp2_with fail
    refine HC.out.mono ?_
    rintro e w1 ⟨rfl, rfl⟩
    go_wp2_with fail
    go_ret
    exact ⟨by rw [HB.out]; rfl, rfl⟩
theorem qbrokers_any (w : World) (f : Int) : Calls Tryz.prog 79 #[.int .i64 f] w fun e w' => e = .returned (.int .i64 (brokersP f)) /\ w = w' := by
  have HC := Lib.hid (qone_any w f)
  go_enter Tryz.func79, Tryz.ntmps79
  go_wp2_with fail
  refine HC.out.mono ?_
  rintro e w1 ⟨rfl, rfl⟩
  go_wp2_with fail
  go_ret
  exact ⟨rfl, rfl⟩
theorem qprimary_any (w : World) (f v : Int) : Calls Tryz.prog 45 #[.int .i64 f, .int .i64 v] w fun e w' => e = .returned (.int .i64 (primaryP f v)) /\ w = w' := by
  have HC := qcheck_any w f
  have HBR := qbrokers_any w f
  cases h : okF f with
  | false =>
    have hcp : checkP f = 120 := by simp [checkP, h]
    rw [hcp] at HC
    have HC := Lib.hid HC
    clear hcp
    have HB : Hid (primaryP f v = -1) := Lib.hid (by simp [primaryP, h])
    clear h HBR
    go_enter Tryz.func45, Tryz.ntmps45
    go_wp2_with fail
    refine HC.out.mono ?_
    rintro e w1 ⟨rfl, rfl⟩
    go_wp2_with fail
    go_ret
    exact ⟨by rw [HB.out]; rfl, rfl⟩
  | true =>
    obtain ⟨h1, h2⟩ := okF_yes h
    have hcp : checkP f = 0 := by simp [checkP, h]
    rw [hcp] at HC
    have HC := Lib.hid HC
    clear hcp
    by_cases hv : v < 0
    . have HB : Hid (primaryP f v = -1) := Lib.hid (by simp [primaryP, hv])
      clear h HBR h1 h2
      go_enter Tryz.func45, Tryz.ntmps45
      go_wp2_with fail
      refine HC.out.mono ?_
      rintro e w1 ⟨rfl, rfl⟩
      go_wp2_with fail
      go_ret
      exact ⟨by rw [HB.out]; rfl, rfl⟩
    . by_cases hv2 : 9007199254740992 < v
      . have HB : Hid (primaryP f v = -1) := Lib.hid (by simp [primaryP, hv2])
        clear h HBR h1 h2
        go_enter Tryz.func45, Tryz.ntmps45
        go_wp2_with fail
        refine HC.out.mono ?_
        rintro e w1 ⟨rfl, rfl⟩
        go_wp2_with fail
        go_ret
        exact ⟨by rw [HB.out]; rfl, rfl⟩
      . have HB : Hid (primaryP f v = v % (3 * f + 1)) := Lib.hid (by simp [primaryP, h, hv, hv2])
        have hb : brokersP f = 3 * f + 1 := by simp [brokersP, h]
        obtain ⟨nb, hnb⟩ : ∃ nb, nb = 3 * f + 1 := ⟨_, rfl⟩
        rw [hb, <- hnb] at HBR
        rw [<- hnb] at HB
        have HBR := Lib.hid HBR
        have hz : nb ≠ 0 := by omega
        have hm1 : Int.tmod v nb = v % nb := Int.tmod_eq_emod_of_nonneg (by omega)
        clear h h1 h2 hb hnb
        go_enter Tryz.func45, Tryz.ntmps45
        go_wp2_with fail
        refine HC.out.mono ?_
        rintro e w1 ⟨rfl, rfl⟩
        go_wp2_with fail
        refine HBR.out.mono ?_
        rintro e w1 ⟨rfl, rfl⟩
        go_wp2_with fail
        go_ret
        exact ⟨by rw [HB.out]; rfl, rfl⟩
theorem isnum_any (w : World) (n : Int) : Calls Tryz.prog 110 #[.int .i64 n] w fun e w' => e = .returned (.bool (numP n)) /\ w = w' := by
  have HN : Hid (numP n = (decide (0 <= n) && decide (n <= 9007199254740992))) := Lib.hid rfl
  by_cases h1 : 0 <= n
  . by_cases h2 : n <= 9007199254740992
    . have HO : Hid (numP n = true) := Lib.hid (by simp [numP, h1, h2])
      go_enter Tryz.func110, Tryz.ntmps110
      go_wp2_with fail
      go_ret
      exact ⟨by rw [HO.out]; rfl, rfl⟩
    . have HO : Hid (numP n = false) := Lib.hid (by simp [numP, h2])
      go_enter Tryz.func110, Tryz.ntmps110
      go_wp2_with fail
      go_ret
      exact ⟨by rw [HO.out]; rfl, rfl⟩
  . have HO : Hid (numP n = false) := Lib.hid (by simp [numP, h1])
    go_enter Tryz.func110, Tryz.ntmps110
    go_wp2_with fail
    go_ret
    exact ⟨by rw [HO.out]; rfl, rfl⟩
theorem mayvote_any (w : World) (k v s d : Int) : Calls Tryz.prog 82 #[.int .i64 k, .int .i64 v, .int .i64 s, .int .i64 d] w fun e w' => e = .returned (.bool (mayP k v s d)) /\ w = w' := by
  have H1 := isnum_any w k
  have H2 := isnum_any w v
  have H3 := isnum_any w s
  have H4 := isnum_any w d
  have HM : Hid (mayP k v s d = (numP k && numP v && numP s && numP d)) := Lib.hid rfl
  cases h1 : numP k with
  | false =>
    rw [h1] at H1 HM
    have H1 := Lib.hid H1
    clear H2 H3 H4 h1
    go_enter Tryz.func82, Tryz.ntmps82
    go_wp2_with fail
    refine H1.out.mono ?_
    rintro e w1 ⟨rfl, rfl⟩
    go_wp2_with fail
    go_ret
    exact ⟨by rw [HM.out]; rfl, rfl⟩
  | true =>
    rw [h1] at H1 HM
    have H1 := Lib.hid H1
    cases h2 : numP v with
    | false =>
      rw [h2] at H2 HM
      have H2 := Lib.hid H2
      clear H3 H4 h1 h2
      go_enter Tryz.func82, Tryz.ntmps82
      go_wp2_with fail
      refine H1.out.mono ?_
      rintro e w1 ⟨rfl, rfl⟩
      go_wp2_with fail
      refine H2.out.mono ?_
      rintro e w1 ⟨rfl, rfl⟩
      go_wp2_with fail
      go_ret
      exact ⟨by rw [HM.out]; rfl, rfl⟩
    | true =>
      rw [h2] at H2 HM
      have H2 := Lib.hid H2
      cases h3 : numP s with
      | false =>
        rw [h3] at H3 HM
        have H3 := Lib.hid H3
        clear H4 h1 h2 h3
        go_enter Tryz.func82, Tryz.ntmps82
        go_wp2_with fail
        refine H1.out.mono ?_
        rintro e w1 ⟨rfl, rfl⟩
        go_wp2_with fail
        refine H2.out.mono ?_
        rintro e w1 ⟨rfl, rfl⟩
        go_wp2_with fail
        refine H3.out.mono ?_
        rintro e w1 ⟨rfl, rfl⟩
        go_wp2_with fail
        go_ret
        exact ⟨by rw [HM.out]; rfl, rfl⟩
      | true =>
        rw [h3] at H3 HM
        have H3 := Lib.hid H3
        have H4 := Lib.hid H4
        have HM2 : Hid (mayP k v s d = numP d) := Lib.hid (by rw [HM.out]; rfl)
        generalize numP d = b at *
        clear h1 h2 h3 HM
        go_enter Tryz.func82, Tryz.ntmps82
        go_wp2_with fail
        refine H1.out.mono ?_
        rintro e w1 ⟨rfl, rfl⟩
        go_wp2_with fail
        refine H2.out.mono ?_
        rintro e w1 ⟨rfl, rfl⟩
        go_wp2_with fail
        refine H3.out.mono ?_
        rintro e w1 ⟨rfl, rfl⟩
        go_wp2_with fail
        refine H4.out.mono ?_
        rintro e w1 ⟨rfl, rfl⟩
        go_wp2_with fail
        go_ret
        exact ⟨by rw [HM2.out]; rfl, rfl⟩
end Go.Proofs.YtmhmnkpaijoaaaaGreat.Prs
namespace Go.Proofs.YtmhmnkpaijoaaaaGreat.Prt
set_option linter.unusedSimpArgs false
open Go Go.RowKit Cm Ck Ca Cb Cd Kw Ga Pra Prh Pri Prj Prm Prs
attribute [local go_sem ↓] Go.wp_at_zero Go.wp_at_succ
set_option linter.unusedVariables false
set_option maxRecDepth 100000
def NV (l : List Nat) : List Value := l.map fun (n : Nat) => Value.int .i64 (n : Int)
theorem NV_get {l : List Nat} {k : Nat} (h : k < l.length) : (NV l)[k * 1]? = some (.int .i64 (l[k] : Int)) := by simp [NV, h]
def encs (l : List Nat) : List UInt8 := l.flatMap Cm.enc
theorem encs_len : ∀ (l : List Nat), (encs l).length <= 10 * l.length
  | [] => by simp [encs]
  | n :: l => by
    have := encs_len l
    have := Cm.enc_len n
    simp only [encs, List.flatMap_cons, List.length_append, List.length_cons] at *
    omega
theorem encs_step {l : List Nat} {k : Nat} (h : k < l.length) : encs (l.take (k + 1)) = encs (l.take k) ++ Cm.enc l[k] := by
  unfold encs
  rw [List.take_succ_eq_append_getElem h, List.flatMap_append]
  simp
set_option maxHeartbeats 2000000 in
theorem marked_any (w : World) (X : Nat -> Prop) (A : Option Addr) (c : Nat) (m : Nat) (hm : m < 256) (l : List Nat) (hl : l.length <= 100) (hn : ∀ n ∈ l, n <= 9007199254740992) (hv : Sl w X 1 (.slice A l.length c) l.length (NV l)) :
    Calls Tryz.prog 111 #[.int .u8 (m : Int), .slice A l.length c] w fun e w' => Made w 5 ([UInt8.ofNat m] ++ encs l) e w' := by
  have hb0 : Below w.heap.size w (w.alloc (.cells #[.int .u8 (m : Int)] 5)) := (Below.refl _ w).alloc (Nat.le_refl _) _
  have HB0 := Lib.hid hb0
  have ho0 : (w.alloc (.cells #[.int .u8 (m : Int)] 5)).ownsRow w.heap.size 5 1 (.slice (some ⟨w.heap.size, 0, none⟩) 1 1) ([UInt8.ofNat m] : List UInt8).length (BVs [UInt8.ofNat m]) := by
    have hk := Blk.new w 5 #[.int .u8 (m : Int)]
    refine ⟨by simp [BVs], .inr ⟨w.heap.size, 1, #[.int .u8 (m : Int)], rfl, Nat.le_refl _, hk, by simp, by simp only [maxLen]; omega, by simp, ?_⟩⟩
    simp [BVs, BV_of hm]
  have HO0 := Lib.hid ho0
  have HV := Lib.hid hv
  have HN := Lib.hid (And.intro hn hl)
  have hmm : IntKind.u8.wrap (m : Int) = (m : Int) := by simp [IntKind.wrap, IntKind.bits, IntKind.signed]; omega
  clear hb0 ho0 hv hn hl hm
  go_enter Tryz.func111, Tryz.ntmps111
  go_wp2_with fail
  go_loopw [5, 12] (fun b i wr => ∃ (k : Nat), k <= l.length /\ i = .int .i64 k /\ wr.ownsRow w.heap.size 5 1 b ([UInt8.ofNat m] ++ encs (l.take k)).length (BVs ([UInt8.ofNat m] ++ encs (l.take k))) /\ Below w.heap.size w wr) (fun _ i _ => l.length - (intOf i).toNat)
  case atStart => exact ⟨0, Nat.zero_le _, rfl, HO0.out, HB0.out⟩
  case round =>
    obtain ⟨k, hk, rfl, ho, hb⟩ := hrel
    have HB := Lib.hid hb
    have HO := Lib.hid ho
    have hslv := HV.out.after hb
    by_cases hlt : k < l.length
    . have hkp : (0 : Int) <= (k : Int) := by omega
      have hkl : (k : Int) < (l.length : Int) := by omega
      have hk8 : (k : Int) < 100 := by have := HN.out.2; omega
      have HST := Lib.hid (encs_step hlt)
      have hnk : l[k] <= 9007199254740992 := HN.out.1 _ (List.getElem_mem hlt)
      have HEL := Lib.hid (encs_len (l.take k))
      have HKL := Lib.hid hlt
      obtain ⟨ad, rfl, hc⟩ : ∃ ad, A = some ad /\ wr.cell? (ad.add k) = some (.int .i64 (l[k] : Int)) := by
        obtain ⟨A', c', hv, _, _, _, hx⟩ := hslv
        injection hv with e1 e2 e3
        subst e1
        obtain ⟨ad, hA, _, _, hcell⟩ := hx (by omega)
        exact ⟨ad, hA, by have := hcell (k * 1) _ (NV_get hlt); rwa [Nat.mul_one] at this⟩
      obtain ⟨Ab, cb, rfl⟩ := own_shape ho
      have HP := Lib.hid (putnum_any (fun _ => False) _ _ _ l[k] wr (Sl.of_own ho (fun _ _ _ h => h)) (by have := HEL.out; have := HN.out.2; simp only [List.length_append, List.length_cons, List.length_nil, List.length_take] at *; omega) (by omega))
      have hmx : max (l[k] : Int) 0 = (l[k] : Int) := by omega
      have hcv : IntKind.u64.wrap (l[k] : Int) = (l[k] : Int) := wrap_u64 l[k] (by omega)
      generalize l[k] = z at *
      clear hk hlt ho hb hslv hnk
      go_wp2_with fail
      refine HP.out.mono ?_
      rintro e w1 ⟨v1, rfl, ho1, hb1⟩
      have HO1 := Lib.hid (own_base HB.out.size ho1)
      have HB1 := Lib.hid (HB.out.trans (hb1.mono HB.out.size))
      clear ho1 hb1
      go_wp2_with fail
      go_roundw
      case rel => exact ⟨k + 1, by have := HKL.out; omega, by go_num, by rw [HST.out, <- List.append_assoc]; exact HO1.out, HB1.out⟩
      case measure => have := HKL.out; simp [intOf]; omega
    . have hke : k = l.length := by omega
      subst hke
      rw [List.take_length] at HO
      clear hk hlt ho hb hslv
      go_wp2_with fail
      go_ret
      exact ⟨_, rfl, HO.out, HB.out⟩
theorem voteB_encs (k v q d : Nat) : voteB k v q d = [UInt8.ofNat 4] ++ encs [k, v, q, d] := by
  simp [voteB, encs, List.append_assoc]
theorem pvotebytes_any (w : World) (k v q d : Nat) (hk : k <= 9007199254740992) (hv : v <= 9007199254740992) (hq : q <= 9007199254740992) (hd : d <= 9007199254740992) :
    Calls Tryz.prog 84 #[.int .i64 (k : Int), .int .i64 (v : Int), .int .i64 (q : Int), .int .i64 (d : Int)] w fun e w' => Made w 5 (voteB k v q d) e w' := by
  have hb0 : Below w.heap.size w (w.alloc (.cells #[.int .i64 (k : Int), .int .i64 (v : Int), .int .i64 (q : Int), .int .i64 (d : Int)] 2)) := (Below.refl _ w).alloc (Nat.le_refl _) _
  have HB0 := Lib.hid hb0
  have hs0 : Sl (w.alloc (.cells #[.int .i64 (k : Int), .int .i64 (v : Int), .int .i64 (q : Int), .int .i64 (d : Int)] 2)) (fun _ => False) 1 (.slice (some ⟨w.heap.size, 0, none⟩) 4 4) 4 (NV [k, v, q, d]) :=
    ⟨_, _, rfl, rfl, Nat.le_refl _, by simp only [maxLen]; omega, fun _ => ⟨_, rfl, by simp, fun h => h, fun j u hu => by
      have ha : (⟨w.heap.size, 0, none⟩ : Addr).add j = ⟨w.heap.size, j, none⟩ := by unfold Addr.add; split <;> simp_all
      rw [ha, Blk.cell (Blk.new w 2 _) j]
      simpa [NV] using hu⟩⟩
  have HM := Lib.hid (marked_any _ (fun _ => False) (some ⟨w.heap.size, 0, none⟩) 4 4 (by omega) [k, v, q, d] (by simp) (by simp; omega) hs0)
  have HE := Lib.hid (voteB_encs k v q d)
  rw [<- HE.out] at HM
  clear hb0 hs0 hk hv hq hd
  simp only [List.length_cons, List.length_nil, Nat.zero_add, Nat.reduceAdd] at HM
  have h4 : ((4 : Nat) : Int) = 4 := rfl
  rw [h4] at HM
  clear h4
  go_enter Tryz.func84, Tryz.ntmps84
  go_wp2_with fail
  refine HM.out.mono ?_
  rintro e w1 ⟨v1, rfl, ho1, hb1⟩
  have HB1 := Lib.hid (HB0.out.trans (hb1.mono HB0.out.size))
  have HO1 := Lib.hid (own_base HB0.out.size ho1)
  clear ho1 hb1
  go_wp2_with fail
  go_ret
  exact ⟨_, rfl, HO1.out, HB1.out⟩
end Go.Proofs.YtmhmnkpaijoaaaaGreat.Prt
namespace Go.Proofs.YtmhmnkpaijoaaaaGreat.Pru
set_option linter.unusedSimpArgs false
open Go Go.RowKit Ck Kw Ga Ik Ia Lk La Lb Ld Jf Pra Prh Pri Prj Prk Prl Prm Prs Prt
open Im (num isIn)
attribute [local go_sem ↓] Go.wp_at_zero Go.wp_at_succ
set_option linter.unusedVariables false
set_option maxRecDepth 100000
theorem tl_look {w : World} {S X : Nat -> Prop} {p g : Nat} {L : List (List UInt8)} {G : List Sg} {A : Option Addr} {n c : Nat} {b : List UInt8} (h : TL w S p g L G) (hb : Sl w X 1 (.slice A n c) n (BVs b)) (hbl : b.length <= 140737488355328) :
    Calls Tryz.prog 76 #[.pointer (some ⟨p, 0, none⟩), .slice A n c] w fun e w' => e = .returned (.tuple #[.int .i64 (num L b : Int), .bool (isIn L b)]) /\ Below w.heap.size w w' := by
  obtain ⟨S1, S2, h1, h2, _⟩ := h
  have hn : n = b.length := by obtain ⟨A0, c0, _, h0, _⟩ := hb; rw [BVs_len] at h0; omega
  subst hn
  refine (look_yes w S1 X p L A c b h1 hb hbl).mono ?_
  rintro e w' ⟨he, n, rfl⟩
  exact ⟨he, below_drewN (Below.refl _ _) n⟩
theorem tl_signed {w : World} {S : Nat -> Prop} {p g : Nat} {L : List (List UInt8)} {G : List Sg} {s : Sg} (h : TL w S p g L G) (hs : wfS s) :
    Calls Tryz.prog 77 #[.pointer (some ⟨g, 0, none⟩), GV s] w fun e w' => e = .returned (.bool (isS G s)) /\ Below w.heap.size w w' := by
  obtain ⟨S1, S2, h1, h2, _⟩ := h
  exact signed_yes w S2 g G s hs h2
set_option maxHeartbeats 2000000 in
theorem issigned_any (w : World) (S X : Nat -> Prop) (p g : Nat) (L : List (List UInt8)) (G : List Sg) (s : Sg) (key : Int) (v : Value) (n : Nat) (b : List UInt8) (h : TL w S p g L G) (hs : -9223372036854775808 <= key /\ key <= 9223372036854775807) (hb : Sl w X 1 v n (BVs b)) (hbl : b.length <= 140737488355328) :
    Calls Tryz.prog 83 #[.pointer (some ⟨p, 0, none⟩), .pointer (some ⟨g, 0, none⟩), GV s, .int .i64 key, v] w fun e w' => e = .returned (.bool (signedB L G s key b)) /\ Below w.heap.size w w' := by
  have hb0 : Below w.heap.size w (w.alloc (.cells #[.int .i64 s.1, .int .i64 s.2] 36)) := (Below.refl _ w).alloc (Nat.le_refl _) _
  have hbk : Blk (w.alloc (.cells #[.int .i64 s.1, .int .i64 s.2] 36)) w.heap.size 36 #[.int .i64 s.1, .int .i64 s.2] := Blk.new w _ _
  obtain ⟨A, c, rfl, -⟩ := id hb
  have HLK := Lib.hid (tl_look (h.later hb0) (hb.after hb0) hbl)
  have HWF : Hid (s.1 = key -> s.2 = (num L b : Int) -> wfS s) := Lib.hid (fun e1 e2 => by
    have h1 := Im.num_le L b
    obtain ⟨S1, S2, ⟨m, tv, D, -, -, -, -, -, -, -, -, h2⟩, -⟩ := h
    unfold wfS
    rw [e1, e2]
    omega)
  have HSG : Hid (∀ W, wfS s -> Below w.heap.size w W -> Calls Tryz.prog 77 #[.pointer (some ⟨g, 0, none⟩), GV s] W fun e w' => e = .returned (.bool (isS G s)) /\ Below W.heap.size W w') := Lib.hid (fun W hs hW => tl_signed (h.later hW) hs)
  have HB0 := Lib.hid hb0
  have HBK := Lib.hid hbk
  have HV : Hid (signedB L G s key b = (isIn L b && decide (s.1 = key) && decide (s.2 = (num L b : Int)) && isS G s)) := Lib.hid rfl
  have hqe := run_eql_sign
  have hge := guard_sign
  clear h hb hb0 hbk hbl hs
  unfold GV at HSG ⊢
  generalize isIn L b = known at *
  generalize (num L b : Int) = dg at *
  generalize isS G s = sg at *
  cases known with
  | false =>
    have HV2 : Hid (signedB L G s key b = false) := Lib.hid HV.out
    clear HV
    go_enter Tryz.func83, Tryz.ntmps83
    go_wp2_with fail
    refine HLK.out.mono ?_
    rintro e w1 ⟨rfl, hb1⟩
    have HB1 := Lib.hid (HB0.out.trans (hb1.mono HB0.out.size))
    clear hb1
    go_wp2_with fail
    go_ret
    exact ⟨by rw [HV2.out]; rfl, HB1.out⟩
  | true =>
    by_cases hsb : sgB (s.1, s.2) (key, dg) = true
    . have hqq : ∀ W : World, (binOp .eql 36 (.agg #[.int .i64 s.1, .int .i64 s.2]) (.agg #[.int .i64 key, .int .i64 dg])).run Tryz.prog W = .ok (.bool true) W := fun W => by rw [hqe, hsb]
      have HV2 : Hid (signedB L G s key b = sg) := Lib.hid (by
        rw [Ke.sgB_parts, Bool.and_eq_true] at hsb
        rw [HV.out, hsb.1, hsb.2]; simp)
      have HWS : Hid (wfS s) := Lib.hid (by
        rw [Ke.sgB_parts, Bool.and_eq_true, decide_eq_true_eq, decide_eq_true_eq] at hsb
        exact HWF.out hsb.1 hsb.2)
      clear HV hsb hqe
      go_enter Tryz.func83, Tryz.ntmps83
      go_wp2_with fail
      refine HLK.out.mono ?_
      rintro e w1 ⟨rfl, hb1⟩
      have HB1 := Lib.hid (HB0.out.trans (hb1.mono HB0.out.size))
      have hk1 := HBK.out.below hb1 HBK.out.lt
      have u0 := hk1.cell 0
      have u1 := hk1.cell 1
      simp only [List.getElem?_toArray, List.getElem?_cons_zero, List.getElem?_cons_succ] at u0 u1
      have HS1 := Lib.hid (HSG.out w1 HWS.out HB1.out)
      clear hb1 hk1
      go_wp2_with fail
      refine HS1.out.mono ?_
      rintro e w2 ⟨rfl, hb2⟩
      have HB2 := Lib.hid (HB1.out.trans (hb2.mono HB1.out.size))
      clear hb2
      go_wp2_with fail
      go_ret
      exact ⟨by rw [HV2.out]; rfl, HB2.out⟩
    . have hsb := Bool.eq_false_iff.2 hsb
      have hqq : ∀ W : World, (binOp .eql 36 (.agg #[.int .i64 s.1, .int .i64 s.2]) (.agg #[.int .i64 key, .int .i64 dg])).run Tryz.prog W = .ok (.bool false) W := fun W => by rw [hqe, hsb]
      have HV2 : Hid (signedB L G s key b = false) := Lib.hid (by
        rw [Ke.sgB_parts] at hsb
        rw [HV.out, Bool.true_and, hsb]; rfl)
      clear HV hsb hqe
      go_enter Tryz.func83, Tryz.ntmps83
      go_wp2_with fail
      refine HLK.out.mono ?_
      rintro e w1 ⟨rfl, hb1⟩
      have HB1 := Lib.hid (HB0.out.trans (hb1.mono HB0.out.size))
      have hk1 := HBK.out.below hb1 HBK.out.lt
      have u0 := hk1.cell 0
      have u1 := hk1.cell 1
      simp only [List.getElem?_toArray, List.getElem?_cons_zero, List.getElem?_cons_succ] at u0 u1
      clear hb1 hk1
      go_wp2_with fail
      go_ret
      exact ⟨by rw [HV2.out]; rfl, HB1.out⟩
set_option maxHeartbeats 2000000 in
theorem pvote_no (w : World) (p g : Value) (s : Sg) (key k v q d : Int) (hm : mayP k v q d = false) :
    Calls Tryz.prog 48 #[p, g, GV s, .int .i64 key, .int .i64 k, .int .i64 v, .int .i64 q, .int .i64 d] w fun e w' => e = .returned (.bool false) /\ Below w.heap.size w w' := by
  have hb0 : Below w.heap.size w (w.alloc (.cells #[.int .i64 s.1, .int .i64 s.2] 36)) := (Below.refl _ w).alloc (Nat.le_refl _) _
  have HB0 := Lib.hid hb0
  have HM : Hid (∀ W, Calls Tryz.prog 82 #[.int .i64 k, .int .i64 v, .int .i64 q, .int .i64 d] W fun e w' => e = .returned (.bool false) /\ W = w') := Lib.hid fun W => by
    have := mayvote_any W k v q d
    rw [hm] at this
    exact this
  have HQ : Hid (∀ n, Calls Tryz.prog 82 #[.int .i64 k, .int .i64 v, .int .i64 q, .int .i64 d] ((w.alloc (.cells #[.int .i64 s.1, .int .i64 s.2] 36)).drewN n) fun e w' => e = .returned (.bool false) /\ ∃ m, w' = (w.alloc (.cells #[.int .i64 s.1, .int .i64 s.2] 36)).drewN m) := Lib.hid fun n => Calls.quiet_of_same ((HM.out _).mono fun _ _ h => ⟨h.1, h.2.symm⟩)
  clear hb0 hm
  unfold GV
  go_enter Tryz.func48, Tryz.ntmps48
  go_wp2_with fail
  go_quiet ((go_at_call 82; exact HQ.out _))
  all_goals
    go_wp2_with fail
    go_ret
    exact ⟨rfl, below_drewN HB0.out _⟩
set_option maxHeartbeats 4000000 in
theorem pvote_yes (w : World) (S : Nat -> Prop) (p g : Nat) (L : List (List UInt8)) (G : List Sg) (s : Sg) (key k v q d : Int)
    (h : TL w S p g L G) (hs : -9223372036854775808 <= key /\ key <= 9223372036854775807) (hm : mayP k v q d = true) :
    Calls Tryz.prog 48 #[.pointer (some ⟨p, 0, none⟩), .pointer (some ⟨g, 0, none⟩), GV s, .int .i64 key, .int .i64 k, .int .i64 v, .int .i64 q, .int .i64 d] w fun e w' => e = .returned (.bool (validVoteB L G s key k v q d)) /\ Below w.heap.size w w' := by
  have hb0 : Below w.heap.size w (w.alloc (.cells #[.int .i64 s.1, .int .i64 s.2] 36)) := (Below.refl _ w).alloc (Nat.le_refl _) _
  have HB0 := Lib.hid hb0
  have HM : Hid (∀ W, Calls Tryz.prog 82 #[.int .i64 k, .int .i64 v, .int .i64 q, .int .i64 d] W fun e w' => e = .returned (.bool true) /\ W = w') := Lib.hid fun W => by
    have := mayvote_any W k v q d
    rw [hm] at this
    exact this
  have HV : Hid (validVoteB L G s key k v q d = signedB L G s key (voteB k.toNat v.toNat q.toNat d.toNat)) := Lib.hid (by rw [validVoteB, hm]; rfl)
  have HVB : Hid (∀ W, Calls Tryz.prog 84 #[.int .i64 k, .int .i64 v, .int .i64 q, .int .i64 d] W fun e w' => Made W 5 (voteB k.toNat v.toNat q.toNat d.toNat) e w') := Lib.hid fun W => by
    obtain ⟨k', v', q', d', e1, e2, e3, e4, h1, h2, h3, h4⟩ := may_parts hm
    have := pvotebytes_any W k' v' q' d' h1 h2 h3 h4
    subst e1 e2 e3 e4
    simpa using this
  have HSG : Hid (∀ W, Below w.heap.size w W -> ∀ (v1 : Value) (b : List UInt8), b.length <= 140737488355328 -> W.ownsRow w.heap.size 5 1 v1 b.length (BVs b) -> Calls Tryz.prog 83 #[.pointer (some ⟨p, 0, none⟩), .pointer (some ⟨g, 0, none⟩), GV s, .int .i64 key, v1] W fun e w' => e = .returned (.bool (signedB L G s key b)) /\ Below w.heap.size w w') := Lib.hid fun W hW v1 b hbl hv => by
    refine (issigned_any W S (fun _ => False) p g L G s key v1 b.length b (h.later hW) hs (Sl.of_own hv (fun _ _ _ h => h)) hbl).mono ?_
    rintro e w' ⟨he, hb⟩
    exact ⟨he, hW.trans (hb.mono hW.size)⟩
  clear hb0 hm h hs
  unfold GV at HSG ⊢
  go_enter Tryz.func48, Tryz.ntmps48
  go_wp2_with fail
  go_region_law (first
    | (go_simp; refine (HM.out _).mono ?_; rintro e w1 ⟨rfl, rfl⟩)
    | (go_simp; refine (HVB.out _).mono ?_; rintro e w2 ⟨v2, rfl, ho2, hb2⟩; obtain ⟨u0, u1⟩ := two_later hb2; have HB2 := Lib.hid ((below_drewN HB0.out 1).trans (hb2.mono HB0.out.size)); have HS2 := Lib.hid (HSG.out w2 HB2.out v2 _ (by have := (voteB_len (k := k.toNat) (v := v.toNat) (s := q.toNat) (d := d.toNat)).2.2.2; omega) (own_base HB0.out.size ho2)); clear ho2 hb2)
    | (go_simp; refine HS2.out.mono ?_; rintro e w3 ⟨rfl, hb3⟩))
  all_goals
    go_wp2_with fail
    go_ret
    exact ⟨by rw [HV.out]; rfl, hb3⟩
theorem pvote_any (w : World) (S : Nat -> Prop) (p g : Nat) (L : List (List UInt8)) (G : List Sg) (s : Sg) (key k v q d : Int)
    (h : TL w S p g L G) (hs : -9223372036854775808 <= key /\ key <= 9223372036854775807) :
    Calls Tryz.prog 48 #[.pointer (some ⟨p, 0, none⟩), .pointer (some ⟨g, 0, none⟩), GV s, .int .i64 key, .int .i64 k, .int .i64 v, .int .i64 q, .int .i64 d] w fun e w' => e = .returned (.bool (validVoteB L G s key k v q d)) /\ Below w.heap.size w w' := by
  by_cases hm : mayP k v q d = true
  . exact pvote_yes w S p g L G s key k v q d h hs hm
  . have hm' : mayP k v q d = false := by simpa using hm
    have := pvote_no w (.pointer (some ⟨p, 0, none⟩)) (.pointer (some ⟨g, 0, none⟩)) s key k v q d hm'
    have e : validVoteB L G s key k v q d = false := by rw [validVoteB, hm']; rfl
    rw [e]
    exact this
end Go.Proofs.YtmhmnkpaijoaaaaGreat.Pru
namespace Go.Proofs.YtmhmnkpaijoaaaaGreat.Pus
set_option linter.unusedSimpArgs false
open Go Go.RowKit Ck Kw Ga Kf Pm Pe Pg Ph Qb Ik Ia Lk La Lb Ld Jm Ja Jb Jc Jd Je Jf Jk Kc Kg Pra Prb Prc Prd Prh Pri Prj Prk Prl Prm Prn Prs Prt Pru
open Im (num isIn)
attribute [local go_sem ↓] Go.wp_at_zero Go.wp_at_succ
set_option linter.unusedVariables false
set_option maxRecDepth 100000
set_option maxHeartbeats 2000000 in
theorem vbatch_bad (w : World) (tv gv : Value) (X : Nat -> Prop) (v : Value) (l : List Sd) (hb : BI w X v l) (hr : ∀ x ∈ l, x.q.o.recs.length <= 140737488355328) (hl63 : l.length <= 140737488355328) (hc : ¬ bcheck l = 0) :
    Calls Tryz.prog 80 #[tv, gv, v] w fun e w' => e = .returned (.bool false) /\ Below w.heap.size w w' := by
  obtain ⟨A, c, rfl, -⟩ := hb.shape
  have HC := Lib.hid (cbatch_any w X _ l hb hr hl63)
  have hd : (bcheck l != 0) = true := by simpa using hc
  have hd2 : (bcheck l == 0) = false := by simpa using hc
  clear hc hb hr
  go_enter Tryz.func80, Tryz.ntmps80
  go_wp2_with fail
  refine HC.out.mono ?_
  rintro e w1 ⟨rfl, hb1⟩
  have HB1 := Lib.hid hb1
  clear hb1
  go_wp2_with fail
  go_ret
  exact ⟨rfl, HB1.out⟩
theorem wf_check {s : Int × Int} (h : scheck s = 0) : wfS s := by
  unfold scheck at h
  split at h
  . cases h
  . rename_i hb
    simp only [sbad, Bool.not_eq_true, Bool.or_eq_false_iff, decide_eq_false_iff_not] at hb
    unfold wfS
    omega
theorem vbatch_all (w : World) (S X : Nat -> Prop) (p g : Nat) (L : List (List UInt8)) (G : List Sg) (v : Value) (l : List Sd) (h : TL w S p g L G) (hb : BI w X v l) (hr : ∀ x ∈ l, x.q.o.recs.length <= 140737488355328) (hl63 : l.length <= 140737488355328) :
    Calls Tryz.prog 80 #[.pointer (some ⟨p, 0, none⟩), .pointer (some ⟨g, 0, none⟩), v] w fun e w' => e = .returned (.bool (validsB L G l)) /\ Below w.heap.size w w' := by
  by_cases hc : bcheck l = 0
  . exact vbatch_any w S X p g L G v l h hb hr hl63 (fun x hx => wf_check ((bcheck_ok hc).2.1 x hx).2)
  . rw [valids_bad hc]
    exact vbatch_bad w _ _ X v l hb hr hl63 hc
theorem qbig_any (w : World) (f : Int) (h : okF f = true) : Calls Tryz.prog 85 #[.int .i64 f] w fun e w' => e = .returned (.int .i64 (2 * f + 1)) /\ w = w' := by
  obtain ⟨h1, h2⟩ := okF_yes h
  have hone : Calls Tryz.prog 105 #[.int .i64 2, .int .i64 f] w fun e w' => e = .returned (.int .i64 (2 * f + 1)) /\ w = w' := by
    have HC := qcheck_any w f
    have hcp : checkP f = 0 := by simp [checkP, h]
    rw [hcp] at HC
    have HC := Lib.hid HC
    clear hcp
    have w1 : IntKind.i64.wrap (2 * f) = 2 * f := wrap64 (by omega) (by omega)
    have w2 : IntKind.i64.wrap (2 * f + 1) = 2 * f + 1 := wrap64 (by omega) (by omega)
    clear h h1 h2
    go_enter Tryz.func105, Tryz.ntmps105
    go_wp2_with fail
    refine HC.out.mono ?_
    rintro e w1 ⟨rfl, rfl⟩
    go_wp2_with fail
    go_ret
    exact ⟨rfl, rfl⟩
  have HO := Lib.hid hone
  clear hone h h1 h2
  go_enter Tryz.func85, Tryz.ntmps85
  go_wp2_with fail
  refine HO.out.mono ?_
  rintro e w1 ⟨rfl, rfl⟩
  go_wp2_with fail
  go_ret
  exact ⟨rfl, rfl⟩
def batchB (L : List (List UInt8)) (G : List Sg) (x : Pd) : Bool := validsB L G x.batch && (isIn L (bform x.batch) && decide (digP L x = x.dig))
set_option maxHeartbeats 4000000 in
theorem isbatch_over (w : World) (tv gv : Value) (X : Nat -> Prop) (x : Pd) (r : Pl2) (vb known : Bool) (dg : Int) (hp : PI w X x r) (hx : Prr.okP x)
    (HV : ∀ W, Below w.heap.size w W -> Calls Tryz.prog 80 #[tv, gv, .slice r.2.1 x.batch.length r.2.2] W fun e w' => e = .returned (.bool vb) /\ Below W.heap.size W w')
    (HL : ∀ W, Below w.heap.size w W -> ∀ A c n, Sl W (fun _ => False) 1 (.slice A n c) n (BVs (bform x.batch)) -> Calls Tryz.prog 76 #[tv, .slice A n c] W fun e w' => e = .returned (.tuple #[.int .i64 dg, .bool known]) /\ Below W.heap.size W w') :
    Calls Tryz.prog 47 #[tv, gv, .agg (PC x r)] w fun e w' => e = .returned (.bool (vb && (known && decide (dg = x.dig)))) /\ Below w.heap.size w w' := by
  have hb0 : Below w.heap.size w (w.alloc (.cells (PC x r) 41)) := (Below.refl _ w).alloc (Nat.le_refl _) _
  have hk0 : Blk (w.alloc (.cells (PC x r) 41)) w.heap.size 41 (PC x r) := Blk.new w _ _
  have HB0 := Lib.hid hb0
  have HK0 := Lib.hid hk0
  have HP := Lib.hid hp
  have HX := Lib.hid hx
  have HVV := Lib.hid (HV _ hb0)
  have HLL := Lib.hid HL
  have a5 : (w.alloc (.cells (PC x r) 41)).cell? ⟨w.heap.size, 6, none⟩ = some (.slice r.2.1 x.batch.length r.2.2) := hk0.cell 6
  clear hb0 hk0 hp hx HV HL
  unfold PC at HB0 HK0 HVV a5 ⊢
  cases vb with
  | false =>
    go_enter Tryz.func47, Tryz.ntmps47
    go_wp2_with fail
    refine HVV.out.mono ?_
    rintro e w1 ⟨rfl, hb1⟩
    have HB1 := Lib.hid (HB0.out.trans (hb1.mono HB0.out.size))
    clear hb1
    go_wp2_with fail
    go_ret
    exact ⟨rfl, HB1.out⟩
  | true =>
    go_enter Tryz.func47, Tryz.ntmps47
    go_wp2_with fail
    refine HVV.out.mono ?_
    rintro e w1 ⟨rfl, hb1⟩
    have HB1 := Lib.hid (HB0.out.trans (hb1.mono HB0.out.size))
    have hk1 := HK0.out.below hb1 HK0.out.lt
    have HPB := Lib.hid (putbatch_any x.batch _ X (fun _ => False) (.slice none 0 0) 0 [] w1 (HP.out.batch.after HB1.out) HX.out.1 HX.out.2.1 (Sl.nil _ _ _) (by simp))
    have b6 := hk1.cell 6
    simp only [List.getElem?_toArray, List.getElem?_cons_zero, List.getElem?_cons_succ] at b6
    have HK1 := Lib.hid hk1
    clear hb1 hk1 a5
    go_wp2_with fail
    refine HPB.out.mono ?_
    rintro e w2 ⟨v2, rfl, ho2, hb2⟩
    have HB2 := Lib.hid (HB1.out.trans (hb2.mono HB1.out.size))
    have hk2 := HK1.out.below hb2 HK1.out.lt
    have hsl : Sl w2 (fun _ => False) 1 v2 (bform x.batch).length (BVs (bform x.batch)) := Sl.of_own ho2 (fun _ _ _ h => h)
    obtain ⟨A2, c2, rfl, -⟩ := id hsl
    have HL2 := Lib.hid (HLL.out w2 HB2.out A2 c2 _ hsl)
    have HK2 := Lib.hid hk2
    clear ho2 hsl hb2 hk2 HPB HLL
    go_wp2_with fail
    refine HL2.out.mono ?_
    rintro e w3 ⟨rfl, hb3⟩
    have HB3 := Lib.hid (HB2.out.trans (hb3.mono HB2.out.size))
    have hk3 := HK2.out.below hb3 HK2.out.lt
    have b2 := hk3.cell 2
    simp only [List.getElem?_toArray, List.getElem?_cons_zero, List.getElem?_cons_succ] at b2
    clear hb3 hk3 HL2
    cases known with
    | false =>
      go_wp2_with fail
      go_ret
      exact ⟨rfl, HB3.out⟩
    | true =>
      by_cases hd : dg = x.dig
      . have d1 : (dg == x.dig) = true := by rw [beq_iff_eq]; exact hd
        have HO : Hid (decide (dg = x.dig) = true) := Lib.hid (decide_eq_true hd)
        clear hd
        go_wp2_with fail
        go_ret
        exact ⟨by rw [HO.out]; rfl, HB3.out⟩
      . have d1 : (dg == x.dig) = false := by rw [beq_eq_false_iff_ne]; exact hd
        have HO : Hid (decide (dg = x.dig) = false) := Lib.hid (decide_eq_false hd)
        clear hd
        go_wp2_with fail
        go_ret
        exact ⟨by rw [HO.out]; rfl, HB3.out⟩
theorem isbatch_any (w : World) (S X : Nat -> Prop) (p g : Nat) (L : List (List UInt8)) (G : List Sg) (x : Pd) (r : Pl2) (h : TL w S p g L G) (hp : PI w X x r) (hx : Prr.okP x) :
    Calls Tryz.prog 47 #[.pointer (some ⟨p, 0, none⟩), .pointer (some ⟨g, 0, none⟩), .agg (PC x r)] w fun e w' => e = .returned (.bool (batchB L G x)) /\ Below w.heap.size w w' :=
  isbatch_over w _ _ X x r (validsB L G x.batch) (isIn L (bform x.batch)) (digP L x) hp hx (fun W b => vbatch_all W S X p g L G _ x.batch (h.later b) (hp.batch.after b) hx.1 hx.2.1) (fun W b A c n hs => tl_look (h.later b) hs (by have := bform_len x.batch; omega))
end Go.Proofs.YtmhmnkpaijoaaaaGreat.Pus

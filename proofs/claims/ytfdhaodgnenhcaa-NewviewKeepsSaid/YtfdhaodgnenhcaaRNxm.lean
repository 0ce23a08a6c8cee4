/-
  Layer 16 (newview): NewviewKeeps' walk.
-/
import Derived.Test.YtfdhaodgnenhcaaR09
import Derived.StillTailTactics
namespace Go.Proofs.Ytfdhaodgnenhcaa.Nxm
set_option linter.unusedSimpArgs false
open Go Go.RowKit Ck Kw Ga Kf Pm Py Ja Ic Jm Jb Jt Jk Pra Prb Prh Prr Pte Ptm Pub Psi Psj Qb Ky Nva Nvb Nve Nwa Nwb Nwc Nxa Nxb Nxc Nxd Nxe Nxf Nxo Nxg Nxh Nxl Nxn
attribute [local go_sem ↓] Go.wp_at_zero Go.wp_at_succ
set_option linter.unusedVariables false
set_option maxRecDepth 100000

/-- The certificate stands in a box of its own. -/
structure KS (w : World) (p : Pd) (rp : Pl2) (W : World) : Prop where
  below : Below w.heap.size w W
  box : Blk W w.heap.size 43 (PC p rp)
theorem KS.later {w W W' : World} {p : Pd} {rp : Pl2} (h : KS w p rp W) (b : Below W.heap.size W W') : KS w p rp W' := ⟨h.below.trans (b.mono h.below.size), h.box.below b h.box.lt⟩
theorem KS.cells {w W : World} {p : Pd} {rp : Pl2} (h : KS w p rp W) : W.cell? ⟨w.heap.size, 0, none⟩ = some (.int .i64 p.view) ∧ W.cell? ⟨w.heap.size, 1, none⟩ = some (.int .i64 p.seq) ∧ W.cell? ⟨w.heap.size, 6, none⟩ = some (.slice rp.2.1 p.batch.length rp.2.2) := ⟨h.box.cell 0, h.box.cell 1, h.box.cell 6⟩
theorem KS.ch {w W W' : World} {p : Pd} {rp : Pl2} {S : Nat → Prop} (h : KS w p rp W) (c : Ch S W W') (h1 : ¬ S w.heap.size) (h2 : ∀ k, S k → w.heap.size ≤ k) : KS w p rp W' := ⟨h.below.trans (c.below (fun k hk e => by have := h2 k e; omega) h.below.size), h.box.ch c h1⟩
theorem info_change : (Try.prog.info? 49).map (fun i => (i.zero, i.size, i.bytes)) = some (some (.agg #[.int .i64 0, .int .i64 0, .int .i64 0, .int .i64 0, .slice none 0 0, .slice none 0 0, .int .i64 0, .int .i64 0]), 8, 96) := by kernel_rfl
def okC_list (l : List Cg) : Prop := ∀ c ∈ l, okC c
theorem ent_ok2 {f view : Int} {l : List Cg} (h : ∀ c ∈ l, okC c) : ∀ e ∈ entS f view l, e.batch.length ≤ 140737488355328 ∧ ∀ x ∈ e.batch, x.q.o.recs.length ≤ 140737488355328 := by
  intro e he
  unfold entS at he
  split at he
  · obtain ⟨i, -, rfl⟩ := List.mem_map.1 he
    simp only [entE]
    cases hx : latC ((certS f view l).seq + i + 1) none l with
    | none => exact ⟨Nat.zero_le _, fun x hx => absurd hx (by simp [batchO])⟩
    | some p =>
      rcases latC_mem l hx with h1 | ⟨h1, c, h2, h3⟩
      · cases h1
      · have := ((h c h2).each p h3).1.1
        exact ⟨this.2.1, this.1⟩
  · simp at he
set_option maxHeartbeats 16000000 in
theorem keeps_law (w : World) (X Y : Nat → Prop) (f view : Int) (v : Value) (l : List Cg) (fa pk : Int) (p : Pd) (rp : Pl2) (h : CgL w X v l) (hp : PI w Y p rp) (hl : l.length * 96 ≤ 140737488351232) (hok : ∀ c ∈ l, okC c) (hpk : okV p) (hwp : wfP p) (fa0 : 0 ≤ fa) (fa1 : fa < 65536) (pk0 : 0 ≤ pk) (pk1 : pk < 65536) :
    Calls Try.prog 4 #[.int .i64 f, .int .i64 view, v, .int .u16 fa, .int .u16 pk, .agg (PC p rp)] w fun e w' => e = .returned (.bool true) ∧ Below w.heap.size w w' := by
  obtain ⟨A, c, rfl, -⟩ := h.shape
  have HK1 : Hid (KS w p rp (w.alloc (.cells (PC p rp) 43))) := Lib.hid ⟨(Below.refl _ w).alloc (Nat.le_refl _) _, Blk.new w _ _⟩
  have HBG := Lib.hid begun_any
  have HCK := Lib.hid (fun W => Prh.rcheck_any W f)
  have HMY := Lib.hid (fun W => rmany_any W fa fa0 fa1)
  have HBR := Lib.hid (fun W => rbrokers_any W f)
  have HHF := Lib.hid (fun W b => rhas_any W fa b fa0 fa1)
  have HHP := Lib.hid (fun W b => rhas_any W pk b pk0 pk1)
  have HH := Lib.hid (And.intro h (And.intro hp (And.intro hl (And.intro hok (And.intro hpk hwp)))))
  have hl63 : l.length ≤ 140737488355328 := by omega
  clear h hp hl hok hpk hwp fa0 fa1 pk0 pk1
  unfold PC at HK1 ⊢
  go_enter Try.func4, Try.ntmps4
  go_wp2_with fail
  generalize (w.alloc (.cells #[.int .i64 p.view, .int .i64 p.seq, .int .i64 p.dig, .int .i64 p.first.1, .int .i64 p.first.2, .slice rp.1.1 p.signs.length rp.1.2, .slice rp.2.1 p.batch.length rp.2.2] 43)) = w1 at *
  refine (HBG.out w1).mono ?_
  rintro e w2 ⟨rfl, hb2⟩
  have HK2 : Hid (KS w p rp w2) := Lib.hid (KS.later HK1.out hb2)
  clear hb2 HK1
  go_wp2_with fail
  refine (HCK.out w2).mono ?_
  rintro e w3 ⟨rfl, rfl⟩
  cases hf : okF f with
  | false =>
    have hcp : checkP f = 120 := by simp [checkP, hf]
    rw [hcp]
    clear hf hcp
    go_wp2_with fail
    refine (HBG.out _).mono ?_
    rintro e w9 ⟨rfl, hb9⟩
    have HB9 := Lib.hid ((HK2.out.later hb9).below)
    clear hb9
    go_wp2_with fail
    go_ret
    exact ⟨rfl, HB9.out⟩
  | true =>
    have hcp : checkP f = 0 := by simp [checkP, hf]
    rw [hcp]
    have HF := Lib.hid hf
    clear hf hcp
    go_wp2_with fail
    refine (HMY.out w2).mono ?_
    rintro e w3 ⟨rfl, hb3⟩
    have HK3 := Lib.hid (HK2.out.later hb3)
    clear hb3 HK2
    generalize (listS fa).length = nm at *
    by_cases hm : f < (nm : Int)
    · have hm' : decide (f < (nm : Int)) = true := decide_eq_true hm
      go_wp2_with fail
      refine (HBG.out _).mono ?_
      rintro e w9 ⟨rfl, hb9⟩
      have HB9 := Lib.hid ((HK3.out.later hb9).below)
      clear hb9
      go_wp2_with fail
      go_ret
      exact ⟨rfl, HB9.out⟩
    · have hm' : decide (f < (nm : Int)) = false := decide_eq_false hm
      go_wp2_with fail
      refine (HBR.out w3).mono ?_
      rintro e w4 ⟨rfl, rfl⟩
      have hbr : brokersP f = 3 * f + 1 := by simp [brokersP, HF.out]
      rw [hbr]
      obtain ⟨nb, hnb⟩ : ∃ nb, nb = 3 * f + 1 := ⟨_, rfl⟩
      rw [← hnb]
      have HNB := Lib.hid hnb
      clear hbr hnb
      by_cases hml : nb < (l.length : Int)
      · have hml' : decide (nb < (l.length : Int)) = true := decide_eq_true hml
        go_wp2_with fail
        refine (HBG.out _).mono ?_
        rintro e w9 ⟨rfl, hb9⟩
        have HB9 := Lib.hid ((HK3.out.later hb9).below)
        clear hb9
        go_wp2_with fail
        go_ret
        exact ⟨rfl, HB9.out⟩
      · have hml' : decide (nb < (l.length : Int)) = false := decide_eq_false hml
        have HL13 : Hid (l.length ≤ 13) := Lib.hid (by have := HNB.out; have := okF_yes HF.out; omega)
        go_wp2_with fail
        clear hml hml' hm hm' HCK HMY HBR
        go_loopw [13, 51] (fun tv i wr => ∃ k : Nat, k ≤ l.length ∧ i = .int .i64 k ∧ tv = .int .i64 (((l.take k).filter (toldC (hasS fa) p.seq p.view)).length : Int) ∧ (∀ j (hj : j < l.length), j < k → ∀ q ∈ (l[j]).above, fineP (hasS fa) p l[j] q) ∧ KS w p rp wr) (fun _ i _ => l.length - (intOf i).toNat)
        case atStart => exact ⟨0, Nat.zero_le _, rfl, rfl, fun j hj h => by omega, HK3.out⟩
        case round =>
          obtain ⟨k, hk, rfl, rfl, hall, hks⟩ := hrel
          clear HK3
          by_cases hlt : k < l.length
          · obtain ⟨ad, r, rfl, hat, hci, -, -⟩ := HH.out.1.at_ hlt (by decide)
            have hat : AtG kC w (ad.add (k * 8)) l[k] r := hat
            obtain ⟨a0, a1, a2, a3, a4, a5, a6, a7⟩ := at_change (hat.later hks.below)
            have hkp : (0 : Int) ≤ (k : Int) := by omega
            have hkl : (k : Int) < (l.length : Int) := by omega
            have hal : l[k].above.length ≤ 140737488355328 := by have := (HH.out.2.2.2.1 l[k] (List.getElem_mem hlt)).above; omega
            have HPL := Lib.hid hci.above
            have HCI : Hid (CgI w X l[k] r) := Lib.hid hci
            have HOKB : Hid (∀ q ∈ l[k].above, ∀ x ∈ q.batch, x.q.o.recs.length ≤ 140737488355328) := Lib.hid (fun q hq => ((HH.out.2.2.2.1 l[k] (List.getElem_mem hlt)).each q hq).1.1.1)
            have HCS := Lib.hid (count_step (toldC (hasS fa) p.seq p.view) hlt)
            have HTC : Hid (toldC (hasS fa) p.seq p.view l[k] = (!hasS fa l[k].from_ && match latP p.seq none l[k].above with | some q => decide (p.view ≤ q.view) | none => false)) := Lib.hid rfl
            have hbw : Below wr.heap.size wr (wr.alloc (.cells (CC l[k] r) 49)) := (Below.refl _ _).alloc (Nat.le_refl _) _
            have HKS := Lib.hid (hks.later hbw)
            have HCBK : Hid (Blk (wr.alloc (.cells (CC l[k] r) 49)) wr.heap.size 49 (CC l[k] r)) := Lib.hid (Blk.new _ _ _)
            have HNX : Hid ((∀ q ∈ (l[k]).above, fineP (hasS fa) p l[k] q) → ∀ j (hj : j < l.length), j < k + 1 → ∀ q ∈ (l[j]).above, fineP (hasS fa) p l[j] q) := Lib.hid (fun hq j hj hjk => by
              rcases Nat.lt_or_ge j k with h1 | h1
              · exact hall j hj h1
              · have : j = k := by omega
                subst this
                exact hq)
            have HCB : Hid ((0 : Int) ≤ (((l.take k).filter (toldC (hasS fa) p.seq p.view)).length : Int) ∧ (((l.take k).filter (toldC (hasS fa) p.seq p.view)).length : Int) ≤ 13) := Lib.hid ⟨by omega, by have h1 := List.length_filter_le (toldC (hasS fa) p.seq p.view) (l.take k); rw [List.length_take] at h1; have := HL13.out; omega⟩
            generalize (((l.take k).filter (toldC (hasS fa) p.seq p.view)).length : Int) = cnt at *
            generalize hcg : l[k] = cg at *
            clear hat hci hks hbw hall
            unfold CC at HKS HCBK
            go_wp2_with fail
            clear a0 a1 a2 a3 a4 a5 a6 a7
            have HKS0 : Hid (KS w p rp (wr.alloc (.cells #[.int .i64 cg.view, .int .i64 cg.from_, .int .i64 cg.cert.seq, .int .i64 cg.cert.dig, .slice r.1.1 cg.cert.signs.length r.1.2, .slice r.2.1 cg.above.length r.2.2, .int .i64 cg.sign.1, .int .i64 cg.sign.2] 49)) ∧ Blk (wr.alloc (.cells #[.int .i64 cg.view, .int .i64 cg.from_, .int .i64 cg.cert.seq, .int .i64 cg.cert.dig, .slice r.1.1 cg.cert.signs.length r.1.2, .slice r.2.1 cg.above.length r.2.2, .int .i64 cg.sign.1, .int .i64 cg.sign.2] 49)) wr.heap.size 49 (CC cg r)) := Lib.hid ⟨HKS.out, HCBK.out⟩
            generalize (wr.alloc (.cells #[.int .i64 cg.view, .int .i64 cg.from_, .int .i64 cg.cert.seq, .int .i64 cg.cert.dig, .slice r.1.1 cg.cert.signs.length r.1.2, .slice r.2.1 cg.above.length r.2.2, .int .i64 cg.sign.1, .int .i64 cg.sign.2] 49)) = wc at *
            generalize wr.heap.size = gc at *
            clear HKS HCBK
            go_loopw [58] (fun j wx => ∃ m : Nat, m ≤ cg.above.length ∧ j = .int .i64 m ∧ (∀ q ∈ cg.above.take m, fineP (hasS fa) p cg q) ∧ KS w p rp wx ∧ Blk wx gc 49 (CC cg r)) (fun j _ => cg.above.length - (intOf j).toNat)
            case atStart => exact ⟨0, Nat.zero_le _, rfl, fun q hq => by simp at hq, HKS0.out.1, HKS0.out.2⟩
            case round =>
              obtain ⟨m, hm, rfl, hfi, hks, hcb⟩ := hrel
              clear HKS0
              by_cases hml : m < cg.above.length
              · obtain ⟨ap, rq, hAp, hap, hpi⟩ := HPL.out.at_ hml
                obtain ⟨b0, b1, b2, b3, b4, b5, b6⟩ := hap.later hks.below
                have hmp : (0 : Int) ≤ (m : Int) := by omega
                have hmi : (m : Int) < (cg.above.length : Int) := by omega
                have HRO := Lib.hid (HOKB.out _ (List.getElem_mem hml))
                have HFN : Hid (fineP (hasS fa) p cg cg.above[m] → ∀ q ∈ cg.above.take (m + 1), fineP (hasS fa) p cg q) := Lib.hid (fun h q hq => by
                  rw [List.take_succ_eq_append_getElem hml] at hq
                  rcases List.mem_append.1 hq with h1 | h1
                  · exact hfi q h1
                  · have : q = cg.above[m] := by simpa using h1
                    rw [this]
                    exact h)
                have HPI := Lib.hid hpi
                have HOB : Hid (∀ x ∈ p.batch, x.q.o.recs.length ≤ 140737488355328) := Lib.hid HH.out.2.2.2.2.1.1.1
                have HOL : Hid (p.batch.length ≤ 140737488355328) := Lib.hid HH.out.2.2.2.2.1.1.2.1
                generalize cg.above[m] = q at *
                have hbw : Below wr.heap.size wr (wr.alloc (.cells (PC q rq) 43)) := (Below.refl _ _).alloc (Nat.le_refl _) _
                have HK4 := Lib.hid (hks.later hbw)
                have HC4 := Lib.hid (hcb.below hbw hcb.lt)
                have HQ4 : Hid (Blk (wr.alloc (.cells (PC q rq) 43)) wr.heap.size 43 (PC q rq)) := Lib.hid (Blk.new _ _ _)
                obtain ⟨-, -, p6⟩ := HK4.out.cells
                rw [hAp]
                clear hap hpi hks hcb hbw hfi
                unfold PC at HK4 HC4 HQ4 p6
                go_wp2_with fail
                generalize (wr.alloc (.cells #[.int .i64 q.view, .int .i64 q.seq, .int .i64 q.dig, .int .i64 q.first.1, .int .i64 q.first.2, .slice rq.1.1 q.signs.length rq.1.2, .slice rq.2.1 q.batch.length rq.2.2] 43)) = w4 at *
                generalize wr.heap.size = gq at *
                refine (rsameb_any w4 Y X _ _ p.batch q.batch (HH.out.2.1.batch.after HK4.out.below) (HPI.out.batch.after HK4.out.below) HOB.out HOL.out).mono ?_
                rintro e w5 ⟨rfl, hb5⟩
                have HK5 := Lib.hid (HK4.out.later hb5)
                have HC5 := Lib.hid (HC4.out.below hb5 HC4.out.lt)
                have hq5 := HQ4.out.below hb5 HQ4.out.lt
                obtain ⟨p0, p1, -⟩ := HK5.out.cells
                have q0 := hq5.cell 0
                have q1 := hq5.cell 1
                have c1 := HC5.out.cell 1
                unfold CC at c1
                simp only [List.getElem?_toArray, List.getElem?_cons_zero, List.getElem?_cons_succ] at q0 q1 c1
                clear b0 b1 b2 b3 b4 b5 b6 p6 hb5 hq5 HQ4 HK4 HC4 HPI
                go_wp2_with fail
                refine (HHF.out w5 cg.from_).mono ?_
                rintro e w6 ⟨rfl, rfl⟩
                have HFI : Hid (fineP (hasS fa) p cg q ↔ (q.seq = p.seq → p.view ≤ q.view → q.batch = p.batch)) := Lib.hid Iff.rfl
                by_cases hx : q.seq = p.seq
                · have e1 : (q.seq == p.seq) = true := by rw [beq_iff_eq]; exact hx
                  by_cases hs : p.batch = q.batch
                  · have HF2 := Lib.hid (HFN.out (HFI.out.2 (fun _ _ => hs.symm)))
                    have es : decide (p.batch = q.batch) = true := decide_eq_true hs
                    rw [es]
                    clear hs es HFN HFI
                    cases hhas : hasS fa cg.from_ with
                    | true =>
                      clear hhas
                      by_cases hv : p.view < q.view
                      · have hv' : decide (p.view < q.view) = true := decide_eq_true hv
                        go_wp2_with fail
                        go_ret
                        exact ⟨rfl, HK5.out.below⟩
                      · have hv' : decide (p.view < q.view) = false := decide_eq_false hv
                        by_cases hw : q.view = p.view
                        · have e2 : (q.view == p.view) = true := by rw [beq_iff_eq]; exact hw
                          go_wp2_with fail
                          go_roundw
                          case rel => exact ⟨m + 1, by omega, by go_num, HF2.out, HK5.out, HC5.out⟩
                          case measure => simp [intOf]; omega
                        · have e2 : (q.view == p.view) = false := by rw [beq_eq_false_iff_ne]; exact hw
                          go_wp2_with fail
                          go_roundw
                          case rel => exact ⟨m + 1, by omega, by go_num, HF2.out, HK5.out, HC5.out⟩
                          case measure => simp [intOf]; omega
                    | false =>
                      clear hhas
                      by_cases hv : p.view ≤ q.view
                      · have hv' : decide (p.view ≤ q.view) = true := decide_eq_true hv
                        go_wp2_with fail
                        go_roundw
                        case rel => exact ⟨m + 1, by omega, by go_num, HF2.out, HK5.out, HC5.out⟩
                        case measure => simp [intOf]; omega
                      · have hv' : decide (p.view ≤ q.view) = false := decide_eq_false hv
                        go_wp2_with fail
                        go_roundw
                        case rel => exact ⟨m + 1, by omega, by go_num, HF2.out, HK5.out, HC5.out⟩
                        case measure => simp [intOf]; omega
                  · have es : decide (p.batch = q.batch) = false := decide_eq_false hs
                    rw [es]
                    clear hs es
                    cases hhas : hasS fa cg.from_ with
                    | true =>
                      clear hhas
                      by_cases hv : p.view < q.view
                      · have hv' : decide (p.view < q.view) = true := decide_eq_true hv
                        go_wp2_with fail
                        go_ret
                        exact ⟨rfl, HK5.out.below⟩
                      · have hv' : decide (p.view < q.view) = false := decide_eq_false hv
                        by_cases hw : q.view = p.view
                        · have e2 : (q.view == p.view) = true := by rw [beq_iff_eq]; exact hw
                          go_wp2_with fail
                          go_ret
                          exact ⟨rfl, HK5.out.below⟩
                        · have e2 : (q.view == p.view) = false := by rw [beq_eq_false_iff_ne]; exact hw
                          have HF2 := Lib.hid (HFN.out (HFI.out.2 (fun _ hle => by omega)))
                          go_wp2_with fail
                          go_roundw
                          case rel => exact ⟨m + 1, by omega, by go_num, HF2.out, HK5.out, HC5.out⟩
                          case measure => simp [intOf]; omega
                    | false =>
                      clear hhas
                      by_cases hv : p.view ≤ q.view
                      · have hv' : decide (p.view ≤ q.view) = true := decide_eq_true hv
                        go_wp2_with fail
                        go_ret
                        exact ⟨rfl, HK5.out.below⟩
                      · have hv' : decide (p.view ≤ q.view) = false := decide_eq_false hv
                        have HF2 := Lib.hid (HFN.out (HFI.out.2 (fun _ hle => absurd hle hv)))
                        go_wp2_with fail
                        go_roundw
                        case rel => exact ⟨m + 1, by omega, by go_num, HF2.out, HK5.out, HC5.out⟩
                        case measure => simp [intOf]; omega
                · have e1 : (q.seq == p.seq) = false := by rw [beq_eq_false_iff_ne]; exact hx
                  have HF2 := Lib.hid (HFN.out (HFI.out.2 (fun h _ => absurd h hx)))
                  generalize decide (p.batch = q.batch) = sm at *
                  clear HFN HFI
                  cases hhas : hasS fa cg.from_ with
                  | true =>
                    clear hhas
                    go_wp2_with fail
                    go_roundw
                    case rel => exact ⟨m + 1, by omega, by go_num, HF2.out, HK5.out, HC5.out⟩
                    case measure => simp [intOf]; omega
                  | false =>
                    clear hhas
                    go_wp2_with fail
                    go_roundw
                    case rel => exact ⟨m + 1, by omega, by go_num, HF2.out, HK5.out, HC5.out⟩
                    case measure => simp [intOf]; omega
              · have hme : m = cg.above.length := by omega
                subst hme
                rw [List.take_length] at hfi
                have HALL := Lib.hid (HNX.out hfi)
                have HK6 := Lib.hid hks
                have HC6 := Lib.hid hcb
                obtain ⟨p0, p1, -⟩ := hks.cells
                obtain ⟨⟨d0, d1, d2, d3, d4, d5, d6, d7⟩, -⟩ := cells8 (show Blk wr gc 49 #[.int .i64 cg.view, .int .i64 cg.from_, .int .i64 cg.cert.seq, .int .i64 cg.cert.dig, .slice r.1.1 cg.cert.signs.length r.1.2, .slice r.2.1 cg.above.length r.2.2, .int .i64 cg.sign.1, .int .i64 cg.sign.2] from hcb)
                have HTL := Lib.hid (tells_any wr X cg r p.seq ⟨HCI.out.signs.after hks.below, HCI.out.above.after hks.below⟩ hal)
                clear hfi hks hcb HNX
                unfold CC at HTL
                go_wp2_with fail
                refine HTL.out.mono ?_
                rintro e w7 ⟨rt, rfl, hb7⟩
                have hb8 : Below w7.heap.size w7 (w7.alloc (.cells (PC ((latP p.seq none cg.above).getD Pd.zero) rt) 43)) := (Below.refl _ _).alloc (Nat.le_refl _) _
                have hb78 := hb7.trans (hb8.mono hb7.size)
                have HK8 := Lib.hid (HK6.out.later hb78)
                have HC8 := Lib.hid (HC6.out.below hb78 HC6.out.lt)
                have HT8 : Hid (Blk (w7.alloc (.cells (PC ((latP p.seq none cg.above).getD Pd.zero) rt) 43)) w7.heap.size 43 (PC ((latP p.seq none cg.above).getD Pd.zero) rt)) := Lib.hid (Blk.new _ _ _)
                clear hb7 hb8 hb78 HTL HK6 HC6 d0 d1 d2 d3 d4 d5 d6 d7 p0 p1
                have HTV := Lib.hid (HTC.out)
                generalize latP p.seq none cg.above = o at *
                unfold PC at HK8 HC8 HT8 ⊢
                have hcb : 0 ≤ cnt ∧ cnt ≤ 13 := HCB.out
                have hw9 : IntKind.i64.wrap (cnt + 1) = cnt + 1 := wrap64 (by omega) (by omega)
                cases o with
                | none =>
                  simp only [Option.getD_none] at HK8 HC8 HT8
                  have HCN : Hid ((((l.take (k + 1)).filter (toldC (hasS fa) p.seq p.view)).length : Int) = cnt) := Lib.hid (by rw [HCS.out, HTV.out]; simp)
                  clear HCS HTV HT8 HC8 hw9
                  go_wp2_with fail
                  go_roundw
                  case rel => exact ⟨k + 1, by omega, by go_num, by rw [HCN.out], HALL.out, HK8.out⟩
                  case measure => simp [intOf]; omega
                | some q1 =>
                  simp only [Option.getD_some] at HK8 HC8 HT8
                  obtain ⟨p0, p1, -⟩ := HK8.out.cells
                  have c1 := HC8.out.cell 1
                  have q0 := HT8.out.cell 0
                  unfold CC at c1
                  simp only [List.getElem?_toArray, List.getElem?_cons_zero, List.getElem?_cons_succ] at q0 c1
                  go_wp2_with fail
                  refine (HHF.out _ cg.from_).mono ?_
                  rintro e w9 ⟨rfl, rfl⟩
                  cases hhas : hasS fa cg.from_ with
                  | true =>
                    have HCN : Hid ((((l.take (k + 1)).filter (toldC (hasS fa) p.seq p.view)).length : Int) = cnt) := Lib.hid (by rw [HCS.out, HTV.out, hhas]; simp)
                    clear hhas HCS HTV hw9
                    go_wp2_with fail
                    go_roundw
                    case rel => exact ⟨k + 1, by omega, by go_num, by rw [HCN.out], HALL.out, HK8.out⟩
                    case measure => simp [intOf]; omega
                  | false =>
                    by_cases hv : p.view ≤ q1.view
                    · have hv' : decide (p.view ≤ q1.view) = true := decide_eq_true hv
                      have HCN : Hid ((((l.take (k + 1)).filter (toldC (hasS fa) p.seq p.view)).length : Int) = cnt + 1) := Lib.hid (by rw [HCS.out, HTV.out, hhas]; simp [hv])
                      clear hhas HCS HTV
                      go_wp2_with fail
                      go_roundw
                      case rel => exact ⟨k + 1, by omega, by go_num, by rw [HCN.out], HALL.out, HK8.out⟩
                      case measure => simp [intOf]; omega
                    · have hv' : decide (p.view ≤ q1.view) = false := decide_eq_false hv
                      have HCN : Hid ((((l.take (k + 1)).filter (toldC (hasS fa) p.seq p.view)).length : Int) = cnt) := Lib.hid (by rw [HCS.out, HTV.out, hhas]; simp [hv])
                      clear hhas HCS HTV hw9
                      go_wp2_with fail
                      go_roundw
                      case rel => exact ⟨k + 1, by omega, by go_num, by rw [HCN.out], HALL.out, HK8.out⟩
                      case measure => simp [intOf]; omega
          · have hke : k = l.length := by omega
            subst hke
            have HFINE : Hid (∀ cg ∈ l, ∀ q ∈ cg.above, fineP (hasS fa) p cg q) := Lib.hid (fun cg hc => by
              obtain ⟨j, hj, rfl⟩ := List.mem_iff_getElem.1 hc
              exact hall j hj hj)
            have HKT := Lib.hid hks
            rw [List.take_length]
            have HTB : Hid ((0 : Int) ≤ ((l.filter (toldC (hasS fa) p.seq p.view)).length : Int) ∧ ((l.filter (toldC (hasS fa) p.seq p.view)).length : Int) ≤ l.length) := Lib.hid ⟨by omega, by have := List.length_filter_le (toldC (hasS fa) p.seq p.view) l; omega⟩
            obtain ⟨T, hT⟩ : ∃ T : Int, T = ((l.filter (toldC (hasS fa) p.seq p.view)).length : Int) := ⟨_, rfl⟩
            rw [← hT] at HTB ⊢
            have HT := Lib.hid hT
            clear hall hks hT
            have HSM := Lib.hid (fun W => rsmall_any W f HF.out)
            have HBI := Lib.hid (fun W => rbig_any W f)
            have hbb : bigP f = 2 * f + 1 := by simp [bigP, HF.out]
            rw [hbb] at HBI
            have hw5 : IntKind.i64.wrap ((l.length : Int) - T) = (l.length : Int) - T := wrap64 (by have := HTB.out; omega) (by have := HTB.out; omega)
            clear hbb
            go_wp2_with fail
            refine (HSM.out _).mono ?_
            rintro e w9 ⟨rfl, rfl⟩
            by_cases ht1 : T < f + 1
            · have ht1' : decide (T < f + 1) = true := decide_eq_true ht1
              go_wp2_with fail
              go_ret
              exact ⟨rfl, HKT.out.below⟩
            · have ht1' : decide (T < f + 1) = false := decide_eq_false ht1
              go_wp2_with fail
              refine (HBI.out _).mono ?_
              rintro e w9 ⟨rfl, rfl⟩
              by_cases ht2 : 2 * f + 1 ≤ (l.length : Int) - T
              · have ht2' : decide (2 * f + 1 ≤ (l.length : Int) - T) = true := decide_eq_true ht2
                go_wp2_with fail
                go_ret
                exact ⟨rfl, HKT.out.below⟩
              · have ht2' : decide (2 * f + 1 ≤ (l.length : Int) - T) = false := decide_eq_false ht2
                have HTO : Hid ((l.length : Int) - ((l.filter (toldC (hasS fa) p.seq p.view)).length : Int) < 2 * f + 1) := Lib.hid (by rw [← HT.out]; omega)
                obtain ⟨i0, hi0, hz0, hz1, hz2⟩ := info_parts info_change
                go_wp2_with fail
                clear ht1 ht1' ht2 ht2' hw5
                have HPO : Hid (okC_list l) := Lib.hid HH.out.2.2.2.1
                have HHX : Hid (CgL w (fun k => X k ∨ w.heap.size ≤ k) (.slice A l.length c) l) := Lib.hid (HH.out.1.weaken (fun b hb hy => by
                  rcases hy with hy | hy
                  · exact hy
                  · omega))
                go_loopw [21, 151] (fun lv i wx => ∃ k : Nat, k ≤ l.length ∧ i = .int .i64 k ∧ OG kC wx (w.heap.size + 1) 49 (fun q => X q ∨ w.heap.size ≤ q) lv ((l.take k).filter fun c => hasS pk c.from_) ∧ KS w p rp wx) (fun _ i _ => l.length - (intOf i).toNat)
                case atStart => exact ⟨0, Nat.zero_le _, rfl, OG.nil _ _ _ _ _, HKT.out⟩
                case round =>
                  obtain ⟨k, hk, rfl, hog, hks⟩ := hrel
                  clear HKT
                  by_cases hlt : k < l.length
                  · obtain ⟨ad, r, rfl, hat, hci, -, -⟩ := HHX.out.at_ hlt (by decide)
                    have hat : AtG kC w (ad.add (k * 8)) l[k] r := hat
                    obtain ⟨a0, a1, a2, a3, a4, a5, a6, a7⟩ := at_change (hat.later hks.below)
                    have hkp : (0 : Int) ≤ (k : Int) := by omega
                    have hkl : (k : Int) < (l.length : Int) := by omega
                    have HFS := Lib.hid (filter_step (fun c : Cg => hasS pk c.from_) hlt)
                    have hlen : ((l.take k).filter fun c => hasS pk c.from_).length ≤ 13 := by
                      have h1 := List.length_filter_le (fun c : Cg => hasS pk c.from_) (l.take k)
                      rw [List.length_take] at h1
                      have := HL13.out
                      omega
                    have HLN : Hid (((l.take k).filter fun c => hasS pk c.from_).length + 1 ≤ maxLen ∧ (((l.take k).filter fun c => hasS pk c.from_).length + 1) * 96 ≤ 140737488355328) := Lib.hid ⟨by simp only [maxLen]; omega, by omega⟩
                    obtain ⟨rs, hg, hrow⟩ := hog.ex
                    obtain ⟨Ae, ce, rfl⟩ := own_shape hrow
                    have HCI : Hid (CgI w (fun k => X k ∨ w.heap.size ≤ k) l[k] r) := Lib.hid hci
                    generalize ((l.take k).filter fun c => hasS pk c.from_) = es at *
                    generalize l[k] = cg at *
                    have hbw : Below wr.heap.size wr (wr.alloc (.cells (CC cg r) 49)) := (Below.refl _ _).alloc (Nat.le_refl _) _
                    have HKS := Lib.hid (hks.later hbw)
                    have HOG := Lib.hid (And.intro (hog.below hbw) (And.intro (hg.after hbw) (own_below hrow hbw)))
                    have HCBK : Hid (Blk (wr.alloc (.cells (CC cg r) 49)) wr.heap.size 49 (CC cg r)) := Lib.hid (Blk.new _ _ _)
                    clear hat hci hks hbw hog hg hrow hlen
                    unfold CC at HKS HCBK HOG
                    go_wp2_with fail
                    refine (HHP.out _ cg.from_).mono ?_
                    rintro e w9 ⟨rfl, rfl⟩
                    generalize (wr.alloc (.cells #[.int .i64 cg.view, .int .i64 cg.from_, .int .i64 cg.cert.seq, .int .i64 cg.cert.dig, .slice r.1.1 cg.cert.signs.length r.1.2, .slice r.2.1 cg.above.length r.2.2, .int .i64 cg.sign.1, .int .i64 cg.sign.2] 49)) = wc at *
                    generalize wr.heap.size = gc at *
                    obtain ⟨⟨d0, d1, d2, d3, d4, d5, d6, d7⟩, -⟩ := cells8 HCBK.out
                    clear a0 a1 a2 a3 a4 a5 a6 a7
                    cases hpick : hasS pk cg.from_ with
                    | true =>
                      have HFE : Hid ((l.take (k + 1)).filter (fun c => hasS pk c.from_) = es ++ [cg]) := Lib.hid (by rw [HFS.out, if_pos hpick])
                      have HRW : Hid ((wc.alloc (.cells (CC cg r) 49)).ownsRow (w.heap.size + 1) 49 8 (.slice Ae es.length ce) es.length (flatG kC es rs)) := Lib.hid (own_below HOG.out.2.2 ((Below.refl _ _).alloc (Nat.le_refl _) _))
                      have HLIT := Lib.hid (lit_one kC wc (fun _ => False) 49 cg r (fun h => h))
                      have HONE := Lib.hid (CC_one cg r)
                      have HWS : Hid (w.heap.size + 1 ≤ (wc.alloc (.cells (CC cg r) 49)).heap.size) := Lib.hid (by have := HKS.out.box.lt; simp only [World.size_alloc]; omega)
                      change Hid (Sl (wc.alloc (.cells (CC cg r) 49)) (fun _ => False) 8 _ 1 (CC cg r).toList) at HLIT
                      clear hpick
                      unfold CC at HLIT HONE HRW HWS
                      go_wp2_with (at_builtin; refine wpList_append_sh _ rfl (.tmp 159) (.tmp 161) _ rfl (w.heap.size + 1) 49 i0 _ 8 96 Try.underlying22 hi0 hz0 hz1 hz2 rfl (by omega) (.slice Ae es.length ce) es.length (flatG kC es rs) rfl HRW.out (fun _ => False) _ 1 _ rfl HLIT.out HONE.out HLN.out.1 HLN.out.2 HWS.out ?_; intro Af cf w6 happ)
                      have hb7 : Below wc.heap.size wc (wc.alloc (.cells (CC cg r) 49)) := (Below.refl _ _).alloc (Nat.le_refl _) _
                      have hc := Ch.of_grown (S := fun k => (Value.slice Ae es.length ce).ownBlock = some k) happ.2.1 (fun g hg _ => hg)
                      have how : ∀ q, (Value.slice Ae es.length ce).ownBlock = some q → w.heap.size + 1 ≤ q := fun q hq => (HOG.out.2.2.lt q hq).1
                      have hne : 49 ≠ 43 := by decide
                      have hnew := OG.snoc (κ := kC) (a := cg) (r := r) (HOG.out.2.1.after hb7) (kC.after (w := w) HCI.out ((HKS.out.below).trans (hb7.mono HKS.out.below.size))) happ hc (fun q hq => .inr (by have := how q hq; omega))
                      have hks6 := (HKS.out.later hb7).ch hc (own_far HRW.out (HKS.out.later hb7).box hne) (fun q hq => by have := how q hq; omega)
                      rw [← HFE.out] at hnew
                      have HNO := Lib.hid (And.intro hnew hks6)
                      clear hnew hks6 hb7 hc how happ HLIT HONE HRW HWS
                      go_roundw
                      case rel => exact ⟨k + 1, by omega, by go_num, HNO.out.1, HNO.out.2⟩
                      case measure => simp [intOf]; omega
                    | false =>
                      have HFE : Hid ((l.take (k + 1)).filter (fun c => hasS pk c.from_) = es) := Lib.hid (by rw [HFS.out, if_neg (by rw [hpick]; exact Bool.false_ne_true)])
                      have HOG2 : Hid (OG kC wc (w.heap.size + 1) 49 (fun q => X q ∨ w.heap.size ≤ q) (.slice Ae es.length ce) es) := Lib.hid HOG.out.1
                      clear hpick
                      go_wp2_with fail
                      go_roundw
                      case rel => exact ⟨k + 1, by omega, by go_num, by rw [HFE.out]; exact HOG2.out, HKS.out⟩
                      case measure => simp [intOf]; omega
                  · have hke : k = l.length := by omega
                    subst hke
                    rw [List.take_length] at hog
                    have HKT := Lib.hid hks
                    have hsl : CgL wr (fun _ => False) _ (l.filter fun c => hasS pk c.from_) := hog.gl (fun k hk => hk.elim) (fun k hk h => h)
                    obtain ⟨As, cs, rfl, -⟩ := hsl.shape
                    have HSE := Lib.hid (select_any wr _ f view _ _ hsl (by have h1 := List.length_filter_le (fun c : Cg => hasS pk c.from_) l; have := HL13.out; omega) (fun c hc => HPO.out c (List.mem_filter.1 hc).1))
                    have HKA := Lib.hid (fun (he : errS f view (l.filter fun c => hasS pk c.from_) = 0) h0 h1 h2 (n : Int) hn => keeps_at (view := view) (pick := hasS pk) (n := n) HF.out HFINE.out HTO.out he h0 h1 h2 hn)
                    have HEO := Lib.hid (And.intro (ent_ok2 (f := f) (view := view) (l := l.filter fun c => hasS pk c.from_) (fun c hc => HPO.out c (List.mem_filter.1 hc).1)) (gaps_len f view (l.filter fun c => hasS pk c.from_)))
                    clear hog hks hsl
                    generalize (l.filter fun c => hasS pk c.from_) = some_ at *
                    generalize entS f view some_ = es at *
                    generalize certS f view some_ = ce at *
                    generalize errS f view some_ = en at *
                    go_wp2_with fail
                    refine HSE.out.mono ?_
                    rintro e w5 ⟨r5, ve, rfl, -, hen, hb5⟩
                    have hb6 : Below w5.heap.size w5 (w5.alloc (.cells (CE ce r5) 26)) := (Below.refl _ _).alloc (Nat.le_refl _) _
                    have hb56 := hb5.trans (hb6.mono hb5.size)
                    have HK6 := Lib.hid (HKT.out.later hb56)
                    have HC6 : Hid (Blk (w5.alloc (.cells (CE ce r5) 26)) w5.heap.size 26 (CE ce r5)) := Lib.hid (Blk.new _ _ _)
                    have HE6 := Lib.hid (GL.after hen hb6)
                    obtain ⟨Av, cv, rfl, -⟩ := HE6.out.shape
                    clear hen hb5 hb6 hb56 HKT HSE
                    unfold CE at HK6 HC6 HE6 ⊢
                    obtain ⟨p0, p1, p6⟩ := HK6.out.cells
                    obtain ⟨c0, -, -⟩ := And.intro (HC6.out.cell 0) (And.intro trivial trivial)
                    simp only [List.getElem?_toArray, List.getElem?_cons_zero] at c0
                    have HWP := Lib.hid HH.out.2.2.2.2.2
                    by_cases hen0 : en = 0
                    · have n1 : (en != 0) = false := by simp [hen0]
                      have n2 : (en == 0) = true := by simp [hen0]
                      by_cases hneg : ce.seq < 0
                      · have n3 : decide (ce.seq < 0) = true := decide_eq_true hneg
                        go_wp2_with fail
                        go_ret
                        exact ⟨rfl, HK6.out.below⟩
                      · have n3 : decide (ce.seq < 0) = false := decide_eq_false hneg
                        by_cases hge : p.seq ≤ ce.seq
                        · have n4 : decide (p.seq ≤ ce.seq) = true := decide_eq_true hge
                          go_wp2_with fail
                          go_ret
                          exact ⟨rfl, HK6.out.below⟩
                        · have n4 : decide (p.seq ≤ ce.seq) = false := decide_eq_false hge
                          have hw6 : IntKind.i64.wrap (p.seq - ce.seq) = p.seq - ce.seq := wrap64 (by omega) (by have := HWP.out.1.2; omega)
                          by_cases hfar : 8 < p.seq - ce.seq
                          · have n5 : decide (8 < p.seq - ce.seq) = true := decide_eq_true hfar
                            go_wp2_with fail
                            go_ret
                            exact ⟨rfl, HK6.out.below⟩
                          · have n5 : decide (8 < p.seq - ce.seq) = false := decide_eq_false hfar
                            have HKB := Lib.hid (HKA.out hen0 (by omega) (by omega) (by omega))
                            subst hen0
                            clear HKA
                            go_wp2_with fail
                            generalize (w5.alloc (.cells #[.int .i64 ce.seq, .int .i64 ce.dig, .slice r5.1 ce.signs.length r5.2] 26)) = w6 at *
                            refine (index_any w6 _ _ es w.heap.size p.seq HE6.out (by have := HEO.out.2; omega) p1).mono ?_
                            rintro e w7 ⟨n, rfl, hat, hb7⟩
                            obtain ⟨i, hi, rfl, hbat⟩ := HKB.out n hat
                            obtain ⟨av, rv, rfl, hae, hbi, -, -⟩ := HE6.out.at_ hi (by decide)
                            have hae : AtG kE w6 (av.add (i * 5)) es[i] rv := hae
                            obtain ⟨-, -, e2, -, -⟩ := at_entry (hae.later hb7)
                            have hbo := HEO.out.1 es[i] (List.getElem_mem hi)
                            have hil := HEO.out.2
                            have HK7 := Lib.hid (HK6.out.later hb7)
                            have hbi7 : BI w7 _ (.slice rv.1 es[i].batch.length rv.2) es[i].batch := BI.after hbi hb7
                            have hkp : (0 : Int) ≤ (i : Int) := by omega
                            have hkl : (i : Int) < (es.length : Int) := by omega
                            have hsb := rsameb_any w7.drew _ Y _ _ es[i].batch p.batch (BI.after hbi7 (below_drewN (Below.refl _ _) 1)) (HH.out.2.1.batch.after (below_drewN HK7.out.below 1)) hbo.2 hbo.1
                            rw [decide_eq_true hbat] at hsb
                            have HSB := Lib.hid hsb
                            generalize es[i] = x at *
                            clear hsb hbi7 hbi hae hat hb7 hbat p0 p1 p6 c0
                            obtain ⟨p0, p1, p6⟩ := HK7.out.cells
                            go_wp2_with fail
                            go_still_tail 10, (by kernel_rfl)
                            change wpList _ _ _ _ _ w7.drew
                            go_wp2_with fail
                            refine HSB.out.mono ?_
                            rintro e w8 ⟨rfl, hb8⟩
                            have HB8 := Lib.hid (HK7.out.below.trans ((below_of_drew hb8).mono HK7.out.below.size))
                            clear hb8
                            go_wp2_with fail
                            go_ret
                            exact ⟨rfl, HB8.out⟩
                    · have n1 : (en != 0) = true := by simp [hen0]
                      have n2 : (en == 0) = false := by simp [hen0]
                      go_wp2_with fail
                      go_ret
                      exact ⟨rfl, HK6.out.below⟩
end Go.Proofs.Ytfdhaodgnenhcaa.Nxm

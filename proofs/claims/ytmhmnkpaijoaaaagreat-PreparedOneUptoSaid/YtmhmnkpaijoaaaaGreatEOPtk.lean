import Derived.BigQuiet
import Derived.Deep.RegionHeld3
import Derived.Deep.RegionHeldLaw
import Derived.Deep.DeepCutAuto
import Derived.Lib.MinMax
import Derived.Test.YtmhmnkpaijoaaaaGreatEOPtb
namespace Go.Proofs.YtmhmnkpaijoaaaaGreat.Ptk
set_option linter.unusedSimpArgs false
open Go Go.RowKit Ck Cf Kw Ga Kf Pm Pe Pg Ik Lk Jm Ja Jb Jf Jg Jl Jn Kc Kj Pra Prb Pre Prh Prn Prr Prv Prw Prx Pry Prz Psa Psb Psi Psj Psk Psl Psr Psu Psv Psx Pta Ptj
attribute [local go_sem ↓] Go.wp_at_zero Go.wp_at_succ
set_option linter.unusedVariables false
set_option maxRecDepth 100000
theorem info_vote : (Tryz.prog.info? 95).map (fun i => (i.zero, i.size, i.bytes)) = some (some (.agg #[.int .i64 0, .int .i64 0, .int .i64 0, .int .i64 0, .int .u8 0]), 5, 40) := by kernel_rfl
theorem of_in (l : List Int) : 0 <= ofS l /\ ofS l < 65536 := by
  have h := of_le l 13 (by decide)
  have e : bitP 13 = 8192 := by decide
  unfold ofS
  omega
theorem lo_row {w W W' W2 : World} {gc mm : Nat} {cs : Array Value} {v : Value} {acc : List (Vt × Nat)} {k : Nat} {D : DataW Unit} (h : LO w gc mm cs v acc k D W) (hg : W.grownBy W' (some mm)) (hb : Below W'.heap.size W' W2) : W2.ownsRow w.heap.size 95 5 v acc.length (acc.flatMap VC) := by
  have c1 : Ch (fun k => k = mm) W W' := Ch.of_grown hg (fun k hk _ => by injection hk with hk; exact hk.symm)
  have hne := map_row h.mp h.row
  exact own_ch (own_ch h.row c1 (fun k hk hx => hne (by rw [hk, hx]))) (Ch.of_below (S := fun _ => False) hb (Nat.le_refl _)) (fun _ _ h => h)
theorem five_cell {W : World} {g : Nat} {t : TypeId} {u : Vt × Nat} (h : Blk W g t (VC u).toArray) : Sl W (fun _ => False) 5 (.slice (some ⟨g, 0, none⟩) 1 1) 1 (VC u) := by
  have := blk_sl (n := 1) (X := fun _ => False) (size := 5) h (fun h => h) rfl (by simp only [maxLen]; omega)
  simpa using this
theorem vote_cells {W : World} {g : Nat} {t : TypeId} {a b c d e : Value} (h : Blk W g t #[a, b, c, d, e]) : W.cell? ⟨g, 0, none⟩ = some a /\ W.cell? ⟨g, 1, none⟩ = some b /\ W.cell? ⟨g, 2, none⟩ = some c /\ W.cell? ⟨g, 3, none⟩ = some d /\ W.cell? ⟨g, 4, none⟩ = some e := ⟨h.cell 0, h.cell 1, h.cell 2, h.cell 3, h.cell 4⟩
theorem lo_more {w W : World} {gc mm : Nat} {cs : Array Value} {v : Value} {acc : List (Vt × Nat)} {k : Nat} {D : DataW Unit} (h : LO w gc mm cs v acc k D W) : LO w gc mm cs v acc (k + 1) D W := ⟨h.hb, h.mo, h.go, h.kc, h.mp.mono (by omega), h.nb, h.row⟩
theorem VC_one (u : Vt × Nat) : ∀ y ∈ VC u, y.oneCell' = true := by
  intro y hy
  simp only [VC, List.mem_cons, List.not_mem_nil, or_false] at hy
  rcases hy with rfl | rfl | rfl | rfl | rfl <;> rfl
theorem qq_upto {w : World} {X : Nat -> Prop} {A : Option Addr} {n c k : Nat} {l : List (List Q)} (h : QQ w X (.slice A n c) l) (hk : k <= l.length) : QQ w X (.slice A k c) (l.take k) := by
  obtain ⟨vals, h0, h1, h2⟩ := h
  have hn : n = l.length := by obtain ⟨A', c', hv, _⟩ := h1; exact (Value.slice.inj hv).2.1
  subst hn
  refine ⟨vals.take k, by rw [List.length_take, List.length_take, h0], ?_, fun i hi => ?_⟩
  . have := h1.upto hk
    rw [Nat.mul_one] at this
    rw [List.length_take, Nat.min_eq_left hk]
    exact this
  . rw [List.length_take] at hi
    obtain ⟨u, h3, h4⟩ := h2 i (by omega)
    refine ⟨u, by rw [List.getElem?_take, if_pos (by omega)]; exact h3, ?_⟩
    rw [List.getElem_take]
    exact h4
set_option maxHeartbeats 32000000 in
theorem one_law (HL : LiveC) (HBG : BegunC) (HV : ValidC) (w : World) (f view low : Int) (vb vv vsp : Value) (qss : List (List Q)) (vts : List (Vt × Nat)) (sps : List SpD) (fs : Int) (h : CI w f vb vv vsp view low qss vts) (hsp : SPs w (fun k => w.heap.size <= k) vsp sps) (hn : sps.length <= 1048576) (hd : ∀ d ∈ sps, d.ks.length <= 1048576 /\ d.batch < 256 /\ d.first < 256) (hin : ∀ v ∈ vts, InV (ofP v)) (hfs : 0 <= fs /\ fs < 65536) :
    Calls Tryz.prog 7 #[.agg #[.int .i64 f, vb, vv, vsp, .int .i64 view, .int .i64 low], .int .u16 fs] w fun e w' => e = .returned (.bool true) /\ Below w.heap.size w w' := by
  obtain ⟨Asp, csp, rfl⟩ := hsp.shape
  obtain ⟨Ab, cb, rfl⟩ := h.bs.shape
  obtain ⟨Av, cv, rfl, -⟩ := id h.vt
  have hb0 : Below w.heap.size w (w.alloc (.cells #[.int .i64 f, .slice Ab qss.length cb, .slice Av vts.length cv, .slice Asp sps.length csp, .int .i64 view, .int .i64 low] 26)) := (Below.refl _ w).alloc (Nat.le_refl _) _
  have hk0 : Blk (w.alloc (.cells #[.int .i64 f, .slice Ab qss.length cb, .slice Av vts.length cv, .slice Asp sps.length csp, .int .i64 view, .int .i64 low] 26)) w.heap.size 26 #[.int .i64 f, .slice Ab qss.length cb, .slice Av vts.length cv, .slice Asp sps.length csp, .int .i64 view, .int .i64 low] := Blk.new w _ _
  have HL := Lib.hid HL
  have HBG := Lib.hid HBG
  have HV := Lib.hid HV
  have HI := Lib.hid h
  have HSP := Lib.hid hsp
  have HIN := Lib.hid hin
  have HFS := Lib.hid hfs
  have HB0 := Lib.hid hb0
  have HK0 := Lib.hid hk0
  have HD := Lib.hid hd
  have hni : (sps.length : Int) <= 1048576 := by omega
  have hqi : (qss.length : Int) <= 1048576 := by have := h.hn; omega
  have hvi : (vts.length : Int) <= 1048576 := by have := h.hv; omega
  clear h hsp hb0 hk0 hd hin hfs
  go_enter Tryz.func7, Tryz.ntmps7
  go_wp2_with fail
  generalize w.alloc (.cells #[.int .i64 f, .slice Ab qss.length cb, .slice Av vts.length cv, .slice Asp sps.length csp, .int .i64 view, .int .i64 low] 26) = w0 at *
  refine (HL.out _).mono ?_
  rintro e w1 ⟨rfl, hb1⟩
  have HB1 := Lib.hid (HB0.out.trans (hb1.mono HB0.out.size))
  have HK1 := Lib.hid (HK0.out.below hb1 HK0.out.lt)
  obtain ⟨gc, hgc⟩ : ∃ gc, gc = w.heap.size := ⟨_, rfl⟩
  have HGO : Hid (w.heap.size <= gc) := Lib.hid (by omega)
  rw [<- hgc] at HK1 ⊢
  clear hb1 HB0 HK0 hgc HL
  have c0 := HK1.out.cell 0
  have c0' : w1.drew.cell? ⟨gc, 0, none⟩ = some (.int .i64 f) := HK1.out.cell 0
  simp only [List.getElem?_toArray, List.getElem?_cons_zero, List.getElem?_cons_succ] at c0
  cases hf : okF f
  . have hcp : checkP f = 120 := checkP_no (okF_no hf)
    have HQ : Hid (∀ n, Calls Tryz.prog 33 #[.int .i64 f] (w1.drewN n) fun e w' => e = .returned (.int .i64 120) /\ ∃ m, w' = w1.drewN m) := Lib.hid fun n => Calls.quiet_of_same ((rcheck_any (w1.drewN n) f).mono fun _ _ h => ⟨by rw [h.1, hcp], h.2.symm⟩)
    clear c0'
    go_wp2_with fail
    go_upto_region 3 with fail
    go_quiet ((go_at_call 33; exact HQ.out _))
    all_goals
      go_wp2_with fail
      go_ret
      exact ⟨rfl, below_drewN HB1.out _⟩
  . have hcp : checkP f = 0 := checkP_yes (by have := okF_yes hf; omega) (by have := okF_yes hf; omega)
    have HCK : Hid (∀ W, Calls Tryz.prog 33 #[.int .i64 f] W fun e w' => e = .returned (.int .i64 0) /\ W = w') := Lib.hid (fun W => (rcheck_any W f).mono fun _ _ h => ⟨by rw [h.1, hcp], h.2⟩)
    have HBS : Hid (0 <= allS f /\ allS f < 65536) := Lib.hid (of_in _)
    have HMN : Hid (0 <= bothS fs (allS f) /\ bothS fs (allS f) < 65536) := Lib.hid (of_in _)
    have hfp := okF_yes hf
    have KC : ∀ W, Below w1.heap.size w1 W -> W.cell? ⟨gc, 0, none⟩ = some (.int .i64 f) := fun W b => (HK1.out.below b HK1.out.lt).cell 0
    have HKC := Lib.hid KC
    clear KC
    have hb2 : Below w1.heap.size w1 w1.drew := show Below w1.heap.size w1 (w1.drewN 1) from below_drewN (Below.refl _ _) 1
    have HB2 := Lib.hid hb2
    clear hb2
    by_cases hmany : f < ((listS (bothS fs (allS f))).length : Int)
    . have hmd : decide (f < ((listS (bothS fs (allS f))).length : Int)) = true := decide_eq_true hmany
      clear hmany
      have HBOT : Hid (∀ W, Calls Tryz.prog 35 #[.int .u16 fs, .int .u16 (allS f)] W fun e w' => e = .returned (.int .u16 (bothS fs (allS f))) /\ Below W.heap.size W w') := Lib.hid (fun W => rboth_any W fs (allS f) HFS.out.1 HFS.out.2 HBS.out.1 HBS.out.2)
      generalize bothS fs (allS f) = bo at *
      go_wp2_with fail
      go_upto_region 3 with fail
      go_region_held3 (fun w' => w'.cell? ⟨gc, 0, none⟩ = some (.int .i64 f))
        (first | with_reducible exact c0' | with_reducible exact k3 | with_reducible exact k4 | with_reducible exact k5 | (go_keep; done))
        (first
        | (go_at_call 34; refine (rmany_any _ bo HMN.out.1 HMN.out.2).mono ?_; rintro e w5 ⟨rfl, hb⟩; have HB5 := Lib.hid (HB4.out.trans (hb.mono HB4.out.size)); have k5 := HKC.out _ HB5.out; clear hb)
        | (go_at_call 35; refine (HBOT.out _).mono ?_; rintro e w4 ⟨rfl, hb⟩; have HB4 := Lib.hid (HB3.out.trans (hb.mono HB3.out.size)); have k4 := HKC.out _ HB4.out; clear hb)
        | (go_at_call 36; refine (rall_any _ f).mono ?_; rintro e w3 ⟨rfl, hb⟩; have HB3 := Lib.hid (HB2.out.trans (hb.mono HB2.out.size)); have k3 := HKC.out _ HB3.out; clear hb)
        | (go_at_call 33; refine (HCK.out _).mono ?_; rintro e w2 ⟨rfl, rfl⟩))
      all_goals
        go_wp2_with fail
        go_ret
        exact ⟨rfl, HB1.out.trans (HB5.out.mono HB1.out.size)⟩
    . have hmd : decide (f < ((listS (bothS fs (allS f))).length : Int)) = false := decide_eq_false hmany
      have HMANY : Hid (((listS (bothS fs (allS f))).length : Int) <= f) := Lib.hid (by omega)
      clear hmany
      have HBOT : Hid (∀ W, Calls Tryz.prog 35 #[.int .u16 fs, .int .u16 (allS f)] W fun e w' => e = .returned (.int .u16 (bothS fs (allS f))) /\ Below W.heap.size W w') := Lib.hid (fun W => rboth_any W fs (allS f) HFS.out.1 HFS.out.2 HBS.out.1 HBS.out.2)
      generalize hbo : bothS fs (allS f) = bo at *
      have HBO := Lib.hid hbo
      clear hbo
      go_wp2_with fail
      go_upto_region 3 with fail
      go_region_held3 (fun w' => w'.cell? ⟨gc, 0, none⟩ = some (.int .i64 f))
        (first | with_reducible exact c0' | with_reducible exact k3 | with_reducible exact k4 | with_reducible exact k5 | (go_keep; done))
        (first
        | (go_at_call 34; refine (rmany_any _ bo HMN.out.1 HMN.out.2).mono ?_; rintro e w5 ⟨rfl, hb⟩; have HB5 := Lib.hid (HB4.out.trans (hb.mono HB4.out.size)); have k5 := HKC.out _ HB5.out; clear hb)
        | (go_at_call 35; refine (HBOT.out _).mono ?_; rintro e w4 ⟨rfl, hb⟩; have HB4 := Lib.hid (HB3.out.trans (hb.mono HB3.out.size)); have k4 := HKC.out _ HB4.out; clear hb)
        | (go_at_call 36; refine (rall_any _ f).mono ?_; rintro e w3 ⟨rfl, hb⟩; have HB3 := Lib.hid (HB2.out.trans (hb.mono HB2.out.size)); have k3 := HKC.out _ HB3.out; clear hb)
        | (go_at_call 33; refine (HCK.out _).mono ?_; rintro e w2 ⟨rfl, rfl⟩))
      all_goals
        have hb5 := HB1.out.trans (HB5.out.mono HB1.out.size)
        have HB6 := Lib.hid hb5
        have HK6 := Lib.hid (HK1.out.below HB5.out HK1.out.lt)
        clear hb5 HB5 HB2 HK1 HB1 HKC HCK HMN HBS
        have hmk : ∀ W : World, (Instr.makeMap 93 none).run Tryz.prog W = .ok (.map (some W.heap.size)) (W.alloc (.map #[] 0)) := fun W => by kernel_rfl
        obtain ⟨nm, hnm⟩ : ∃ nm : Nat, nm = min qss.length 200 := ⟨_, rfl⟩
        have hm0 : min (qss.length : Int) 200 = (nm : Int) := by omega
        have hm1 : IntKind.i64.wrap ((nm : Int) + 1) = (nm : Int) + 1 := Ga.wrap64 (by omega) (by omega)
        have hm2 : IntKind.u8.wrap ((nm : Int) + 1) = (nm : Int) + 1 := by
          have : IntKind.u8.wrap ((nm : Int) + 1) = ((nm : Int) + 1) % 256 := rfl
          omega
        have hm3 : (nm : Int) + 1 ≠ 0 := by omega
        have hm4 : (nm : Int) <= 200 := by omega
        have hm5 : (0 : Int) <= (nm : Int) := by omega
        have HNM := Lib.hid hnm
        clear hnm
        have b1 := HK6.out.cell 1
        have b2 := HK6.out.cell 2
        have hb7 : Below w5.heap.size w5 (w5.alloc (.map #[] 0)) := (Below.refl _ w5).alloc (Nat.le_refl _) _
        have b1' := (HK6.out.below hb7 HK6.out.lt).cell 1
        have b2' := (HK6.out.below hb7 HK6.out.lt).cell 2
        simp only [List.getElem?_toArray, List.getElem?_cons_zero, List.getElem?_cons_succ] at b1 b2 b1' b2'
        have HLO : Hid (LO w gc w5.heap.size #[.int .i64 f, .slice Ab qss.length cb, .slice Av vts.length cv, .slice Asp sps.length csp, .int .i64 view, .int .i64 low] (.slice none 0 0) (keptW (hasS fs) (nm + 1) (vts.take 0)) 0 (.map []) (w5.alloc (.map #[] 0))) := Lib.hid ⟨HB6.out.trans (hb7.mono HB6.out.size), HB6.out.size, HGO.out, HK6.out.below hb7 HK6.out.lt, World.ownsMap_made w5 _ _ _, NumB.empty, World.ownsRow_nil _ _ _ _⟩
        clear hb7
        go_wp2_with fail
        clear b1 b2 b1' b2'
        generalize w5.alloc (.map #[] 0) = w7 at *
        generalize w5.heap.size = mm at *
        go_loopw [6, 49] (fun v i wr => ∃ k : Nat, k <= vts.length /\ i = .int .i64 k /\ ∃ D, LO w gc mm #[.int .i64 f, .slice Ab qss.length cb, .slice Av vts.length cv, .slice Asp sps.length csp, .int .i64 view, .int .i64 low] v (keptW (hasS fs) (nm + 1) (vts.take k)) k D wr) (fun _ i _ => vts.length - (intOf i).toNat)
        case atStart => exact ⟨0, Nat.zero_le _, rfl, _, HLO.out⟩
        case round =>
          obtain ⟨k, hk, rfl, D, hlo⟩ := hrel
          clear HLO
          by_cases hkt : k < vts.length
          . have hkp : (0 : Int) <= (k : Int) := by omega
            have hkn : (k : Int) < (vts.length : Int) := by omega
            have hkd : decide ((k : Int) < (vts.length : Int)) = true := decide_eq_true hkn
            obtain ⟨av, rfl, a0, a1, a2, a3, a4⟩ := VL.at_ (Sl.after HI.out.vt hlo.hb) hkt
            have HST := Lib.hid (keptW_step (F := hasS fs) (n := nm + 1) hkt)
            have HKL := Lib.hid (keptW_len (F := hasS fs) (n := nm + 1) vts k hk)
            have HIX := Lib.hid (HIN.out _ (List.getElem_mem hkt))
            have hx8 := HI.out.h8 _ (List.getElem_mem hkt)
            have HKT := Lib.hid hkt
            have hk20 : k < 1048576 := by omega
            generalize vts[k] = x at *
            generalize keptW (hasS fs) (nm + 1) (vts.take k) = acc at *
            have g1 : Int.tmod (x.2 : Int) ((nm : Int) + 1) = ((x.2 % (nm + 1) : Nat) : Int) := by
              rw [Int.tmod_eq_emod_of_nonneg (by omega)]
              exact (Int.natCast_emod _ _).symm
            have hmlt : x.2 % (nm + 1) < nm + 1 := Nat.mod_lt _ (by omega)
            have HST2 : Hid (stepW (hasS fs) (nm + 1) acc x = (match Pso.hadV (acc.map ofP) (ofP (x.1, x.2 % (nm + 1))) with | some b => if b ≠ x.2 % (nm + 1) /\ hasS fs x.1.key = false then acc else acc ++ [(x.1, x.2 % (nm + 1))] | none => acc ++ [(x.1, x.2 % (nm + 1))])) := Lib.hid rfl
            generalize x.2 % (nm + 1) = mb at *
            have g2 : (mb : Int) < 256 := by omega
            have g3 : (0 : Int) <= (mb : Int) := by omega
            have g4 : (x.2 : Int) < 256 := by omega
            have HLO := Lib.hid hlo
            clear hlo hk hkt hx8 hmlt
            go_upto_region 13 with fail
            have hb9 : Below wr.heap.size wr ((wr.alloc (.cells #[.int .i64 x.1.key, .int .i64 x.1.kind, .int .i64 x.1.view, .int .i64 x.1.seq, .int .u8 (mb : Int)] 95)).alloc (.cells #[.int .i64 x.1.key, .int .i64 0, .int .i64 x.1.view, .int .i64 x.1.seq, .int .u8 0] 95)) := ((Below.refl _ wr).alloc (Nat.le_refl _) _).alloc (by simp) _
            have hx9 : Blk ((wr.alloc (.cells #[.int .i64 x.1.key, .int .i64 x.1.kind, .int .i64 x.1.view, .int .i64 x.1.seq, .int .u8 (mb : Int)] 95)).alloc (.cells #[.int .i64 x.1.key, .int .i64 0, .int .i64 x.1.view, .int .i64 x.1.seq, .int .u8 0] 95)) wr.heap.size 95 #[.int .i64 x.1.key, .int .i64 x.1.kind, .int .i64 x.1.view, .int .i64 x.1.seq, .int .u8 (mb : Int)] := (Blk.new wr _ _).alloc _
            have hy9 : Blk ((wr.alloc (.cells #[.int .i64 x.1.key, .int .i64 x.1.kind, .int .i64 x.1.view, .int .i64 x.1.seq, .int .u8 (mb : Int)] 95)).alloc (.cells #[.int .i64 x.1.key, .int .i64 0, .int .i64 x.1.view, .int .i64 x.1.seq, .int .u8 0] 95)) (wr.heap.size + 1) 95 #[.int .i64 x.1.key, .int .i64 0, .int .i64 x.1.view, .int .i64 x.1.seq, .int .u8 0] := by
              have := Blk.new (wr.alloc (.cells #[.int .i64 x.1.key, .int .i64 x.1.kind, .int .i64 x.1.view, .int .i64 x.1.seq, .int .u8 (mb : Int)] 95)) 95 #[.int .i64 x.1.key, .int .i64 0, .int .i64 x.1.view, .int .i64 x.1.seq, .int .u8 0]
              have e : (wr.alloc (.cells #[.int .i64 x.1.key, .int .i64 x.1.kind, .int .i64 x.1.view, .int .i64 x.1.seq, .int .u8 (mb : Int)] 95)).heap.size = wr.heap.size + 1 := by simp
              rw [e] at this
              exact this
            have HIV : Hid (InV (ofP (x.1, mb))) := Lib.hid ⟨HIX.out.k, HIX.out.v, HIX.out.s⟩
            have HNE : Hid (wr.heap.size ≠ mm) := Lib.hid (by have := HLO.out.mp.lt; omega)
            have HL9 := Lib.hid (HLO.out.later hb9)
            generalize (wr.alloc (.cells #[.int .i64 x.1.key, .int .i64 x.1.kind, .int .i64 x.1.view, .int .i64 x.1.seq, .int .u8 (mb : Int)] 95)).alloc (.cells #[.int .i64 x.1.key, .int .i64 0, .int .i64 x.1.view, .int .i64 x.1.seq, .int .u8 0] 95) = w9 at *
            have hlk : (Instr.lookup 93 (.map (some mm)) (.agg #[.int .i64 x.1.key, .int .i64 0, .int .i64 x.1.view, .int .i64 x.1.seq, .int .u8 0]) true).run Tryz.prog w9 = .ok (.tuple #[.int .u8 (((Pso.hadV (acc.map ofP) (ofP (x.1, mb))).getD 0 : Nat) : Int), .bool (Pso.hadV (acc.map ofP) (ofP (x.1, mb))).isSome]) w9 := HL9.out.look (ofP (x.1, mb)) HIV.out
            obtain ⟨p0, p1, p2, p3, p4⟩ := vote_cells hx9
            obtain ⟨y0, y1, y2, y3, y4⟩ := vote_cells hy9
            have HX9 := Lib.hid hx9
            have HKM : Hid (k < maxLen) := Lib.hid (by simp only [maxLen]; omega)
            have HWF : Hid ((Lit.int .u8 (mb : Int)).wf = true) := Lib.hid (by
              simp only [Lit.wf, Bool.and_eq_true, decide_eq_true_eq]
              have h1 : IntKind.u8.min = 0 := by decide
              have h2 : IntKind.u8.max = 255 := by decide
              omega)
            have HLEN : Hid (acc.length + 1 <= maxLen /\ (acc.length + 1) * 40 <= 140737488355328) := Lib.hid (by have := HKL.out; simp only [maxLen]; omega)
            obtain ⟨iv, hiv, hzv, hsv, hyv⟩ := info_parts info_vote
            have HIV5 := Lib.hid (And.intro hiv (And.intro hzv (And.intro hsv hyv)))
            obtain ⟨Ar, cr, rfl⟩ := own_shape HLO.out.row
            have HHS : Hid (∀ W, Calls Tryz.prog 37 #[.int .u16 fs, .int .i64 x.1.key] W fun e w' => e = .returned (.bool (hasS fs x.1.key)) /\ W = w') := Lib.hid (fun W => rhas_any W fs x.1.key HFS.out.1 HFS.out.2)
            clear hb9 hx9 hy9 hiv hzv hsv hyv
            generalize wr.heap.size + 1 = gk at *
            generalize wr.heap.size = gx at *
            cases hh : Pso.hadV (acc.map ofP) (ofP (x.1, mb)) with
            | none =>
              rw [hh] at hlk HST2
              simp only [Option.isSome, Option.getD] at hlk
              have HST3 : Hid (stepW (hasS fs) (nm + 1) acc x = acc ++ [(x.1, mb)]) := Lib.hid HST2.out
              clear hh
              go_wp2_with (first
                | (at_mapUpdate; refine wpList_mapUpdate_own (H := Unit) _ rfl _ _ _ 93 rfl 95 5 law_vote Tryz.underlying93 (plainElem Tryz.prog 5) mm k D rfl HL9.out.mp HKM.out _ _ (KVL (ofP (x.1, mb))) rfl rfl (key_vote (ofP (x.1, mb)) HIV.out) (.lit (.int .u8 (mb : Int))) [] (plainElem_int Tryz.underlying5 HWF.out) ?_; intro w10 hmap hgrow; have hk10 := HX9.out.ch (Ch.of_grown (S := fun k => k = mm) hgrow (fun k hk _ => by injection hk with hk; exact hk.symm)) HNE.out; obtain ⟨r0, r1, r2, r3, r4⟩ := vote_cells hk10; have HMAP := Lib.hid hmap; have HGR := Lib.hid hgrow; have HS11 := Lib.hid (five_cell (u := (x.1, mb)) (Blk.new w10 95 (VC (x.1, mb)).toArray)); have HB11 := Lib.hid ((Below.refl _ w10).alloc (Nat.le_refl _) (.cells (VC (x.1, mb)).toArray 95)); clear hmap hgrow hk10; unfold VC at HS11 HB11; dsimp only at HS11 HB11)
                | (at_builtin; refine wpList_append_sh _ rfl (.tmp 89) (.tmp 91) _ rfl w.heap.size 95 iv _ 5 40 Tryz.underlying23 HIV5.out.1 HIV5.out.2.1 HIV5.out.2.2.1 HIV5.out.2.2.2 rfl (by omega) _ _ _ rfl (lo_row HL9.out HGR.out HB11.out) _ _ 1 _ rfl HS11.out (VC_one (x.1, mb)) HLEN.out.1 HLEN.out.2 (Nat.le_trans (HL9.out.hb.size) (Nat.le_trans HGR.out.size HB11.out.size)) ?_; intro Aa ca wa happ; have HFIN := Lib.hid (LO.keep (u := (x.1, mb)) HL9.out HIV.out HMAP.out HGR.out HB11.out _ happ); clear happ))
              go_roundw
              case rel => exact ⟨k + 1, by have := HKT.out; omega, by go_num, _, by rw [HST.out, HST3.out]; exact HFIN.out⟩
              case measure => have := HKT.out; simp [intOf]; omega
            | some b =>
              rw [hh] at hlk HST2
              simp only [Option.isSome, Option.getD] at hlk
              clear hh
              by_cases hbm : b = mb
              . have HST3 : Hid (stepW (hasS fs) (nm + 1) acc x = acc ++ [(x.1, mb)]) := Lib.hid (by rw [HST2.out]; exact if_neg (fun h => h.1 hbm))
                have hbm2 : mb = b := hbm.symm
                subst hbm2
                clear hbm
                go_wp2_with (first
                  | (at_mapUpdate; refine wpList_mapUpdate_own (H := Unit) _ rfl _ _ _ 93 rfl 95 5 law_vote Tryz.underlying93 (plainElem Tryz.prog 5) mm k D rfl HL9.out.mp HKM.out _ _ (KVL (ofP (x.1, mb))) rfl rfl (key_vote (ofP (x.1, mb)) HIV.out) (.lit (.int .u8 (mb : Int))) [] (plainElem_int Tryz.underlying5 HWF.out) ?_; intro w10 hmap hgrow; have hk10 := HX9.out.ch (Ch.of_grown (S := fun k => k = mm) hgrow (fun k hk _ => by injection hk with hk; exact hk.symm)) HNE.out; obtain ⟨r0, r1, r2, r3, r4⟩ := vote_cells hk10; have HMAP := Lib.hid hmap; have HGR := Lib.hid hgrow; have HS11 := Lib.hid (five_cell (u := (x.1, mb)) (Blk.new w10 95 (VC (x.1, mb)).toArray)); have HB11 := Lib.hid ((Below.refl _ w10).alloc (Nat.le_refl _) (.cells (VC (x.1, mb)).toArray 95)); clear hmap hgrow hk10; unfold VC at HS11 HB11; dsimp only at HS11 HB11)
                  | (at_builtin; refine wpList_append_sh _ rfl (.tmp 89) (.tmp 91) _ rfl w.heap.size 95 iv _ 5 40 Tryz.underlying23 HIV5.out.1 HIV5.out.2.1 HIV5.out.2.2.1 HIV5.out.2.2.2 rfl (by omega) _ _ _ rfl (lo_row HL9.out HGR.out HB11.out) _ _ 1 _ rfl HS11.out (VC_one (x.1, mb)) HLEN.out.1 HLEN.out.2 (Nat.le_trans (HL9.out.hb.size) (Nat.le_trans HGR.out.size HB11.out.size)) ?_; intro Aa ca wa happ; have HFIN := Lib.hid (LO.keep (u := (x.1, mb)) HL9.out HIV.out HMAP.out HGR.out HB11.out _ happ); clear happ))
                go_roundw
                case rel => exact ⟨k + 1, by have := HKT.out; omega, by go_num, _, by rw [HST.out, HST3.out]; exact HFIN.out⟩
                case measure => have := HKT.out; simp [intOf]; omega
              . have he : ((b : Int) == (mb : Int)) = false := by rw [beq_eq_false_iff_ne]; omega
                have he2 : ¬ (b : Int) = (mb : Int) := by omega
                have he3 : ¬ b = mb := hbm
                cases hF : hasS fs x.1.key with
                | true =>
                  have HST3 : Hid (stepW (hasS fs) (nm + 1) acc x = acc ++ [(x.1, mb)]) := Lib.hid (by rw [HST2.out]; exact if_neg (fun h => by rw [hF] at h; cases h.2))
                  rw [hF] at HHS
                  clear hbm hF
                  go_wp2_with fail
                  refine (HHS.out w9).mono ?_
                  rintro e w' ⟨rfl, rfl⟩
                  go_wp2_with (first
                    | (at_mapUpdate; refine wpList_mapUpdate_own (H := Unit) _ rfl _ _ _ 93 rfl 95 5 law_vote Tryz.underlying93 (plainElem Tryz.prog 5) mm k D rfl HL9.out.mp HKM.out _ _ (KVL (ofP (x.1, mb))) rfl rfl (key_vote (ofP (x.1, mb)) HIV.out) (.lit (.int .u8 (mb : Int))) [] (plainElem_int Tryz.underlying5 HWF.out) ?_; intro w10 hmap hgrow; have hk10 := HX9.out.ch (Ch.of_grown (S := fun k => k = mm) hgrow (fun k hk _ => by injection hk with hk; exact hk.symm)) HNE.out; obtain ⟨r0, r1, r2, r3, r4⟩ := vote_cells hk10; have HMAP := Lib.hid hmap; have HGR := Lib.hid hgrow; have HS11 := Lib.hid (five_cell (u := (x.1, mb)) (Blk.new w10 95 (VC (x.1, mb)).toArray)); have HB11 := Lib.hid ((Below.refl _ w10).alloc (Nat.le_refl _) (.cells (VC (x.1, mb)).toArray 95)); clear hmap hgrow hk10; unfold VC at HS11 HB11; dsimp only at HS11 HB11)
                    | (at_builtin; refine wpList_append_sh _ rfl (.tmp 89) (.tmp 91) _ rfl w.heap.size 95 iv _ 5 40 Tryz.underlying23 HIV5.out.1 HIV5.out.2.1 HIV5.out.2.2.1 HIV5.out.2.2.2 rfl (by omega) _ _ _ rfl (lo_row HL9.out HGR.out HB11.out) _ _ 1 _ rfl HS11.out (VC_one (x.1, mb)) HLEN.out.1 HLEN.out.2 (Nat.le_trans (HL9.out.hb.size) (Nat.le_trans HGR.out.size HB11.out.size)) ?_; intro Aa ca wa happ; have HFIN := Lib.hid (LO.keep (u := (x.1, mb)) HL9.out HIV.out HMAP.out HGR.out HB11.out _ happ); clear happ))
                  go_roundw
                  case rel => exact ⟨k + 1, by have := HKT.out; omega, by go_num, _, by rw [HST.out, HST3.out]; exact HFIN.out⟩
                  case measure => have := HKT.out; simp [intOf]; omega
                | false =>
                  have HST3 : Hid (stepW (hasS fs) (nm + 1) acc x = acc) := Lib.hid (by rw [HST2.out]; exact if_pos ⟨hbm, hF⟩)
                  rw [hF] at HHS
                  clear hbm hF
                  go_wp2_with fail
                  refine (HHS.out w9).mono ?_
                  rintro e w' ⟨rfl, rfl⟩
                  go_wp2_with fail
                  go_roundw
                  case rel => exact ⟨k + 1, by have := HKT.out; omega, by go_num, _, by rw [HST.out, HST3.out]; exact lo_more HL9.out⟩
                  case measure => have := HKT.out; simp [intOf]; omega
          . have hke : k = vts.length := by omega
            subst hke
            rw [List.take_length] at hlo
            have hkf : decide ((vts.length : Int) < (vts.length : Int)) = false := decide_eq_false (by omega)
            have HKL : Hid ((keptW (hasS fs) (nm + 1) vts).length <= vts.length) := Lib.hid (by
              have := keptW_len (F := hasS fs) (n := nm + 1) vts vts.length (Nat.le_refl _)
              rwa [List.take_length] at this)
            have HKT : Hid (∀ v ∈ keptW (hasS fs) (nm + 1) vts, v.2 < nm + 1) := Lib.hid (keptW_lt (by omega) vts [] (fun v hv => by simp at hv))
            have HK1 : Hid (Pso.OneV (hasS fs) ((keptW (hasS fs) (nm + 1) vts).map (Psq.toV (nm + 1)))) := Lib.hid (by
              rw [toV_kept (by omega)]
              exact keptW_one vts [] (fun a ha => by simp at ha))
            generalize keptW (hasS fs) (nm + 1) vts = kp at *
            obtain ⟨Ar, cr, rfl⟩ := own_shape hlo.row
            have hcap : (nm : Int) <= (cb : Int) /\ (qss.length : Int) <= (cb : Int) := by
              obtain ⟨vals, h0, ⟨A, c, hv, hl, hc, _⟩, _⟩ := HI.out.bs
              injection hv with e1 e2 e3
              omega
            obtain ⟨hcap1, hcap2⟩ := hcap
            have d1 := hlo.kc.cell 1
            have d2 := hlo.kc.cell 2
            have e1 := hlo.kc.frozen 1
            have e2 := hlo.kc.frozen 2
            simp only [List.getElem?_toArray, List.getElem?_cons_zero, List.getElem?_cons_succ] at d1 d2
            have HLO := Lib.hid hlo
            clear hlo hk hkt
            go_wp2_with fail
            go_upto_region 18 with fail
            go_cut [6] (fun s6 wx => s6 = .slice Ar kp.length cr /\ Below w.heap.size w wx /\ Blk wx gc 26 #[.int .i64 f, .slice Ab nm cb, .slice Ar kp.length cr, .slice Asp sps.length csp, .int .i64 view, .int .i64 low] /\ wx.ownsRow w.heap.size 95 5 (.slice Ar kp.length cr) kp.length (kp.flatMap VC))
            case first =>
              have HPRE : Hid (∀ W, Blk W gc 26 #[.int .i64 f, .slice Ab nm cb, .slice Ar kp.length cr, .slice Asp sps.length csp, .int .i64 view, .int .i64 low] -> Ch (fun k => k = gc) wr W -> Below w.heap.size w W /\ Blk W gc 26 #[.int .i64 f, .slice Ab nm cb, .slice Ar kp.length cr, .slice Asp sps.length csp, .int .i64 view, .int .i64 low] /\ W.ownsRow w.heap.size 95 5 (.slice Ar kp.length cr) kp.length (kp.flatMap VC)) := Lib.hid (fun W hk cc => ⟨Psv.ch_under HLO.out.hb cc (fun k hk hx => by have := HGO.out; omega) (Nat.le_refl _), hk, own_ch HLO.out.row cc (fun k hk hx => own_far HLO.out.row HLO.out.kc (by decide) (by rw [<- hx]; exact hk))⟩)
              have HA : Hid (Blk (((wr.setCell ⟨gc, 2, none⟩ (.slice Ar kp.length cr)).setCell ⟨gc, 1, none⟩ (.slice Ab nm cb))) gc 26 #[.int .i64 f, .slice Ab nm cb, .slice Ar kp.length cr, .slice Asp sps.length csp, .int .i64 view, .int .i64 low] /\ Blk (((wr.setCell ⟨gc, 1, none⟩ (.slice Ab nm cb)).setCell ⟨gc, 2, none⟩ (.slice Ar kp.length cr))) gc 26 #[.int .i64 f, .slice Ab nm cb, .slice Ar kp.length cr, .slice Asp sps.length csp, .int .i64 view, .int .i64 low]) := Lib.hid ⟨by
                have := (HLO.out.kc.set_ 2 (.slice Ar kp.length cr)).set_ 1 (.slice Ab nm cb)
                simpa using this, by
                have := (HLO.out.kc.set_ 1 (.slice Ab nm cb)).set_ 2 (.slice Ar kp.length cr)
                simpa using this⟩
              have HC : Hid (Ch (fun k => k = gc) wr ((wr.setCell ⟨gc, 2, none⟩ (.slice Ar kp.length cr)).setCell ⟨gc, 1, none⟩ (.slice Ab nm cb)) /\ Ch (fun k => k = gc) wr ((wr.setCell ⟨gc, 1, none⟩ (.slice Ab nm cb)).setCell ⟨gc, 2, none⟩ (.slice Ar kp.length cr))) := Lib.hid ⟨((Ch.refl (fun k => k = gc) wr).setCell (p := ⟨gc, 2, none⟩) (fun _ => rfl) _).setCell (p := ⟨gc, 1, none⟩) (fun _ => rfl) _, ((Ch.refl (fun k => k = gc) wr).setCell (p := ⟨gc, 1, none⟩) (fun _ => rfl) _).setCell (p := ⟨gc, 2, none⟩) (fun _ => rfl) _⟩
              go_region_law (first | fail)
              all_goals
                go_wp2_with fail
                go_meet
                first
                  | exact ⟨rfl, HPRE.out _ HA.out.1 (HC.out.1.drew)⟩
                  | exact ⟨rfl, HPRE.out _ HA.out.2 (HC.out.2.drew)⟩
            case rest =>
              obtain ⟨rfl, hb18, hk18, hr18⟩ := hcut
              have HCI : Hid (CI wc f (.slice Ab nm cb) (.slice Ar kp.length cr) (.slice Asp sps.length csp) view low (qss.take nm) kp) := Lib.hid (by
                have hnle : nm <= qss.length := by omega
                refine ⟨?_, Psu.sl_under (Sl.of_own' (X := fun _ => False) hr18 (fun _ _ h => h)), fun qs hqs => HI.out.hq qs (List.mem_of_mem_take hqs), ?_, ?_, fun v hv => ?_⟩
                . exact qq_upto (HI.out.later hb18).bs hnle
                . have := HI.out.hn; rw [List.length_take]; omega
                . have := HKL.out; have := HI.out.hv; omega
                . have := HKT.out v hv; omega)
              have HB18 := Lib.hid hb18
              have HK18 := Lib.hid hk18
              have x0 := hk18.cell 0
              have x1 := hk18.cell 1
              have x2 := hk18.cell 2
              have x3 := hk18.cell 3
              have x4 := hk18.cell 4
              have x5 := hk18.cell 5
              simp only [List.getElem?_toArray, List.getElem?_cons_zero, List.getElem?_cons_succ] at x0 x1 x2 x3 x4 x5
              clear hb18 hk18 hr18 HLO d1 d2 e1 e2
              go_wp2_with fail
              refine (HBG.out wc f view low _ _ _ _ _ HCI.out).mono ?_
              rintro e w2 ⟨hb2, q, p, g, p', g', sb, sd, sg, rfl, hs2⟩
              have HZ := Lib.hid (bz_ok HCI.out)
              have hds : (madeB ([] :: qss.take nm)).ds.length = nm + 1 := by
                have hm : ∀ qs ∈ ([] :: qss.take nm), qs.length <= 1048576 := fun qs hqs => by
                  rcases List.mem_cons.1 hqs with rfl | hqs
                  . simp
                  . exact (HI.out.hq qs (List.mem_of_mem_take hqs)).1
                have h1 := (madeB_len hm ([] :: qss.take nm).length (Nat.le_refl _)).2.2
                rw [List.take_length, List.length_cons, List.length_take] at h1
                omega
              have HONE : Hid (∀ P P', validP (votesV (madeB ([] :: qss.take nm)) kp).L (votesV (madeB ([] :: qss.take nm)) kp).G f P = true -> validP (votesV (madeB ([] :: qss.take nm)) kp).L (votesV (madeB ([] :: qss.take nm)) kp).G f P' = true -> P.view = P'.view -> P.seq = P'.seq -> P.dig = P'.dig) := Lib.hid (fun P P' h h' hv hq => Psq.one_begun (faulty := fs) (by rw [hds]; exact HK1.out) (by rw [HBO.out]; exact HMANY.out) h h' hv hq)
              have hk2 := HK18.out.below hb2 HK18.out.lt
              have HPV : Hid (Ptb.PV w2.heap.size gc f view low (.slice Ab nm cb) (.slice Ar kp.length cr) (.slice Asp sps.length csp) q p g p' g' (madeB ([] :: qss.take nm)) (votesV (madeB ([] :: qss.take nm)) kp) sb sd sg w (.slice none 0 0) [] [] w2) := Lib.hid ⟨hs2, hk2, hk2.lt, (HB18.out.trans (hb2.mono HB18.out.size)).size, HB18.out.trans (hb2.mono HB18.out.size), VS.nil _ _⟩
              have z3 := hk2.cell 3
              simp only [List.getElem?_toArray, List.getElem?_cons_zero, List.getElem?_cons_succ] at z3
              have HSP2 : Hid (∀ W, Below w.heap.size w W -> SPs W (fun k => w.heap.size <= k) (.slice Asp sps.length csp) sps) := Lib.hid (fun W b => HSP.out.after b)
              clear hb2 hs2 hk2 hds HB18 HK18 HCI x0 x1 x2 x3 x4 x5 HI HBG HSP HKL HKT HK1 HBO HMANY hcap1 hcap2
              generalize madeB ([] :: qss.take nm) = z at *
              generalize votesV z kp = x at *
              generalize w2.heap.size = B at *
              go_wp2_with fail
              clear z3
              go_loopw [14, 109] (fun v i wr => ∃ k : Nat, k <= sps.length /\ i = .int .i64 k /\ ∃ l rs, l.length <= k /\ (∀ P ∈ l, validP x.L x.G f P = true) /\ Ptb.PV B gc f view low (.slice Ab nm cb) (.slice Ar kp.length cr) (.slice Asp sps.length csp) q p g p' g' z x sb sd sg w v l rs wr) (fun _ i _ => sps.length - (intOf i).toNat)
              case atStart => exact ⟨0, Nat.zero_le _, rfl, [], [], by simp, fun P h => by simp at h, HPV.out⟩
              case round =>
                obtain ⟨k, hk, rfl, l, ps, hlk, hall, hpv⟩ := hrel
                clear HPV
                by_cases hkt : k < sps.length
                . have hkp : (0 : Int) <= (k : Int) := by omega
                  have hkn : (k : Int) < (sps.length : Int) := by omega
                  have hkd : decide ((k : Int) < (sps.length : Int)) = true := decide_eq_true hkn
                  obtain ⟨asp, rs, rfl, s0, s1, s2, s3, s4, s5, hks⟩ := (HSP2.out _ hpv.hb).at_ hkt
                  have HDK := Lib.hid (HD.out _ (List.getElem_mem hkt))
                  have HKT := Lib.hid hkt
                  have HLK := Lib.hid hlk
                  have HALL := Lib.hid hall
                  generalize sps[k] = d at *
                  have HPV := Lib.hid hpv
                  have hbx : Below wr.heap.size wr (wr.alloc (.cells #[.int .i64 d.view, .int .i64 d.seq, .int .u8 (d.batch : Int), .int .i64 d.dig, .int .u8 (d.first : Int), .slice rs.1 d.ks.length rs.2] 34)) := (Below.refl _ wr).alloc (Nat.le_refl _) _
                  have HM := Lib.hid (made_any (wr.alloc (.cells #[.int .i64 d.view, .int .i64 d.seq, .int .u8 (d.batch : Int), .int .i64 d.dig, .int .u8 (d.first : Int), .slice rs.1 d.ks.length rs.2] 34)) B q p g p' g' z x sb sd sg d.sp _ rs.1 rs.2 d.ks (hpv.later hbx).st (hks.after hbx) rfl HDK.out.2.1 HDK.out.2.2 HZ.out.b1 HZ.out.b2 HZ.out.b3 HZ.out.b4 HZ.out.b5 (by have := HDK.out.1; omega))
                  have HPX := Lib.hid (hpv.later hbx)
                  have hs47 : l.length <= 1048576 := by omega
                  have hp : okP (madeP z x.ss d.sp) := madeP_ok HZ.out.ok (by simp only [SpD.sp, List.length_map]; have := HDK.out.1; omega)
                  have HOKP := Lib.hid hp
                  obtain ⟨Av2, cv0, rfl⟩ := own_shape hpv.vs.row
                  clear hpv hbx hks hk hkt hp hlk hall
                  go_wp2_with fail
                  have hzx : (wr.alloc (.cells #[.int .i64 d.view, .int .i64 d.seq, .int .u8 (d.batch : Int), .int .i64 d.dig, .int .u8 (d.first : Int), .slice rs.1 d.ks.length rs.2] 34)).heap.size = wr.heap.size + 1 := by simp
                  generalize wr.alloc (.cells #[.int .i64 d.view, .int .i64 d.seq, .int .u8 (d.batch : Int), .int .i64 d.dig, .int .u8 (d.first : Int), .slice rs.1 d.ks.length rs.2] 34) = wx at *
                  refine HM.out.mono ?_
                  rintro e w3 ⟨r, rfl, hb3, hp3⟩
                  have HLT : Hid (∀ k, (Value.slice Av2 l.length cv0).ownBlock = some k -> B <= k /\ k < wx.heap.size) := Lib.hid (fun k hk => by
                    have := HPV.out.vs.row.lt k hk
                    exact ⟨this.1, by omega⟩)
                  have HP3 : Hid (PI w3 (fun k => (Value.slice Av2 l.length cv0).ownBlock = some k) (madeP z x.ss d.sp) r) := Lib.hid (hp3.weaken (fun k _ hk => HLT.out k hk))
                  have HX3 := Lib.hid (HPX.out.later hb3)
                  have HZ3 : Hid (wx.heap.size <= w3.heap.size) := Lib.hid hb3.size
                  clear hb3 hp3 HM HPV HPX hzx
                  generalize madeP z x.ss d.sp = P at *
                  unfold PC
                  obtain ⟨ip, hip, hzp, hsp, hyp⟩ := info_parts Ptb.info_prep
                  have HIP := Lib.hid (And.intro hip (And.intro hzp (And.intro hsp hyp)))
                  have b4 : Below w3.heap.size w3 (w3.alloc (.cells #[.int .i64 P.view, .int .i64 P.seq, .int .i64 P.dig, .int .i64 P.first.1, .int .i64 P.first.2, .slice r.1.1 P.signs.length r.1.2, .slice r.2.1 P.batch.length r.2.2] 41)) := (Below.refl _ w3).alloc (Nat.le_refl _) _
                  have HPX : Hid (Ptb.PX B gc f view low (.slice Ab nm cb) (.slice Ar kp.length cr) (.slice (some asp) sps.length csp) q p g p' g' z x sb sd sg w (.slice Av2 l.length cv0) l ps w3.heap.size P r (w3.alloc (.cells #[.int .i64 P.view, .int .i64 P.seq, .int .i64 P.dig, .int .i64 P.first.1, .int .i64 P.first.2, .slice r.1.1 P.signs.length r.1.2, .slice r.2.1 P.batch.length r.2.2] 41))) := Lib.hid ⟨HX3.out.later b4, Blk.new w3 _ _, (HP3.out.after b4).weaken (fun _ _ h => h.elim)⟩
                  have HP4 := Lib.hid (HP3.out.after b4)
                  clear b4 hip hzp hsp hyp HX3 HP3
                  go_wp2_with fail
                  generalize hw4 : w3.alloc (.cells #[.int .i64 P.view, .int .i64 P.seq, .int .i64 P.dig, .int .i64 P.first.1, .int .i64 P.first.2, .slice r.1.1 P.signs.length r.1.2, .slice r.2.1 P.batch.length r.2.2] 41) = w4 at *
                  clear hw4
                  have HCL : Hid (∀ W, Ptb.PX B gc f view low (.slice Ab nm cb) (.slice Ar kp.length cr) (.slice (some asp) sps.length csp) q p g p' g' z x sb sd sg w (.slice Av2 l.length cv0) l ps w3.heap.size P r W -> (W.cell? ⟨q, 0, none⟩ = some (.pointer (some ⟨p, 0, none⟩)) /\ W.cell? ⟨q, 1, none⟩ = some (.pointer (some ⟨g, 0, none⟩)) /\ W.cell? ⟨q, 2, none⟩ = some (.pointer (some ⟨p', 0, none⟩)) /\ W.cell? ⟨q, 3, none⟩ = some (.pointer (some ⟨g', 0, none⟩)) /\ W.cell? ⟨gc, 0, none⟩ = some (.int .i64 f) /\ W.cell? ⟨w3.heap.size, 0, none⟩ = some (.int .i64 P.view) /\ W.cell? ⟨w3.heap.size, 1, none⟩ = some (.int .i64 P.seq) /\ W.cell? ⟨w3.heap.size, 2, none⟩ = some (.int .i64 P.dig) /\ W.cell? ⟨w3.heap.size, 3, none⟩ = some (.int .i64 P.first.1) /\ W.cell? ⟨w3.heap.size, 4, none⟩ = some (.int .i64 P.first.2) /\ W.cell? ⟨w3.heap.size, 5, none⟩ = some (.slice r.1.1 P.signs.length r.1.2) /\ W.cell? ⟨w3.heap.size, 6, none⟩ = some (.slice r.2.1 P.batch.length r.2.2))) := Lib.hid (fun W h => h.cells)
                  have HX8 : Hid (Ptb.PX B gc f view low (.slice Ab nm cb) (.slice Ar kp.length cr) (.slice (some asp) sps.length csp) q p g p' g' z x sb sd sg w (.slice Av2 l.length cv0) l ps w3.heap.size P r w4.drew) := Lib.hid (HPX.out.later (below_drewN (Below.refl _ _) 1))
                  have HP8 : Hid (PI w4.drew (fun k => (Value.slice Av2 l.length cv0).ownBlock = some k) P r) := Lib.hid (HP4.out.after (below_drewN (Below.refl _ _) 1))
                  have HVA : Hid (Calls Tryz.prog 12 #[.pointer (some ⟨p, 0, none⟩), .pointer (some ⟨g, 0, none⟩), .int .i64 f, .agg #[.int .i64 P.view, .int .i64 P.seq, .int .i64 P.dig, .int .i64 P.first.1, .int .i64 P.first.2, .slice r.1.1 P.signs.length r.1.2, .slice r.2.1 P.batch.length r.2.2]] w4.drew fun e w' => e = .returned (.bool (validP x.L x.G f P)) /\ Below w4.drew.heap.size w4.drew w') := Lib.hid (HV.out w4.drew _ _ p g x.L x.G f P r HX8.out.1.st.tl HX8.out.2.2 HOKP.out HZ.out.hG)
                  have C8 := HCL.out _ HX8.out
                  clear HPX HP4
                  cases hbv : validP x.L x.G f P
                  all_goals
                    rw [hbv] at HVA
                    go_upto_region 25 with fail
                    go_region_held3 (fun w' => w'.cell? ⟨q, 0, none⟩ = some (.pointer (some ⟨p, 0, none⟩)) /\ w'.cell? ⟨q, 1, none⟩ = some (.pointer (some ⟨g, 0, none⟩)) /\ w'.cell? ⟨q, 2, none⟩ = some (.pointer (some ⟨p', 0, none⟩)) /\ w'.cell? ⟨q, 3, none⟩ = some (.pointer (some ⟨g', 0, none⟩)) /\ w'.cell? ⟨gc, 0, none⟩ = some (.int .i64 f) /\ w'.cell? ⟨w3.heap.size, 0, none⟩ = some (.int .i64 P.view) /\ w'.cell? ⟨w3.heap.size, 1, none⟩ = some (.int .i64 P.seq) /\ w'.cell? ⟨w3.heap.size, 2, none⟩ = some (.int .i64 P.dig) /\ w'.cell? ⟨w3.heap.size, 3, none⟩ = some (.int .i64 P.first.1) /\ w'.cell? ⟨w3.heap.size, 4, none⟩ = some (.int .i64 P.first.2) /\ w'.cell? ⟨w3.heap.size, 5, none⟩ = some (.slice r.1.1 P.signs.length r.1.2) /\ w'.cell? ⟨w3.heap.size, 6, none⟩ = some (.slice r.2.1 P.batch.length r.2.2))
                      (first | with_reducible exact C8 | with_reducible exact C9 | (go_keep; done))
                      (first
                      | (go_at_call 12; refine HVA.out.mono ?_; rintro e w5 ⟨rfl, hb⟩; have HX9 := Lib.hid (HX8.out.later hb); have C9 := HCL.out _ HX9.out; have HP9 := Lib.hid (HP8.out.after hb); clear hb))
                  . go_wp2_with fail
                    go_roundw
                    case rel => exact ⟨k + 1, by have := HKT.out; omega, by go_num, l, ps, by have := HLK.out; omega, HALL.out, HX9.out.1⟩
                    case measure => have := HKT.out; simp [intOf]; omega
                  . have b6 : Below w5.heap.size w5 (w5.alloc (.cells #[.int .i64 P.view, .int .i64 P.seq, .int .i64 P.dig, .int .i64 P.first.1, .int .i64 P.first.2, .slice r.1.1 P.signs.length r.1.2, .slice r.2.1 P.batch.length r.2.2] 41)) := (Below.refl _ w5).alloc (Nat.le_refl _) _
                    have k6 : Blk (w5.alloc (.cells #[.int .i64 P.view, .int .i64 P.seq, .int .i64 P.dig, .int .i64 P.first.1, .int .i64 P.first.2, .slice r.1.1 P.signs.length r.1.2, .slice r.2.1 P.batch.length r.2.2] 41)) w5.heap.size 41 (PC P r) := Blk.new w5 _ _
                    have HS6 := Lib.hid (Ptb.seven_cell k6)
                    have HX6 := Lib.hid (HX9.out.1.later b6)
                    have HP6 := Lib.hid (HP9.out.after b6)
                    have HONE7 := Lib.hid (PC_one P r)
                    obtain ⟨-, -, -, -, -, u0, u1, u2, u3, u4, u5, u6⟩ := C9
                    clear b6 k6
                    unfold PC at HS6 HONE7
                    go_wp2_with (at_builtin; refine wpList_append_sh _ rfl (.tmp 128) (.tmp 130) _ rfl B 41 ip _ 7 88 Tryz.underlying30 HIP.out.1 HIP.out.2.1 HIP.out.2.2.1 HIP.out.2.2.2 rfl (by omega) _ _ _ rfl HX6.out.vs.row _ _ 1 _ rfl HS6.out HONE7.out (by simp only [maxLen]; omega) (by omega) HX6.out.st.hB ?_; intro Aa ca wa happ)
                    have hpa := (HX6.out.push HP6.out happ).1
                    have HPA := Lib.hid hpa
                    clear happ hpa
                    go_roundw
                    case rel => exact ⟨k + 1, by have := HKT.out; omega, by go_num, l ++ [P], ps ++ [r], by rw [List.length_append, List.length_singleton]; have := HLK.out; omega, fun P' hP' => by
                      rcases List.mem_append.1 hP' with hP' | hP'
                      . exact HALL.out P' hP'
                      . rw [List.mem_singleton.1 hP']; exact hbv, HPA.out⟩
                    case measure => have := HKT.out; simp [intOf]; omega
                . have hke : k = sps.length := by omega
                  subst hke
                  have hkf : decide ((sps.length : Int) < (sps.length : Int)) = false := decide_eq_false (by omega)
                  obtain ⟨Av2, cv0, rfl⟩ := own_shape hpv.vs.row
                  have HALL := Lib.hid hall
                  have hll : (l.length : Int) <= 1048576 := by omega
                  have hcp0 : l.length <= cv0 := by
                    obtain ⟨ps', _, ⟨A, c, hv, _, hc, _⟩⟩ := hpv.vs.pl
                    injection hv with e1 e2 e3
                    omega
                  have hcp : (l.length : Int) <= (cv0 : Int) := by omega
                  have HPV := Lib.hid hpv
                  clear hpv hall hk hkt hlk hcp0
                  go_wp2_with fail
                  go_loopw [135] (fun i wr => ∃ k : Nat, k <= l.length /\ i = .int .i64 k /\ Ptb.PV B gc f view low (.slice Ab nm cb) (.slice Ar kp.length cr) (.slice Asp sps.length csp) q p g p' g' z x sb sd sg w (.slice Av2 l.length cv0) l ps wr) (fun i _ => l.length - (intOf i).toNat)
                  case atStart => exact ⟨0, Nat.zero_le _, rfl, HPV.out⟩
                  case round =>
                    obtain ⟨k, hk, rfl, hpv⟩ := hrel
                    clear HPV
                    by_cases hkt : k < l.length
                    . have hkp : (0 : Int) <= (k : Int) := by omega
                      have hkn : (k : Int) < (l.length : Int) := by omega
                      have hkd : decide ((k : Int) < (l.length : Int)) = true := decide_eq_true hkn
                      have hkc : (k : Int) <= (cv0 : Int) := by omega
                      obtain ⟨al, r, rfl, ⟨a0, a1, a2, a3, a4, a5, a6⟩, -⟩ := hpv.vs.pl.at_ hkt
                      have HP1 := Lib.hid (HALL.out _ (List.getElem_mem hkt))
                      have HKT := Lib.hid hkt
                      have hbx : Below wr.heap.size wr (wr.alloc (.cells #[.int .i64 l[k].view, .int .i64 l[k].seq, .int .i64 l[k].dig, .int .i64 l[k].first.1, .int .i64 l[k].first.2, .slice r.1.1 l[k].signs.length r.1.2, .slice r.2.1 l[k].batch.length r.2.2] 41)) := (Below.refl _ wr).alloc (Nat.le_refl _) _
                      have HPB := Lib.hid (hpv.later hbx)
                      have HKB : Hid (Blk (wr.alloc (.cells #[.int .i64 l[k].view, .int .i64 l[k].seq, .int .i64 l[k].dig, .int .i64 l[k].first.1, .int .i64 l[k].first.2, .slice r.1.1 l[k].signs.length r.1.2, .slice r.2.1 l[k].batch.length r.2.2] 41)) wr.heap.size 41 (PC l[k] r)) := Lib.hid (Blk.new wr _ _)
                      unfold PC at HKB
                      generalize hlk : l[k] = P at *
                      clear hlk hpv hbx hk hkt
                      go_wp2_with fail
                      generalize hwx : wr.alloc (.cells #[.int .i64 P.view, .int .i64 P.seq, .int .i64 P.dig, .int .i64 P.first.1, .int .i64 P.first.2, .slice r.1.1 P.signs.length r.1.2, .slice r.2.1 P.batch.length r.2.2] 41) = wx at *
                      generalize hgx : wr.heap.size = gx at *
                      clear hwx hgx
                      go_loopw [144] (fun i wr => ∃ j : Nat, j <= k /\ i = .int .i64 j /\ Ptb.PV B gc f view low (.slice Ab nm cb) (.slice Ar kp.length cr) (.slice Asp sps.length csp) q p g p' g' z x sb sd sg w (.slice (some al) l.length cv0) l ps wr /\ Blk wr gx 41 #[.int .i64 P.view, .int .i64 P.seq, .int .i64 P.dig, .int .i64 P.first.1, .int .i64 P.first.2, .slice r.1.1 P.signs.length r.1.2, .slice r.2.1 P.batch.length r.2.2]) (fun i _ => k - (intOf i).toNat)
                      case atStart => exact ⟨0, Nat.zero_le _, rfl, HPB.out, HKB.out⟩
                      case round =>
                        obtain ⟨j, hj, rfl, hpv, hkb⟩ := hrel
                        clear HPB HKB
                        by_cases hjt : j < k
                        . have hjp : (0 : Int) <= (j : Int) := by omega
                          have hjn : (j : Int) < (k : Int) := by omega
                          have hjd : decide ((j : Int) < (k : Int)) = true := decide_eq_true hjn
                          have hjl : j < l.length := by have := HKT.out; omega
                          obtain ⟨al2, r2, hal, ⟨b0, b1, b2, b3, b4, b5, b6⟩, -⟩ := hpv.vs.pl.at_ hjl
                          injection hal with hal
                          subst hal
                          have HP2 := Lib.hid (HALL.out _ (List.getElem_mem hjl))
                          have HJT := Lib.hid hjt
                          have hby : Below wr.heap.size wr (wr.alloc (.cells #[.int .i64 l[j].view, .int .i64 l[j].seq, .int .i64 l[j].dig, .int .i64 l[j].first.1, .int .i64 l[j].first.2, .slice r2.1.1 l[j].signs.length r2.1.2, .slice r2.2.1 l[j].batch.length r2.2.2] 41)) := (Below.refl _ wr).alloc (Nat.le_refl _) _
                          have HPC := Lib.hid (hpv.later hby)
                          have hkb2 := hkb.below hby hkb.lt
                          have hkn2 : Blk (wr.alloc (.cells #[.int .i64 l[j].view, .int .i64 l[j].seq, .int .i64 l[j].dig, .int .i64 l[j].first.1, .int .i64 l[j].first.2, .slice r2.1.1 l[j].signs.length r2.1.2, .slice r2.2.1 l[j].batch.length r2.2.2] 41)) wr.heap.size 41 #[.int .i64 l[j].view, .int .i64 l[j].seq, .int .i64 l[j].dig, .int .i64 l[j].first.1, .int .i64 l[j].first.2, .slice r2.1.1 l[j].signs.length r2.1.2, .slice r2.2.1 l[j].batch.length r2.2.2] := Blk.new wr _ _
                          have p0 := hkb2.cell 0
                          have p1 := hkb2.cell 1
                          have p2 := hkb2.cell 2
                          have q0 := hkn2.cell 0
                          have q1 := hkn2.cell 1
                          have q2 := hkn2.cell 2
                          simp only [List.getElem?_toArray, List.getElem?_cons_zero, List.getElem?_cons_succ] at p0 p1 p2 q0 q1 q2
                          have HKB2 := Lib.hid hkb2
                          generalize hlj : l[j] = P2 at *
                          clear hlj hpv hkb hby hkb2 hkn2 hj hjt hjl
                          by_cases hvv : P.view = P2.view
                          . by_cases hss : P.seq = P2.seq
                            . have hdd : P.dig = P2.dig := HONE.out P P2 HP1.out HP2.out hvv hss
                              rw [hvv] at p0
                              rw [hss] at p1
                              rw [hdd] at p2
                              clear hvv hss hdd
                              go_wp2_with fail
                              go_roundw
                              case rel => exact ⟨j + 1, by have := HJT.out; omega, by go_num, HPC.out, HKB2.out⟩
                              case measure => have := HJT.out; simp [intOf]; omega
                            . have f1 : (P.seq == P2.seq) = false := by rw [beq_eq_false_iff_ne]; exact hss
                              rw [hvv] at p0
                              clear hvv
                              go_wp2_with fail
                              go_roundw
                              case rel => exact ⟨j + 1, by have := HJT.out; omega, by go_num, HPC.out, HKB2.out⟩
                              case measure => have := HJT.out; simp [intOf]; omega
                          . have f1 : (P.view == P2.view) = false := by rw [beq_eq_false_iff_ne]; exact hvv
                            go_wp2_with fail
                            go_roundw
                            case rel => exact ⟨j + 1, by have := HJT.out; omega, by go_num, HPC.out, HKB2.out⟩
                            case measure => have := HJT.out; simp [intOf]; omega
                        . have hjf : decide ((j : Int) < (k : Int)) = false := decide_eq_false (by omega)
                          have HPC := Lib.hid hpv
                          clear hpv hkb hj
                          go_wp2_with fail
                          go_roundw
                          case rel => exact ⟨k + 1, by have := HKT.out; omega, by go_num, HPC.out⟩
                          case measure => have := HKT.out; simp [intOf]; omega
                    . have hkf2 : decide ((k : Int) < (l.length : Int)) = false := decide_eq_false (by omega)
                      have HPC := Lib.hid hpv
                      clear hpv hk
                      go_wp2_with fail
                      go_ret
                      exact ⟨rfl, HPC.out.hb⟩
end Go.Proofs.YtmhmnkpaijoaaaaGreat.Ptk

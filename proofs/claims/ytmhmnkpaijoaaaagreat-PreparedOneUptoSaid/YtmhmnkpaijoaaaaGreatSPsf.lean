import Derived.BigQuiet
import Derived.Deep.RegionHeld3
import Derived.Deep.RegionHeldLaw
import Derived.Deep.DeepCutAuto
import Derived.Test.YtmhmnkpaijoaaaaGreatS06
namespace Go.Proofs.YtmhmnkpaijoaaaaGreat.Psf
set_option linter.unusedSimpArgs false
open Go Go.RowKit Ck Kw Ga Kf Pm Pe Pg Ik Lk Jm Ja Jb Jc Jf Jg Jh Jl Jn Kc Kj Prv Prw Prx Pry Prz Psa Psb Psd Pss Pst
attribute [local go_sem ↓] Go.wp_at_zero Go.wp_at_succ
set_option linter.unusedVariables false
set_option maxRecDepth 100000
theorem sealsQ_recs {L : List (List UInt8)} {G : List Sg} {qs : List Q} {M : Nat} (h : ∀ q ∈ qs, q.o.recs.length <= M) : ∀ k, k <= qs.length -> ∀ d ∈ (sealsQ L G (qs.take k)).2.2, d.q.o.recs.length <= M
  | 0, _, d, hd => by simp [sealsQ] at hd
  | k + 1, hk, d, hd => by
    rw [sealsQ_step (by omega)] at hd
    simp only [stepQ, sealS] at hd
    split at hd
    . rcases List.mem_append.1 hd with hd | hd
      . exact sealsQ_recs h k (by omega) d hd
      . rw [List.mem_singleton.1 hd]
        exact Nat.le_trans (sealR_recs _ _) (h _ (List.getElem_mem (by omega)))
    . exact sealsQ_recs h k (by omega) d hd
theorem one_cell (W : World) (X : Nat -> Prop) (u : Value) {g : Nat} {t : TypeId} (h : Blk W g t #[u]) (hX : ¬ X g) : Sl W X 1 (.slice (some ⟨g, 0, none⟩) 1 1) 1 [u] :=
  ⟨_, _, rfl, rfl, Nat.le_refl _, by simp only [maxLen]; omega, fun _ => ⟨_, rfl, h.lt, hX, fun j x hx => by
    have ha : (⟨g, 0, none⟩ : Addr).add j = ⟨g, j, none⟩ := by unfold Addr.add; split <;> simp_all
    rw [ha, h.cell j]
    simpa using hx⟩⟩
theorem info_bat : (Tryz.prog.info? 39).map (fun i => (i.zero, i.size, i.bytes)) = some (some (.slice none 0 0), 1, 24) := by kernel_rfl
theorem info_dig : (Tryz.prog.info? 31).map (fun i => (i.zero, i.size, i.bytes)) = some (some (.int .i64 0), 1, 8) := by kernel_rfl
structure Tag (W : World) : Prop where
theorem at_tag {P : Program} {ops : Array Oper} {o : Oper} {a : Act} {K : Act -> World -> Prop} {Q : Exit -> Act -> World -> Prop} {W : World} (t : Tag W) (h : if Region.wanted o (yielded ops a.tmps) = true then Oper.wp P o a W K Q else K (a.put o.dst undef) W) : if Region.wanted o (yielded ops a.tmps) = true then Oper.wp P o a W K Q else K (a.put o.dst undef) W := h
abbrev N0 : Value := .slice none 0 0
def SO (w : World) (q p g p' g' : Nat) (vq : Value) (lq : List Value) (z : Bz) (W : World) : Prop := ∃ vb vd vals c, BG 0 w q p g p' g' [] [] z.L z.G z.bs z.ds [] vb vd N0 N0 [] vals [] (SB p g p' g' vb vd N0) vq lq c W
def SI (w : World) (q p g p' g' : Nat) (vq : Value) (lq : List Value) (z : Bz) (y : List (List UInt8) × List Sg × List Sd) (v : Value) (W : World) : Prop := ∃ vb vd vals rs c, BG 0 w q p g p' g' [] [] y.1 y.2.1 z.bs z.ds [] vb vd N0 v y.2.2 vals rs (SB p g p' g' vb vd N0) vq lq c W
def SV (w : World) (q p g p' g' : Nat) (vq : Value) (lq : List Value) (z : Bz) (x : Vz) (W : World) : Prop := ∃ vb vd vs vals c, BG 0 w q p g p' g' [] [] x.L x.G z.bs z.ds x.ss vb vd vs N0 [] vals [] (SB p g p' g' vb vd vs) vq lq c W
def SW (w : World) (q p g p' g' : Nat) (vq : Value) (lq : List Value) (z : Bz) (x : Vz) (vb vd vs : Value) (s : Sg) (gz : Nat) (W : World) : Prop := ∃ vals c, BG 0 w q p g p' g' [] [] x.L x.G z.bs z.ds x.ss vb vd vs N0 [] vals [] (SB p g p' g' vb vd vs) vq lq c W /\ Blk W gz 36 #[.int .i64 s.1, .int .i64 s.2]
theorem two_cell (W : World) (X : Nat -> Prop) (u v : Value) {g : Nat} {t : TypeId} (h : Blk W g t #[u, v]) (hX : ¬ X g) : Sl W X 2 (.slice (some ⟨g, 0, none⟩) 1 1) 1 [u, v] :=
  ⟨_, _, rfl, rfl, Nat.le_refl _, by simp only [maxLen]; omega, fun _ => ⟨_, rfl, h.lt, hX, fun j x hx => by
    have ha : (⟨g, 0, none⟩ : Addr).add j = ⟨g, j, none⟩ := by unfold Addr.add; split <;> simp_all
    rw [ha, h.cell j]
    simpa using hx⟩⟩
theorem gs_at {W : World} {X : Nat -> Prop} {A : Option Addr} {n k : Nat} {G : List Sg} (h : Sl W X 2 (.slice A G.length n) G.length (GVs G)) (hk : k < G.length) : ∃ ad, A = some ad /\ W.cell? (ad.add (k * 2)) = some (.int .i64 G[k].1) /\ W.cell? ⟨(ad.add (k * 2)).block, (ad.add (k * 2)).off + 1, none⟩ = some (.int .i64 G[k].2) := by
  obtain ⟨A0, c0, hv, hl, hc, hm, hx⟩ := h
  injection hv with e1 e2 e3
  subst e1
  obtain ⟨ad, hA, hb, hX, hcell⟩ := hx (by omega)
  obtain ⟨g0, g1⟩ := GVs_get G k hk
  have h0 := hcell _ _ g0
  have h1 := hcell _ _ g1
  refine ⟨ad, hA, h0, ?_⟩
  rw [<- add_add] at h1
  rw [show (⟨(ad.add (k * 2)).block, (ad.add (k * 2)).off + 1, none⟩ : Addr) = (ad.add (k * 2)).add 1 from by
    unfold Addr.add
    split <;> rfl]
  exact h1
theorem info_sgn : (Tryz.prog.info? 36).map (fun i => (i.zero, i.size, i.bytes)) = some (some (.agg #[.int .i64 0, .int .i64 0]), 2, 16) := by kernel_rfl
def Begun (wi : World) (z : Bz) (x : Vz) (e : Ending) (w' : World) : Prop := ∃ w, Below wi.heap.size wi w /\ ∃ q p g p' g' vb vd vs vals vq lq c, e = .returned (.pointer (some ⟨q, 0, none⟩)) /\ BG 0 w q p g p' g' x.L x.G x.L x.G z.bs z.ds x.ss vb vd vs N0 [] vals [] (SB p g p' g' vb vd vs) vq lq c w'
theorem info_qs : (Tryz.prog.info? 106).map (fun i => (i.zero, i.size, i.bytes)) = some (some (.slice none 0 0), 1, 24) := by kernel_rfl
theorem info_sg9 : (Tryz.prog.info? 113).map (fun i => (i.zero, i.size, i.bytes)) = some (some (.agg Z9), 9, 104) := by kernel_rfl
set_option maxHeartbeats 64000000 in
theorem begun_any (wi : World) (f view low : Int) (vb vv vs : Value) (qss : List (List Q)) (vts : List (Vt × Nat)) (h : CI wi f vb vv vs view low qss vts) :
    Calls Tryz.prog 10 #[.agg #[.int .i64 f, vb, vv, vs, .int .i64 view, .int .i64 low]] wi (Begun wi (madeB ([] :: qss)) (votesV (madeB ([] :: qss)) vts)) := by
  obtain ⟨Ab, cb, rfl⟩ := h.bs.shape
  obtain ⟨Av, cv, rfl, -⟩ := id h.vt
  have hb0 : Below wi.heap.size wi (wi.alloc (.cells #[.int .i64 f, .slice Ab qss.length cb, .slice Av vts.length cv, vs, .int .i64 view, .int .i64 low] 26)) := (Below.refl _ wi).alloc (Nat.le_refl _) _
  have hk0 : Blk (wi.alloc (.cells #[.int .i64 f, .slice Ab qss.length cb, .slice Av vts.length cv, vs, .int .i64 view, .int .i64 low] 26)) wi.heap.size 26 #[.int .i64 f, .slice Ab qss.length cb, .slice Av vts.length cv, vs, .int .i64 view, .int .i64 low] := Blk.new wi _ _
  have HI := Lib.hid (h.later hb0)
  have HB0 := Lib.hid hb0
  have HK0 := Lib.hid hk0
  clear h hb0 hk0
  go_enter Tryz.func10, Tryz.ntmps10
  go_wp2_with fail
  generalize wi.alloc (.cells #[.int .i64 f, .slice Ab qss.length cb, .slice Av vts.length cv, vs, .int .i64 view, .int .i64 low] 26) = w at *
  have HBX : Hid (∀ W, Below w.heap.size w W -> W.cell? ⟨wi.heap.size, 1, none⟩ = some (.slice Ab qss.length cb) /\ W.cell? ⟨wi.heap.size, 2, none⟩ = some (.slice Av vts.length cv)) := Lib.hid (fun W hW => by
    have := HK0.out.below hW HK0.out.lt
    exact ⟨this.cell 1, this.cell 2⟩)
  clear HK0
  have HWI : Hid (∀ z x e w', (∃ q p g p' g' vb vd vs vals vq lq c, e = .returned (.pointer (some ⟨q, 0, none⟩)) /\ BG 0 w q p g p' g' x.L x.G x.L x.G z.bs z.ds x.ss vb vd vs N0 [] vals [] (SB p g p' g' vb vd vs) vq lq c w') -> Begun wi z x e w') := Lib.hid (fun z x e w' h => ⟨w, HB0.out, h⟩)
  generalize wi.heap.size = gb at *
  clear HB0
  refine (Ib.newtable_any w).mono ?_
  rintro e w1 ⟨p, rfl, ht1, hb1⟩
  have HT1 := Lib.hid ht1
  have HB1 := Lib.hid hb1
  clear ht1 hb1
  go_wp2_with fail
  refine (La.newledger_any w1).mono ?_
  rintro e w2 ⟨g, rfl, hl2, hb2⟩
  have HG0 := Lib.hid (bg_new (Below.refl _ w) HT1.out HB1.out hl2 hb2)
  clear hl2 hb2 HT1 HB1
  unfold SB at HG0
  go_upto_region 2 with fail
  have hq2 : w2.heap.size + 1 + 1 = w2.heap.size + 2 := rfl
  rw [hq2]
  generalize ((w2.alloc (.cells #[.slice none 0 0] 58)).alloc (.cells #[.slice none 0 0] 60)).alloc (.cells #[.pointer (some ⟨p, 0, none⟩), .pointer (some ⟨g, 0, none⟩), .pointer (some ⟨w2.heap.size, 0, none⟩), .pointer (some ⟨w2.heap.size + 1, 0, none⟩), .slice none 0 0, .slice none 0 0, .slice none 0 0] 51) = w5 at *
  clear hq2
  generalize w2.heap.size + 2 = q at *
  generalize w2.heap.size + 1 = g' at *
  generalize hue0 w.heap.size w2.heap.size = c at *
  generalize w2.heap.size = p' at *
  clear w2 w1
  obtain ⟨ib, hib, hzb, hsb, hyb⟩ := info_parts info_qs
  have hba : Below w5.heap.size w5 (w5.alloc (.cells #[.slice none 0 0] 106)) := (Below.refl _ w5).alloc (Nat.le_refl _) _
  obtain ⟨c1, -⟩ := HBX.out _ (HG0.out.below.trans (hba.mono HG0.out.below.size))
  have hoa : (w5.alloc (.cells #[.slice none 0 0] 106)).ownsRow w5.heap.size 106 1 (.slice (some ⟨w5.heap.size, 0, none⟩) 1 1) 1 [.slice none 0 0] := by
    refine ⟨by simp, .inr ⟨w5.heap.size, 1, #[.slice none 0 0], rfl, Nat.le_refl _, Blk.new w5 _ _, by simp, by simp only [maxLen]; omega, by simp, by simp⟩⟩
  obtain ⟨qv, hqv, hqs0, hqe⟩ := HI.out.bs
  have hqs := hqs0.after (HG0.out.below.trans (hba.mono HG0.out.below.size))
  have HOA := Lib.hid (And.intro hoa hqs)
  have HQE := Lib.hid (And.intro hqv hqe)
  have hn := HI.out.hn
  have HSQ := Lib.hid (show ∀ u ∈ qv, u.oneCell' = true from fun u hu => by
    obtain ⟨i, hi, rfl⟩ := List.getElem_of_mem hu
    obtain ⟨u', h1, h2⟩ := hqe i (by omega)
    obtain ⟨A, cc, rfl, _⟩ := h2.shape
    rw [List.getElem?_eq_getElem hi] at h1
    rw [Option.some.inj h1]; rfl)
  have HBA := Lib.hid hba
  clear hoa hqs hqs0 hqe hba
  go_wp2_with (at_builtin; refine wpList_append_sh _ rfl (.tmp 30) (.tmp 32) _ rfl w5.heap.size 106 ib _ 1 24 Tryz.underlying22 hib hzb hsb hyb rfl (by omega) _ 1 _ rfl HOA.out.1 _ _ qss.length qv rfl HOA.out.2 HSQ.out (by simp only [maxLen]; omega) (by omega) (by simp) ?_; intro Aq cq wq happ)
  have HBQ : Hid (Below w5.heap.size w5 wq) := Lib.hid (HBA.out.trans ((Ch.of_grown (S := fun k => k = w5.heap.size) happ.2.1 (fun k hk _ => by injection hk with hk; exact hk.symm)).below (fun k hk h => by omega) HBA.out.size))
  have HSO : Hid (SO w q p g p' g' (.slice Aq (1 + qss.length) cq) (N0 :: qv) (madeB (([] :: qss).take 0)) wq) := Lib.hid (by
    have hg := HG0.out.later HBQ.out
    have hsl : Sl wq (fun k => c k ≠ 0) 1 (.slice Aq (1 + qss.length) cq) (N0 :: qv).length (N0 :: qv) := by
      have := Sl.of_own (X := fun k => c k ≠ 0) happ.1 (fun k h1 _ hx => hx (HG0.out.hue k h1))
      have e : (N0 :: qv).length = 1 + qss.length := by rw [List.length_cons, HQE.out.1]; omega
      rw [e]
      exact this
    exact ⟨_, _, _, _, { hg with rq := hsl }⟩)
  have HQR : Hid (∀ k (h : k < ([] :: qss).length), ∃ u, (N0 :: qv)[k]? = some u /\ ∀ W, Below w.heap.size w W -> RI W (fun k => w.heap.size <= k) u (([] :: qss)[k])) := Lib.hid (fun k h => by
    cases k with
    | zero => exact ⟨N0, rfl, fun W _ => ⟨[], rfl, Sl.nil _ _ _, fun i hi => absurd hi (by simp)⟩⟩
    | succ k =>
      obtain ⟨u, h1, h2⟩ := HQE.out.2 k (by simpa using h)
      exact ⟨u, by simpa using h1, fun W hW => by simpa using h2.after hW⟩)
  have HQN : Hid (∀ qs ∈ ([] :: qss), qs.length <= 1048576 /\ ∀ q ∈ qs, q.o.recs.length <= 1048576) := Lib.hid (fun qs hqs => by
    rcases List.mem_cons.1 hqs with rfl | hqs
    . exact ⟨by simp, fun q hq => by simp at hq⟩
    . exact HI.out.hq qs hqs)
  have HNN : Hid (([] :: qss).length = qss.length + 1 /\ qss.length <= 1048576) := Lib.hid ⟨by simp, hn⟩
  have hni : (qss.length : Int) <= 1048576 := by omega
  clear happ HBQ HG0 HOA HQE HSQ HBA c1 hn hqv hib hzb hsb hyb
  generalize hQS : ([] :: qss) = QS at *
  generalize (N0 :: qv) = lq at *
  generalize hcc : (1 + qss.length) = nl at *
  have hnq : (nl : Int) = (qss.length : Int) + 1 := by omega
  go_loopw [35] (fun i wr => ∃ k : Nat, k <= qss.length + 1 /\ i = .int .i64 k /\ SO w q p g p' g' (.slice Aq nl cq) lq (madeB (QS.take k)) wr) (fun i _ => qss.length + 1 - (intOf i).toNat)
  case atStart => exact ⟨0, Nat.zero_le _, rfl, HSO.out⟩
  case round =>
    obtain ⟨k, hk, rfl, hso⟩ := hrel
    clear HSO
    by_cases hlt : k < qss.length + 1
    . have hkl : k < QS.length := by have := HNN.out.1; omega
      have hkn : (k : Int) < (nl : Int) := by omega
      have hkd : decide ((k : Int) < 1 + (qss.length : Int)) = true := decide_eq_true (by omega)
      have hkp : (0 : Int) <= (k : Int) := by omega
      obtain ⟨u, hu, hru⟩ := HQR.out k hkl
      obtain ⟨vb, vd, vals, c, hbg⟩ := hso
      obtain ⟨ad, rfl, hcu⟩ : ∃ ad, Aq = some ad /\ wr.cell? (ad.add k) = some u := by
        obtain ⟨A', c', hv, _, _, _, hx⟩ := hbg.rq
        injection hv with e1 e2 e3
        subst e1
        obtain ⟨ad, hA, _, _, hcell⟩ := hx (by omega)
        exact ⟨ad, hA, hcell k u hu⟩
      obtain ⟨Ar, cr, rfl, -⟩ := (hru wr hbg.below).shape
      have HRU := Lib.hid hru
      have HST := Lib.hid (madeB_step hkl)
      have HLN := Lib.hid (madeB_len (fun qs hqs => (HQN.out qs hqs).1) k (by omega))
      have HQK := Lib.hid (HQN.out _ (List.getElem_mem hkl))
      have HKL := Lib.hid (And.intro hk hlt)
      generalize QS[k] = qs at *
      generalize madeB (QS.take k) = z at *
      have HSI : Hid (SI w q p g p' g' (.slice (some ad) nl cq) lq z (sealsQ z.L z.G (qs.take 0)) N0 wr) := Lib.hid ⟨vb, vd, vals, [], c, hbg⟩
      have HRW := Lib.hid (And.intro hnq hni)
      have hqn : (qs.length : Int) <= 1048576 := by have := HQK.out.1; omega
      clear hbg hru hu hkl hk hlt
      go_wp2_with fail
      generalize wr = wo at *
      go_loopw [6, 41] (fun b i wr => ∃ j : Nat, j <= qs.length /\ i = .int .i64 j /\ SI w q p g p' g' (.slice (some ad) nl cq) lq z (sealsQ z.L z.G (qs.take j)) b wr) (fun _ i _ => qs.length - (intOf i).toNat)
      case atStart => exact ⟨0, Nat.zero_le _, rfl, HSI.out⟩
      case round =>
        obtain ⟨j, hj, rfl, hsi⟩ := hrel
        clear HSI
        by_cases hjt : j < qs.length
        . have hjp : (0 : Int) <= (j : Int) := by omega
          have hjn : (j : Int) < (qs.length : Int) := by omega
          obtain ⟨vb, vd, vals, rs, c, hbg⟩ := hsi
          obtain ⟨ar, An, cn, rfl, hat, hls⟩ := (HRU.out wr hbg.below).at_ hjt
          obtain ⟨a0, a1, a2, a3, a4, a5, a6⟩ := hat
          have HSQ := Lib.hid (sealsQ_step (L := z.L) (G := z.G) hjt)
          have HLQ := Lib.hid (sealsQ_len z.L z.G qs j (by omega))
          have HRL := Lib.hid (HQK.out.2 _ (List.getElem_mem hjt))
          have HJT := Lib.hid hjt
          generalize qs[j] = x at *
          generalize sealsQ z.L z.G (qs.take j) = y at *
          have hb1 : Below wr.heap.size wr (wr.alloc (.cells (QC x An cn) 111)) := (Below.refl _ wr).alloc (Nat.le_refl _) _
          have HBG := Lib.hid (hbg.later hb1)
          have HQB : Hid (QB (wr.alloc (.cells (QC x An cn) 111)) wr.heap.size x An cn) := Lib.hid (Blk.new wr _ _)
          have HLS := Lib.hid (hls.after hb1)
          have HSZ : Hid (w.heap.size <= wr.heap.size) := Lib.hid hbg.below.size
          obtain ⟨Ab2, cb2, rfl⟩ := own_shape hbg.rr.1
          have HKS : Hid (KS 0 w q p g p' g' y.1 y.2.1 z.bs z.ds vb vd (.slice Ab2 y.2.2.length cb2) y.2.2 vals rs (.slice (some ad) nl cq) lq wr.heap.size x An cn c (wr.alloc (.cells (QC x An cn) 111))) := Lib.hid ⟨hbg.later hb1, HQB.out, hbg.hue _ (Nat.le_refl _), hls.after hb1⟩
          clear hbg hls hb1 hjt hj HBG HQB HLS
          unfold QC at HKS
          go_upto_region 9 with fail
          generalize wr.alloc (.cells #[.int .i64 x.client, .int .i64 x.time, .int .i64 x.o.kind, .string ⟨x.o.topic.toArray⟩, .string ⟨x.o.group.toArray⟩, .int .i64 x.o.off, .slice An x.o.recs.length cn] 111) = w7 at *
          generalize wr.heap.size = gx at *
          have HZ7 : Hid (w.heap.size <= w7.heap.size) := Lib.hid HKS.out.bg.below.size
          have HGL : Hid ((y.2.1.length + 1) * 16 <= 140737488355328) := Lib.hid (by
            have h1 := HLQ.out.1
            have h2 := HLN.out.1
            have h3 := HKL.out.1
            have h4 := HNN.out.2
            have h5 := HQK.out.1
            have h6 : k * 1048576 <= 1048577 * 1048576 := Nat.mul_le_mul_right _ (by omega)
            have := HJT.out
            omega)
          have HKD : Hid (KS 0 w q p g p' g' y.1 y.2.1 z.bs z.ds vb vd (.slice Ab2 y.2.2.length cb2) y.2.2 vals rs (.slice (some ad) nl cq) lq gx x An cn c w7.drew) := Lib.hid (HKS.out.later (below_drewN (Below.refl _ _) 1))
          have hba : Below w7.drew.heap.size w7.drew (w7.alloc (.cells Z9 113)).drew := show Below w7.drew.heap.size w7.drew (w7.drew.alloc (.cells Z9 113)) from (Below.refl _ _).alloc (Nat.le_refl _) _
          have HKA := Lib.hid (HKD.out.box hba)
          have hga : paint c 9 w7.drew.heap.size (w7.alloc (.cells Z9 113)).drew.heap.size w7.heap.size = 9 := paint_new (Nat.le_refl _) (by simp)
          have hka : Blk (w7.alloc (.cells Z9 113)).drew w7.heap.size 113 Z9 := Blk.new w7 _ _
          have HGA := Lib.hid (And.intro hga hka)
          generalize paint c 9 w7.drew.heap.size (w7.alloc (.cells Z9 113)).drew.heap.size = c9 at *
          clear hba hga hka HKS
          unfold Z9 at HKA HGA
          have HSE : Hid (∀ c W, KS 0 w q p g p' g' y.1 y.2.1 z.bs z.ds vb vd (.slice Ab2 y.2.2.length cb2) y.2.2 vals rs (.slice (some ad) nl cq) lq gx x An cn c W -> Calls Tryz.prog 40 #[.pointer (some ⟨p', 0, none⟩), .pointer (some ⟨g', 0, none⟩), QV x An cn] W fun e w' => ∃ A' n', e = .returned (.tuple #[DV (sealR y.1 x).1 A' n', .int .i64 (sealR y.1 x).2]) /\ KS 0 w q p g p' g' (sealT y.1 x) (sealG y.1 y.2.1 x) z.bs z.ds vb vd (.slice Ab2 y.2.2.length cb2) y.2.2 vals rs (.slice (some ad) nl cq) lq gx x An cn (paint c 2 W.heap.size w'.heap.size) w'
              /\ Ls w' (fun k => w.heap.size <= k) (.slice A' (sealR y.1 x).1.q.o.recs.length n') (sealR y.1 x).1.q.o.recs /\ Ch (fun k => c k = 2) W w') := Lib.hid (fun c W hW => hW.seal (by have := HRL.out; omega) HGL.out)
          generalize hL2 : sealT y.1 x = L2 at *
          generalize hG2 : sealG y.1 y.2.1 x = G2 at *
          generalize hSR : sealR y.1 x = sr at *
          have HEQ := Lib.hid (And.intro hL2 (And.intro hG2 hSR))
          clear hL2 hG2 hSR
          obtain ⟨d, er⟩ := sr
          unfold QV at HSE
          unfold QC at HSE
          unfold DV DC at HSE
          simp only at HSE
          have D0 := HKD.out.cells
          have A0 := HKA.out.cells
          go_cut [9, 10] (fun s9 s10 wx => ∃ gz, s9 = .pointer (some ⟨gz, 0, none⟩) /\ s10 = .int .i64 er /\ SJ w q p g p' g' (.slice (some ad) nl cq) lq z (L2, G2, y.2.2) (.slice Ab2 y.2.2.length cb2) d gz wx)
          case first =>
            go_region_held3 (fun w' => w'.cell? ⟨q, 2, none⟩ = some (.pointer (some ⟨p', 0, none⟩)) /\ w'.cell? ⟨q, 3, none⟩ = some (.pointer (some ⟨g', 0, none⟩)) /\ w'.cell? ⟨gx, 0, none⟩ = some (.int .i64 x.client) /\ w'.cell? ⟨gx, 1, none⟩ = some (.int .i64 x.time) /\ w'.cell? ⟨gx, 2, none⟩ = some (.int .i64 x.o.kind) /\ w'.cell? ⟨gx, 3, none⟩ = some (.string ⟨x.o.topic.toArray⟩) /\ w'.cell? ⟨gx, 4, none⟩ = some (.string ⟨x.o.group.toArray⟩) /\ w'.cell? ⟨gx, 5, none⟩ = some (.int .i64 x.o.off) /\ w'.cell? ⟨gx, 6, none⟩ = some (.slice An x.o.recs.length cn))
              (first | with_reducible exact D0 | with_reducible exact A0 | with_reducible exact K8 | with_reducible exact K9 _ | with_reducible exact N9 _ _ _ _ _ _ _ _ _ | (go_keep; done))
              (first
              | (go_at_call 40; refine (HSE.out _ _ HKD.out).mono ?_; rintro e w8 ⟨A8, n8, rfl, hk8, hl8, hc8⟩; have HK8 := Lib.hid hk8; have HL8 := Lib.hid hl8; have K8 := hk8.cells; have K9 := fun o => (hk8.later ((Below.refl _ _).alloc (Nat.le_refl _) o)).cells; have HK9 := fun o => Lib.hid (hk8.later ((Below.refl _ _).alloc (Nat.le_refl _) o)); clear hk8 hl8 hc8)
              | (go_at_call 40; refine (HSE.out _ _ HKA.out).mono ?_; rintro e w8 ⟨A8, n8, rfl, hk8, hl8, hc8⟩; have HK8 := Lib.hid hk8; have HL8 := Lib.hid hl8; have K8 := hk8.cells; have hz8 := blk_hue HGA.out.2 HGA.out.1 hc8 (by decide); obtain ⟨⟨z0, z1, z2, z3, z4, z5, z6, z7, z8⟩, ⟨y0, y1, y2, y3, y4, y5, y6, y7, y8⟩⟩ := Blk.cells9 hz8; have HN9 := fun x0 x1 x2 x3 x4 x5 x6 x7 x8 => Lib.hid (KS.set9 (x0 := x0) (x1 := x1) (x2 := x2) (x3 := x3) (x4 := x4) (x5 := x5) (x6 := x6) (x7 := x7) (x8 := x8) hk8 ((paint_old (Blk.lt HGA.out.2)).trans HGA.out.1) hz8); have N9 := fun x0 x1 x2 x3 x4 x5 x6 x7 x8 => (HN9 x0 x1 x2 x3 x4 x5 x6 x7 x8).out.1.cells; clear hk8 hl8 hc8 hz8))
            all_goals
              go_wp2_with fail
              go_meet
              first
                | exact ⟨_, rfl, rfl, _, _, _, _, _, _, _, (HK9 _).out.bg, Blk.new w8 _ _, HL8.out.after ((Below.refl _ _).alloc (Nat.le_refl _) _)⟩
                | exact ⟨_, rfl, rfl, _, _, _, _, _, _, _, (HN9 _ _ _ _ _ _ _ _ _).out.1.bg, (HN9 _ _ _ _ _ _ _ _ _).out.2, HL8.out.ch (ch9 (Ch.refl (fun k => k = w7.heap.size) _)) (fun k _ hk => by have := HZ7.out; omega)⟩
          case rest =>
            obtain ⟨gz, rfl, rfl, vb', vd', vals', rs', c', A9, n9, hbg, hbz, hls⟩ := hcut
            dsimp only at hbg
            have HRN : Hid (y.2.2.length <= j) := Lib.hid HLQ.out.2
            have HJN : Hid (j < 1048576) := Lib.hid (by have := HJT.out; have := HQK.out.1; omega)
            have hst : stepQ y x = (L2, G2, if er = 0 then y.2.2 ++ [d] else y.2.2) := by
              obtain ⟨e1, e2, e3⟩ := HEQ.out
              simp only [stepQ, sealS, e1, e2, e3]
            have HSS := Lib.hid hst
            clear hst
            by_cases her : er = 0
            . have h0 : (er == 0) = true := by rw [her]; rfl
              obtain ⟨i9, hi9, hz9, hs9, hy9⟩ := info_parts info_sg9
              obtain ⟨⟨z0, z1, z2, z3, z4, z5, z6, z7, z8⟩, -⟩ := Blk.cells9 hbz
              have HBI := Lib.hid (hbg.later ((Below.refl _ wc).alloc (Nat.le_refl _) (.cells (DC d A9 n9) 113)))
              have HLI := Lib.hid (hls.after ((Below.refl _ wc).alloc (Nat.le_refl _) (.cells (DC d A9 n9) 113)))
              have HONE : Hid (Sl (wc.alloc (.cells (DC d A9 n9) 113)) (fun _ => False) 9 (.slice (some ⟨wc.heap.size, 0, none⟩) 1 1) 1 (DC d A9 n9).toList) := Lib.hid ⟨_, _, rfl, rfl, Nat.le_refl _, by simp only [maxLen]; omega, fun _ => ⟨_, rfl, by simp, fun h => h, dc_cells wc d A9 n9⟩⟩
              have HD1 := Lib.hid (dc_ones (d := d) (A := A9) (c := n9))
              have HLO : Hid (∀ k, c' k ≠ 0 -> w.heap.size <= k) := Lib.hid (fun k hk => by
                by_cases hl : k < w.heap.size
                . exact absurd (hbg.lo k hl) hk
                . omega)
              rw [if_pos her] at HSS
              clear hbg hbz hls her
              unfold DC at HBI HLI HONE HD1
              go_wp2_with (at_builtin; refine wpList_append_sh _ rfl (.tmp 60) (.tmp 62) _ rfl w.heap.size 113 i9 _ 9 104 Tryz.underlying39 hi9 hz9 hs9 hy9 rfl (by omega) _ _ _ rfl HBI.out.rr.1 _ _ 1 _ rfl HONE.out HD1.out (by have := HRN.out; have := HJN.out; simp only [maxLen]; omega) (by have := HRN.out; have := HJN.out; omega) HBI.out.below.size ?_; intro Aa ca wa happ)
              have HBA := Lib.hid (BG.more HBI.out (HLI.out.weaken (fun k _ hk => HLO.out k hk)) happ)
              clear happ
              go_roundw
              case rel => exact ⟨j + 1, by have := HJT.out; omega, by go_num, by rw [HSQ.out, HSS.out]; exact ⟨_, _, _, _, _, HBA.out⟩⟩
              case measure => have := HJT.out; simp [intOf]; omega
            . have h0 : (er == 0) = false := by rw [beq_eq_false_iff_ne]; exact her
              rw [if_neg her] at HSS
              have HBI := Lib.hid hbg
              clear hbg hbz hls her
              go_wp2_with fail
              go_roundw
              case rel => exact ⟨j + 1, by have := HJT.out; omega, by go_num, by rw [HSQ.out, HSS.out]; exact ⟨_, _, _, _, _, HBI.out⟩⟩
              case measure => have := HJT.out; simp [intOf]; omega
        . have hje : j = qs.length := by omega
          subst hje
          rw [List.take_length] at hsi
          obtain ⟨vb, vd, vals, rs, c, hbg⟩ := hsi
          have HRC : Hid (∀ d ∈ (sealsQ z.L z.G qs).2.2, d.q.o.recs.length <= 140737488355328) := Lib.hid (fun d hd => by
            have := sealsQ_recs HQK.out.2 qs.length (Nat.le_refl _) d (by rw [List.take_length]; exact hd)
            omega)
          have HRL : Hid ((sealsQ z.L z.G qs).2.2.length <= 140737488355328) := Lib.hid (by
            have := (sealsQ_len z.L z.G qs qs.length (Nat.le_refl _)).2
            rw [List.take_length] at this
            have := HQK.out.1
            omega)
          have HSB : Hid (stepB z qs = ⟨digT (sealsQ z.L z.G qs).1 (sealsQ z.L z.G qs).2.2, (sealsQ z.L z.G qs).2.1, z.bs ++ [(sealsQ z.L z.G qs).2.2], z.ds ++ [(digR (sealsQ z.L z.G qs).1 (sealsQ z.L z.G qs).2.2).1]⟩) := Lib.hid rfl
          generalize sealsQ z.L z.G qs = y at *
          obtain ⟨Ab2, cb2, rfl⟩ := own_shape hbg.rr.1
          have hbi := hbg.dd.bi hbg.rr
          have HDG := Lib.hid (BG.dig (BG.fresh hbg) hbi HRC.out HRL.out)
          have HBI := Lib.hid hbi
          have HUB := Lib.hid (BG.fresh hbg)
          have d2 := hbg.st.cell 2
          simp only [SB, List.getElem?_toArray, List.getElem?_cons_zero, List.getElem?_cons_succ] at d2
          clear hbg hbi hjt hj
          generalize off c 7 = c0 at *
          go_wp2_with fail
          refine HDG.out.mono ?_
          rintro e wd ⟨rfl, hbg1, hc1⟩
          have HBI1 := Lib.hid (batch_hue HBI.out hc1 (by decide) (ag_paint wr c0 2 wd.heap.size))
          generalize digT y.1 y.2.2 = L2 at *
          generalize digR y.1 y.2.2 = dr at *
          generalize paint c0 2 wr.heap.size wd.heap.size = c1 at *
          obtain ⟨dg, de⟩ := dr
          have H0 : Hid (BG 0 w q p g p' g' [] [] L2 y.2.1 z.bs z.ds [] vb vd N0 N0 [] vals [] (SB p g p' g' vb vd N0) (.slice (some ad) nl cq) lq c1 wd) := Lib.hid hbg1
          clear hbg1 hc1 HDG HBI HUB d2
          simp only
          go_upto_region 14 with fail
          have hz1 : z.bs.length <= 1048577 /\ z.ds.length <= 1048577 := by
            have h2 := HLN.out.2
            have h3 := HKL.out.1
            have h4 := HNN.out.2
            omega
          have HZ1 := Lib.hid hz1
          obtain ⟨ib2, hib2, hzb2, hsb2, hyb2⟩ := info_parts info_bat
          obtain ⟨id2, hid2, hzd2, hsd2, hyd2⟩ := info_parts info_dig
          have HIB := Lib.hid (And.intro hib2 (And.intro hzb2 (And.intro hsb2 hyb2)))
          have HID := Lib.hid (And.intro hid2 (And.intro hzd2 (And.intro hsd2 hyd2)))
          have HV1 : Hid (∀ u ∈ [(Value.slice Ab2 y.2.2.length cb2)], u.oneCell' = true) := Lib.hid (fun u hu => by rw [List.mem_singleton.1 hu]; rfl)
          have HV2 : Hid (∀ u ∈ [(Value.int .i64 dg)], u.oneCell' = true) := Lib.hid (fun u hu => by rw [List.mem_singleton.1 hu]; rfl)
          have HBB := fun (W : World) (b : Below wd.heap.size wd W) => Lib.hid (HBI1.out.after b)
          clear hz1 hib2 hzb2 hsb2 hyb2 hid2 hzd2 hsd2 hyd2 HBI1
          have q0 := H0.out.st.cell 4
          have q1 := H0.out.st.cell 5
          have ba : Below wd.heap.size wd (wd.alloc (.cells #[.slice Ab2 y.2.2.length cb2] 39)) := (Below.refl _ _).alloc (Nat.le_refl _) _
          have bd : Below wd.heap.size wd (wd.alloc (.cells #[.int .i64 dg] 31)) := (Below.refl _ _).alloc (Nat.le_refl _) _
          have bad : Below wd.heap.size wd ((wd.alloc (.cells #[.slice Ab2 y.2.2.length cb2] 39)).alloc (.cells #[.int .i64 dg] 31)) := ba.alloc (by simp) _
          have bda : Below wd.heap.size wd ((wd.alloc (.cells #[.int .i64 dg] 31)).alloc (.cells #[.slice Ab2 y.2.2.length cb2] 39)) := bd.alloc (by simp) _
          have Ha : Hid (BG 0 w q p g p' g' [] [] L2 y.2.1 z.bs z.ds [] vb vd N0 N0 [] vals [] (SB p g p' g' vb vd N0) (.slice (some ad) nl cq) lq c1 (wd.alloc (.cells #[.slice Ab2 y.2.2.length cb2] 39)).drew) := Lib.hid (show BG 0 w q p g p' g' [] [] L2 y.2.1 z.bs z.ds [] vb vd N0 N0 [] vals [] (SB p g p' g' vb vd N0) (.slice (some ad) nl cq) lq c1 ((wd.alloc (.cells #[.slice Ab2 y.2.2.length cb2] 39)).drewN 1) from H0.out.later (below_drewN ba 1))
          have Hd : Hid (BG 0 w q p g p' g' [] [] L2 y.2.1 z.bs z.ds [] vb vd N0 N0 [] vals [] (SB p g p' g' vb vd N0) (.slice (some ad) nl cq) lq c1 (wd.alloc (.cells #[.int .i64 dg] 31)).drew) := Lib.hid (show BG 0 w q p g p' g' [] [] L2 y.2.1 z.bs z.ds [] vb vd N0 N0 [] vals [] (SB p g p' g' vb vd N0) (.slice (some ad) nl cq) lq c1 ((wd.alloc (.cells #[.int .i64 dg] 31)).drewN 1) from H0.out.later (below_drewN bd 1))
          have Had : Hid (BG 0 w q p g p' g' [] [] L2 y.2.1 z.bs z.ds [] vb vd N0 N0 [] vals [] (SB p g p' g' vb vd N0) (.slice (some ad) nl cq) lq c1 ((wd.alloc (.cells #[.slice Ab2 y.2.2.length cb2] 39)).alloc (.cells #[.int .i64 dg] 31)).drew) := Lib.hid (show BG 0 w q p g p' g' [] [] L2 y.2.1 z.bs z.ds [] vb vd N0 N0 [] vals [] (SB p g p' g' vb vd N0) (.slice (some ad) nl cq) lq c1 (((wd.alloc (.cells #[.slice Ab2 y.2.2.length cb2] 39)).alloc (.cells #[.int .i64 dg] 31)).drewN 1) from H0.out.later (below_drewN bad 1))
          have Hda : Hid (BG 0 w q p g p' g' [] [] L2 y.2.1 z.bs z.ds [] vb vd N0 N0 [] vals [] (SB p g p' g' vb vd N0) (.slice (some ad) nl cq) lq c1 ((wd.alloc (.cells #[.int .i64 dg] 31)).alloc (.cells #[.slice Ab2 y.2.2.length cb2] 39)).drew) := Lib.hid (show BG 0 w q p g p' g' [] [] L2 y.2.1 z.bs z.ds [] vb vd N0 N0 [] vals [] (SB p g p' g' vb vd N0) (.slice (some ad) nl cq) lq c1 (((wd.alloc (.cells #[.int .i64 dg] 31)).alloc (.cells #[.slice Ab2 y.2.2.length cb2] 39)).drewN 1) from H0.out.later (below_drewN bda 1))
          have a0 := Ha.out.st.cell 4
          have a1 := Ha.out.st.cell 5
          have e0 := Hd.out.st.cell 4
          have e1 := Hd.out.st.cell 5
          have f0 := Had.out.st.cell 4
          have f1 := Had.out.st.cell 5
          have g0 := Hda.out.st.cell 4
          have g1 := Hda.out.st.cell 5
          simp only [SB, List.getElem?_toArray, List.getElem?_cons_zero, List.getElem?_cons_succ] at q0 q1 a0 a1 e0 e1 f0 f1 g0 g1
          have kAD : Blk ((wd.alloc (.cells #[.slice Ab2 y.2.2.length cb2] 39)).alloc (.cells #[.int .i64 dg] 31)).drew wd.heap.size 39 #[.slice Ab2 y.2.2.length cb2] /\ Blk ((wd.alloc (.cells #[.slice Ab2 y.2.2.length cb2] 39)).alloc (.cells #[.int .i64 dg] 31)).drew (wd.heap.size + 1) 31 #[.int .i64 dg] := ⟨(Blk.new wd _ _).alloc _, by
            have := Blk.new (wd.alloc (.cells #[.slice Ab2 y.2.2.length cb2] 39)) 31 #[.int .i64 dg]
            have e : (wd.alloc (.cells #[.slice Ab2 y.2.2.length cb2] 39)).heap.size = wd.heap.size + 1 := by simp
            rw [e] at this
            exact this⟩
          have kDA : Blk ((wd.alloc (.cells #[.int .i64 dg] 31)).alloc (.cells #[.slice Ab2 y.2.2.length cb2] 39)).drew (wd.heap.size + 1) 39 #[.slice Ab2 y.2.2.length cb2] /\ Blk ((wd.alloc (.cells #[.int .i64 dg] 31)).alloc (.cells #[.slice Ab2 y.2.2.length cb2] 39)).drew wd.heap.size 31 #[.int .i64 dg] := ⟨by
            have := Blk.new (wd.alloc (.cells #[.int .i64 dg] 31)) 39 #[.slice Ab2 y.2.2.length cb2]
            have e : (wd.alloc (.cells #[.int .i64 dg] 31)).heap.size = wd.heap.size + 1 := by simp
            rw [e] at this
            exact this, (Blk.new wd _ _).alloc _⟩
          have kA : Blk (wd.alloc (.cells #[.slice Ab2 y.2.2.length cb2] 39)).drew wd.heap.size 39 #[.slice Ab2 y.2.2.length cb2] := Blk.new wd _ _
          have SA : Hid (Sl (wd.alloc (.cells #[.slice Ab2 y.2.2.length cb2] 39)).drew (fun _ => False) 1 (.slice (some ⟨wd.heap.size, 0, none⟩) 1 1) 1 [.slice Ab2 y.2.2.length cb2]) := Lib.hid (one_cell _ _ _ kA (fun h => h))
          have SAD : Hid (Sl ((wd.alloc (.cells #[.slice Ab2 y.2.2.length cb2] 39)).alloc (.cells #[.int .i64 dg] 31)).drew (fun _ => False) 1 (.slice (some ⟨wd.heap.size, 0, none⟩) 1 1) 1 [.slice Ab2 y.2.2.length cb2]) := Lib.hid (one_cell _ _ _ kAD.1 (fun h => h))
          have SDA : Hid (Sl ((wd.alloc (.cells #[.int .i64 dg] 31)).alloc (.cells #[.slice Ab2 y.2.2.length cb2] 39)).drew (fun _ => False) 1 (.slice (some ⟨wd.heap.size + 1, 0, none⟩) 1 1) 1 [.slice Ab2 y.2.2.length cb2]) := Lib.hid (one_cell _ _ _ kDA.1 (fun h => h))
          have PA : Hid (∀ vb' w9, Appended (wd.alloc (.cells #[.slice Ab2 y.2.2.length cb2] 39)).drew w.heap.size 39 1 vb (z.bs.length + 1) (vals ++ [.slice Ab2 y.2.2.length cb2]) vb' w9 -> (∃ c, BG 0 w q p g p' g' [] [] L2 y.2.1 (z.bs ++ [y.2.2]) z.ds [] vb' vd N0 N0 [] (vals ++ [.slice Ab2 y.2.2.length cb2]) [] (SB p g p' g' vb vd N0) (.slice (some ad) nl cq) lq c w9)) := Lib.hid (fun vb' w9 happ => ⟨_, BG.putb Ha.out (HBB _ (below_drewN ba 1)).out happ⟩)
          have PAD : Hid (∀ vb' w9, Appended ((wd.alloc (.cells #[.slice Ab2 y.2.2.length cb2] 39)).alloc (.cells #[.int .i64 dg] 31)).drew w.heap.size 39 1 vb (z.bs.length + 1) (vals ++ [.slice Ab2 y.2.2.length cb2]) vb' w9 -> (∃ c, BG 0 w q p g p' g' [] [] L2 y.2.1 (z.bs ++ [y.2.2]) z.ds [] vb' vd N0 N0 [] (vals ++ [.slice Ab2 y.2.2.length cb2]) [] (SB p g p' g' vb vd N0) (.slice (some ad) nl cq) lq c w9) /\ Blk w9 (wd.heap.size + 1) 31 #[.int .i64 dg]) := Lib.hid (fun vb' w9 happ => ⟨⟨_, BG.putb Had.out (HBB _ (below_drewN bad 1)).out happ⟩, Blk.ch kAD.2 (Had.out.rb.put happ).2 (fun hx => by have := H0.out.hue (wd.heap.size + 1) (by omega); omega)⟩)
          have PDA : Hid (∀ vb' w9, Appended ((wd.alloc (.cells #[.int .i64 dg] 31)).alloc (.cells #[.slice Ab2 y.2.2.length cb2] 39)).drew w.heap.size 39 1 vb (z.bs.length + 1) (vals ++ [.slice Ab2 y.2.2.length cb2]) vb' w9 -> (∃ c, BG 0 w q p g p' g' [] [] L2 y.2.1 (z.bs ++ [y.2.2]) z.ds [] vb' vd N0 N0 [] (vals ++ [.slice Ab2 y.2.2.length cb2]) [] (SB p g p' g' vb vd N0) (.slice (some ad) nl cq) lq c w9) /\ Blk w9 wd.heap.size 31 #[.int .i64 dg]) := Lib.hid (fun vb' w9 happ => ⟨⟨_, BG.putb Hda.out (HBB _ (below_drewN bda 1)).out happ⟩, Blk.ch kDA.2 (Hda.out.rb.put happ).2 (fun hx => by have := H0.out.hue wd.heap.size (by omega); omega)⟩)
          have PC : Hid (∀ vb' c w9, BG 0 w q p g p' g' [] [] L2 y.2.1 (z.bs ++ [y.2.2]) z.ds [] vb' vd N0 N0 [] (vals ++ [.slice Ab2 y.2.2.length cb2]) [] (SB p g p' g' vb vd N0) (.slice (some ad) nl cq) lq c w9 -> (w9.cell? ⟨q, 5, none⟩ = some vd /\ ∀ o, (w9.alloc o).cell? ⟨q, 5, none⟩ = some vd)) := Lib.hid (fun vb' c w9 h => ⟨h.st.cell 5, fun o => (h.later ((Below.refl _ w9).alloc (Nat.le_refl _) o)).st.cell 5⟩)
          have PD : Hid (∀ vb' c w9, BG 0 w q p g p' g' [] [] L2 y.2.1 (z.bs ++ [y.2.2]) z.ds [] vb' vd N0 N0 [] (vals ++ [.slice Ab2 y.2.2.length cb2]) [] (SB p g p' g' vb vd N0) (.slice (some ad) nl cq) lq c w9 -> w9.ownsRow w.heap.size 31 1 vd z.ds.length (IV z.ds) /\ w.heap.size <= w9.heap.size /\ ∀ vd' w10, Appended w9 w.heap.size 31 1 vd (z.ds.length + 1) (IV z.ds ++ [.int .i64 dg]) vd' w10 -> ∃ c, BG 0 w q p g p' g' [] [] L2 y.2.1 (z.bs ++ [y.2.2]) (z.ds ++ [dg]) [] vb' vd' N0 N0 [] (vals ++ [.slice Ab2 y.2.2.length cb2]) [] (SB p g p' g' vb vd N0) (.slice (some ad) nl cq) lq c w10) := Lib.hid (fun vb' c w9 h => ⟨h.rd.1, h.below.size, fun vd' w10 happ => ⟨_, BG.putd h happ⟩⟩)
          have PE : Hid (∀ vb' vd' c w10, BG 0 w q p g p' g' [] [] L2 y.2.1 (z.bs ++ [y.2.2]) (z.ds ++ [dg]) [] vb' vd' N0 N0 [] (vals ++ [.slice Ab2 y.2.2.length cb2]) [] (SB p g p' g' vb vd N0) (.slice (some ad) nl cq) lq c w10 -> w10.cell? ⟨q, 4, none⟩ = some vb /\ w10.cell? ⟨q, 5, none⟩ = some vd /\ w10.frozen? ⟨q, 4, none⟩ = false /\ w10.frozen? ⟨q, 5, none⟩ = false /\ SO w q p g p' g' (.slice (some ad) nl cq) lq ⟨L2, y.2.1, z.bs ++ [y.2.2], z.ds ++ [dg]⟩ ((w10.setCell ⟨q, 4, none⟩ vb').setCell ⟨q, 5, none⟩ vd')) := Lib.hid (fun vb' vd' c w10 h => ⟨h.st.cell 4, h.st.cell 5, h.st.frozen 4, h.st.frozen 5, _, _, _, _, BG.set h (((Ch.refl (fun k => k = q) w10).setCell (p := ⟨q, 4, none⟩) (fun _ => rfl) _).setCell (p := ⟨q, 5, none⟩) (fun _ => rfl) _) (by
            have := (h.st.set_ 4 vb').set_ 5 vd'
            simpa [SB] using this)⟩)
          have tA : Tag (wd.alloc (.cells #[.slice Ab2 y.2.2.length cb2] 39)).drew := ⟨⟩
          have tAD : Tag ((wd.alloc (.cells #[.slice Ab2 y.2.2.length cb2] 39)).alloc (.cells #[.int .i64 dg] 31)).drew := ⟨⟩
          have tDA : Tag ((wd.alloc (.cells #[.int .i64 dg] 31)).alloc (.cells #[.slice Ab2 y.2.2.length cb2] 39)).drew := ⟨⟩
          have HOW : Hid ((wd.alloc (.cells #[.slice Ab2 y.2.2.length cb2] 39)).drew.ownsRow w.heap.size 39 1 vb z.bs.length vals /\ ((wd.alloc (.cells #[.slice Ab2 y.2.2.length cb2] 39)).alloc (.cells #[.int .i64 dg] 31)).drew.ownsRow w.heap.size 39 1 vb z.bs.length vals /\ ((wd.alloc (.cells #[.int .i64 dg] 31)).alloc (.cells #[.slice Ab2 y.2.2.length cb2] 39)).drew.ownsRow w.heap.size 39 1 vb z.bs.length vals) := Lib.hid ⟨Ha.out.rb.1, Had.out.rb.1, Hda.out.rb.1⟩
          have HWS : Hid (w.heap.size <= (wd.alloc (.cells #[.slice Ab2 y.2.2.length cb2] 39)).drew.heap.size /\ w.heap.size <= ((wd.alloc (.cells #[.slice Ab2 y.2.2.length cb2] 39)).alloc (.cells #[.int .i64 dg] 31)).drew.heap.size /\ w.heap.size <= ((wd.alloc (.cells #[.int .i64 dg] 31)).alloc (.cells #[.slice Ab2 y.2.2.length cb2] 39)).drew.heap.size) := Lib.hid ⟨Ha.out.below.size, Had.out.below.size, Hda.out.below.size⟩
          have HN1 : Hid (z.bs.length + 1 <= maxLen /\ (z.bs.length + 1) * 24 <= 140737488355328 /\ z.ds.length + 1 <= maxLen /\ (z.ds.length + 1) * 8 <= 140737488355328) := Lib.hid (by
            have := HZ1.out
            simp only [maxLen]
            omega)
          clear kAD kDA kA ba bd bad bda H0 Ha Hd Had Hda HBB HZ1
          go_region_law (first
            | ((with_reducible refine at_tag tA ?_); refine step_append_sh (by rfl) (.tmp 79) (.tmp 81) _ (by rfl) w.heap.size 39 ib2 _ 1 24 Tryz.underlying48 HIB.out.1 HIB.out.2.1 HIB.out.2.2.1 HIB.out.2.2.2 rfl (by omega) vb z.bs.length vals (by rfl) HOW.out.1 (fun _ => False) (.slice (some ⟨wd.heap.size, 0, none⟩) 1 1) 1 [.slice Ab2 y.2.2.length cb2] (by rfl) SA.out HV1.out HN1.out.1 HN1.out.2.1 HWS.out.1 ?_; intro A9 c9 w9 happ; obtain ⟨cx9, hb9⟩ := PA.out _ _ happ; have HB9 := Lib.hid hb9; obtain ⟨j0, j1⟩ := PC.out _ _ _ hb9; have t9 : Tag w9 := ⟨⟩; have t9d : Tag (w9.alloc (.cells #[.int .i64 dg] 31)) := ⟨⟩; clear happ hb9)
            | ((with_reducible refine at_tag tAD ?_); refine step_append_sh (by rfl) (.tmp 79) (.tmp 81) _ (by rfl) w.heap.size 39 ib2 _ 1 24 Tryz.underlying48 HIB.out.1 HIB.out.2.1 HIB.out.2.2.1 HIB.out.2.2.2 rfl (by omega) vb z.bs.length vals (by rfl) HOW.out.2.1 (fun _ => False) (.slice (some ⟨wd.heap.size, 0, none⟩) 1 1) 1 [.slice Ab2 y.2.2.length cb2] (by rfl) SAD.out HV1.out HN1.out.1 HN1.out.2.1 HWS.out.2.1 ?_; intro A9 c9 w9 happ; obtain ⟨⟨cx9, hb9⟩, kd9⟩ := PAD.out _ _ happ; have KD9 := Lib.hid kd9; clear kd9; have HB9 := Lib.hid hb9; obtain ⟨j0, j1⟩ := PC.out _ _ _ hb9; have t9 : Tag w9 := ⟨⟩; have t9d : Tag (w9.alloc (.cells #[.int .i64 dg] 31)) := ⟨⟩; clear happ hb9)
            | ((with_reducible refine at_tag tDA ?_); refine step_append_sh (by rfl) (.tmp 79) (.tmp 81) _ (by rfl) w.heap.size 39 ib2 _ 1 24 Tryz.underlying48 HIB.out.1 HIB.out.2.1 HIB.out.2.2.1 HIB.out.2.2.2 rfl (by omega) vb z.bs.length vals (by rfl) HOW.out.2.2 (fun _ => False) (.slice (some ⟨wd.heap.size + 1, 0, none⟩) 1 1) 1 [.slice Ab2 y.2.2.length cb2] (by rfl) SDA.out HV1.out HN1.out.1 HN1.out.2.1 HWS.out.2.2 ?_; intro A9 c9 w9 happ; obtain ⟨⟨cx9, hb9⟩, kd9⟩ := PDA.out _ _ happ; have KD9 := Lib.hid kd9; clear kd9; have HB9 := Lib.hid hb9; obtain ⟨j0, j1⟩ := PC.out _ _ _ hb9; have t9 : Tag w9 := ⟨⟩; have t9d : Tag (w9.alloc (.cells #[.int .i64 dg] 31)) := ⟨⟩; clear happ hb9)
            | ((with_reducible refine at_tag t9d ?_); refine step_append_sh (by rfl) (.tmp 86) (.tmp 88) _ (by rfl) w.heap.size 31 id2 _ 1 8 Tryz.underlying49 HID.out.1 HID.out.2.1 HID.out.2.2.1 HID.out.2.2.2 rfl (by omega) vd z.ds.length (IV z.ds) (by rfl) (PD.out _ _ _ (HB9.out.later ((Below.refl _ w9).alloc (Nat.le_refl _) (.cells #[.int .i64 dg] 31)))).1 (fun _ => False) (.slice (some ⟨w9.heap.size, 0, none⟩) 1 1) 1 [.int .i64 dg] (by rfl) (one_cell _ _ _ (Blk.new w9 _ _) (fun h => h)) HV2.out HN1.out.2.2.1 HN1.out.2.2.2 (PD.out _ _ _ (HB9.out.later ((Below.refl _ w9).alloc (Nat.le_refl _) (.cells #[.int .i64 dg] 31)))).2.1 ?_; intro A10 c10 w10 happ; obtain ⟨cx10, hb10⟩ := (PD.out _ _ _ (HB9.out.later ((Below.refl _ w9).alloc (Nat.le_refl _) (.cells #[.int .i64 dg] 31)))).2.2 _ _ happ; obtain ⟨l0, l1, m0, m1, hso⟩ := PE.out _ _ _ _ hb10; have HFIN := Lib.hid hso; clear happ hb10 hso)
            | ((with_reducible refine at_tag t9 ?_); refine step_append_sh (by rfl) (.tmp 86) (.tmp 88) _ (by rfl) w.heap.size 31 id2 _ 1 8 Tryz.underlying49 HID.out.1 HID.out.2.1 HID.out.2.2.1 HID.out.2.2.2 rfl (by omega) vd z.ds.length (IV z.ds) (by rfl) (PD.out _ _ _ HB9.out).1 (fun _ => False) (.slice (some ⟨wd.heap.size + 1, 0, none⟩) 1 1) 1 [.int .i64 dg] (by rfl) (one_cell _ _ _ KD9.out (fun h => h)) HV2.out HN1.out.2.2.1 HN1.out.2.2.2 (PD.out _ _ _ HB9.out).2.1 ?_; intro A10 c10 w10 happ; obtain ⟨cx10, hb10⟩ := (PD.out _ _ _ HB9.out).2.2 _ _ happ; obtain ⟨l0, l1, m0, m1, hso⟩ := PE.out _ _ _ _ hb10; have HFIN := Lib.hid hso; clear happ hb10 hso)
            | ((with_reducible refine at_tag t9 ?_); refine step_append_sh (by rfl) (.tmp 86) (.tmp 88) _ (by rfl) w.heap.size 31 id2 _ 1 8 Tryz.underlying49 HID.out.1 HID.out.2.1 HID.out.2.2.1 HID.out.2.2.2 rfl (by omega) vd z.ds.length (IV z.ds) (by rfl) (PD.out _ _ _ HB9.out).1 (fun _ => False) (.slice (some ⟨wd.heap.size, 0, none⟩) 1 1) 1 [.int .i64 dg] (by rfl) (one_cell _ _ _ KD9.out (fun h => h)) HV2.out HN1.out.2.2.1 HN1.out.2.2.2 (PD.out _ _ _ HB9.out).2.1 ?_; intro A10 c10 w10 happ; obtain ⟨cx10, hb10⟩ := (PD.out _ _ _ HB9.out).2.2 _ _ happ; obtain ⟨l0, l1, m0, m1, hso⟩ := PE.out _ _ _ _ hb10; have HFIN := Lib.hid hso; clear happ hb10 hso))
          all_goals
            go_wp2_with fail
            go_roundw
            case rel => exact ⟨k + 1, by have := HKL.out; omega, by go_num, by rw [HST.out, HSB.out]; exact HFIN.out⟩
            case measure => have := HKL.out; simp [intOf]; omega
    . as_aux_lemma =>
        have hke : k = QS.length := by have := HNN.out.1; omega
        subst hke
        rw [List.take_length] at hso
        obtain ⟨vb, vd, vals, c, hbg⟩ := hso
        have hkf : decide ((QS.length : Int) < 1 + (qss.length : Int)) = false := decide_eq_false (by have := HNN.out.1; omega)
        have HLN := madeB_len (fun qs hqs => (HQN.out qs hqs).1) QS.length (Nat.le_refl _)
        rw [List.take_length] at HLN
        have HGN : Hid ((madeB QS).G.length <= 1099512676352) := Lib.hid (by
          have h1 := HLN.1
          have h3 := HNN.out.1
          have h4 := HNN.out.2
          omega)
        have HDN : Hid (1 <= (madeB QS).ds.length /\ (madeB QS).ds.length <= 1048577) := Lib.hid (by
          have h2 := HLN.2.2
          have h3 := HNN.out.1
          have h4 := HNN.out.2
          omega)
        clear HLN
        have h1 := BG.sign0 hbg
        have d6 := h1.st.cell 6
        have e6 := h1.st.frozen 6
        simp only [SB, List.getElem?_toArray, List.getElem?_cons_zero, List.getElem?_cons_succ] at d6
        have HS1 := Lib.hid (BG.set h1 (((Ch.refl (fun k => k = q) _).setCell (p := ⟨q, 6, none⟩) (fun _ => rfl) (.slice (some ⟨wr.heap.size, 0, none⟩) 1 1))) (by
              have := h1.st.set_ 6 (.slice (some ⟨wr.heap.size, 0, none⟩) 1 1)
              simpa [SB] using this))
        obtain ⟨-, c2⟩ := HBX.out _ HS1.out.below
        have HVT : Hid (VL w (fun k => w.heap.size <= k) (.slice Av vts.length cv) vts) := Lib.hid HI.out.vt
        have HVN : Hid (vts.length <= 1048576 /\ ∀ v ∈ vts, v.2 < 256) := Lib.hid ⟨HI.out.hv, HI.out.h8⟩
        clear hbg h1 hk hlt HQR HQN HNN HI
        have HTD := Lib.hid (votesV_tidy QS vts)
        generalize madeB QS = z at *
        go_wp2_with fail
        have HSV : Hid (SV w q p g p' g' (.slice Aq nl cq) lq z (votesV z (vts.take 0)) ((wr.alloc (.cells #[.int .i64 0, .int .i64 0] 36)).setCell ⟨q, 6, none⟩ (.slice (some ⟨wr.heap.size, 0, none⟩) 1 1))) := Lib.hid ⟨_, _, _, _, _, HS1.out⟩
        clear HS1 d6 e6 c2
        generalize (wr.alloc (.cells #[.int .i64 0, .int .i64 0] 36)).setCell ⟨q, 6, none⟩ (.slice (some ⟨wr.heap.size, 0, none⟩) 1 1) = wz at *
        have hvi : (vts.length : Int) <= 1048576 := by have := HVN.out.1; omega
        go_loopw [103] (fun i wr => ∃ j : Nat, j <= vts.length /\ i = .int .i64 j /\ SV w q p g p' g' (.slice Aq nl cq) lq z (votesV z (vts.take j)) wr) (fun i _ => vts.length - (intOf i).toNat)
        case atStart => exact ⟨0, Nat.zero_le _, rfl, HSV.out⟩
        case round =>
          obtain ⟨j, hj, rfl, hsv⟩ := hrel
          clear HSV
          by_cases hjt : j < vts.length
          . have hjp : (0 : Int) <= (j : Int) := by omega
            have hjn : (j : Int) < (vts.length : Int) := by omega
            have hjd : decide ((j : Int) < (vts.length : Int)) = true := decide_eq_true hjn
            obtain ⟨vb, vd, vs1, vals, c, hbg⟩ := hsv
            obtain ⟨av, rfl, a0, a1, a2, a3, a4⟩ := VL.at_ (Sl.after HVT.out hbg.below) hjt
            have HST := Lib.hid (votesV_step (b := z) hjt)
            have HLV := Lib.hid (votesV_len z vts j (by omega))
            have HJT := Lib.hid hjt
            have hx8 := HVN.out.2 _ (List.getElem_mem hjt)
            generalize vts[j] = x at *
            generalize votesV z (vts.take j) = y at *
            have HKV : Hid (KV 0 w q p g p' g' y.L y.G z.bs z.ds y.ss vb vd vs1 vals (.slice Aq nl cq) lq wr.heap.size x c (wr.alloc (.cells #[.int .i64 x.1.key, .int .i64 x.1.kind, .int .i64 x.1.view, .int .i64 x.1.seq, .int .u8 (x.2 : Int)] 95))) := Lib.hid ⟨hbg.later ((Below.refl _ wr).alloc (Nat.le_refl _) _), Blk.new wr _ _, hbg.hue _ (Nat.le_refl _)⟩
            have HGV : Hid ((y.G.length + 1) * 16 <= 140737488355328) := Lib.hid (by
              have h1 := HLV.out.1
              have h2 := HGN.out
              have h3 := HVN.out.1
              have := HJT.out
              omega)
            have HSN : Hid (y.ss.length = j + 1) := Lib.hid HLV.out.2
            obtain ⟨Ad, cd, rfl⟩ := own_shape hbg.rd.1
            have hm0 : x.2 % z.ds.length < z.ds.length := Nat.mod_lt _ (by have := HDN.out.1; omega)
            have HDD : Hid (vDig z.ds x = z.ds[x.2 % z.ds.length]'hm0) := Lib.hid (by
              unfold vDig
              rw [List.getElem?_eq_getElem hm0]
              rfl)
            have hsl := Sl.of_own (X := fun _ => False) hbg.rd.1 (fun _ _ _ h => h)
            obtain ⟨ai, rfl, hcd⟩ : ∃ ad, Ad = some ad /\ ∀ W, Below wr.heap.size wr W -> W.cell? (ad.add (x.2 % z.ds.length)) = some (.int .i64 (vDig z.ds x)) := by
              obtain ⟨A', c', hv, _, _, _, hx⟩ := id hsl
              injection hv with e1 e2 e3
              subst e1
              obtain ⟨ad, hA, _, _, _⟩ := hx (by have := HDN.out.1; omega)
              subst hA
              refine ⟨ad, rfl, fun W hW => ?_⟩
              obtain ⟨A', c', hv, _, _, _, hx⟩ := hsl.after hW
              injection hv with e1 e2 e3
              subst e1
              obtain ⟨ad', hA, _, _, hcell⟩ := hx (by have := HDN.out.1; omega)
              injection hA with hA
              subst hA
              refine hcell _ _ ?_
              rw [HDD.out]
              unfold IV
              rw [List.getElem?_map, List.getElem?_eq_getElem hm0]
              rfl
            clear hsl
            obtain ⟨As, cs, rfl⟩ := own_shape hbg.rg.1
            have HC0 := hcd _ ((Below.refl _ wr).alloc (Nat.le_refl _) (.cells #[.int .i64 x.1.key, .int .i64 x.1.kind, .int .i64 x.1.view, .int .i64 x.1.seq, .int .u8 (x.2 : Int)] 95))
            have hm1 : Int.tmod (x.2 : Int) (z.ds.length : Int) = ((x.2 % z.ds.length : Nat) : Int) := by
              rw [Int.tmod_eq_emod_of_nonneg (by omega)]
              omega
            have hm2 : ((x.2 % z.ds.length : Nat) : Int) < (z.ds.length : Int) := by omega
            have hm3 : (z.ds.length : Int) ≠ 0 := by have := HDN.out.1; omega
            have hm4 : (0 : Int) <= ((x.2 % z.ds.length : Nat) : Int) := by omega
            have hx9 : (x.2 : Int) < 256 := by omega
            clear HDD hm0 hcd
            generalize x.2 % z.ds.length = m at *
            have hd1 : (z.ds.length : Int) <= 1048577 := by have := HDN.out.2; omega
            have hd0 : (1 : Int) <= (z.ds.length : Int) := by have := HDN.out.1; omega
            clear hbg hjt hj hx8
            go_upto_region 20 with fail
            have K0 := HKV.out.cells
            obtain ⟨k2, k3, k4, k5, k6, k7, k8, k9⟩ := K0
            go_quiet (fail)
            have HKS := Lib.hid (HKV.out.later (below_drewN (Below.refl _ _) nq))
            clear HKV k2 k3 k4 k5 k6 k7 k8 k9 HC0 a0 a1 a2 a3 a4
            generalize ((wr.alloc (.cells #[.int .i64 x.1.key, .int .i64 x.1.kind, .int .i64 x.1.view, .int .i64 x.1.seq, .int .u8 (x.2 : Int)] 95)).drewN nq) = w7 at *
            generalize wr.heap.size = gx at *
            have HKD : Hid (KV 0 w q p g p' g' y.L y.G z.bs z.ds y.ss vb (.slice (some ai) z.ds.length cd) (.slice As y.ss.length cs) vals (.slice Aq nl cq) lq gx x c w7.drew) := Lib.hid (HKS.out.later (below_drewN (Below.refl _ _) 1))
            have hba : Below w7.drew.heap.size w7.drew (w7.alloc (.cells #[.int .i64 0, .int .i64 0] 36)).drew := show Below w7.drew.heap.size w7.drew (w7.drew.alloc (.cells #[.int .i64 0, .int .i64 0] 36)) from (Below.refl _ _).alloc (Nat.le_refl _) _
            have HKA := Lib.hid (HKD.out.box hba)
            have hga : paint c 9 w7.drew.heap.size (w7.alloc (.cells #[.int .i64 0, .int .i64 0] 36)).drew.heap.size w7.heap.size = 9 := paint_new (Nat.le_refl _) (by simp)
            have hka : Blk (w7.alloc (.cells #[.int .i64 0, .int .i64 0] 36)).drew w7.heap.size 36 #[.int .i64 0, .int .i64 0] := Blk.new w7 _ _
            have HGA := Lib.hid (And.intro hga hka)
            generalize paint c 9 w7.drew.heap.size (w7.alloc (.cells #[.int .i64 0, .int .i64 0] 36)).drew.heap.size = c9 at *
            clear hba hga hka HKS
            have HSE : Hid (∀ c W, KV 0 w q p g p' g' y.L y.G z.bs z.ds y.ss vb (.slice (some ai) z.ds.length cd) (.slice As y.ss.length cs) vals (.slice Aq nl cq) lq gx x c W -> Calls Tryz.prog 42 #[.pointer (some ⟨p', 0, none⟩), .pointer (some ⟨g', 0, none⟩), .int .i64 x.1.key, .int .i64 x.1.kind, .int .i64 x.1.view, .int .i64 x.1.seq, .int .i64 (vDig z.ds x)] W fun e w' => e = .returned (.tuple #[GV (vR y.L x.1 (vDig z.ds x)).1, .int .i64 (vR y.L x.1 (vDig z.ds x)).2]) /\ KV 0 w q p g p' g' (vT y.L x.1 (vDig z.ds x)) (Prw.vG y.L y.G x.1 (vDig z.ds x)) z.bs z.ds y.ss vb (.slice (some ai) z.ds.length cd) (.slice As y.ss.length cs) vals (.slice Aq nl cq) lq gx x (paint c 2 W.heap.size w'.heap.size) w' /\ Ch (fun k => c k = 2) W w') := Lib.hid (fun c W hW => hW.vote _ HGV.out)
            have HSV2 : Hid (stepV z.ds y x = ⟨vT y.L x.1 (vDig z.ds x), Prw.vG y.L y.G x.1 (vDig z.ds x), y.ss ++ [(vR y.L x.1 (vDig z.ds x)).1]⟩) := Lib.hid rfl
            generalize vT y.L x.1 (vDig z.ds x) = L2 at *
            generalize Prw.vG y.L y.G x.1 (vDig z.ds x) = G2 at *
            generalize vR y.L x.1 (vDig z.ds x) = sr at *
            obtain ⟨sg, er⟩ := sr
            unfold GV at HSE
            simp only at HSE HSV2
            generalize vDig z.ds x = dg at *
            obtain ⟨k2, k3, k4, k5, k6, k7, -, -⟩ := HKD.out.cells
            have D0 := And.intro k2 (And.intro k3 (And.intro k4 (And.intro k5 (And.intro k6 k7))))
            clear k2 k3 k4 k5 k6 k7
            obtain ⟨k2, k3, k4, k5, k6, k7, -, -⟩ := HKA.out.cells
            have A0 := And.intro k2 (And.intro k3 (And.intro k4 (And.intro k5 (And.intro k6 k7))))
            clear k2 k3 k4 k5 k6 k7
            have HC6 : Hid (∀ c W, KV 0 w q p g p' g' L2 G2 z.bs z.ds y.ss vb (.slice (some ai) z.ds.length cd) (.slice As y.ss.length cs) vals (.slice Aq nl cq) lq gx x c W -> W.cell? ⟨q, 2, none⟩ = some (.pointer (some ⟨p', 0, none⟩)) /\ W.cell? ⟨q, 3, none⟩ = some (.pointer (some ⟨g', 0, none⟩)) /\ W.cell? ⟨gx, 0, none⟩ = some (.int .i64 x.1.key) /\ W.cell? ⟨gx, 1, none⟩ = some (.int .i64 x.1.kind) /\ W.cell? ⟨gx, 2, none⟩ = some (.int .i64 x.1.view) /\ W.cell? ⟨gx, 3, none⟩ = some (.int .i64 x.1.seq)) := Lib.hid (fun c W hW => by
              obtain ⟨k2, k3, k4, k5, k6, k7, -, -⟩ := hW.cells
              exact ⟨k2, k3, k4, k5, k6, k7⟩)
            have hdi : Value.int .i64 dg = Value.int .i64 dg := rfl
            go_wp2_with fail
            go_cut [16, 17] (fun s16 s17 wx => ∃ gz, s16 = .pointer (some ⟨gz, 0, none⟩) /\ s17 = .int .i64 er /\ SW w q p g p' g' (.slice Aq nl cq) lq z ⟨L2, G2, y.ss⟩ vb (.slice (some ai) z.ds.length cd) (.slice As y.ss.length cs) sg gz wx)
            case first =>
              go_region_held3 (fun w' => w'.cell? ⟨q, 2, none⟩ = some (.pointer (some ⟨p', 0, none⟩)) /\ w'.cell? ⟨q, 3, none⟩ = some (.pointer (some ⟨g', 0, none⟩)) /\ w'.cell? ⟨gx, 0, none⟩ = some (.int .i64 x.1.key) /\ w'.cell? ⟨gx, 1, none⟩ = some (.int .i64 x.1.kind) /\ w'.cell? ⟨gx, 2, none⟩ = some (.int .i64 x.1.view) /\ w'.cell? ⟨gx, 3, none⟩ = some (.int .i64 x.1.seq))
                (first | with_reducible exact D0 | with_reducible exact A0 | with_reducible exact K8 | with_reducible exact K9 _ | with_reducible exact N9 _ _ | (go_keep; done))
                (first
                | (go_at_call 42; refine (HSE.out _ _ HKD.out).mono ?_; rintro e w8 ⟨rfl, hk8, hc8⟩; have HK8 := Lib.hid hk8; have K8 := HC6.out _ _ hk8; have K9 := fun o => (HC6.out _ _ (hk8.later ((Below.refl _ _).alloc (Nat.le_refl _) o))); have HK9 := fun o => Lib.hid (hk8.later ((Below.refl _ _).alloc (Nat.le_refl _) o)); clear hk8 hc8)
                | (go_at_call 42; refine (HSE.out _ _ HKA.out).mono ?_; rintro e w8 ⟨rfl, hk8, hc8⟩; have HK8 := Lib.hid hk8; have K8 := HC6.out _ _ hk8; have hz8 := blk_hue HGA.out.2 HGA.out.1 hc8 (by decide); have z0 := hz8.cell 0; have z1 := hz8.cell 1; have y0 := hz8.frozen 0; have y1 := hz8.frozen 1; simp only [List.getElem?_toArray, List.getElem?_cons_zero, List.getElem?_cons_succ] at z0 z1; have HN9 := fun x0 x1 => Lib.hid (KV.set2 (x0 := x0) (x1 := x1) hk8 ((paint_old (Blk.lt HGA.out.2)).trans HGA.out.1) hz8); have N9 := fun x0 x1 => HC6.out _ _ (HN9 x0 x1).out.1; clear hk8 hc8 hz8))
              all_goals
                go_wp2_with fail
                go_meet
                first
                  | exact ⟨_, rfl, rfl, _, _, (HK9 _).out.bg, Blk.new w8 _ _⟩
                  | exact ⟨_, rfl, rfl, _, _, (HN9 _ _).out.1.bg, (HN9 _ _).out.2⟩
            case rest =>
              obtain ⟨gz, rfl, rfl, vals', c', hbg, hbz⟩ := hcut
              dsimp only at hbg
              have q6 := hbg.st.cell 6
              have z0 := hbz.cell 0
              have z1 := hbz.cell 1
              have ba : Below wc.heap.size wc (wc.alloc (.cells #[.int .i64 sg.1, .int .i64 sg.2] 36)) := (Below.refl _ _).alloc (Nat.le_refl _) _
              have Ha : BG 0 w q p g p' g' [] [] L2 G2 z.bs z.ds y.ss vb (.slice (some ai) z.ds.length cd) (.slice As y.ss.length cs) N0 [] vals' [] (SB p g p' g' vb (.slice (some ai) z.ds.length cd) (.slice As y.ss.length cs)) (.slice Aq nl cq) lq c' (wc.alloc (.cells #[.int .i64 sg.1, .int .i64 sg.2] 36)).drew := (show BG 0 w q p g p' g' [] [] L2 G2 z.bs z.ds y.ss vb (.slice (some ai) z.ds.length cd) (.slice As y.ss.length cs) N0 [] vals' [] (SB p g p' g' vb (.slice (some ai) z.ds.length cd) (.slice As y.ss.length cs)) (.slice Aq nl cq) lq c' ((wc.alloc (.cells #[.int .i64 sg.1, .int .i64 sg.2] 36)).drewN 1) from hbg.later (below_drewN ba 1))
              have a6 := Ha.st.cell 6
              have b6 := hbz.below (below_drewN ba 1) hbz.lt
              have b0 : (wc.alloc (.cells #[.int .i64 sg.1, .int .i64 sg.2] 36)).drew.cell? ⟨gz, 0, none⟩ = some (.int .i64 sg.1) := b6.cell 0
              have b1 : (wc.alloc (.cells #[.int .i64 sg.1, .int .i64 sg.2] 36)).drew.cell? ⟨gz, 1, none⟩ = some (.int .i64 sg.2) := b6.cell 1
              simp only [SB, List.getElem?_toArray, List.getElem?_cons_zero, List.getElem?_cons_succ] at q6 z0 z1 a6
              have kA : Blk (wc.alloc (.cells #[.int .i64 sg.1, .int .i64 sg.2] 36)).drew wc.heap.size 36 #[.int .i64 sg.1, .int .i64 sg.2] := Blk.new wc _ _
              have SA : Hid (Sl (wc.alloc (.cells #[.int .i64 sg.1, .int .i64 sg.2] 36)).drew (fun _ => False) 2 (.slice (some ⟨wc.heap.size, 0, none⟩) 1 1) 1 [.int .i64 sg.1, .int .i64 sg.2]) := Lib.hid (two_cell _ _ _ _ kA (fun h => h))
              have HOW : Hid ((wc.alloc (.cells #[.int .i64 sg.1, .int .i64 sg.2] 36)).drew.ownsRow w.heap.size 36 2 (.slice As y.ss.length cs) y.ss.length (GVs y.ss) /\ w.heap.size <= (wc.alloc (.cells #[.int .i64 sg.1, .int .i64 sg.2] 36)).drew.heap.size) := Lib.hid ⟨Ha.rg.1, Ha.below.size⟩
              have HV1 : Hid (∀ u ∈ [(Value.int .i64 sg.1), .int .i64 sg.2], u.oneCell' = true) := Lib.hid (fun u hu => by
                simp only [List.mem_cons, List.not_mem_nil, or_false] at hu
                rcases hu with rfl | rfl <;> rfl)
              have HN1 : Hid (y.ss.length + 1 <= maxLen /\ (y.ss.length + 1) * 16 <= 140737488355328) := Lib.hid (by
                have h1 := HSN.out
                have h2 := HJT.out
                have h3 := HVN.out.1
                simp only [maxLen]
                omega)
              have PE : Hid (∀ vs' w9, Appended (wc.alloc (.cells #[.int .i64 sg.1, .int .i64 sg.2] 36)).drew w.heap.size 36 2 (.slice As y.ss.length cs) (y.ss.length + 1) (GVs y.ss ++ [.int .i64 sg.1, .int .i64 sg.2]) vs' w9 -> w9.cell? ⟨q, 6, none⟩ = some (.slice As y.ss.length cs) /\ w9.frozen? ⟨q, 6, none⟩ = false /\ SV w q p g p' g' (.slice Aq nl cq) lq z ⟨L2, G2, y.ss ++ [sg]⟩ (w9.setCell ⟨q, 6, none⟩ vs')) := Lib.hid (fun vs' w9 happ => by
                have h := BG.putg Ha happ
                exact ⟨h.st.cell 6, h.st.frozen 6, _, _, _, _, _, BG.set h ((Ch.refl (fun k => k = q) w9).setCell (p := ⟨q, 6, none⟩) (fun _ => rfl) _) (by
                  have := h.st.set_ 6 vs'
                  simpa [SB] using this)⟩)
              obtain ⟨ig2, hig, hzg, hsg, hyg⟩ := info_parts info_sgn
              have HIG := Lib.hid (And.intro hig (And.intro hzg (And.intro hsg hyg)))
              have tA : Tag (wc.alloc (.cells #[.int .i64 sg.1, .int .i64 sg.2] 36)).drew := ⟨⟩
              clear hbg hbz ba Ha kA hig hzg hsg hyg b6
              go_upto_region 22 with fail
              go_region_law (first
                | ((with_reducible refine at_tag tA ?_); refine step_append_sh (by rfl) (.tmp 147) (.tmp 149) _ (by rfl) w.heap.size 36 ig2 _ 2 16 Tryz.underlying37 HIG.out.1 HIG.out.2.1 HIG.out.2.2.1 HIG.out.2.2.2 rfl (by omega) (.slice As y.ss.length cs) y.ss.length (GVs y.ss) (by rfl) HOW.out.1 (fun _ => False) (.slice (some ⟨wc.heap.size, 0, none⟩) 1 1) 1 [.int .i64 sg.1, .int .i64 sg.2] (by rfl) SA.out HV1.out HN1.out.1 HN1.out.2 HOW.out.2 ?_; intro A9 c9 w9 happ; obtain ⟨j0, j1, hfin⟩ := PE.out _ _ happ; have HFIN := Lib.hid hfin; clear happ hfin))
              all_goals
                go_wp2_with fail
                go_roundw
                case rel => exact ⟨j + 1, by have := HJT.out; omega, by go_num, by rw [HST.out, HSV2.out]; exact HFIN.out⟩
                case measure => have := HJT.out; simp [intOf]; omega
          . have hje : j = vts.length := by omega
            subst hje
            rw [List.take_length] at hsv
            obtain ⟨vb, vd, vs1, vals, c, hbg⟩ := hsv
            have HGX : Hid ((votesV z vts).G.length <= 1099513724928) := Lib.hid (by
              have h1 := (votesV_len z vts vts.length (Nat.le_refl _)).1
              rw [List.take_length] at h1
              have h2 := HGN.out
              have h3 := HVN.out.1
              omega)
            have hvf : decide ((vts.length : Int) < (vts.length : Int)) = false := decide_eq_false (by omega)
            clear HVN HGN HDN HVT hj hjt hvi
            generalize votesV z vts = x at *
            obtain ⟨lv, lg, hkf⟩ := KF.start hbg
            obtain ⟨Al, cl, rfl⟩ : ∃ A c, lv = .slice A x.L.length c := by
              obtain ⟨vals, ⟨A, c, rfl, _⟩, _⟩ := hkf.ls
              exact ⟨A, c, rfl⟩
            obtain ⟨Ag, cg, rfl⟩ : ∃ A c, lg = .slice A x.G.length c := by
              obtain ⟨A, c, rfl, _⟩ := hkf.gs
              exact ⟨A, c, rfl⟩
            have q2 := hbg.st.cell 2
            have p0 := hkf.kp.cell 0
            simp only [SB, List.getElem?_toArray, List.getElem?_cons_zero, List.getElem?_cons_succ] at q2 p0
            have HKF := Lib.hid hkf
            have hxl : (x.L.length : Int) <= 1048576 := by have := HTD.out.len; omega
            clear hbg hkf
            go_wp2_with fail
            clear q2 p0
            go_loopw [162] (fun i wr => ∃ k : Nat, k <= x.L.length /\ i = .int .i64 k /\ ∃ c, KF w q p g p' g' (x.L.take k) [] x.L x.G z.bs z.ds x.ss vb vd vs1 vals (.slice Aq nl cq) lq (.slice Al x.L.length cl) (.slice Ag x.G.length cg) c wr) (fun i _ => x.L.length - (intOf i).toNat)
            case atStart => exact ⟨0, Nat.zero_le _, rfl, _, HKF.out⟩
            case round =>
              obtain ⟨k, hk, rfl, c, hkf⟩ := hrel
              clear HKF
              by_cases hkt : k < x.L.length
              . have hkp : (0 : Int) <= (k : Int) := by omega
                have hkn : (k : Int) < (x.L.length : Int) := by omega
                have hkd : decide ((k : Int) < (x.L.length : Int)) = true := decide_eq_true hkn
                obtain ⟨al, Bl, dl, rfl, hcu, hsl⟩ := hkf.ls.at_ hkt
                have q0 := hkf.bg.st.cell 0
                simp only [SB, List.getElem?_toArray, List.getElem?_cons_zero, List.getElem?_cons_succ] at q0
                have HS := Lib.hid (hkf.sum hsl (hkf.hl _ (List.getElem_mem hkt)))
                have HFL := Lib.hid (HTD.out.fill hkt)
                have HKT := Lib.hid hkt
                generalize x.L[k] = b at *
                clear hkf hsl hk hkt
                go_wp2_with fail
                refine HS.out.mono ?_
                rintro e w2 ⟨rfl, hk2, hc2⟩
                have HK2 := Lib.hid hk2
                clear hk2 hc2 HS
                go_wp2_with fail
                go_roundw
                case rel => exact ⟨k + 1, by have := HKT.out; omega, by go_num, by rw [<- HFL.out]; exact ⟨_, HK2.out⟩⟩
                case measure => have := HKT.out; simp [intOf]; omega
              . have hke : k = x.L.length := by omega
                subst hke
                rw [List.take_length] at hkf
                have hlf : decide ((x.L.length : Int) < (x.L.length : Int)) = false := decide_eq_false (by omega)
                have q3 := hkf.bg.st.cell 3
                have g0 := hkf.kg.cell 0
                simp only [SB, List.getElem?_toArray, List.getElem?_cons_zero, List.getElem?_cons_succ] at q3 g0
                have HKF := Lib.hid hkf
                have hxg : (x.G.length : Int) <= 1099513724928 := by have := HGX.out; omega
                clear hkf hk hkt hxl
                go_wp2_with fail
                clear q3 g0
                go_loopw [181] (fun i wr => ∃ k : Nat, k <= x.G.length /\ i = .int .i64 k /\ ∃ c, KF w q p g p' g' x.L (x.G.take k) x.L x.G z.bs z.ds x.ss vb vd vs1 vals (.slice Aq nl cq) lq (.slice Al x.L.length cl) (.slice Ag x.G.length cg) c wr) (fun i _ => x.G.length - (intOf i).toNat)
                case atStart => exact ⟨0, Nat.zero_le _, rfl, _, HKF.out⟩
                case round =>
                  obtain ⟨k, hk, rfl, c, hkf⟩ := hrel
                  clear HKF
                  by_cases hkt : k < x.G.length
                  . have hkp : (0 : Int) <= (k : Int) := by omega
                    have hkn : (k : Int) < (x.G.length : Int) := by omega
                    have hkd : decide ((k : Int) < (x.G.length : Int)) = true := decide_eq_true hkn
                    obtain ⟨ag, rfl, hc0, hc1⟩ := gs_at hkf.gs hkt
                    obtain ⟨hpy, hwf⟩ := HTD.out.sign hkt
                    have hb1 : Below wr.heap.size wr (wr.alloc (.cells #[.int .i64 x.G[k].1, .int .i64 x.G[k].2] 36)) := (Below.refl _ wr).alloc (Nat.le_refl _) _
                    have hkb := (hkf.later hb1).later (below_drewN (Below.refl _ _) 1)
                    have r1 : (wr.alloc (.cells #[.int .i64 x.G[k].1, .int .i64 x.G[k].2] 36)).drew.cell? ⟨q, 1, none⟩ = some (.pointer (some ⟨g, 0, none⟩)) := hkb.bg.st.cell 1
                    have hbx : Blk (wr.alloc (.cells #[.int .i64 x.G[k].1, .int .i64 x.G[k].2] 36)).drew wr.heap.size 36 #[.int .i64 x.G[k].1, .int .i64 x.G[k].2] := Blk.new wr _ _
                    have r2 := hbx.cell 0
                    have r3 := hbx.cell 1
                    simp only [List.getElem?_toArray, List.getElem?_cons_zero, List.getElem?_cons_succ] at r2 r3
                    have HS := Lib.hid (hkb.sign (s := x.G[k]) hwf (by rw [List.length_take]; have := HGX.out; omega))
                    have HFL := Lib.hid hpy
                    have HKT := Lib.hid hkt
                    generalize x.G[k] = b at *
                    have hx0 : c wr.heap.size = 0 := hkf.bg.hue _ (Nat.le_refl _)
                    have HR2 : Hid (∀ c2 w2, KF w q p g p' g' x.L (pay (x.G.take k) b) x.L x.G z.bs z.ds x.ss vb vd vs1 vals (.slice (Aq) nl cq) lq (.slice Al x.L.length cl) (.slice (some ag) x.G.length cg) c2 w2 -> Ch (fun k => c k = 1) (wr.alloc (.cells #[.int .i64 b.1, .int .i64 b.2] 36)).drew w2 -> w2.cell? ⟨q, 1, none⟩ = some (.pointer (some ⟨g, 0, none⟩)) /\ w2.cell? ⟨wr.heap.size, 0, none⟩ = some (.int .i64 b.1) /\ w2.cell? ⟨wr.heap.size, 1, none⟩ = some (.int .i64 b.2)) := Lib.hid (fun c2 w2 h2 hc => by
                      have := hbx.ch hc (fun hx => by omega)
                      exact ⟨h2.bg.st.cell 1, this.cell 0, this.cell 1⟩)
                    clear hkf hkb hbx hb1 hk hkt hpy hwf hx0
                    go_upto_region 32 with fail
                    have R0 := And.intro r1 (And.intro r2 r3)
                    clear r1 r2 r3
                    go_region_held3 (fun w' => w'.cell? ⟨q, 1, none⟩ = some (.pointer (some ⟨g, 0, none⟩)) /\ w'.cell? ⟨wr.heap.size, 0, none⟩ = some (.int .i64 b.1) /\ w'.cell? ⟨wr.heap.size, 1, none⟩ = some (.int .i64 b.2))
                      (first | with_reducible exact R0 | with_reducible exact R2 | (go_keep; done))
                      (first | (go_at_call 44; refine HS.out.mono ?_; rintro e w2 ⟨rfl, hk2, hc2⟩; have HK2 := Lib.hid hk2; have R2 := HR2.out _ _ hk2 hc2; clear hk2 hc2))
                    all_goals
                      go_wp2_with fail
                      go_roundw
                      case rel => exact ⟨k + 1, by have := HKT.out; omega, by go_num, by rw [<- HFL.out]; exact ⟨_, HK2.out⟩⟩
                      case measure => have := HKT.out; simp [intOf]; omega
                  . have hke : k = x.G.length := by omega
                    subst hke
                    rw [List.take_length] at hkf
                    have hgf : decide ((x.G.length : Int) < (x.G.length : Int)) = false := decide_eq_false (by omega)
                    have HKF := Lib.hid hkf
                    clear hkf hk hkt
                    go_wp2_with fail
                    go_ret
                    exact HWI.out _ _ _ _ ⟨_, _, _, _, _, _, _, _, _, _, _, _, rfl, HKF.out.bg⟩
end Go.Proofs.YtmhmnkpaijoaaaaGreat.Psf

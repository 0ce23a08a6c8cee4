import Derived.Test.YtdkjimfehipeaaaGreatDoorT13
import Derived.Test.YtdkjimfehipeaaaGreatDoorCd
import Derived.Test.YtdkjimfehipeaaaGreatDoorCo
/-
  Contract of layer 4's Get.
-/
namespace Go.Proofs.YtdkjimfehipeaaaGreatDoor.Vc
open Go Go.RowKit Ck Kw Ga Dm Dw Da Db Dc Dd De Df Dg Dh Wc Wf Wa Wb Wd Wn We Kx Wg Wh Wl Wj Wk Wo Wq Wr Ws Wt Wu Wv Ww Wx Wy Wz Va Vb
attribute [local go_sem ↓] Go.wp_at_zero Go.wp_at_succ
set_option linter.unusedVariables false

/-- What Get reads of a log. -/
structure Reads (w : World) (g p gb cap : Nat) (name : Tx) (most y : Nat) (segs : List Sg) : Prop where
  lgc : LgC w g p gb cap name most segs y
  row : ∀ i (h : i < segs.length), ∃ u, w.cell? ⟨gb, i * 4, none⟩ = some (.int .i64 (segs[i].num : Int)) ∧ w.cell? ⟨gb, i * 4 + 1, none⟩ = some (.int .i64 (segs[i].first : Int)) ∧ w.cell? ⟨gb, i * 4 + 2, none⟩ = some (.int .i64 (segs[i].size : Int)) ∧ w.cell? ⟨gb, i * 4 + 3, none⟩ = some u ∧ Rcs w (fun _ => True) u segs[i].recs
theorem Reads.of {w : World} {S : Nat → Prop} {g p most y : Nat} {name : Tx} {segs : List Sg} (h : Lg w S g p name most segs y) (hne : 0 < segs.length) : ∃ gb cap, Reads w g p gb cap name most y segs := by
  obtain ⟨gb, cap, hC, _, _⟩ := h.cells hne
  obtain ⟨v, rv, k1, k2, k3, _⟩ := h
  have e1 := hC.blk.cell 3
  have e2 := k1.cell 3
  simp only [List.getElem?_toArray, List.getElem?_cons_zero, List.getElem?_cons_succ] at e1 e2
  rw [e1] at e2
  injection e2 with e2
  subst e2
  obtain ⟨gb', cap', hv, _, _, _, hat⟩ := k3.at_ hne
  injection hv with hv1 _ hv3
  injection hv1 with hv1
  injection hv1 with hv1
  subst hv1
  exact ⟨gb, cap, hC, fun i hi => by obtain ⟨u, _, c0, c1, c2, c3, _, hr⟩ := hat i hi; exact ⟨u, c0, c1, c2, c3, hr.weaken (fun _ _ => trivial)⟩⟩
theorem Reads.after {w w' : World} {g p gb cap most y : Nat} {name : Tx} {segs : List Sg} (h : Reads w g p gb cap name most y segs) (b : Below w.heap.size w w') : Reads w' g p gb cap name most y segs :=
  ⟨h.lgc.after b, fun i hi => by
    obtain ⟨u, c0, c1, c2, c3, hr⟩ := h.row i hi
    have k : ∀ {a : Addr} {v : Value}, w.cell? a = some v → w'.cell? a = some v := fun {a v} h => (b.cell (World.block_lt_of_cell? _ _ h)).trans h
    exact ⟨u, k c0, k c1, k c2, k c3, hr.after b⟩⟩

set_option maxRecDepth 100000 in
set_option maxHeartbeats 16000000 in
theorem getn_log (w : World) (g p gb cap : Nat) (name : Tx) (most y : Nat) (segs : List Sg) (h : Reads w g p gb cap name most y segs) (s0 sl : Sg) (rest ini : List Sg) (e1 : segs = s0 :: rest) (e2 : segs = ini ++ [sl]) (hfew : segs.length ≤ 549755813888) (n q j : Nat) (hq : q < segs.length) (hj : j < segs[q].recs.length) (hn : n = segs[q].first + j)
    (h0 : s0.first ≤ n) (hlast : n < sl.first + sl.recs.length) (hlow : ∀ i (hi : i < q), segs[i].first + segs[i].recs.length ≤ n) (hxl : segs[q].recs[j].length ≤ 549755813888) :
    Calls Tryz.prog 35 #[.pointer (some ⟨g, 0, none⟩), .int .i64 (n : Int)] w (Got w (segs[q].recs[j], 0)) := by
  have HM := Lib.hid (made_log w g p gb cap name most segs y h.lgc)
  have HFI : Hid (Calls Tryz.prog 25 #[.pointer (some ⟨g, 0, none⟩)] w fun e w' => e = .returned (.int .i64 (s0.first : Int)) ∧ w = w') := Lib.hid (first_log w g p gb cap name most s0 rest y (by rw [← e1]; exact h.lgc) (by have := congrArg List.length e1; simp at this; omega))
  have HLA : Hid (Calls Tryz.prog 24 #[.pointer (some ⟨g, 0, none⟩)] w fun e w' => e = .returned (.int .i64 (lastS sl)) ∧ Below w.heap.size w w') := Lib.hid (lastn_log w g p gb cap name most ini sl y (by rw [← e2]; exact h.lgc) (by have := congrArg List.length e2; simp at this; omega))
  have t1 : ¬ (n : Int) < (s0.first : Int) := by omega
  have t2 : ¬ lastS sl < (n : Int) := by unfold lastS; omega
  have U := Lib.hid (And.intro (show decide (n < s0.first) = false by simp; omega) (show decide (lastS sl < (n : Int)) = false by simp; omega))
  have H := Lib.hid h
  have HLOW := Lib.hid hlow
  have HQ : Hid (n < segs[q].first + segs[q].recs.length) := Lib.hid (by omega)
  have HN := Lib.hid hn
  have HFEW := Lib.hid hfew
  clear h hlow h0 hlast e1 e2 hn
  go_enter Tryz.func35, Tryz.ntmps35
  go_wp2_with (first
    | (go_at_call 53; refine HM.out.mono ?_; rintro e w1 ⟨rfl, rfl⟩)
    | (go_at_call 25; refine HFI.out.mono ?_; rintro e w1 ⟨rfl, rfl⟩)
    | (go_at_call 24; refine HLA.out.mono ?_; rintro e w1 ⟨rfl, hb1⟩; have HB1 := Lib.hid hb1; clear hb1))
  clear t1 t2
  simp only [U.out.1, U.out.2, Bool.or_false]
  go_loopw [6] (fun i wr => ∃ k : Nat, k ≤ q ∧ i = .int .i64 k ∧ Hid (Below w.heap.size w wr)) (fun i _ => q - (intOf i).toNat)
  case atStart => exact ⟨0, Nat.zero_le _, rfl, HB1⟩
  case round =>
    obtain ⟨k, hk, rfl, hb⟩ := hrel
    have hkl : k < segs.length := by omega
    have HR := Lib.hid (H.out.after hb.out)
    have d3 := HR.out.lgc.blk.cell 3
    simp only [List.getElem?_toArray, List.getElem?_cons_zero, List.getElem?_cons_succ] at d3
    obtain ⟨u, c0, c1, c2, c3, hr⟩ := HR.out.row k hkl
    obtain ⟨Au, cu, rfl⟩ := hr.shape
    have HNX := Lib.hid (fun W => next_any W segs[k] Au cu (HR.out.lgc.good _ (List.getElem_mem hkl)))
    have HRC := Lib.hid hr
    obtain ⟨N, hN⟩ : ∃ N, N = segs.length := ⟨_, rfl⟩
    have i1 : (k : Int) < (N : Int) := by omega
    rw [← hN] at d3
    have HNN := Lib.hid hN
    clear hr hN
    by_cases hlt : k < q
    · have hge : segs[k].first + segs[k].recs.length ≤ n := HLOW.out k hlt
      have t3 : ((segs[k].first + segs[k].recs.length : Nat) : Int) ≤ (n : Int) := by omega
      obtain ⟨nx, hnx⟩ : ∃ nx, nx = segs[k].first + segs[k].recs.length := ⟨_, rfl⟩
      rw [← hnx] at t3 HNX
      clear hge hnx
      go_wp2_with fail
      refine (HNX.out _).mono ?_
      rintro e w2 ⟨rfl, hb2⟩
      have HB2 := Lib.hid hb2
      clear hb2
      go_wp2_with fail
      go_roundw
      case rel => exact ⟨k + 1, by omega, by go_num, Lib.hid (hb.out.trans (HB2.out.mono hb.out.size))⟩
      case measure => simp [intOf]; omega
    · have hke : k = q := by omega
      subst hke
      have t3 : ¬ ((segs[k].first + segs[k].recs.length : Nat) : Int) ≤ (n : Int) := by have := HQ.out; omega
      obtain ⟨nx, hnx⟩ : ∃ nx, nx = segs[k].first + segs[k].recs.length := ⟨_, rfl⟩
      rw [← hnx] at t3 HNX
      clear hnx
      obtain ⟨sg, hsg⟩ : ∃ sg, sg = segs[k] := ⟨_, rfl⟩
      have HSG := Lib.hid hsg
      have hj' : j < sg.recs.length := by rw [hsg]; exact hj
      have HGG : Hid (GoodS sg ∧ n = sg.first + j) := Lib.hid ⟨by rw [hsg]; exact HR.out.lgc.good _ (List.getElem_mem hkl), by rw [hsg]; exact HN.out⟩
      have hres : segs[k].recs[j] = sg.recs[j] := by subst hsg; rfl
      have HRES := Lib.hid hres
      have hxl' : sg.recs[j].length ≤ 549755813888 := by rw [← hres]; exact hxl
      rw [← hsg] at c0 c1 c2 c3 HRC HNX
      clear hsg hres
      go_wp2_with fail
      refine (HNX.out _).mono ?_
      rintro e w2 ⟨rfl, hb2⟩
      have HB2 := Lib.hid hb2
      have hb3 : Below wr.heap.size wr (w2.alloc (.cells #[.int .i64 (sg.num : Int), .int .i64 (sg.first : Int), .int .i64 (sg.size : Int), .slice Au sg.recs.length cu] 97)) := hb2.alloc hb2.size _
      have d3 := (hb2.cell (World.block_lt_of_cell? _ _ d3)).trans d3
      have c0 := (hb2.cell (World.block_lt_of_cell? _ _ c0)).trans c0
      have c1 := (hb2.cell (World.block_lt_of_cell? _ _ c1)).trans c1
      have c2 := (hb2.cell (World.block_lt_of_cell? _ _ c2)).trans c2
      have c3 := (hb2.cell (World.block_lt_of_cell? _ _ c3)).trans c3
      obtain ⟨vals, hv, _, hi⟩ := HRC.out.after hb3
      obtain ⟨Ax, cx, hx, hox, _⟩ := hi j hj'
      have hvl : j < vals.length := (List.getElem?_eq_some_iff.1 hx).1
      obtain ⟨ad, rfl, hadl, -, hcell⟩ := sl_get (Sl.of_own hv (X := fun _ => False) (fun _ _ _ h => h)) hvl
      have hvx : vals[j] = .slice Ax sg.recs[j].length cx := (List.getElem?_eq_some_iff.1 hx).2
      rw [hvx] at hcell
      have HOX := Lib.hid hox
      have hwr : IntKind.i64.wrap ((n : Int) - (sg.first : Int)) = (j : Int) := by have := HGG.out.2; have := HGG.out.1.first; have := HGG.out.1.few; have := HGG.out.1.size; rw [wrap64 (by omega) (by omega)]; omega
      have hjl : (j : Int) < (sg.recs.length : Int) := by omega
      clear hb2 hv hi hx hox hvx hvl
      go_wp2_with fail
      refine (clone_sh (fun _ => False) _ sg.recs[j].length sg.recs[j] _ (Sl.of_own HOX.out (fun _ _ _ h => h)) hxl').mono ?_
      rintro e w4 ⟨A4, c4, rfl, ho4, hb4⟩
      have HO4 := Lib.hid ho4
      have HB4 := Lib.hid (hb3.trans (hb4.mono (by have := HB2.out.size; simp; omega)))
      clear ho4 hb4
      go_wp2_with fail
      go_ret2
      rw [HRES.out]
      exact ⟨A4, c4, rfl, own_base HO4.out (by have := hb.out.size; have := HB2.out.size; simp; omega), hb.out.trans (HB4.out.mono hb.out.size)⟩

end Go.Proofs.YtdkjimfehipeaaaGreatDoor.Vc

/-
  Contract of layer 4's law's begun.
-/
namespace Go.Proofs.YtdkjimfehipeaaaGreatDoor.Vd
open Go Go.RowKit Ck Kw Ga Dm Dw Da Db Dc Dd De Df Dg Dh Wc Wf Wa Wb Wd Wn We Kx Wg Wh Wl Wj Wk Wo Wq Wr Ws Wt Wu Wv Ww Wx Wy Wz Va Vb Vc
attribute [local go_sem ↓] Go.wp_at_zero Go.wp_at_succ
set_option linter.unusedVariables false

theorem frs_frames {xs : List Bs} (h : ∀ x ∈ xs, x.length ≤ 524288) : Frs (frames xs) xs [] := ⟨by simp, h, fun x t hf => by
  have := congrArg List.length hf.1
  have := frame_pos x
  simp at *
  omega⟩
def lg : Tx := [108, 111, 103]
def r78 : Tx := [7, 8]
theorem okName_lg : okName lg = true := by decide
def seg1 : Sg := ⟨1, 1, (head 1).length + (frame r78).length, [r78]⟩
def L1 : List Fl := [⟨nm lg 1, head 1, (head 1).length⟩]
def L2 : List Fl := [⟨nm lg 1, head 1 ++ frame r78, (head 1).length⟩]
theorem frame_r78 : (frame r78).length ≤ 20 ∧ 5 ≤ (frame r78).length := by
  have := Cm.enc_len r78.length
  rw [frame_len]
  have h1 := this.1
  have h2 := this.2
  have h3 : r78.length = 2 := rfl
  omega
theorem app_L1 : appS L1 1000 false (nm lg 1) (frame r78) = (L2, 0) := by
  have h1 := head_len 1
  have h2 := frame_r78
  have hf : find L1 (nm lg 1) = some ⟨nm lg 1, head 1, (head 1).length⟩ := by simp [find, L1]
  rw [appS, hf]
  simp only [Bool.false_eq_true, if_false, putS]
  rw [if_neg (by simp [L1, used]; omega)]
  simp [L1, L2, upd, setf, Db.wr]
theorem seg1_of : segOf 1 [Cm.enc 1, r78] = seg1 := by
  have h : fstOf (Cm.enc 1) = 1 := fstOf_enc (by omega)
  simp only [segOf, h]
  rw [if_neg (by omega)]
  simp [seg1, frames, head]
theorem loads_L2 : Loads L2 lg ([] ++ [seg1]) := by
  have h1 := head_len 1
  have h2 := frame_r78
  have he := Cm.enc_len 1
  refine ⟨fun i hi => ?_, fun i hi => by simp at hi, by simp⟩
  have hi0 : i = 0 := by simpa using hi
  subst hi0
  refine ⟨⟨nm lg 1, head 1 ++ frame r78, (head 1).length⟩, [Cm.enc 1, r78], [], ⟨?_, ?_, seg1_of, ?_, ⟨?_, ?_, ?_, ?_⟩, ?_, ?_⟩, fun h => by simp at h⟩
  · simp [find, L2, seg1]
  · have := frs_frames (xs := [Cm.enc 1, r78]) (fun x hx => by
      simp at hx
      rcases hx with rfl | rfl
      · have := he.1; omega
      · simp [r78])
    simpa [frames, head] using this
  · simp [seg1]
  · simp [seg1]
  · simp [seg1]
  · simp [seg1]; omega
  · simp [seg1]; omega
  · simp [seg1]
  · simp; omega

theorem two_lit (w : World) (X : Nat → Prop) (t : TypeId) (hX : ¬ X w.heap.size) : Sl (w.alloc (.cells #[.int .u8 7, .int .u8 8] t)) X 1 (.slice (some ⟨w.heap.size, 0, none⟩) 2 2) 2 (BVs r78) := by
  refine ⟨_, _, rfl, rfl, Nat.le_refl _, by simp only [maxLen]; omega, fun _ => ⟨_, rfl, by simp, hX, fun j x hx => ?_⟩⟩
  have ha : (⟨w.heap.size, 0, none⟩ : Addr).add j = ⟨w.heap.size, j, none⟩ := by unfold Addr.add; split <;> simp_all
  rw [ha, Blk.cell (Blk.new w t _) j]
  have e : BVs r78 = [.int .u8 7, .int .u8 8] := rfl
  rw [e] at hx
  simpa using hx

set_option maxRecDepth 100000 in
set_option maxHeartbeats 16000000 in
theorem begun_any (w : World) (hT : Tab w) : Calls Tryz.prog 12 #[] w fun e w' => e = .returned (.bool true) ∧ Below w.heap.size w w' := by
  have HT := Lib.hid hT
  clear hT
  go_enter Tryz.func12, Tryz.ntmps12
  go_wp2_with fail
  refine (new_ok w 1000 (by omega)).mono ?_
  rintro e w1 ⟨p, rfl, hdk, hb1⟩
  have HB1 := Lib.hid hb1
  have HOP := Lib.hid (open_empty w1 (New w w1) p 1000 lg 64 hdk (fun k hk => hk.2) (HT.out.after hb1) (fun hz => by have := HT.out.lt; have := hz.1; omega) okName_lg (by omega) (by omega) (by omega))
  clear hdk hb1
  go_wp2_with fail
  refine HOP.out.mono ?_
  rintro e w2 ⟨g, S1, S2, rfl, hD, hS⟩
  have HD2 := Lib.hid hD
  have HS2 := Lib.hid hS
  clear hD hS HOP
  go_wp2_with fail
  have hal : Below w2.heap.size w2 (w2.alloc (.cells #[.int .u8 7, .int .u8 8] 5)) := (Below.refl _ w2).alloc (Nat.le_refl _) _
  have HAL := Lib.hid hal
  have HAP := Lib.hid (append_log (w2.alloc (.cells #[.int .u8 7, .int .u8 8] 5)) S1 S2 (fun k => k < w2.heap.size) g p L1 1000 lg 64 [] ⟨1, 1, (head 1).length, []⟩ 0 ⟨nm lg 1, head 1, (head 1).length⟩ (HD2.out.later hal) (by simp) (by simp) (by simp [find, L1]) rfl (some ⟨w2.heap.size, 0, none⟩) 2 r78 (two_lit w2 _ _ (by simp)) (fun k hk => HD2.out.b1 k hk) (fun k hk => HD2.out.b2 k hk) (by simp [r78]))
  clear hal
  refine HAP.out.mono ?_
  rintro e w4 hA
  have hA2 : e = .returned (.tuple #[.int .i64 1, .int .i64 0]) ∧ Wal S1 S2 g p 1000 lg 64 (w2.alloc (.cells #[.int .u8 7, .int .u8 8] 5)) L2 [seg1] 0 w4 := by
    rcases hA with ⟨_, hA⟩ | ⟨hf, _⟩ | ⟨hf, _⟩
    · rcases hA with ⟨_, he, hw⟩ | ⟨hc, _⟩
      · rw [app_L1] at hw
        exact ⟨he, hw⟩
      · rw [app_L1] at hc
        exact absurd rfl hc
    · simp [full] at hf
    · simp [full] at hf
  obtain ⟨rfl, R1, R2, hD, hS⟩ := hA2
  have HD4 := Lib.hid hD
  have HS4 := Lib.hid hS
  have HOP := Lib.hid (open_segs w4 R2 p 1000 lg 64 L2 [] seg1 hD.dk hD.b2 hD.tab hD.z2 okName_lg (by omega) (by omega) loads_L2 (by simp [L2, seg1]) (by simp [seg1]) (by simp [find, L2, nm_ne]))
  obtain ⟨gb4, cap4, hC4, hgb4, _⟩ := hD.cells (by simp)
  clear hA hD hS HAP
  go_wp2_with fail
  refine HOP.out.mono ?_
  rintro e w5 ⟨m, T1, T2, rfl, hD, hS⟩
  have HD5 := Lib.hid hD
  have HS5 := Lib.hid hS
  have hl5 := HD4.out.lg
  obtain ⟨gb5, cap5, hR⟩ := Reads.of hD.lg (by simp)
  have hlast : seg1.first + seg1.recs.length - 1 = 1 := rfl
  rw [hlast] at HD5
  have HGE : Hid (Calls Tryz.prog 35 #[.pointer (some ⟨m, 0, none⟩), .int .i64 1] w5 (Got w5 (r78, 0))) := Lib.hid (getn_log w5 m p gb5 cap5 lg 64 _ [seg1] hR seg1 seg1 [] [] rfl rfl (by simp) 1 0 0 (by simp) (by simp [seg1]) rfl (by simp [seg1]) (by simp [seg1]) (fun i hi => by omega) (by simp [seg1, r78]))
  have hgR : R1 g := by obtain ⟨_, _, _, h, _⟩ := HD4.out.lg; exact h
  have HCL := Lib.hid (hC4.ch hS.ch (fun h => h.elim (fun h => h) (fun h => HD4.out.apart g hgR h)) (fun h => h.elim (fun h => h) (fun h => HD4.out.apart gb4 hgb4 h)))
  have HCM := Lib.hid hR.lgc
  clear hD hS hl5 hR HOP
  go_wp2_with fail
  refine HGE.out.mono ?_
  rintro e w6 ⟨A6, c6, rfl, ho6, hb6⟩
  have HB6 := Lib.hid hb6
  have HO6 := Lib.hid ho6
  clear hb6 ho6
  dsimp only
  go_wp2_with fail
  have hb7 : Below w5.heap.size w5 (w6.alloc (.cells #[.int .u8 7, .int .u8 8] 5)) := HB6.out.alloc HB6.out.size _
  have HB7 := Lib.hid hb7
  have HEQ := Lib.hid (equal_any (w6.alloc (.cells #[.int .u8 7, .int .u8 8] 5)) (fun _ => False) (fun _ => False) _ _ _ _ r78 r78 (Sl.of_own (HO6.out.alloc _) (fun _ _ _ h => h)) (two_lit w6 _ _ (fun h => h)))
  have HLA := Lib.hid (lastn_log _ m p gb5 cap5 lg 64 [] seg1 _ (HCM.out.after hb7) (by simp))
  have hls : lastS seg1 = 1 := rfl
  rw [hls] at HLA
  clear hb7 hls
  refine HEQ.out.mono ?_
  rintro e w8 ⟨rfl, rfl⟩
  have hbe : (r78 == r78) = true := by decide
  rw [hbe]
  go_wp2_with fail
  refine HLA.out.mono ?_
  rintro e w8 ⟨rfl, hb8⟩
  have HB8 := Lib.hid (HB7.out.trans (hb8.mono HB7.out.size))
  have HSL := Lib.hid (synced_log w8 g p gb4 cap4 lg 64 _ 0 (HCL.out.after HB8.out))
  have HSM := Lib.hid (synced_log w8 m p gb5 cap5 lg 64 _ 1 (HCM.out.after HB8.out))
  clear hb8
  go_wp2_with fail
  refine HSL.out.mono ?_
  rintro e w9 ⟨rfl, rfl⟩
  go_wp2_with fail
  refine HSM.out.mono ?_
  rintro e w9 ⟨rfl, rfl⟩
  go_wp2_with fail
  go_ret
  have tot := (HS2.out.trans (Step.below HAL.out)).trans HS4.out
  have z1 := HB1.out.size
  have z2 := tot.ch.size
  have c1 : Below w.heap.size w w4 := HB1.out.trans (tot.ch.below (fun k hk h => by
    rcases h with h | h
    · exact h
    · have := h.1; omega) z1)
  have c2 : Below w.heap.size w w5 := c1.trans (HS5.out.ch.below (fun k hk h => by
    rcases h with h | h
    · exact h
    · rcases tot.s2 k h with h | h
      · have := h.1; omega
      · omega) c1.size)
  exact ⟨rfl, c2.trans (HB8.out.mono c2.size)⟩

end Go.Proofs.YtdkjimfehipeaaaGreatDoor.Vd

/-
  Contract of the document's sum, for layer 4.
-/
namespace Go.Proofs.YtdkjimfehipeaaaGreatDoor.Vr
open Go Go.RowKit Ck Kw Ga Wc Wf Wa
attribute [local go_sem ↓] Go.wp_at_zero Go.wp_at_succ
set_option linter.unusedVariables false

theorem T_turn {r c : Nat} : T (r ^^^ c) = (if c % 2 = r % 2 then r / 2 else (r / 2) ^^^ 3988292384) ^^^ (c / 2) := by
  unfold T
  rw [xor_half, xor_two]
  rcases Nat.mod_two_eq_zero_or_one r with hr | hr <;> rcases Nat.mod_two_eq_zero_or_one c with hc | hc <;> simp only [hr, hc]
  · simp
  · simp only [if_true, if_false, Nat.one_ne_zero]
    rw [Nat.xor_assoc, Nat.xor_comm (c / 2) 3988292384, ← Nat.xor_assoc]
  · simp only [if_true, if_false, Nat.zero_ne_one]
    rw [Nat.xor_assoc, Nat.xor_comm (c / 2) 3988292384, ← Nat.xor_assoc]
  · simp
set_option maxHeartbeats 16000000 in
set_option maxRecDepth 100000 in
theorem rsum_any (w : World) (X : Nat → Prop) (A : Option Addr) (c : Nat) (l : List UInt8) (h : Sl w X 1 (.slice A l.length c) l.length (BVs l)) :
    Calls Tryz.prog 14 #[.slice A l.length c] w fun e w' => e = .returned (.int .u32 (sum l : Int)) ∧ w = w' := by
  have hlen : l.length ≤ 9223372036854775807 := by obtain ⟨A0, c0, hv, _, hc, hm, _⟩ := h; injection hv with _ _ e; unfold maxLen at hm; omega
  go_enter Tryz.func14, Tryz.ntmps14
  go_wp2
  go_loop [3, 4] (fun r i => ∃ k : Nat, k ≤ l.length ∧ i = .int .i64 k ∧ r = .int .u32 (crc (l.take k) ones : Int)) (fun _ i => l.length - (intOf i).toNat)
  case atStart => exact ⟨0, Nat.zero_le _, rfl, rfl⟩
  case round =>
    obtain ⟨k, hk, rfl, rfl⟩ := hrel
    by_cases hlt : k < l.length
    · obtain ⟨ad, rfl, hcell⟩ := Cf.Sl_at h hlt
      have hcl := crc_lt (l.take k) (r := ones) (by decide)
      have hbl := l[k].toNat_lt
      have HC := Lib.hid (crc_take (r := ones) hlt)
      obtain ⟨r0, hr0⟩ : ∃ r0, r0 = crc (l.take k) ones := ⟨_, rfl⟩
      rw [← hr0] at hcl ⊢
      have HR := Lib.hid hr0
      clear hr0
      go_wp2
      go_loop [3, 5, 6] (fun r c i => ∃ j rn cn : Nat, j ≤ 8 ∧ i = .int .i64 j ∧ r = .int .u32 (rn : Int) ∧ c = .int .u8 (cn : Int) ∧ rn < 4294967296 ∧ cn = l[k].toNat / 2 ^ j ∧ Hid (rn ^^^ cn = Tn j (r0 ^^^ l[k].toNat))) (fun _ _ i => 8 - (intOf i).toNat)
      case atStart => exact ⟨0, r0, l[k].toNat, by omega, rfl, rfl, rfl, hcl, by simp, Lib.hid rfl⟩
      case round =>
        obtain ⟨j, rn, cn, hj, rfl, rfl, rfl, hrn, hcn, hx⟩ := hrel
        have hcb : cn < 256 := by rw [hcn]; exact Nat.lt_of_le_of_lt (Nat.div_le_self _ _) (by omega)
        have HCN := Lib.hid hcn
        clear hcn
        by_cases h8 : j < 8
        · have hT := Tn_next j (r0 ^^^ l[k].toNat)
          rw [← hx.out, T_turn] at hT
          have HT := Lib.hid hT
          clear hT
          by_cases ht : cn % 2 = rn % 2
          · go_wp2
            go_round
            case rel => exact ⟨j + 1, rn / 2, cn / 2, by omega, by go_num, by go_num, by go_num, by omega, by rw [HCN.out, Nat.div_div_eq_div_mul, Nat.pow_succ], Lib.hid (by rw [HT.out, if_pos ht])⟩
            case measure => simp [intOf]; omega
          · go_wp2
            go_round
            case rel => exact ⟨j + 1, (rn / 2) ^^^ 3988292384, cn / 2, by omega, by go_num, by
              rw [show (rn : Int) / 2 = ((rn / 2 : Nat) : Int) by omega, show (3988292384 : Int) = ((3988292384 : Nat) : Int) from rfl, u32_xor_nat _ _ (by omega) (by omega)], by go_num, xor_lt (by omega) (by omega), by rw [HCN.out, Nat.div_div_eq_div_mul, Nat.pow_succ], Lib.hid (by rw [HT.out, if_neg ht])⟩
            case measure => simp [intOf]; omega
        · obtain rfl : j = 8 := by omega
          have hc0 : cn = 0 := by rw [HCN.out]; omega
          have hx8 := hx.out
          rw [hc0, Nat.xor_zero] at hx8
          have HX := Lib.hid hx8
          clear hx8
          go_wp2
          go_round
          case rel => exact ⟨k + 1, by omega, by go_num, by rw [HC.out, ← HR.out, ← HX.out]⟩
          case measure => simp [intOf]; omega
    · have e : l.take k = l := List.take_of_length_le (by omega)
      rw [e]
      go_wp2
      go_ret
      have hm : IntKind.u32.max = ((4294967295 : Nat) : Int) := by decide
      exact ⟨by rw [hm]; exact congrArg (fun z => Ending.returned (.int .u32 z)) (u32_xor_nat _ _ (by omega) (crc_lt l (by decide))), rfl⟩

end Go.Proofs.YtdkjimfehipeaaaGreatDoor.Vr

/-
  Contracts of the document's frames, for layer 4.
-/
namespace Go.Proofs.YtdkjimfehipeaaaGreatDoor.Vs
open Go Go.RowKit Ck Kw Ga Wc Wf Wa Wb Wd Vr
attribute [local go_sem ↓] Go.wp_at_zero Go.wp_at_succ
set_option linter.unusedVariables false

theorem rframe_long (w : World) (A : Option Addr) (n c : Nat) (hn : 524288 < n) : Calls Tryz.prog 9 #[.slice A n c] w fun e w' => e = .returned (.tuple #[.slice none 0 0, .int .i64 3]) ∧ w = w' := by
  go_enter Tryz.func9, Tryz.ntmps9
  go_wp2
  go_ret2
  exact ⟨rfl, rfl⟩

set_option maxRecDepth 100000 in
set_option maxHeartbeats 16000000 in
theorem rframe_any (w : World) (X : Nat → Prop) (A : Option Addr) (c : Nat) (x : List UInt8) (h : Sl w X 1 (.slice A x.length c) x.length (BVs x)) (hx : x.length ≤ 524288) :
    Calls Tryz.prog 9 #[.slice A x.length c] w fun e w' => ∃ A' c', e = .returned (.tuple #[.slice A' (frame x).length c', .int .i64 0]) ∧ w'.ownsRow w.heap.size 5 1 (.slice A' (frame x).length c') (frame x).length (BVs (frame x)) ∧ Below w.heap.size w w' := by
  obtain ⟨i0, hi0, hz0, hz1, hz2⟩ := info_parts info_u8
  have hl : (Cm.encB x).length ≤ 524298 := by have := (Cm.enc_len x.length).1; rw [Cm.encB_len]; omega
  have HX := Lib.hid hx
  have HS := Lib.hid h
  have hx1 : ¬ (524288 : Int) < (x.length : Int) := by omega
  have hsl := sum_lt (Cm.encB x)
  clear hx h
  go_enter Tryz.func9, Tryz.ntmps9
  go_wp2_with fail
  refine (Cd.rputbytes_any X X _ _ 0 x.length [] x _ (Sl.nil _ _ _) HS.out (by omega) (by have := HX.out; omega)).mono ?_
  rintro e w1 ⟨v1, rfl, ho1, hb1⟩
  obtain ⟨A1, c1, rfl⟩ := own_shape ho1
  rw [List.nil_append] at ho1
  have HO := Lib.hid ho1
  have HB := Lib.hid hb1
  clear ho1 hb1
  rw [List.nil_append]
  go_wp2_with fail
  refine (rsum_any _ (fun _ => False) A1 c1 (Cm.encB x) (Sl.of_own HO.out (fun _ _ _ h => h))).mono ?_
  rintro e w2 ⟨rfl, rfl⟩
  obtain ⟨s, hs⟩ : ∃ s, s = sum (Cm.encB x) := ⟨_, rfl⟩
  rw [← hs] at hsl ⊢
  have HSM := Lib.hid hs
  clear hs
  go_wp2_with (at_builtin; refine wpList_append_sh _ rfl (.tmp 13) (.tmp 25) _ rfl w.heap.size 5 i0 _ 1 1 Tryz.underlying22 hi0 hz0 hz1 hz2 rfl (by omega) _ _ _ rfl (HO.out.alloc _) (fun k => k < w1.heap.size) _ 4 (BVs (le4 s)) rfl (Sl_lit w1 _ _ (le4 s) (le4_cells _ hsl) rfl (by omega) (by omega)) (BVs_one _) (by simp only [maxLen]; omega) (by omega) (by have := HB.out.size; simp; omega) ?_; intro A3 c3 w3 happ)
  go_ret2
  have hf : (frame x).length = (Cm.encB x).length + 4 := by simp [frame, le4_len]
  rw [hf]
  refine ⟨A3, c3, rfl, ?_, ?_⟩
  · have := happ.1
    rw [← BVs_app, HSM.out] at this
    exact this
  · exact (HB.out.alloc HB.out.size _).grown happ.2.1 (by have := HB.out.size; simp; omega) (fun g hg => (HO.out.lt g hg).1)

end Go.Proofs.YtdkjimfehipeaaaGreatDoor.Vs

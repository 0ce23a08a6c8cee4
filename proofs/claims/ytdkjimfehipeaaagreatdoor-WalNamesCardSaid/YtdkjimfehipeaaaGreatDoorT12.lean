import Derived.Test.YtdkjimfehipeaaaGreatDoorT11
/-
  Contracts of layer 4's fits and Get.
-/
namespace Go.Proofs.YtdkjimfehipeaaaGreatDoor.Ww
open Go Go.RowKit Ck Kw Ga Dm Dw Da Db Dc Dd De Df Dg Dh Wc Wf Wa Wb Wd Wn We Kx Wg Wh Wl Wj Wk Wo Wq Wr Ws Wt Wu Wv
attribute [local go_sem ↓] Go.wp_at_zero Go.wp_at_succ
set_option linter.unusedVariables false

set_option maxRecDepth 100000 in
set_option maxHeartbeats 16000000 in
theorem fits_one (w : World) (S : Nat → Prop) (g p : Nat) (name : Tx) (most synced : Nat) (h : Lg w S g p name most [] synced) (s : Sg) (A : Option Addr) (c : Nat) (h1 : 1 ≤ s.first) :
    Calls Tryz.prog 91 #[.pointer (some ⟨g, 0, none⟩), .agg (SgV s (.slice A s.recs.length c))] w fun e w' => e = .returned (.bool true) ∧ Below w.heap.size w w' := by
  obtain ⟨v, rv, hb, hS, hs, _⟩ := h
  obtain ⟨A0, c0, rfl⟩ := own_shape hs.row
  simp only [List.length_nil] at hb
  have d3 := (hb.alloc (.cells (SgV s (.slice A s.recs.length c)) 97)).cell 3
  simp only [List.getElem?_toArray, List.getElem?_cons_zero, List.getElem?_cons_succ] at d3
  have f1 : (0 : Int) < (s.first : Int) := by omega
  have hal : Below w.heap.size w (w.alloc (.cells (SgV s (.slice A s.recs.length c)) 97)) := (Below.refl _ w).alloc (Nat.le_refl _) _
  have HAL := Lib.hid hal
  simp only [SgV] at d3 ⊢
  clear hs hb hal
  go_enter Tryz.func91, Tryz.ntmps91
  go_wp2_with fail
  go_ret
  exact ⟨rfl, HAL.out⟩

theorem below_n {w w2 : World} (h : ∃ n, w2 = w.drewN n) : Below w.heap.size w w2 := by obtain ⟨n, rfl⟩ := h; exact below_drewN (Below.refl _ _) n
theorem six_below {w w' : World} (b : Below w.heap.size w w') {a1 a2 a3 a4 a5 a6 : Addr} {v1 v2 v3 v4 v5 v6 : Value} (h1 : w.cell? a1 = some v1) (h2 : w.cell? a2 = some v2) (h3 : w.cell? a3 = some v3) (h4 : w.cell? a4 = some v4) (h5 : w.cell? a5 = some v5) (h6 : w.cell? a6 = some v6) :
    w'.cell? a1 = some v1 ∧ w'.cell? a2 = some v2 ∧ w'.cell? a3 = some v3 ∧ w'.cell? a4 = some v4 ∧ w'.cell? a5 = some v5 ∧ w'.cell? a6 = some v6 := by
  have k : ∀ {a : Addr} {v : Value}, w.cell? a = some v → w'.cell? a = some v := fun {a v} h => (b.cell (World.block_lt_of_cell? _ _ h)).trans h
  exact ⟨k h1, k h2, k h3, k h4, k h5, k h6⟩
set_option maxRecDepth 100000 in
set_option maxHeartbeats 16000000 in
theorem fits_more (w : World) (g p gb cap : Nat) (name : Tx) (most synced : Nat) (ls : List Sg) (t s : Sg) (h : LgC w g p gb cap name most (ls ++ [t]) synced) (hl : ls.length ≤ 549755813888) (A : Option Addr) (c : Nat) (h1 : 1 ≤ s.first) (hn : s.num = t.num + 1) (hf : s.first = t.first + t.recs.length) :
    Calls Tryz.prog 91 #[.pointer (some ⟨g, 0, none⟩), .agg (SgV s (.slice A s.recs.length c))] w fun e w' => e = .returned (.bool true) ∧ Below w.heap.size w w' := by
  have hal : Below w.heap.size w (w.alloc (.cells (SgV s (.slice A s.recs.length c)) 97)) := (Below.refl _ w).alloc (Nat.le_refl _) _
  have hbx : Blk (w.alloc (.cells (SgV s (.slice A s.recs.length c)) 97)) w.heap.size 97 (SgV s (.slice A s.recs.length c)) := Blk.new w _ _
  have h' := h.after hal
  have HLA := Lib.hid (last_log _ g p gb cap name most ls t synced h' hl)
  have d3 := h'.blk.cell 3
  simp only [List.getElem?_toArray, List.getElem?_cons_zero, List.getElem?_cons_succ] at d3
  have hgood := h.good t (by simp)
  have HAL := Lib.hid hal
  have HB := Lib.hid hbx
  have H := Lib.hid h'
  have hlen : (0 : Int) < ((ls ++ [t]).length : Int) := by simp only [List.length_append, List.length_cons, List.length_nil]; omega
  obtain ⟨N, hN⟩ : ∃ N, N = (ls ++ [t]).length := ⟨_, rfl⟩
  have hne : ((N : Int) == 0) = false := by rw [beq_eq_false_iff_ne]; omega
  rw [← hN] at d3
  simp only [SgV] at d3 HLA HB H HAL ⊢
  have HN := Lib.hid hn
  have HF := Lib.hid hf
  clear h h' hal hbx hN hlen hn hf
  go_enter Tryz.func91, Tryz.ntmps91
  go_wp2_with fail
  refine HLA.out.mono ?_
  rintro e w2 ⟨rfl, hw2⟩
  have HB2 := Lib.hid (below_n hw2)
  have k0 := HB.out.below HB2.out HB.out.lt
  have s0 := k0.cell 0
  have s1 := k0.cell 1
  simp only [List.getElem?_toArray, List.getElem?_cons_zero, List.getElem?_cons_succ] at s0 s1
  obtain ⟨A2, c2, t0, t1, t2, t3⟩ := (H.out.after HB2.out).row ls.length (by simp)
  simp only [List.getElem_append_right (Nat.le_refl _), Nat.sub_self, List.getElem_cons_zero] at t0 t1 t2 t3
  have hwr : IntKind.i64.wrap ((t.num : Int) + 1) = (s.num : Int) := by have := hgood.num; have := HN.out; rw [wrap64 (by omega) (by omega)]; omega
  have f0 : ((s.first : Int) == 0) = false := by rw [beq_eq_false_iff_ne]; omega
  have HNX := Lib.hid (fun W => next_any W t A2 c2 hgood)
  clear hw2 HLA k0
  go_wp2_with fail
  go_region_held3 (fun w' => w'.cell? ⟨w.heap.size, 0, none⟩ = some (.int .i64 (s.num : Int)) ∧ w'.cell? ⟨w.heap.size, 1, none⟩ = some (.int .i64 (s.first : Int)) ∧ w'.cell? ⟨gb, ls.length * 4, none⟩ = some (.int .i64 (t.num : Int)) ∧ w'.cell? ⟨gb, ls.length * 4 + 1, none⟩ = some (.int .i64 (t.first : Int)) ∧ w'.cell? ⟨gb, ls.length * 4 + 2, none⟩ = some (.int .i64 (t.size : Int)) ∧ w'.cell? ⟨gb, ls.length * 4 + 3, none⟩ = some (.slice A2 t.recs.length c2))
    (first | exact ⟨s0, s1, t0, t1, t2, t3⟩ | exact HOK.out)
    (first
    | (go_at_call 58; refine (HNX.out _).mono ?_; rintro e w3 ⟨rfl, hb3⟩; have HB3 := Lib.hid (below_of_drew hb3); have HOK := Lib.hid (six_below HB3.out s0 s1 t0 t1 t2 t3); clear hb3))
  all_goals
    have hq : ((s.first : Int) == (t.first : Int) + (t.recs.length : Int)) = true := by have := HF.out; rw [beq_iff_eq]; omega
    go_wp2_with fail
    go_ret
    refine ⟨by simp; have := HF.out; omega, (HAL.out.trans (HB2.out.mono HAL.out.size)).trans (HB3.out.mono (Nat.le_trans HAL.out.size HB2.out.size))⟩

end Go.Proofs.YtdkjimfehipeaaaGreatDoor.Ww

/-
  Contract of layer 4's mend.
-/
namespace Go.Proofs.YtdkjimfehipeaaaGreatDoor.Wx
open Go Go.RowKit Ck Kw Ga Dm Dw Da Db Dc Dd De Df Dg Dh Wc Wf Wa Wb Wd Wn We Kx Wg Wh Wl Wj Wk Wo Wq Wr Ws Wt Wu Wv Ww
attribute [local go_sem ↓] Go.wp_at_zero Go.wp_at_succ
set_option linter.unusedVariables false

/-- All the files of these segments, sure. -/
def syncAll (L : List Fl) (name : Tx) : List Sg → List Fl
  | [] => L
  | s :: ss => syncAll (syncS L false (nm name s.num)).1 name ss
theorem find_upd {L : List Fl} {n t : Tx} {h : Fl → Fl} (hn : ∀ f, (h f).n = f.n) : find (upd L n h) t = (find L t).map (fun f => if f.n = n then h f else f) := by
  induction L with
  | nil => rfl
  | cons f L ih =>
    simp only [find, upd, List.map_cons, List.find?_cons] at ih ⊢
    by_cases e : f.n = n
    · rw [if_pos e, hn]
      by_cases e2 : (f.n == t) = true
      · rw [e2]
        simp [e]
      · have e2 : (f.n == t) = false := by simpa using e2
        simp only [e2]
        exact ih
    · rw [if_neg e]
      by_cases e2 : (f.n == t) = true
      · rw [e2]
        simp [e]
      · have e2 : (f.n == t) = false := by simpa using e2
        simp only [e2]
        exact ih
theorem some_sync {L : List Fl} {n t : Tx} (h : (find L t).isSome = true) : (find (syncS L false n).1 t).isSome = true := by
  simp only [syncS]
  cases hf : find L n with
  | none => simpa [hf] using h
  | some f =>
    have e : (if false = true then (L, 32) else (upd L f.n (setf f.b f.b.length), 0)) = (upd L f.n (setf f.b f.b.length), (0 : Nat)) := rfl
    simp only [Bool.false_eq_true, if_false]
    rw [find_upd (h := setf f.b f.b.length) (fun _ => rfl)]
    simpa using h
theorem syncAll_snoc {name : Tx} : ∀ (ss : List Sg) (L : List Fl) (s : Sg), syncAll L name (ss ++ [s]) = (syncS (syncAll L name ss) false (nm name s.num)).1
  | [], L, s => rfl
  | a :: ss, L, s => by simp only [List.cons_append, syncAll, syncAll_snoc ss]
theorem some_all {name : Tx} {t : Tx} : ∀ (ss : List Sg) (L : List Fl), (find L t).isSome = true → (find (syncAll L name ss) t).isSome = true
  | [], L, h => h
  | a :: ss, L, h => some_all ss _ (some_sync h)
theorem sync_zero {L : List Fl} {n : Tx} (h : (find L n).isSome = true) : (syncS L false n).2 = 0 := by
  cases hf : find L n with
  | none => simp [hf] at h
  | some f => simp [syncS, hf]

/-- Where mend's loop stands. -/
def MendAt (S1 S2 : Nat → Prop) (g p room : Nat) (name : Tx) (most synced : Nat) (segs : List Sg) (L1 : List Fl) (w3 wr : World) (k : Nat) : Prop :=
  ∃ T2, LDs wr S1 T2 g p (syncAll L1 name (segs.take k)) room name most segs synced ∧ Step S1 S2 S1 T2 w3 wr
theorem lt_cells {w : World} {g p gb cap most synced : Nat} {name : Tx} {segs : List Sg} (h : LgC w g p gb cap name most segs synced) {k : Nat} (hk : k < segs.length) : w.cell? ⟨g, 0, none⟩ = some (.pointer (some ⟨p, 0, none⟩)) ∧ w.cell? ⟨g, 3, none⟩ = some (.slice (some ⟨gb, 0, none⟩) segs.length cap) ∧ w.cell? ⟨gb, k * 4, none⟩ = some (.int .i64 (segs[k].num : Int)) := by
  obtain ⟨A, c, q0, _⟩ := h.row k hk
  exact ⟨h.blk.cell 0, h.blk.cell 3, q0⟩
theorem three_below {w w' : World} (b : Below w.heap.size w w') {a1 a2 a3 : Addr} {v1 v2 v3 : Value} (h : w.cell? a1 = some v1 ∧ w.cell? a2 = some v2 ∧ w.cell? a3 = some v3) : w'.cell? a1 = some v1 ∧ w'.cell? a2 = some v2 ∧ w'.cell? a3 = some v3 := by
  have k : ∀ {a : Addr} {v : Value}, w.cell? a = some v → w'.cell? a = some v := fun {a v} h => (b.cell (World.block_lt_of_cell? _ _ h)).trans h
  exact ⟨k h.1, k h.2.1, k h.2.2⟩
theorem three_ch {w w' : World} {S : Nat → Prop} (b : Ch S w w') {a1 a2 a3 : Addr} {v1 v2 v3 : Value} (h : w.cell? a1 = some v1 ∧ w.cell? a2 = some v2 ∧ w.cell? a3 = some v3) (h1 : ¬ S a1.block) (h2 : ¬ S a2.block) (h3 : ¬ S a3.block) : w'.cell? a1 = some v1 ∧ w'.cell? a2 = some v2 ∧ w'.cell? a3 = some v3 :=
  ⟨b.cell h.1 h1, b.cell h.2.1 h2, b.cell h.2.2 h3⟩

set_option maxRecDepth 100000 in
set_option maxHeartbeats 16000000 in
theorem mend_log (w : World) (S1 S2 : Nat → Prop) (g p : Nat) (L : List Fl) (room : Nat) (name : Tx) (most : Nat) (ls : List Sg) (s : Sg) (synced : Nat) (f : Fl) (h : LDs w S1 S2 g p L room name most (ls ++ [s]) synced) (hl : ls.length ≤ 549755813888) (h1 : 1 ≤ s.first) (hf : find L (nm name s.num) = some f) (hsz : s.size ≤ f.b.length)
    (hall : ∀ t ∈ ls ++ [s], (find (truncS L false (nm name s.num) s.size).1 (nm name t.num)).isSome = true) :
    Calls Tryz.prog 92 #[.pointer (some ⟨g, 0, none⟩)] w fun e w' => e = .returned (.int .i64 0) ∧ Wal S1 S2 g p room name most w (syncAll (truncS L false (nm name s.num) s.size).1 name (ls ++ [s])) (ls ++ [s]) synced w' := by
  obtain ⟨L1, htr⟩ : ∃ L1, truncS L false (nm name s.num) (s.size : Int) = (L1, 0) := ⟨_, by
    simp only [truncS, hf]
    rw [if_neg (by simp), if_neg (by omega)]⟩
  simp only [htr] at hall ⊢
  have hnm : ∀ t ∈ ls ++ [s], (nm name t.num).length ≤ 140737488355328 ∧ t.num < 1000000000000000 := fun t ht => by
    have hn := (h.good t ht).num
    have := nm_len (name := name) (k := t.num) hn
    have := h.name_le
    exact ⟨by omega, hn⟩
  have HNM := Lib.hid hnm
  have HN16 := Lib.hid h.name_le
  have HTR := Lib.hid htr
  have HALL := Lib.hid hall
  have H := Lib.hid h
  obtain ⟨gb, cap, hC, hgb, hgn⟩ := h.cells (by simp)
  have HC := Lib.hid hC
  have HLA := Lib.hid (last_log w g p gb cap name most ls s synced hC hl)
  have hnl := (hnm s (by simp)).1
  have hns := (hnm s (by simp)).2
  clear h hf hsz htr hall hnm hC
  go_enter Tryz.func92, Tryz.ntmps92
  go_wp2_with fail
  refine HLA.out.mono ?_
  rintro e w1 ⟨rfl, hw1⟩
  have HB1 := Lib.hid (below_n hw1)
  have hC1 := HC.out.after HB1.out
  obtain ⟨A1, c1, q0, q1, q2, q3⟩ := hC1.row ls.length (by simp)
  simp only [List.getElem_append_right (Nat.le_refl _), Nat.sub_self, List.getElem_cons_zero] at q0 q1 q2 q3
  have c0 : w1.cell? ⟨g, 0, none⟩ = some (.pointer (some ⟨p, 0, none⟩)) := hC1.blk.cell 0
  have f0 : ((s.first : Int) == 0) = false := by rw [beq_eq_false_iff_ne]; omega
  have HC1 := Lib.hid hC1
  clear hw1 HLA hC1
  go_wp2_with fail
  go_region_held3 (fun w' => w'.cell? ⟨g, 0, none⟩ = some (.pointer (some ⟨p, 0, none⟩)) ∧ w'.cell? ⟨gb, ls.length * 4 + 2, none⟩ = some (.int .i64 (s.size : Int))) (first | exact ⟨c0, q2⟩ | exact d0 | exact d1)
    (first
    | (go_at_call 56; refine (file_log _ g p name most synced _ (HC1.out.after (below_drewN (Below.refl _ w1) 1)).blk HN16.out (H.out.later (HB1.out.trans ((below_drewN (Below.refl _ w1) 1).mono HB1.out.size))).tab gb _ s.num hns q0).mono ?_; rintro e w2 ⟨rfl, hb2⟩; have hb2 := below_of_drew hb2; have HB2 : Hid (Below w.heap.size w w2) := Lib.hid (HB1.out.trans (hb2.mono HB1.out.size)); have d0 : w2.cell? ⟨g, 0, none⟩ = some (.pointer (some ⟨p, 0, none⟩)) ∧ w2.cell? ⟨gb, ls.length * 4 + 2, none⟩ = some (.int .i64 (s.size : Int)) := ⟨(hb2.cell (World.block_lt_of_cell? _ _ c0)).trans c0, (hb2.cell (World.block_lt_of_cell? _ _ q2)).trans q2⟩; clear hb2)
    | (go_at_call 124; refine (trunc_on _ S2 p L room false (nm name s.num) hnl (H.out.later HB2.out).dk (s.size : Int)).mono ?_; rintro e w3 hd3; have HD3 := Lib.hid ((H.out.later HB2.out).disk hd3); rw [HTR.out] at hd3 HD3; obtain ⟨rfl, -, hc3⟩ := hd3; have d1 : w3.cell? ⟨g, 0, none⟩ = some (.pointer (some ⟨p, 0, none⟩)) ∧ w3.cell? ⟨gb, ls.length * 4 + 2, none⟩ = some (.int .i64 (s.size : Int)) := ⟨hc3.cell d0.1 (fun h2 => by obtain ⟨v, rv, _, hg1, _⟩ := H.out.lg; exact H.out.apart g hg1 h2), hc3.cell d0.2 (fun h2 => H.out.apart gb hgb h2)⟩; have HC3 := Lib.hid hc3; clear hc3))
  have hC3 := (HC.out.after HB2.out).ch HC3.out (fun h2 => by obtain ⟨v, rv, _, hg1, _⟩ := H.out.lg; exact H.out.apart g hg1 h2) (fun h2 => H.out.apart gb hgb h2)
  have c3 : w3.cell? ⟨g, 3, none⟩ = some (.slice (some ⟨gb, 0, none⟩) (ls ++ [s]).length cap) := hC3.blk.cell 3
  have hMA : MendAt S1 (Up S2 w2 w3) g p room name most synced (ls ++ [s]) L1 w3 w3 0 := ⟨_, HD3.out.1, Step.refl _ _ _⟩
  have HMA := Lib.hid hMA
  have hlen : (ls ++ [s]).length ≤ 549755813889 := by simp; omega
  have HS3 : Hid (Step S1 S2 S1 (Up S2 w2 w3) w w3) := Lib.hid ((Step.below HB2.out).trans HD3.out.2)
  generalize hsg : ls ++ [s] = segs at *
  have HSG := Lib.hid hsg
  clear hsg
  clear hC3 hMA d1 d0 HD3 HC1 HTR HC H q0 q1 q2 q3 c0
  go_wp2_with fail
  go_loopw [41] (fun i wr => ∃ k : Nat, k ≤ segs.length ∧ i = .int .i64 k ∧ Hid (MendAt S1 (Up S2 w2 w3) g p room name most synced segs L1 w3 wr k)) (fun i _ => segs.length - (intOf i).toNat)
  case atStart => exact ⟨0, Nat.zero_le _, rfl, HMA⟩
  case round =>
    obtain ⟨k, hk, rfl, hm⟩ := hrel
    by_cases hlt : k < segs.length
    · obtain ⟨T2, hD, hS⟩ := hm.out
      have hn1 := (HNM.out _ (List.getElem_mem hlt)).1
      have hn2 := (HNM.out _ (List.getElem_mem hlt)).2
      have hz := sync_zero (some_all (segs.take k) L1 (HALL.out _ (List.getElem_mem hlt)) : (find (syncAll L1 name (segs.take k)) (nm name segs[k].num)).isSome = true)
      have htk : syncAll L1 name (segs.take (k + 1)) = (syncS (syncAll L1 name (segs.take k)) false (nm name segs[k].num)).1 := by rw [List.take_succ_eq_append_getElem hlt, syncAll_snoc]
      obtain ⟨L2, hL2⟩ : ∃ L2, syncS (syncAll L1 name (segs.take k)) false (nm name segs[k].num) = (L2, 0) := ⟨_, Prod.ext rfl hz⟩
      rw [hL2] at htk
      have HTK := Lib.hid htk
      have HL2 := Lib.hid hL2
      have HD := Lib.hid hD
      have HS := Lib.hid hS
      obtain ⟨gbr, capr, hCr, hg1, hg2⟩ := hD.cells (by omega)
      have HCr := Lib.hid hCr
      have HP := Lib.hid (lt_cells hCr hlt)
      have HG := Lib.hid (show S1 g by obtain ⟨_, _, _, h, _⟩ := hD.lg; exact h)
      clear hz htk hL2 hD hS hCr hm
      go_wp2_with fail
      go_region_held3 (fun w' => w'.cell? ⟨g, 0, none⟩ = some (.pointer (some ⟨p, 0, none⟩)) ∧ w'.cell? ⟨g, 3, none⟩ = some (.slice (some ⟨gbr, 0, none⟩) segs.length capr) ∧ w'.cell? ⟨gbr, k * 4, none⟩ = some (.int .i64 (segs[k].num : Int))) (first | exact HP.out | exact HP4.out | exact HP5.out)
        (first
        | (go_at_call 56; refine (file_log _ g p name most synced _ (HCr.out.after (below_drewN (Below.refl _ wr) 1)).blk HN16.out (HD.out.later (below_drewN (Below.refl _ wr) 1)).tab gbr _ segs[k].num hn2 HP.out.2.2).mono ?_; rintro e w4 ⟨rfl, hb4⟩; have HB4 : Hid (Below wr.heap.size wr w4) := Lib.hid (below_of_drew hb4); have HP4 := Lib.hid (three_below HB4.out HP.out); clear hb4)
        | (go_at_call 34; refine (sync_on _ T2 p _ room false (nm name segs[k].num) hn1 (HD.out.later HB4.out).dk).mono ?_; rintro e w5 hd5; have HD5 := Lib.hid ((HD.out.later HB4.out).disk hd5); rw [HL2.out] at hd5 HD5; obtain ⟨rfl, -, hc5⟩ := hd5; have HP5 := Lib.hid (three_ch hc5 HP4.out (fun h2 => HD.out.apart g HG.out h2) (fun h2 => HD.out.apart g HG.out h2) (fun h2 => HD.out.apart gbr hg1 h2)); clear hc5))
      all_goals
        go_wp2_with fail
        go_roundw
        case rel => exact ⟨k + 1, by omega, by go_num, Lib.hid ⟨_, by rw [HTK.out]; exact HD5.out.1, (HS.out.trans (Step.below HB4.out)).trans HD5.out.2⟩⟩
        case measure => simp [intOf]; omega
    · have hke : k = segs.length := by omega
      subst hke
      obtain ⟨T2, hD, hS⟩ := hm.out
      rw [List.take_length] at hD
      have HD := Lib.hid hD
      clear hD hm
      go_wp2_with fail
      go_ret
      rw [HSG.out]
      exact ⟨rfl, _, _, HD.out, HS3.out.trans hS⟩

end Go.Proofs.YtdkjimfehipeaaaGreatDoor.Wx

/-
  Words for layer 4's load: a segment more.
-/
namespace Go.Proofs.YtdkjimfehipeaaaGreatDoor.Wy
open Go Go.RowKit Ck Kw Ga Dm Dw Da Db Dc Dd De Df Dg Dh Wc Wf Wa Wb Wd Wn We Kx Wg Wh Wl Wj Wk Wo Wq Wr Ws Wt Wu Wv Ww Wx
attribute [local go_sem ↓] Go.wp_at_zero Go.wp_at_succ
set_option linter.unusedVariables false

/-- The log's blocks, and all that came since. -/
def Wide (T : Nat → Prop) (wa w : World) (k : Nat) : Prop := T k ∨ (wa.heap.size ≤ k ∧ k < w.heap.size)
theorem LDs.wide {wa w : World} {T1 S2 : Nat → Prop} {g p room most y : Nat} {L : List Fl} {name : Tx} {segs : List Sg} (h : LDs wa T1 S2 g p L room name most segs y) (b : Below wa.heap.size wa w) : LDs w (Wide T1 wa w) S2 g p L room name most segs y ∧ Step T1 S2 (Wide T1 wa w) S2 wa w := by
  have h' := h.later b
  refine ⟨⟨h'.lg.weaken (fun k hk => .inl hk), h'.dk, fun k a c => ?_, fun k hk => ?_, h'.b2, h'.tab, fun hz => ?_, h'.z2⟩, fun k hk => hk, fun k hk => .inl hk, Ch.of_below b (Nat.le_refl _)⟩
  · rcases a with a | a
    · exact h.apart k a c
    · have := h.b2 k c; omega
  · rcases hk with hk | hk
    · exact h'.b1 k hk
    · exact hk.2
  · rcases hz with hz | hz
    · exact h.z1 hz
    · have := h.zero; omega
theorem lds_push {wa w6 w7 : World} {T1 S2 : Nat → Prop} {g p room most y : Nat} {L : List Fl} {name : Tx} {segs : List Sg} {s : Sg} {Au A6 A7 : Option Addr} {cu c6 c7 N : Nat} {rv : List Value} (hN : N = segs.length) (h : LDs wa T1 S2 g p L room name most segs y) (b : Below wa.heap.size wa w6)
    (hu : Rcs w6 (fun k => wa.heap.size ≤ k ∧ k < w6.heap.size) (.slice Au s.recs.length cu) s.recs) (hg : GoodS s) (hsg : Segs w6 (fun k => T1 k ∧ k ≠ g) (.slice A6 N c6) segs rv)
    (hblk : Blk w6 g 64 #[.pointer (some ⟨p, 0, none⟩), .string ⟨name.toArray⟩, .int .i64 (most : Int), .slice A6 N c6, .int .i64 (y : Int)])
    (happ : Appended (w6.alloc (.cells (SgV s (.slice Au s.recs.length cu)) 97)) 0 97 4 (.slice A6 N c6) (N + 1) (cellsS segs rv ++ segCells s (.slice Au s.recs.length cu)) (.slice A7 (N + 1) c7) w7) :
    ∃ T1', LDs (w7.setCell ⟨g, 3, none⟩ (.slice A7 (N + 1) c7)) T1' S2 g p L room name most (segs ++ [s]) y ∧ Step T1 S2 T1' S2 wa (w7.setCell ⟨g, 3, none⟩ (.slice A7 (N + 1) c7)) := by
  subst hN
  have hw := LDs.wide h b
  have hbs := b.size
  have hal : Below w6.heap.size w6 (w6.alloc (.cells (SgV s (.slice Au s.recs.length cu)) 97)) := (Below.refl _ _).alloc (Nat.le_refl _) _
  have q7 := (hblk.alloc (.cells (SgV s (.slice Au s.recs.length cu)) 97)).grown happ.2.1 (fun e1 => own_far hsg.row hblk (by decide) e1.symm)
  have hgS : T1 g := by obtain ⟨_, _, _, h, _⟩ := h.lg; exact h
  have hga : g < wa.heap.size := h.b1 g hgS
  have hsgW : Segs w6 (fun k => Wide T1 wa w6 k ∧ k ≠ g) (.slice A6 segs.length c6) segs rv := hsg.weaken (fun k hk => ⟨.inl hk.1, hk.2⟩)
  have huW : Rcs w6 (fun k => Wide T1 wa w6 k ∧ k ≠ g) (.slice Au s.recs.length cu) s.recs := hu.weaken (fun k hk => ⟨.inr hk, by omega⟩)
  have hpush := Segs.push (s := s) (u := .slice Au s.recs.length cu) (hsgW.ch (Ch.of_below (S := fun _ => False) hal (Nat.le_refl _)) (fun _ _ h => h)) (huW.after hal) (fun k i u1 hk hi he => by
    have h1 := (hu.in_ k hk).1
    have hil : i < segs.length := by have := (List.getElem?_eq_some_iff.1 hi).1; rw [hsg.len] at this; exact this
    obtain ⟨u', hu', hr⟩ := hsg.rcs i hil
    rw [hi] at hu'
    injection hu' with hu'
    subst hu'
    have := (hr.in_ k he).1.1
    have := h.b1 k this
    omega) hg happ
  have hrow : ∀ k, (Value.slice A6 segs.length c6).ownBlock = some k → Wide T1 wa w6 k ∧ k ≠ g := fun k hk => hsgW.own k hk
  have hc7 : Ch (Wide T1 wa w6) w6 w7 := (Ch.of_below hal (Nat.le_refl _)).trans (Ch.of_grown (S := Wide T1 wa w6) happ.2.1 (fun k hk _ => (hrow k hk).1)) (fun _ _ h => h)
  have hcf : Ch (Wide T1 wa w6) w6 (w7.setCell ⟨g, 3, none⟩ (.slice A7 (segs.length + 1) c7)) := hc7.setCell (fun _ => .inl hgS) _
  have hlg : Lg (w7.setCell ⟨g, 3, none⟩ (.slice A7 (segs.length + 1) c7)) (Up (Wide T1 wa w6) w6 (w7.setCell ⟨g, 3, none⟩ (.slice A7 (segs.length + 1) c7))) g p name most (segs ++ [s]) y := by
    obtain ⟨_, _, _, _, _, hn16, hmost⟩ := h.lg
    refine ⟨.slice A7 (segs.length + 1) c7, rv ++ [.slice Au s.recs.length cu], by have := q7.set_ 3 (.slice A7 (segs.length + 1) c7); simpa using this, .inl (.inl hgS), ?_, hn16, hmost⟩
    refine (hpush.ch ((Ch.refl (fun k => k = g) w7).setCell (p := ⟨g, 3, none⟩) (fun _ => rfl) _) (fun k hk e => ?_)).weaken (fun k hk => ?_)
    · subst e
      rcases hk with hk | hk
      · exact hk.2 rfl
      · have := hk.1; simp at this; have := hblk.lt; omega
    · rcases hk with hk | hk
      · exact ⟨.inl hk.1, hk.2⟩
      · have h1 := hk.1
        simp at h1
        exact ⟨.inr ⟨by omega, by have := hk.2; simpa [World.setCell] using this⟩, by have := hblk.lt; omega⟩
  have hfin := hw.1.logw hcf hlg
  exact ⟨_, hfin.1, hw.2.trans hfin.2⟩

end Go.Proofs.YtdkjimfehipeaaaGreatDoor.Wy

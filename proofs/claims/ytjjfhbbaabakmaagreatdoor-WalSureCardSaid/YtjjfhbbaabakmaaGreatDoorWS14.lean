/-
  Contracts of layer 4's fits and Get.
-/
import Derived.Test.YtjjfhbbaabakmaaGreatDoorWS13
namespace Go.Proofs.YtjjfhbbaabakmaaGreatDoor.Ww
set_option linter.unusedSimpArgs false
open Go Go.RowKit Ck Kw Ga Dm Dw Da Db Dc Dd De Df Dg Dh Wc Wf Wa Wb Wd Wn We Kx Wg Wh Wl Wj Wk Wo Wq Wr Ws Wt Wu Wv
attribute [local go_sem ↓] Go.wp_at_zero Go.wp_at_succ
set_option linter.unusedVariables false

set_option maxRecDepth 100000 in
set_option maxHeartbeats 4000000 in
theorem fits_one (w : World) (S : Nat → Prop) (g p : Nat) (name : Tx) (most synced : Nat) (h : Lg w S g p name most [] synced) (s : Sg) (A : Option Addr) (c : Nat) (h1 : 1 ≤ s.first) :
    Calls Tryz.prog 55 #[.pointer (some ⟨g, 0, none⟩), .agg (SgV s (.slice A s.recs.length c))] w fun e w' => e = .returned (.bool true) ∧ Below w.heap.size w w' := by
  obtain ⟨v, rv, hb, hS, hs, _⟩ := h
  obtain ⟨A0, c0, rfl⟩ := own_shape hs.row
  simp only [List.length_nil] at hb
  have d3 := (hb.alloc (.cells (SgV s (.slice A s.recs.length c)) 76)).cell 3
  simp only [List.getElem?_toArray, List.getElem?_cons_zero, List.getElem?_cons_succ] at d3
  have f1 : (0 : Int) < (s.first : Int) := by omega
  have hal : Below w.heap.size w (w.alloc (.cells (SgV s (.slice A s.recs.length c)) 76)) := (Below.refl _ w).alloc (Nat.le_refl _) _
  have HAL := Lib.hid hal
  simp only [SgV] at d3 ⊢
  clear hs hb hal
  go_enter Tryz.func55, Tryz.ntmps55
  go_wp2_with fail
  go_ret
  exact ⟨rfl, HAL.out⟩

theorem below_n {w w2 : World} (h : ∃ n, w2 = w.drewN n) : Below w.heap.size w w2 := by obtain ⟨n, rfl⟩ := h; exact below_drewN (Below.refl _ _) n
theorem six_below {w w' : World} (b : Below w.heap.size w w') {a1 a2 a3 a4 a5 a6 : Addr} {v1 v2 v3 v4 v5 v6 : Value} (h1 : w.cell? a1 = some v1) (h2 : w.cell? a2 = some v2) (h3 : w.cell? a3 = some v3) (h4 : w.cell? a4 = some v4) (h5 : w.cell? a5 = some v5) (h6 : w.cell? a6 = some v6) :
    w'.cell? a1 = some v1 ∧ w'.cell? a2 = some v2 ∧ w'.cell? a3 = some v3 ∧ w'.cell? a4 = some v4 ∧ w'.cell? a5 = some v5 ∧ w'.cell? a6 = some v6 := by
  have k : ∀ {a : Addr} {v : Value}, w.cell? a = some v → w'.cell? a = some v := fun {a v} h => (b.cell (World.block_lt_of_cell? _ _ h)).trans h
  exact ⟨k h1, k h2, k h3, k h4, k h5, k h6⟩
set_option maxRecDepth 100000 in
set_option maxHeartbeats 4000000 in
theorem fits_more (w : World) (g p gb cap : Nat) (name : Tx) (most synced : Nat) (ls : List Sg) (t s : Sg) (h : LgC w g p gb cap name most (ls ++ [t]) synced) (hl : ls.length ≤ 549755813888) (A : Option Addr) (c : Nat) (h1 : 1 ≤ s.first) (hn : s.num = t.num + 1) (hf : s.first = t.first + t.recs.length) :
    Calls Tryz.prog 55 #[.pointer (some ⟨g, 0, none⟩), .agg (SgV s (.slice A s.recs.length c))] w fun e w' => e = .returned (.bool true) ∧ Below w.heap.size w w' := by
  have hal : Below w.heap.size w (w.alloc (.cells (SgV s (.slice A s.recs.length c)) 76)) := (Below.refl _ w).alloc (Nat.le_refl _) _
  have hbx : Blk (w.alloc (.cells (SgV s (.slice A s.recs.length c)) 76)) w.heap.size 76 (SgV s (.slice A s.recs.length c)) := Blk.new w _ _
  have h' := h.after hal
  have HLA := Lib.hid (last_log _ g p gb cap name most ls t synced h' hl)
  have d3 := h'.blk.cell 3
  simp only [List.getElem?_toArray, List.getElem?_cons_zero, List.getElem?_cons_succ] at d3
  have hgood := h.good t (by simp)
  have HAL := Lib.hid hal
  have HB := Lib.hid hbx
  have H := Lib.hid h'
  have hlen : (0 : Int) < ((ls ++ [t]).length : Int) := by simp only [List.length_append, List.length_cons, List.length_nil]; omega
  obtain ⟨N, hN⟩ : ∃ N, N = (ls ++ [t]).length := ⟨_, rfl⟩
  have hne : ((N : Int) == 0) = false := by rw [beq_eq_false_iff_ne]; omega
  rw [← hN] at d3
  simp only [SgV] at d3 HLA HB H HAL ⊢
  have HN := Lib.hid hn
  have HF := Lib.hid hf
  clear h h' hal hbx hN hlen hn hf
  go_enter Tryz.func55, Tryz.ntmps55
  go_wp2_with fail
  refine HLA.out.mono ?_
  rintro e w2 ⟨rfl, hw2⟩
  have HB2 := Lib.hid (below_n hw2)
  have k0 := HB.out.below HB2.out HB.out.lt
  have s0 := k0.cell 0
  have s1 := k0.cell 1
  simp only [List.getElem?_toArray, List.getElem?_cons_zero, List.getElem?_cons_succ] at s0 s1
  obtain ⟨A2, c2, t0, t1, t2, t3⟩ := (H.out.after HB2.out).row ls.length (by simp)
  simp only [List.getElem_append_right (Nat.le_refl _), Nat.sub_self, List.getElem_cons_zero] at t0 t1 t2 t3
  have hwr : IntKind.i64.wrap ((t.num : Int) + 1) = (s.num : Int) := by have := hgood.num; have := HN.out; rw [wrap64 (by omega) (by omega)]; omega
  have f0 : ((s.first : Int) == 0) = false := by rw [beq_eq_false_iff_ne]; omega
  have HNX := Lib.hid (fun W => next_any W t A2 c2 hgood)
  clear hw2 HLA k0
  go_wp2_with fail
  go_region_held3 (fun w' => w'.cell? ⟨w.heap.size, 0, none⟩ = some (.int .i64 (s.num : Int)) ∧ w'.cell? ⟨w.heap.size, 1, none⟩ = some (.int .i64 (s.first : Int)) ∧ w'.cell? ⟨gb, ls.length * 4, none⟩ = some (.int .i64 (t.num : Int)) ∧ w'.cell? ⟨gb, ls.length * 4 + 1, none⟩ = some (.int .i64 (t.first : Int)) ∧ w'.cell? ⟨gb, ls.length * 4 + 2, none⟩ = some (.int .i64 (t.size : Int)) ∧ w'.cell? ⟨gb, ls.length * 4 + 3, none⟩ = some (.slice A2 t.recs.length c2))
    (first | exact ⟨s0, s1, t0, t1, t2, t3⟩ | exact HOK.out)
    (first
    | (go_at_call 39; refine (HNX.out _).mono ?_; rintro e w3 ⟨rfl, hb3⟩; have HB3 := Lib.hid (below_of_drew hb3); have HOK := Lib.hid (six_below HB3.out s0 s1 t0 t1 t2 t3); clear hb3))
  all_goals
    have hq : ((s.first : Int) == (t.first : Int) + (t.recs.length : Int)) = true := by have := HF.out; rw [beq_iff_eq]; omega
    go_wp2_with fail
    go_ret
    refine ⟨by simp; have := HF.out; omega, (HAL.out.trans (HB2.out.mono HAL.out.size)).trans (HB3.out.mono (Nat.le_trans HAL.out.size HB2.out.size))⟩

end Go.Proofs.YtjjfhbbaabakmaaGreatDoor.Ww

/-
  Contract of layer 4's mend.
-/
namespace Go.Proofs.YtjjfhbbaabakmaaGreatDoor.Wx
set_option linter.unusedSimpArgs false
open Go Go.RowKit Ck Kw Ga Dm Dw Da Db Dc Dd De Df Dg Dh Wc Wf Wa Wb Wd Wn We Kx Wg Wh Wl Wj Wk Wo Wq Wr Ws Wt Wu Wv Ww
attribute [local go_sem ↓] Go.wp_at_zero Go.wp_at_succ
set_option linter.unusedVariables false

/-- All the files of these segments, sure. -/
def syncAll (L : List Fl) (name : Tx) : List Sg → List Fl
  | [] => L
  | s :: ss => syncAll (syncS L false (nm name s.num)).1 name ss
theorem find_upd {L : List Fl} {n t : Tx} {h : Fl → Fl} (hn : ∀ f, (h f).n = f.n) : find (upd L n h) t = (find L t).map (fun f => if f.n = n then h f else f) := by
  induction L with
  | nil => rfl
  | cons f L ih =>
    simp only [find, upd, List.map_cons, List.find?_cons] at ih ⊢
    by_cases e : f.n = n
    · rw [if_pos e, hn]
      by_cases e2 : (f.n == t) = true
      · rw [e2]
        simp [e]
      · have e2 : (f.n == t) = false := by simpa using e2
        simp only [e2]
        exact ih
    · rw [if_neg e]
      by_cases e2 : (f.n == t) = true
      · rw [e2]
        simp [e]
      · have e2 : (f.n == t) = false := by simpa using e2
        simp only [e2]
        exact ih
theorem some_sync {L : List Fl} {n t : Tx} (h : (find L t).isSome = true) : (find (syncS L false n).1 t).isSome = true := by
  simp only [syncS]
  cases hf : find L n with
  | none => simpa [hf] using h
  | some f =>
    have e : (if false = true then (L, 32) else (upd L f.n (setf f.b f.b.length), 0)) = (upd L f.n (setf f.b f.b.length), (0 : Nat)) := rfl
    simp only [Bool.false_eq_true, if_false]
    rw [find_upd (h := setf f.b f.b.length) (fun _ => rfl)]
    simpa using h
theorem syncAll_snoc {name : Tx} : ∀ (ss : List Sg) (L : List Fl) (s : Sg), syncAll L name (ss ++ [s]) = (syncS (syncAll L name ss) false (nm name s.num)).1
  | [], L, s => rfl
  | a :: ss, L, s => by simp only [List.cons_append, syncAll, syncAll_snoc ss]
theorem some_all {name : Tx} {t : Tx} : ∀ (ss : List Sg) (L : List Fl), (find L t).isSome = true → (find (syncAll L name ss) t).isSome = true
  | [], L, h => h
  | a :: ss, L, h => some_all ss _ (some_sync h)
theorem sync_zero {L : List Fl} {n : Tx} (h : (find L n).isSome = true) : (syncS L false n).2 = 0 := by
  cases hf : find L n with
  | none => simp [hf] at h
  | some f => simp [syncS, hf]

/-- Where mend's loop stands. -/
def MendAt (S1 S2 : Nat → Prop) (g p room : Nat) (name : Tx) (most synced : Nat) (segs : List Sg) (L1 : List Fl) (w3 wr : World) (k : Nat) : Prop :=
  ∃ T2, LDs wr S1 T2 g p (syncAll L1 name (segs.take k)) room name most segs synced ∧ Step S1 S2 S1 T2 w3 wr
theorem lt_cells {w : World} {g p gb cap most synced : Nat} {name : Tx} {segs : List Sg} (h : LgC w g p gb cap name most segs synced) {k : Nat} (hk : k < segs.length) : w.cell? ⟨g, 0, none⟩ = some (.pointer (some ⟨p, 0, none⟩)) ∧ w.cell? ⟨g, 3, none⟩ = some (.slice (some ⟨gb, 0, none⟩) segs.length cap) ∧ w.cell? ⟨gb, k * 4, none⟩ = some (.int .i64 (segs[k].num : Int)) := by
  obtain ⟨A, c, q0, _⟩ := h.row k hk
  exact ⟨h.blk.cell 0, h.blk.cell 3, q0⟩
theorem three_below {w w' : World} (b : Below w.heap.size w w') {a1 a2 a3 : Addr} {v1 v2 v3 : Value} (h : w.cell? a1 = some v1 ∧ w.cell? a2 = some v2 ∧ w.cell? a3 = some v3) : w'.cell? a1 = some v1 ∧ w'.cell? a2 = some v2 ∧ w'.cell? a3 = some v3 := by
  have k : ∀ {a : Addr} {v : Value}, w.cell? a = some v → w'.cell? a = some v := fun {a v} h => (b.cell (World.block_lt_of_cell? _ _ h)).trans h
  exact ⟨k h.1, k h.2.1, k h.2.2⟩
theorem three_ch {w w' : World} {S : Nat → Prop} (b : Ch S w w') {a1 a2 a3 : Addr} {v1 v2 v3 : Value} (h : w.cell? a1 = some v1 ∧ w.cell? a2 = some v2 ∧ w.cell? a3 = some v3) (h1 : ¬ S a1.block) (h2 : ¬ S a2.block) (h3 : ¬ S a3.block) : w'.cell? a1 = some v1 ∧ w'.cell? a2 = some v2 ∧ w'.cell? a3 = some v3 :=
  ⟨b.cell h.1 h1, b.cell h.2.1 h2, b.cell h.2.2 h3⟩

set_option maxRecDepth 100000 in
set_option maxHeartbeats 8000000 in
theorem mend_log (w : World) (S1 S2 : Nat → Prop) (g p : Nat) (L : List Fl) (room : Nat) (name : Tx) (most : Nat) (ls : List Sg) (s : Sg) (synced : Nat) (f : Fl) (h : LDs w S1 S2 g p L room name most (ls ++ [s]) synced) (hl : ls.length ≤ 549755813888) (h1 : 1 ≤ s.first) (hf : find L (nm name s.num) = some f) (hsz : s.size ≤ f.b.length)
    (hall : ∀ t ∈ ls ++ [s], (find (truncS L false (nm name s.num) s.size).1 (nm name t.num)).isSome = true) :
    Calls Tryz.prog 56 #[.pointer (some ⟨g, 0, none⟩)] w fun e w' => e = .returned (.int .i64 0) ∧ Wal S1 S2 g p room name most w (syncAll (truncS L false (nm name s.num) s.size).1 name (ls ++ [s])) (ls ++ [s]) synced w' := by
  obtain ⟨L1, htr⟩ : ∃ L1, truncS L false (nm name s.num) (s.size : Int) = (L1, 0) := ⟨_, by
    simp only [truncS, hf]
    rw [if_neg (by simp), if_neg (by omega)]⟩
  simp only [htr] at hall ⊢
  have hnm : ∀ t ∈ ls ++ [s], (nm name t.num).length ≤ 140737488355328 ∧ t.num < 1000000000000000 := fun t ht => by
    have hn := (h.good t ht).num
    have := nm_len (name := name) (k := t.num) hn
    have := h.name_le
    exact ⟨by omega, hn⟩
  have HNM := Lib.hid hnm
  have HN16 := Lib.hid h.name_le
  have HTR := Lib.hid htr
  have HALL := Lib.hid hall
  have H := Lib.hid h
  obtain ⟨gb, cap, hC, hgb, hgn⟩ := h.cells (by simp)
  have HC := Lib.hid hC
  have HLA := Lib.hid (last_log w g p gb cap name most ls s synced hC hl)
  have hnl := (hnm s (by simp)).1
  have hns := (hnm s (by simp)).2
  clear h hf hsz htr hall hnm hC
  go_enter Tryz.func56, Tryz.ntmps56
  go_wp2_with fail
  refine HLA.out.mono ?_
  rintro e w1 ⟨rfl, hw1⟩
  have HB1 := Lib.hid (below_n hw1)
  have hC1 := HC.out.after HB1.out
  obtain ⟨A1, c1, q0, q1, q2, q3⟩ := hC1.row ls.length (by simp)
  simp only [List.getElem_append_right (Nat.le_refl _), Nat.sub_self, List.getElem_cons_zero] at q0 q1 q2 q3
  have c0 : w1.cell? ⟨g, 0, none⟩ = some (.pointer (some ⟨p, 0, none⟩)) := hC1.blk.cell 0
  have f0 : ((s.first : Int) == 0) = false := by rw [beq_eq_false_iff_ne]; omega
  have HC1 := Lib.hid hC1
  clear hw1 HLA hC1
  go_wp2_with fail
  go_region_held3 (fun w' => w'.cell? ⟨g, 0, none⟩ = some (.pointer (some ⟨p, 0, none⟩)) ∧ w'.cell? ⟨gb, ls.length * 4 + 2, none⟩ = some (.int .i64 (s.size : Int))) (first | exact ⟨c0, q2⟩ | exact d0 | exact d1)
    (first
    | (go_at_call 36; refine (file_log _ g p name most synced _ (HC1.out.after (below_drewN (Below.refl _ w1) 1)).blk HN16.out (H.out.later (HB1.out.trans ((below_drewN (Below.refl _ w1) 1).mono HB1.out.size))).tab gb _ s.num hns q0).mono ?_; rintro e w2 ⟨rfl, hb2⟩; have hb2 := below_of_drew hb2; have HB2 : Hid (Below w.heap.size w w2) := Lib.hid (HB1.out.trans (hb2.mono HB1.out.size)); have d0 : w2.cell? ⟨g, 0, none⟩ = some (.pointer (some ⟨p, 0, none⟩)) ∧ w2.cell? ⟨gb, ls.length * 4 + 2, none⟩ = some (.int .i64 (s.size : Int)) := ⟨(hb2.cell (World.block_lt_of_cell? _ _ c0)).trans c0, (hb2.cell (World.block_lt_of_cell? _ _ q2)).trans q2⟩; clear hb2)
    | (go_at_call 73; refine (trunc_on _ S2 p L room false (nm name s.num) hnl (H.out.later HB2.out).dk (s.size : Int)).mono ?_; rintro e w3 hd3; have HD3 := Lib.hid ((H.out.later HB2.out).disk hd3); rw [HTR.out] at hd3 HD3; obtain ⟨rfl, -, hc3⟩ := hd3; have d1 : w3.cell? ⟨g, 0, none⟩ = some (.pointer (some ⟨p, 0, none⟩)) ∧ w3.cell? ⟨gb, ls.length * 4 + 2, none⟩ = some (.int .i64 (s.size : Int)) := ⟨hc3.cell d0.1 (fun h2 => by obtain ⟨v, rv, _, hg1, _⟩ := H.out.lg; exact H.out.apart g hg1 h2), hc3.cell d0.2 (fun h2 => H.out.apart gb hgb h2)⟩; have HC3 := Lib.hid hc3; clear hc3))
  have hC3 := (HC.out.after HB2.out).ch HC3.out (fun h2 => by obtain ⟨v, rv, _, hg1, _⟩ := H.out.lg; exact H.out.apart g hg1 h2) (fun h2 => H.out.apart gb hgb h2)
  have c3 : w3.cell? ⟨g, 3, none⟩ = some (.slice (some ⟨gb, 0, none⟩) (ls ++ [s]).length cap) := hC3.blk.cell 3
  have hMA : MendAt S1 (Up S2 w2 w3) g p room name most synced (ls ++ [s]) L1 w3 w3 0 := ⟨_, HD3.out.1, Step.refl _ _ _⟩
  have HMA := Lib.hid hMA
  have hlen : (ls ++ [s]).length ≤ 549755813889 := by simp; omega
  have HS3 : Hid (Step S1 S2 S1 (Up S2 w2 w3) w w3) := Lib.hid ((Step.below HB2.out).trans HD3.out.2)
  generalize hsg : ls ++ [s] = segs at *
  have HSG := Lib.hid hsg
  clear hsg
  clear hC3 hMA d1 d0 HD3 HC1 HTR HC H q0 q1 q2 q3 c0
  go_wp2_with fail
  go_loopw [41] (fun i wr => ∃ k : Nat, k ≤ segs.length ∧ i = .int .i64 k ∧ Hid (MendAt S1 (Up S2 w2 w3) g p room name most synced segs L1 w3 wr k)) (fun i _ => segs.length - (intOf i).toNat)
  case atStart => exact ⟨0, Nat.zero_le _, rfl, HMA⟩
  case round =>
    obtain ⟨k, hk, rfl, hm⟩ := hrel
    by_cases hlt : k < segs.length
    · obtain ⟨T2, hD, hS⟩ := hm.out
      have hn1 := (HNM.out _ (List.getElem_mem hlt)).1
      have hn2 := (HNM.out _ (List.getElem_mem hlt)).2
      have hz := sync_zero (some_all (segs.take k) L1 (HALL.out _ (List.getElem_mem hlt)) : (find (syncAll L1 name (segs.take k)) (nm name segs[k].num)).isSome = true)
      have htk : syncAll L1 name (segs.take (k + 1)) = (syncS (syncAll L1 name (segs.take k)) false (nm name segs[k].num)).1 := by rw [List.take_succ_eq_append_getElem hlt, syncAll_snoc]
      obtain ⟨L2, hL2⟩ : ∃ L2, syncS (syncAll L1 name (segs.take k)) false (nm name segs[k].num) = (L2, 0) := ⟨_, Prod.ext rfl hz⟩
      rw [hL2] at htk
      have HTK := Lib.hid htk
      have HL2 := Lib.hid hL2
      have HD := Lib.hid hD
      have HS := Lib.hid hS
      obtain ⟨gbr, capr, hCr, hg1, hg2⟩ := hD.cells (by omega)
      have HCr := Lib.hid hCr
      have HP := Lib.hid (lt_cells hCr hlt)
      have HG := Lib.hid (show S1 g by obtain ⟨_, _, _, h, _⟩ := hD.lg; exact h)
      clear hz htk hL2 hD hS hCr hm
      go_wp2_with fail
      go_region_held3 (fun w' => w'.cell? ⟨g, 0, none⟩ = some (.pointer (some ⟨p, 0, none⟩)) ∧ w'.cell? ⟨g, 3, none⟩ = some (.slice (some ⟨gbr, 0, none⟩) segs.length capr) ∧ w'.cell? ⟨gbr, k * 4, none⟩ = some (.int .i64 (segs[k].num : Int))) (first | exact HP.out | exact HP4.out | exact HP5.out)
        (first
        | (go_at_call 36; refine (file_log _ g p name most synced _ (HCr.out.after (below_drewN (Below.refl _ wr) 1)).blk HN16.out (HD.out.later (below_drewN (Below.refl _ wr) 1)).tab gbr _ segs[k].num hn2 HP.out.2.2).mono ?_; rintro e w4 ⟨rfl, hb4⟩; have HB4 : Hid (Below wr.heap.size wr w4) := Lib.hid (below_of_drew hb4); have HP4 := Lib.hid (three_below HB4.out HP.out); clear hb4)
        | (go_at_call 24; refine (sync_on _ T2 p _ room false (nm name segs[k].num) hn1 (HD.out.later HB4.out).dk).mono ?_; rintro e w5 hd5; have HD5 := Lib.hid ((HD.out.later HB4.out).disk hd5); rw [HL2.out] at hd5 HD5; obtain ⟨rfl, -, hc5⟩ := hd5; have HP5 := Lib.hid (three_ch hc5 HP4.out (fun h2 => HD.out.apart g HG.out h2) (fun h2 => HD.out.apart g HG.out h2) (fun h2 => HD.out.apart gbr hg1 h2)); clear hc5))
      all_goals
        go_wp2_with fail
        go_roundw
        case rel => exact ⟨k + 1, by omega, by go_num, Lib.hid ⟨_, by rw [HTK.out]; exact HD5.out.1, (HS.out.trans (Step.below HB4.out)).trans HD5.out.2⟩⟩
        case measure => simp [intOf]; omega
    · have hke : k = segs.length := by omega
      subst hke
      obtain ⟨T2, hD, hS⟩ := hm.out
      rw [List.take_length] at hD
      have HD := Lib.hid hD
      clear hD hm
      go_wp2_with fail
      go_ret
      rw [HSG.out]
      exact ⟨rfl, _, _, HD.out, HS3.out.trans hS⟩

end Go.Proofs.YtjjfhbbaabakmaaGreatDoor.Wx

/-
  Words for layer 4's load: a segment more.
-/
namespace Go.Proofs.YtjjfhbbaabakmaaGreatDoor.Wy
set_option linter.unusedSimpArgs false
open Go Go.RowKit Ck Kw Ga Dm Dw Da Db Dc Dd De Df Dg Dh Wc Wf Wa Wb Wd Wn We Kx Wg Wh Wl Wj Wk Wo Wq Wr Ws Wt Wu Wv Ww Wx
attribute [local go_sem ↓] Go.wp_at_zero Go.wp_at_succ
set_option linter.unusedVariables false

/-- The log's blocks, and all that came since. -/
def Wide (T : Nat → Prop) (wa w : World) (k : Nat) : Prop := T k ∨ (wa.heap.size ≤ k ∧ k < w.heap.size)
theorem LDs.wide {wa w : World} {T1 S2 : Nat → Prop} {g p room most y : Nat} {L : List Fl} {name : Tx} {segs : List Sg} (h : LDs wa T1 S2 g p L room name most segs y) (b : Below wa.heap.size wa w) : LDs w (Wide T1 wa w) S2 g p L room name most segs y ∧ Step T1 S2 (Wide T1 wa w) S2 wa w := by
  have h' := h.later b
  refine ⟨⟨h'.lg.weaken (fun k hk => .inl hk), h'.dk, fun k a c => ?_, fun k hk => ?_, h'.b2, h'.tab, fun hz => ?_, h'.z2⟩, fun k hk => hk, fun k hk => .inl hk, Ch.of_below b (Nat.le_refl _)⟩
  · rcases a with a | a
    · exact h.apart k a c
    · have := h.b2 k c; omega
  · rcases hk with hk | hk
    · exact h'.b1 k hk
    · exact hk.2
  · rcases hz with hz | hz
    · exact h.z1 hz
    · have := h.zero; omega
theorem lds_push {wa w6 w7 : World} {T1 S2 : Nat → Prop} {g p room most y : Nat} {L : List Fl} {name : Tx} {segs : List Sg} {s : Sg} {Au A6 A7 : Option Addr} {cu c6 c7 N : Nat} {rv : List Value} (hN : N = segs.length) (h : LDs wa T1 S2 g p L room name most segs y) (b : Below wa.heap.size wa w6)
    (hu : Rcs w6 (fun k => wa.heap.size ≤ k ∧ k < w6.heap.size) (.slice Au s.recs.length cu) s.recs) (hg : GoodS s) (hsg : Segs w6 (fun k => T1 k ∧ k ≠ g) (.slice A6 N c6) segs rv)
    (hblk : Blk w6 g 64 #[.pointer (some ⟨p, 0, none⟩), .string ⟨name.toArray⟩, .int .i64 (most : Int), .slice A6 N c6, .int .i64 (y : Int)])
    (happ : Appended (w6.alloc (.cells (SgV s (.slice Au s.recs.length cu)) 76)) 0 76 4 (.slice A6 N c6) (N + 1) (cellsS segs rv ++ segCells s (.slice Au s.recs.length cu)) (.slice A7 (N + 1) c7) w7) :
    ∃ T1', LDs (w7.setCell ⟨g, 3, none⟩ (.slice A7 (N + 1) c7)) T1' S2 g p L room name most (segs ++ [s]) y ∧ Step T1 S2 T1' S2 wa (w7.setCell ⟨g, 3, none⟩ (.slice A7 (N + 1) c7)) := by
  subst hN
  have hw := LDs.wide h b
  have hbs := b.size
  have hal : Below w6.heap.size w6 (w6.alloc (.cells (SgV s (.slice Au s.recs.length cu)) 76)) := (Below.refl _ _).alloc (Nat.le_refl _) _
  have q7 := (hblk.alloc (.cells (SgV s (.slice Au s.recs.length cu)) 76)).grown happ.2.1 (fun e1 => own_far hsg.row hblk (by decide) e1.symm)
  have hgS : T1 g := by obtain ⟨_, _, _, h, _⟩ := h.lg; exact h
  have hga : g < wa.heap.size := h.b1 g hgS
  have hsgW : Segs w6 (fun k => Wide T1 wa w6 k ∧ k ≠ g) (.slice A6 segs.length c6) segs rv := hsg.weaken (fun k hk => ⟨.inl hk.1, hk.2⟩)
  have huW : Rcs w6 (fun k => Wide T1 wa w6 k ∧ k ≠ g) (.slice Au s.recs.length cu) s.recs := hu.weaken (fun k hk => ⟨.inr hk, by omega⟩)
  have hpush := Segs.push (s := s) (u := .slice Au s.recs.length cu) (hsgW.ch (Ch.of_below (S := fun _ => False) hal (Nat.le_refl _)) (fun _ _ h => h)) (huW.after hal) (fun k i u1 hk hi he => by
    have h1 := (hu.in_ k hk).1
    have hil : i < segs.length := by have := (List.getElem?_eq_some_iff.1 hi).1; rw [hsg.len] at this; exact this
    obtain ⟨u', hu', hr⟩ := hsg.rcs i hil
    rw [hi] at hu'
    injection hu' with hu'
    subst hu'
    have := (hr.in_ k he).1.1
    have := h.b1 k this
    omega) hg happ
  have hrow : ∀ k, (Value.slice A6 segs.length c6).ownBlock = some k → Wide T1 wa w6 k ∧ k ≠ g := fun k hk => hsgW.own k hk
  have hc7 : Ch (Wide T1 wa w6) w6 w7 := (Ch.of_below hal (Nat.le_refl _)).trans (Ch.of_grown (S := Wide T1 wa w6) happ.2.1 (fun k hk _ => (hrow k hk).1)) (fun _ _ h => h)
  have hcf : Ch (Wide T1 wa w6) w6 (w7.setCell ⟨g, 3, none⟩ (.slice A7 (segs.length + 1) c7)) := hc7.setCell (fun _ => .inl hgS) _
  have hlg : Lg (w7.setCell ⟨g, 3, none⟩ (.slice A7 (segs.length + 1) c7)) (Up (Wide T1 wa w6) w6 (w7.setCell ⟨g, 3, none⟩ (.slice A7 (segs.length + 1) c7))) g p name most (segs ++ [s]) y := by
    obtain ⟨_, _, _, _, _, hn16, hmost⟩ := h.lg
    refine ⟨.slice A7 (segs.length + 1) c7, rv ++ [.slice Au s.recs.length cu], by have := q7.set_ 3 (.slice A7 (segs.length + 1) c7); simpa using this, .inl (.inl hgS), ?_, hn16, hmost⟩
    refine (hpush.ch ((Ch.refl (fun k => k = g) w7).setCell (p := ⟨g, 3, none⟩) (fun _ => rfl) _) (fun k hk e => ?_)).weaken (fun k hk => ?_)
    · subst e
      rcases hk with hk | hk
      · exact hk.2 rfl
      · have := hk.1; simp at this; have := hblk.lt; omega
    · rcases hk with hk | hk
      · exact ⟨.inl hk.1, hk.2⟩
      · have h1 := hk.1
        simp at h1
        exact ⟨.inr ⟨by omega, by have := hk.2; simpa [World.setCell] using this⟩, by have := hblk.lt; omega⟩
  have hfin := hw.1.logw hcf hlg
  exact ⟨_, hfin.1, hw.2.trans hfin.2⟩

end Go.Proofs.YtjjfhbbaabakmaaGreatDoor.Wy

/-
  Contract of layer 4's load.
-/
namespace Go.Proofs.YtjjfhbbaabakmaaGreatDoor.Wz
set_option linter.unusedSimpArgs false
open Go Go.RowKit Ck Kw Ga Dm Dw Da Db Dc Dd De Df Dg Dh Wc Wf Wa Wb Wd Wn We Kx Wg Wh Wl Wj Wk Wo Wq Wr Ws Wt Wu Wv Ww Wx Wy
attribute [local go_sem ↓] Go.wp_at_zero Go.wp_at_succ
set_option linter.unusedVariables false

/-- A segment stands in its file; what is behind its whole frames may stand in the last file alone. -/
structure IsAt (L : List Fl) (name : Tx) (s : Sg) (f : Fl) (xs : List Tx) (r : Tx) : Prop where
  file : find L (nm name s.num) = some f
  frs : Frs f.b xs r
  seg : segOf s.num xs = s
  first : 1 ≤ s.first
  good : GoodS s
  size : s.size ≤ f.b.length
  len : f.b.length ≤ 4194304
structure Loads (L : List Fl) (name : Tx) (segs : List Sg) : Prop where
  at_ : ∀ i (h : i < segs.length), ∃ f xs r, IsAt L name segs[i] f xs r ∧ (i + 1 < segs.length → segs[i].size = f.b.length)
  chain : ∀ i (h : i + 1 < segs.length), segs[i + 1].num = segs[i].num + 1 ∧ segs[i + 1].first = segs[i].first + segs[i].recs.length
  few : segs.length ≤ 64
theorem sl_get {w : World} {X : Nat → Prop} {A : Option Addr} {n c : Nat} {l : List Value} (h : Sl w X 1 (.slice A n c) n l) {k : Nat} (hk : k < l.length) : ∃ ad, A = some ad ∧ ad.block < w.heap.size ∧ ¬ X ad.block ∧ w.cell? (ad.add k) = some l[k] := by
  obtain ⟨A0, c0, hv, hl, hc, hm, hx⟩ := h
  injection hv with e1 e2 e3
  have hn : n = l.length := by simpa using hl.symm
  obtain ⟨ad, hA, hb, hX, hcell⟩ := hx (by omega)
  exact ⟨ad, e1.trans hA, hb, hX, hcell k _ (by simp [hk])⟩
theorem fits_at (w : World) (T1 S2 : Nat → Prop) (g p room most y : Nat) (L : List Fl) (name : Tx) (segs : List Sg) (k : Nat) (hlt : k < segs.length) (hL : Loads L name segs) (h : LDs w T1 S2 g p L room name most (segs.take k) y) (A : Option Addr) (c : Nat) :
    Calls Tryz.prog 55 #[.pointer (some ⟨g, 0, none⟩), .agg (SgV segs[k] (.slice A segs[k].recs.length c))] w fun e w' => e = .returned (.bool true) ∧ Below w.heap.size w w' := by
  obtain ⟨f, xs, r, ha, _⟩ := hL.at_ k hlt
  have hfew := hL.few
  cases k with
  | zero => exact fits_one w T1 g p name most y (by simpa using h.lg) segs[0] A c ha.first
  | succ k =>
    have h2 := h
    rw [List.take_succ_eq_append_getElem (show k < segs.length by omega)] at h2
    obtain ⟨gb, cap, hC, _, _⟩ := h2.cells (by simp only [List.length_append, List.length_cons, List.length_nil]; omega)
    have hch := hL.chain k (by omega)
    exact fits_more w g p gb cap name most y (segs.take k) segs[k] segs[k + 1] hC (by simp; omega) A c ha.first hch.1 hch.2
/-- Where load's loop stands. -/
def LoadAt (S1 S2 : Nat → Prop) (g p room : Nat) (name : Tx) (most y : Nat) (segs : List Sg) (L : List Fl) (w wr : World) (k : Nat) : Prop :=
  ∃ T1, LDs wr T1 S2 g p L room name most (segs.take k) y ∧ Step S1 S2 T1 S2 w wr
theorem two_below {w w' : World} (b : Below w.heap.size w w') {a1 a2 : Addr} {v1 v2 : Value} (h : w.cell? a1 = some v1 ∧ w.cell? a2 = some v2) : w'.cell? a1 = some v1 ∧ w'.cell? a2 = some v2 := by
  have k : ∀ {a : Addr} {v : Value}, w.cell? a = some v → w'.cell? a = some v := fun {a v} h => (b.cell (World.block_lt_of_cell? _ _ h)).trans h
  exact ⟨k h.1, k h.2⟩
theorem lds_blk {w : World} {T1 S2 : Nat → Prop} {g p room most y : Nat} {L : List Fl} {name : Tx} {segs : List Sg} (h : LDs w T1 S2 g p L room name most segs y) : ∃ A c rv, Blk w g 64 #[.pointer (some ⟨p, 0, none⟩), .string ⟨name.toArray⟩, .int .i64 (most : Int), .slice A segs.length c, .int .i64 (y : Int)] ∧ Segs w (fun k => T1 k ∧ k ≠ g) (.slice A segs.length c) segs rv := by
  obtain ⟨v, rv, h1, _, h3, _⟩ := h.lg
  obtain ⟨A, c, rfl⟩ := own_shape h3.row
  exact ⟨A, c, rv, h1, h3⟩

set_option maxRecDepth 100000 in
set_option maxHeartbeats 16000000 in
theorem load_log (w : World) (S1 S2 X : Nat → Prop) (g p : Nat) (L : List Fl) (room : Nat) (name : Tx) (most : Nat) (ls : List Sg) (s : Sg) (synced : Nat) (hd : LDs w S1 S2 g p L room name most [] synced) (hL : Loads L name (ls ++ [s]))
    (hall : ∀ t ∈ ls ++ [s], (find (truncS L false (nm name s.num) s.size).1 (nm name t.num)).isSome = true) (A : Option Addr) (c : Nat) (hN : Sl w X 1 (.slice A (ls ++ [s]).length c) (ls ++ [s]).length ((ls ++ [s]).map (fun t => Value.int .i64 (t.num : Int)))) (hX1 : ∀ k, S1 k → X k) (hX2 : ∀ k, S2 k → X k) :
    Calls Tryz.prog 27 #[.pointer (some ⟨g, 0, none⟩), .slice A (ls ++ [s]).length c] w fun e w' => e = .returned (.int .i64 0) ∧ Wal S1 S2 g p room name most w (syncAll (truncS L false (nm name s.num) s.size).1 name (ls ++ [s])) (ls ++ [s]) synced w' := by
  have hs0 := hL.at_ ls.length (by simp)
  simp only [List.getElem_append_right (Nat.le_refl _), Nat.sub_self, List.getElem_cons_zero] at hs0
  have HMEND : Hid (∀ W T1, LDs W T1 S2 g p L room name most (ls ++ [s]) synced → Calls Tryz.prog 56 #[.pointer (some ⟨g, 0, none⟩)] W fun e w' => e = .returned (.int .i64 0) ∧ Wal T1 S2 g p room name most W (syncAll (truncS L false (nm name s.num) s.size).1 name (ls ++ [s])) (ls ++ [s]) synced w') := Lib.hid fun W T1 h => by
    obtain ⟨f, xs, r, ha, _⟩ := hs0
    have := hL.few
    exact mend_log W T1 S2 g p L room name most ls s synced f h (by simp at this; omega) ha.first ha.file ha.size hall
  have HD := Lib.hid hd
  have HL := Lib.hid hL
  have hfew : (ls ++ [s]).length ≤ 64 := hL.few
  have hpos : 0 < (ls ++ [s]).length := by simp
  have HN := Lib.hid hN
  have HX := Lib.hid (And.intro hX1 hX2)
  have hn16 := hd.name_le
  have HLA : Hid (LoadAt S1 S2 g p room name most synced (ls ++ [s]) L w w 0) := Lib.hid ⟨_, by simpa using hd, Step.refl _ _ _⟩
  generalize hsg : ls ++ [s] = segs at *
  have HSG := Lib.hid hsg
  have HNL : Hid (∀ t ∈ segs, t.num < 1000000000000000 → (nm name t.num).length ≤ 140737488355328) := Lib.hid fun t _ hn => by
    have := nm_len (name := name) (k := t.num) hn
    omega
  clear hs0 hd hL hN hX1 hX2 hall hsg
  obtain ⟨n, hn⟩ : ∃ n, n = segs.length := ⟨_, rfl⟩
  rw [← hn] at HN hfew hpos ⊢
  have hn0 : ((n : Int) == 0) = false := by rw [beq_eq_false_iff_ne]; omega
  have HNN := Lib.hid hn
  clear hn
  go_enter Tryz.func27, Tryz.ntmps27
  go_wp2_with fail
  go_loopw [18] (fun i wr => ∃ k : Nat, k ≤ n ∧ i = .int .i64 k ∧ Hid (LoadAt S1 S2 g p room name most synced segs L w wr k)) (fun i _ => n - (intOf i).toNat)
  case atStart => exact ⟨0, Nat.zero_le _, rfl, HLA⟩
  case round =>
    obtain ⟨k, hk, rfl, hm⟩ := hrel
    by_cases hlt : k < n
    · obtain ⟨T1, hD, hS⟩ := hm.out
      have hlt' : k < segs.length := by have := HNN.out; omega
      obtain ⟨f, xs, r, ha, hwh⟩ := HL.out.at_ k hlt'
      have HA := Lib.hid ha
      have HW := Lib.hid hwh
      have hNr := HN.out.ch hS.ch (fun j _ hj => by
        rcases hj with hj | hj
        · exact HX.out.1 j hj
        · exact HX.out.2 j hj)
      obtain ⟨ad, rfl, hadl, -, hcell⟩ := sl_get hNr (k := k) (by simpa using hlt')
      simp only [List.getElem_map] at hcell
      obtain ⟨A6, c6, rv, hblk, hseg⟩ := lds_blk hD
      have HP : Hid (wr.cell? ⟨g, 0, none⟩ = some (.pointer (some ⟨p, 0, none⟩)) ∧ wr.cell? ⟨g, 1, none⟩ = some (.string ⟨name.toArray⟩)) := Lib.hid ⟨hblk.cell 0, hblk.cell 1⟩
      have HFT := Lib.hid (fun W (b : Below wr.heap.size wr W) => fits_at W T1 S2 g p room most synced L name segs k hlt' HL.out (hD.later b))
      have hnum := ha.good.num
      have hnl := HNL.out _ (List.getElem_mem hlt') hnum
      have hget : getS L false (nm name segs[k].num) = (f.b, 0) := by simp [getS, ha.file]
      have HGET := Lib.hid hget
      have HDR := Lib.hid hD
      have HS := Lib.hid hS
      have HBK := Lib.hid hblk
      have HSE := Lib.hid hseg
      obtain ⟨sg, hsg⟩ : ∃ sg, sg = segs[k] := ⟨_, rfl⟩
      have HSK := Lib.hid hsg
      rw [← hsg] at HA HW HFT hnum hnl HGET hcell
      clear hm hD hS ha hwh hNr hblk hseg hget hsg
      go_wp2_with fail
      go_region_held3 (fun w' => w'.cell? ⟨g, 0, none⟩ = some (.pointer (some ⟨p, 0, none⟩)) ∧ w'.cell? ⟨g, 1, none⟩ = some (.string ⟨name.toArray⟩)) (first | exact HP.out | exact HP4.out | exact HP5.out)
        (first
        | (go_at_call 53; refine (file_name _ name sg.num (HDR.out.later (below_drewN (Below.refl _ wr) 1)).tab hnum (by omega)).mono ?_; rintro e w4 ⟨rfl, hb4⟩; have HB4 : Hid (Below wr.heap.size wr w4) := Lib.hid (below_of_drew hb4); have HP4 := Lib.hid (two_below HB4.out HP.out); clear hb4)
        | (go_at_call 21; refine (get_on _ S2 p L room false (nm name sg.num) hnl (HDR.out.later HB4.out).dk).mono ?_; rintro e w5 hg5; rw [HGET.out] at hg5; obtain ⟨A5, c5, rfl, ho5, hb5⟩ := hg5; have HO5 := Lib.hid ho5; have HB5 := Lib.hid (HB4.out.trans (hb5.mono HB4.out.size)); have HP5 := Lib.hid (two_below hb5 HP4.out); clear hb5 ho5))
      all_goals
        go_wp2_with fail
        refine (parse_any w5 (fun _ => False) sg.num hnum A5 c5 f.b r xs (Sl.of_own HO5.out (fun _ _ _ h => h)) (by have := HA.out.len; omega) HA.out.frs).mono ?_
        rintro e w6 ⟨v, rfl, hrc, hb6⟩
        rw [HA.out.seg] at hrc ⊢
        obtain ⟨Au, cu, rfl⟩ := hrc.shape
        have HRC := Lib.hid hrc
        have HB6 := Lib.hid (HB5.out.trans (hb6.mono HB5.out.size))
        clear hrc hb6
        simp only [SgV]
        have f0 : ((sg.first : Int) == 0) = false := by have := HA.out.first; rw [beq_eq_false_iff_ne]; omega
        by_cases hwhole : sg.size = f.b.length
        focus
          have hz : ¬ sg.size < f.b.length := by omega
          clear hwhole
          go_wp2_with fail
        rotate_left
        focus
          have hz : sg.size < f.b.length := by have := HA.out.size; omega
          have hk1 : k + 1 = n := by
            have := HNN.out
            by_cases h : k + 1 < segs.length
            · exact absurd (HW.out h) hwhole
            · omega
          have hwn : IntKind.i64.wrap ((n : Int) - 1) = (n : Int) - 1 := wrap64 (by omega) (by omega)
          have hkn : ¬ (k : Int) < (n : Int) - 1 := by omega
          clear hwhole hk1
          go_wp2_with fail
        rotate_left
        all_goals
          refine (HFT.out _ (HB6.out.alloc HB6.out.size (.cells (SgV sg (.slice Au sg.recs.length cu)) 76)) Au cu).mono ?_
          rintro e w7 ⟨rfl, hb7⟩
          have HB7 : Hid (Below wr.heap.size wr w7) := Lib.hid ((HB6.out.alloc HB6.out.size _).trans (hb7.mono (by have := HB6.out.size; simp; omega)))
          have HB67 : Hid (Below w6.heap.size w6 w7) := Lib.hid (((Below.refl _ w6).alloc (Nat.le_refl _) _).trans (hb7.mono (by simp)))
          have kb := (Blk.new w6 76 (SgV sg (.slice Au sg.recs.length cu))).below hb7 (by simp)
          have s0 := kb.cell 0
          have s1 := kb.cell 1
          have s2 := kb.cell 2
          have s3 := kb.cell 3
          simp only [SgV, List.getElem?_toArray, List.getElem?_cons_zero, List.getElem?_cons_succ] at s0 s1 s2 s3
          have htl : (segs.take k).length = k := by simp; omega
          have hk7 := HBK.out.below HB7.out HBK.out.lt
          rw [htl] at hk7
          have d3 := hk7.cell 3
          have d3' := (hk7.alloc (.cells #[.int .i64 (sg.num : Int), .int .i64 (sg.first : Int), .int .i64 (sg.size : Int), .slice Au sg.recs.length cu] 76)).cell 3
          have df := hk7.frozen 3
          simp only [List.getElem?_toArray, List.getElem?_cons_zero, List.getElem?_cons_succ] at d3 d3'
          have hs7 := HSE.out.ch (Ch.of_below (S := fun _ => False) HB7.out (Nat.le_refl _)) (fun _ _ h => h)
          have hr7 := hs7.row
          rw [htl] at hr7 hs7
          have HK7 := Lib.hid hk7
          have HS7 := Lib.hid hs7
          have HR7 := Lib.hid hr7
          obtain ⟨i0, hi0, hz0, hz1, hz2⟩ := info_parts info_segs
          clear hb7 kb hk7 hs7 hr7
          go_wp2_with fail
          go_region_law ((refine step_append_sh (by rfl) (.tmp 71) (.tmp 73) _ (by rfl) 0 76 i0 _ 4 48 Tryz.underlying62 hi0 hz0 hz1 hz2 rfl (by omega) (.slice A6 k c6) k _ (by rfl) (show (w7.alloc (.cells (SgV sg (.slice Au sg.recs.length cu)) 76)).drew.ownsRow 0 76 4 (.slice A6 k c6) k _ from HR7.out.alloc _) (fun _ => False) _ 1 (segCells sg (.slice Au sg.recs.length cu)) (by rfl) (show Sl (w7.alloc (.cells (SgV sg (.slice Au sg.recs.length cu)) 76)).drew (fun _ => False) _ _ _ _ from seg_lit w7 (fun _ => False) _ sg (.slice Au sg.recs.length cu) (fun h => h)) (segCells_one _ _ _ _) (by simp only [maxLen]; omega) (by omega) (Nat.zero_le _) ?_; intro A7 c7 w8 happ; have happ := appended_drew happ; have q7 := (HK7.out.alloc (.cells (SgV sg (.slice Au sg.recs.length cu)) 76)).grown happ.2.1 (fun e1 => own_far HR7.out HK7.out (by decide) e1.symm); have q3 := q7.cell 3; have qf3 := q7.frozen 3; simp only [List.getElem?_toArray, List.getElem?_cons_zero, List.getElem?_cons_succ] at q3; have HAP := Lib.hid happ; clear happ q7))
          all_goals
            go_wp2_with fail
            go_roundw
            case rel =>
              refine ⟨k + 1, by omega, by go_num, Lib.hid ?_⟩
              have hp := lds_push (s := sg) htl.symm HDR.out HB7.out ((HRC.out.after HB67.out).weaken (fun j hj => ⟨by have := hj.1; have := HB5.out.size; omega, by have := hj.2; have := HB67.out.size; omega⟩)) HA.out.good (HS7.out) HK7.out HAP.out
              obtain ⟨T1', h1, h2⟩ := hp
              refine ⟨T1', ?_, HS.out.trans h2⟩
              rw [List.take_succ_eq_append_getElem hlt', ← HSK.out]
              exact h1
            case measure => simp [intOf]; omega
    · have hke : k = n := by omega
      subst hke
      obtain ⟨T1, hD, hS⟩ := hm.out
      rw [HNN.out, List.take_length] at hD
      have HME := Lib.hid (HMEND.out wr T1 hD)
      have HS := Lib.hid hS
      clear hD hS hm HMEND
      go_wp2_with fail
      refine HME.out.mono ?_
      rintro e w2 ⟨rfl, hw⟩
      go_wp2_with fail
      go_ret
      exact ⟨rfl, Wal.of HS.out hw⟩

end Go.Proofs.YtjjfhbbaabakmaaGreatDoor.Wz

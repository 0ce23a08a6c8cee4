/-
  Contract of layer 4's begin: another segment; a log and its disk, step by step.
-/
import Derived.Test.YtjjfhbbaabakmaaGreatDoorWS11
namespace Go.Proofs.YtjjfhbbaabakmaaGreatDoor.Ws
set_option linter.unusedSimpArgs false
open Go Go.RowKit Ck Kw Ga Dm Dw Da Db Dc Dd De Df Dg Dh Wc Wf Wa Wb Wd Wn We Kx Wg Wh Wl Wj Wk Wo Wq Wr
attribute [local go_sem ↓] Go.wp_at_zero Go.wp_at_succ
set_option linter.unusedVariables false

/-- A log in blocks of S1, its disk in blocks of S2. -/
structure LDs (w : World) (S1 S2 : Nat → Prop) (g p : Nat) (L : List Fl) (room : Nat) (name : Tx) (most : Nat) (segs : List Sg) (synced : Nat) : Prop where
  lg : Lg w S1 g p name most segs synced
  dk : Dk w S2 p L room false
  apart : ∀ k, S1 k → S2 k → False
  b1 : ∀ k, S1 k → k < w.heap.size
  b2 : ∀ k, S2 k → k < w.heap.size
  tab : Tab w
  z1 : ¬ S1 0
  z2 : ¬ S2 0
/-- What a step from w to w' makes of the two sets of blocks. -/
structure Step (S1 S2 S1' S2' : Nat → Prop) (w w' : World) : Prop where
  s1 : ∀ k, S1' k → Up S1 w w' k
  s2 : ∀ k, S2' k → Up S2 w w' k
  ch : Ch (fun k => S1 k ∨ S2 k) w w'
section
variable {w w1 w' : World} {S1 S2 R1 R2 T1 T2 : Nat → Prop} {g p room most synced : Nat} {L L' : List Fl} {name : Tx} {segs : List Sg}
theorem Step.refl (S1 S2 : Nat → Prop) (w : World) : Step S1 S2 S1 S2 w w := ⟨fun _ h => .inl h, fun _ h => .inl h, Ch.refl _ _⟩
theorem Step.below (b : Below w.heap.size w w') : Step S1 S2 S1 S2 w w' := ⟨fun _ h => .inl h, fun _ h => .inl h, Ch.of_below b (Nat.le_refl _)⟩
theorem Step.trans (h : Step S1 S2 R1 R2 w w1) (k : Step R1 R2 T1 T2 w1 w') : Step S1 S2 T1 T2 w w' := by
  have h1 := h.ch.size
  have h2 := k.ch.size
  refine ⟨fun j hj => ?_, fun j hj => ?_, h.ch.trans k.ch (fun j hj hr => ?_)⟩
  · rcases k.s1 j hj with a | a
    · rcases h.s1 j a with b | b
      · exact .inl b
      · exact .inr ⟨b.1, by omega⟩
    · exact .inr ⟨by omega, a.2⟩
  · rcases k.s2 j hj with a | a
    · rcases h.s2 j a with b | b
      · exact .inl b
      · exact .inr ⟨b.1, by omega⟩
    · exact .inr ⟨by omega, a.2⟩
  · rcases hr with hr | hr
    · rcases h.s1 j hr with b | b
      · exact .inl b
      · omega
    · rcases h.s2 j hr with b | b
      · exact .inr b
      · omega
theorem LDs.later (h : LDs w S1 S2 g p L room name most segs synced) (b : Below w.heap.size w w') : LDs w' S1 S2 g p L room name most segs synced :=
  ⟨h.lg.after b, h.dk.later b, h.apart, fun k hk => Nat.lt_of_lt_of_le (h.b1 k hk) b.size, fun k hk => Nat.lt_of_lt_of_le (h.b2 k hk) b.size, h.tab.after b, h.z1, h.z2⟩
theorem LDs.zero (h : LDs w S1 S2 g p L room name most segs synced) : 0 < w.heap.size := h.tab.lt
/-- A call on the disk alone. -/
theorem LDs.disk {r : List Fl × Nat} {e : Ending} (h : LDs w S1 S2 g p L room name most segs synced) (d : Did S2 p r room false w e w') : LDs w' S1 (Up S2 w w') g p r.1 room name most segs synced ∧ Step S1 S2 S1 (Up S2 w w') w w' := by
  obtain ⟨_, hd, hc⟩ := d
  refine ⟨⟨h.lg.ch hc (fun k a b => h.apart k a b), hd, fun k a b => ?_, fun k hk => Nat.lt_of_lt_of_le (h.b1 k hk) hc.size, fun k hk => ?_, h.tab.ch hc h.z2, h.z1, fun hz => ?_⟩, fun _ h => .inl h, fun _ h => h, hc.mono (fun _ _ h => .inr h)⟩
  · rcases b with b | b
    · exact h.apart k a b
    · have := h.b1 k a; omega
  · rcases hk with hk | hk
    · exact Nat.lt_of_lt_of_le (h.b2 k hk) hc.size
    · exact hk.2
  · rcases hz with hz | hz
    · exact h.z2 hz
    · have := h.zero; omega
end
/-- A change of the log alone. -/
theorem LDs.logw {w w' : World} {S1 S2 : Nat → Prop} {g p room most synced synced' : Nat} {L : List Fl} {name : Tx} {segs segs' : List Sg} (h : LDs w S1 S2 g p L room name most segs synced) (c : Ch S1 w w') (hl : Lg w' (Up S1 w w') g p name most segs' synced') : LDs w' (Up S1 w w') S2 g p L room name most segs' synced' ∧ Step S1 S2 (Up S1 w w') S2 w w' := by
  refine ⟨⟨hl, h.dk.ch c (fun k a b => h.apart k b a), fun k a b => ?_, fun k hk => ?_, fun k hk => Nat.lt_of_lt_of_le (h.b2 k hk) c.size, h.tab.ch c h.z1, fun hz => ?_, h.z2⟩, fun _ h => h, fun _ h => .inl h, c.mono (fun _ _ h => .inl h)⟩
  · rcases a with a | a
    · exact h.apart k a b
    · have := h.b2 k b; omega
  · rcases hk with hk | hk
    · exact Nat.lt_of_lt_of_le (h.b1 k hk) c.size
    · exact hk.2
  · rcases hz with hz | hz
    · exact h.z1 hz
    · have := h.zero; omega
/-- What a call on a log answers and leaves. -/
def Wal (S1 S2 : Nat → Prop) (g p room : Nat) (name : Tx) (most : Nat) (w : World) (L : List Fl) (segs : List Sg) (synced : Nat) (w' : World) : Prop :=
  ∃ S1' S2', LDs w' S1' S2' g p L room name most segs synced ∧ Step S1 S2 S1' S2' w w'
theorem Wal.of {S1 S2 R1 R2 : Nat → Prop} {g p room most synced : Nat} {name : Tx} {w w1 w' : World} {L : List Fl} {segs : List Sg} (s : Step S1 S2 R1 R2 w w1) (h : Wal R1 R2 g p room name most w1 L segs synced w') : Wal S1 S2 g p room name most w L segs synced w' := by
  obtain ⟨A, B, h1, h2⟩ := h
  exact ⟨A, B, h1, s.trans h2⟩

set_option maxRecDepth 100000 in
set_option maxHeartbeats 4000000 in
theorem begin_big (w : World) (S1 S2 : Nat → Prop) (g p : Nat) (L : List Fl) (room : Nat) (name : Tx) (most : Nat) (segs : List Sg) (synced number first : Nat) (h : LDs w S1 S2 g p L room name most segs synced) (hf : 9007199254740992 < first) :
    Calls Tryz.prog 38 #[.pointer (some ⟨g, 0, none⟩), .int .i64 (number : Int), .int .i64 (first : Int)] w fun e w' => e = .returned (.int .i64 6) ∧ Wal S1 S2 g p room name most w L segs synced w' := by
  have H := Lib.hid h
  clear h
  go_enter Tryz.func38, Tryz.ntmps38
  go_wp2_with (go_at_call 63; refine (head_big _ (first : Int) (by omega)).mono ?_; rintro e w1 ⟨rfl, rfl⟩)
  go_ret
  exact ⟨rfl, _, _, H.out, Step.refl _ _ _⟩
set_option maxRecDepth 100000 in
set_option maxHeartbeats 4000000 in
theorem begin_num (w : World) (S1 S2 : Nat → Prop) (g p : Nat) (L : List Fl) (room : Nat) (name : Tx) (most : Nat) (segs : List Sg) (synced number first : Nat) (h : LDs w S1 S2 g p L room name most segs synced) (hf : first ≤ 9007199254740992) (hn : 999999999999999 < number) :
    Calls Tryz.prog 38 #[.pointer (some ⟨g, 0, none⟩), .int .i64 (number : Int), .int .i64 (first : Int)] w fun e w' => e = .returned (.int .i64 6) ∧ Wal S1 S2 g p room name most w L segs synced w' := by
  have H := Lib.hid h
  clear h
  go_enter Tryz.func38, Tryz.ntmps38
  go_wp2_with (go_at_call 63; refine (head_any _ first hf).mono ?_; rintro e w1 ⟨A, c, rfl, ho1, hb1⟩)
  go_ret
  exact ⟨rfl, _, _, H.out.later hb1, Step.below hb1⟩

/-- What begin answers and leaves. -/
def Begun (S1 S2 : Nat → Prop) (g p room : Nat) (name : Tx) (most : Nat) (w : World) (r : List Fl × Nat) (segs : List Sg) (synced number first : Nat) (e : Ending) (w' : World) : Prop :=
  e = .returned (.int .i64 (r.2 : Int)) ∧ Wal S1 S2 g p room name most w r.1 (if r.2 = 0 then segs ++ [⟨number, first, (head first).length, []⟩] else segs) synced w'
set_option maxRecDepth 100000 in
set_option maxHeartbeats 8000000 in
theorem begin_go (w : World) (S1 S2 : Nat → Prop) (g p : Nat) (L : List Fl) (room : Nat) (name : Tx) (most : Nat) (segs : List Sg) (synced number first : Nat) (h : LDs w S1 S2 g p L room name most segs synced) (hf : first ≤ 9007199254740992) (hn : number ≤ 999999999999999) (hsl : segs.length ≤ 549755813888) :
    Calls Tryz.prog 38 #[.pointer (some ⟨g, 0, none⟩), .int .i64 (number : Int), .int .i64 (first : Int)] w (Begun S1 S2 g p room name most w (begS L room name number first) segs synced number first) := by
  have hst := beg_steps (L := L) (room := room) (name := name) (number := number) (first := first) (by omega) (by omega)
  have hhl := head_len first
  have hnl : (nm name number).length ≤ 140737488355328 := by
    obtain ⟨_, _, _, _, _, hn16, _⟩ := h.lg
    have := nm_len (name := name) (k := number) (by omega)
    omega
  have hn16 : name.length ≤ 16 := by obtain ⟨_, _, _, _, _, hn16, _⟩ := h.lg; exact hn16
  have hrp : ∃ v3, Blk w g 64 #[.pointer (some ⟨p, 0, none⟩), .string ⟨name.toArray⟩, .int .i64 (most : Int), v3, .int .i64 (synced : Int)] := by
    obtain ⟨v, rv, h1, _⟩ := h.lg
    exact ⟨v, h1⟩
  obtain ⟨v3, hgb⟩ := hrp
  have H := Lib.hid h
  have HST := Lib.hid hst
  have HGB := Lib.hid hgb
  have hgs : g < w.heap.size := hgb.lt
  clear h hst hgb
  go_enter Tryz.func38, Tryz.ntmps38
  go_wp2_with fail
  refine (head_any _ first hf).mono ?_
  rintro e w1 ⟨A, c, rfl, ho1, hb1⟩
  have HO1 := Lib.hid ho1
  have HB1 := Lib.hid hb1
  have HG1 := Lib.hid (HGB.out.below hb1 HGB.out.lt)
  have hs1 := hb1.size
  clear ho1 hb1
  go_wp2_with fail
  have hk9 : Blk (w1.alloc (.cells #[.int .i64 (number : Int), .int .i64 (first : Int), .int .i64 ((head first).length : Int), .slice none 0 0] 76)) w1.heap.size 76 #[.int .i64 (number : Int), .int .i64 (first : Int), .int .i64 ((head first).length : Int), .slice none 0 0] := Blk.new _ _ _
  have hb2 : Below w.heap.size w (w1.alloc (.cells #[.int .i64 (number : Int), .int .i64 (first : Int), .int .i64 ((head first).length : Int), .slice none 0 0] 76)) := HB1.out.alloc hs1 _
  have hs2 : (w1.alloc (.cells #[.int .i64 (number : Int), .int .i64 (first : Int), .int .i64 ((head first).length : Int), .slice none 0 0] 76)).heap.size = w1.heap.size + 1 := by simp
  have ho2 : (w1.alloc (.cells #[.int .i64 (number : Int), .int .i64 (first : Int), .int .i64 ((head first).length : Int), .slice none 0 0] 76)).ownsRow w.heap.size 5 1 (.slice A (head first).length c) (head first).length (BVs (head first)) := HO1.out.alloc _
  have hg2 := HG1.out.alloc (.cells #[.int .i64 (number : Int), .int .i64 (first : Int), .int .i64 ((head first).length : Int), .slice none 0 0] 76)
  generalize (w1.alloc (.cells #[.int .i64 (number : Int), .int .i64 (first : Int), .int .i64 ((head first).length : Int), .slice none 0 0] 76)) = w2 at hk9 hb2 hs2 ho2 hg2 ⊢
  have HK9 := Lib.hid hk9
  have HB2 := Lib.hid hb2
  have HO2 := Lib.hid ho2
  have HG2 := Lib.hid hg2
  have HT2 := Lib.hid (H.out.tab.after hb2)
  have hc9 : w2.cell? ⟨w1.heap.size, 0, none⟩ = some (.int .i64 (number : Int)) := hk9.cell 0
  have HFI := Lib.hid (file_log w2 g p name most synced v3 hg2 hn16 HT2.out w1.heap.size 0 number (by omega) hc9)
  clear hk9 hb2 ho2 hg2 hc9 HO1 HB1 HG1 HT2
  go_wp2_with fail
  refine HFI.out.mono ?_
  rintro e w3 ⟨rfl, hb3⟩
  have hL3 := H.out.later (HB2.out.trans (hb3.mono HB2.out.size))
  have HL3 := Lib.hid hL3
  have HS3 : Hid (Step S1 S2 S1 S2 w w3) := Lib.hid (Step.below (HB2.out.trans (hb3.mono HB2.out.size)))
  have hk3 := HK9.out.below hb3 HK9.out.lt
  have HK3 := Lib.hid hk3
  have ho3 := own_below HO2.out hb3
  have HO3 := Lib.hid ho3
  have hg3 := HG2.out.below hb3 HG2.out.lt
  have HG3 := Lib.hid hg3
  have hs3 := hb3.size
  have d0 : w3.cell? ⟨g, 0, none⟩ = some (.pointer (some ⟨p, 0, none⟩)) := hg3.cell 0
  clear hL3 hk3 ho3 hg3 hb3 HFI HK9 HO2 HG2 HB2
  have HCR := Lib.hid (create_on w3 S2 p L room false (nm name number) hnl HL3.out.dk)
  rcases HST.out with ⟨cc, hc0, hc1, hcr, hbg⟩ | ⟨L1, hcr, hrest⟩
  · rw [hcr] at HCR
    have HBG := Lib.hid hbg
    have hne : ((cc : Int) == 0) = false := by rw [beq_eq_false_iff_ne]; omega
    clear hcr hbg HST
    go_wp2_with fail
    refine HCR.out.mono ?_
    rintro e w4 ⟨rfl, hd4, hc4⟩
    have HD4 := Lib.hid (HL3.out.disk (e := .returned (.int .i64 (cc : Int))) ⟨rfl, hd4, hc4⟩)
    clear hd4 hc4
    go_wp2_with fail
    go_ret
    rw [HBG.out]
    exact ⟨rfl, by rw [if_neg hc0]; exact ⟨_, _, HD4.out.1, HS3.out.trans HD4.out.2⟩⟩
  · have HREST := Lib.hid hrest
    rw [hcr] at HCR
    clear hcr hrest HST
    go_wp2_with fail
    refine HCR.out.mono ?_
    rintro e w4 ⟨rfl, hd4, hc4⟩
    have hc4k := hc4
    have HD4 := Lib.hid (HL3.out.disk (e := .returned (.int .i64 (((L1, 0) : List Fl × Nat).2 : Int))) ⟨rfl, hd4, hc4⟩)
    have HC4 := Lib.hid hc4
    have far : ∀ k, w.heap.size ≤ k → ¬ S2 k := fun k hk h2 => by have := H.out.b2 k h2; omega
    have HFAR := Lib.hid far
    have hk4 := HK3.out.ch hc4 (far _ hs1)
    have HK4 := Lib.hid hk4
    have HO4 := Lib.hid (own_ch HO3.out hc4 (fun k hk h2 => far k (HO3.out.lt k hk).1 h2))
    have hs4 := hc4.size
    have hgS : ¬ S2 g := fun h2 => by obtain ⟨v, rv, _, hg1, _⟩ := H.out.lg; exact H.out.apart g hg1 h2
    have HG4 := Lib.hid (HG3.out.ch hc4 hgS)
    have d0 : w4.cell? ⟨g, 0, none⟩ = some (.pointer (some ⟨p, 0, none⟩)) := HG4.out.cell 0
    have hgn4 : ¬ Up S2 w3 w4 g := fun h2 => by rcases h2 with h2 | h2; exact hgS h2; omega
    have HX4 : Hid (∀ k, Up S2 w3 w4 k → (fun j => j < w3.heap.size ∧ w.heap.size ≤ j → False) k) := Lib.hid fun k hk ⟨h1, h2⟩ => by
      rcases hk with hk | hk
      · exact HFAR.out k h2 hk
      · omega
    have HSL4 : Hid (Sl w4 (fun j => j < w3.heap.size ∧ w.heap.size ≤ j → False) 1 (.slice A (head first).length c) (head first).length (BVs (head first))) := Lib.hid (Sl.of_own' HO4.out (fun k hk hh => hh ⟨(HO3.out.lt k hk).2, (HO3.out.lt k hk).1⟩))
    have HAP := Lib.hid (append_on w4 (Up S2 w3 w4) _ p L1 room false (nm name number) hnl HD4.out.1.dk (head first) A c HSL4.out HX4.out (by omega))
    clear hd4 hc4 hc4k HCR far hk4
    rcases HREST.out with ⟨ha, hr, hbg⟩ | ⟨L2, L3, ha, hsy, hbg, hL3⟩
    · rw [ha] at HAP
      have HBG := Lib.hid hbg
      have HR := Lib.hid hr
      clear ha hr hbg HREST
      go_wp2_with fail
      refine HAP.out.mono ?_
      rintro e w5 ⟨rfl, hd5, hc5⟩
      have HD5 := Lib.hid (HD4.out.1.disk (e := .returned (.int .i64 (((L1, 30) : List Fl × Nat).2 : Int))) ⟨rfl, hd5, hc5⟩)
      have HG5 := Lib.hid (HG4.out.ch hc5 hgn4)
      have d0 : w5.cell? ⟨g, 0, none⟩ = some (.pointer (some ⟨p, 0, none⟩)) := HG5.out.cell 0
      have HRM := Lib.hid (remove_on w5 _ p L1 room false (nm name number) hnl HD5.out.1.dk)
      rw [HR.out] at HRM
      clear hd5 hc5 HAP
      go_wp2_with fail
      refine HRM.out.mono ?_
      rintro e w6 ⟨rfl, hd6, hc6⟩
      have HD6 := Lib.hid (HD5.out.1.disk (e := .returned (.int .i64 (((L, 0) : List Fl × Nat).2 : Int))) ⟨rfl, hd6, hc6⟩)
      clear hd6 hc6
      go_wp2_with fail
      go_ret
      rw [HBG.out]
      exact ⟨rfl, by rw [if_neg (show ¬ (30 : Nat) = 0 by omega)]; exact ⟨_, _, HD6.out.1, ((HS3.out.trans HD4.out.2).trans HD5.out.2).trans HD6.out.2⟩⟩
    · rw [ha] at HAP
      have HBG := Lib.hid hbg
      have HSY := Lib.hid hsy
      clear ha hsy hbg HREST
      go_wp2_with fail
      refine HAP.out.mono ?_
      rintro e w5 ⟨rfl, hd5, hc5⟩
      have HD5 := Lib.hid (HD4.out.1.disk (e := .returned (.int .i64 (((L2, 0) : List Fl × Nat).2 : Int))) ⟨rfl, hd5, hc5⟩)
      have HG5 := Lib.hid (HG4.out.ch hc5 hgn4)
      have h9n : ¬ Up S2 w3 w4 w1.heap.size := fun hk => by
        rcases hk with hk | hk
        · exact HFAR.out _ hs1 hk
        · omega
      have HK5 := Lib.hid (HK4.out.ch hc5 h9n)
      have hs5 := hc5.size
      have d0 : w5.cell? ⟨g, 0, none⟩ = some (.pointer (some ⟨p, 0, none⟩)) := HG5.out.cell 0
      have HSN := Lib.hid (sync_on w5 _ p L2 room false (nm name number) hnl HD5.out.1.dk)
      rw [HSY.out] at HSN
      clear hd5 hc5 HAP
      go_wp2_with fail
      refine HSN.out.mono ?_
      rintro e w6 ⟨rfl, hd6, hc6⟩
      have HD6 := Lib.hid (HD5.out.1.disk (e := .returned (.int .i64 (((L3, 0) : List Fl × Nat).2 : Int))) ⟨rfl, hd6, hc6⟩)
      have h9n6 : ¬ Up (Up S2 w3 w4) w4 w5 w1.heap.size := fun hk => by
        rcases hk with hk | hk
        · exact h9n hk
        · omega
      have hk6 := HK5.out.ch hc6 h9n6
      have HK6 := Lib.hid hk6
      have hs6 := hc6.size
      have m0 : w6.cell? ⟨w1.heap.size, 0, none⟩ = some (.int .i64 (number : Int)) := hk6.cell 0
      have m1 : w6.cell? ⟨w1.heap.size, 1, none⟩ = some (.int .i64 (first : Int)) := hk6.cell 1
      have m2 : w6.cell? ⟨w1.heap.size, 2, none⟩ = some (.int .i64 ((head first).length : Int)) := hk6.cell 2
      have m3 : w6.cell? ⟨w1.heap.size, 3, none⟩ = some (.slice none 0 0) := hk6.cell 3
      obtain ⟨v, rv, hgb6, hgS1, hsg6, _, hmost⟩ := HD6.out.1.lg
      obtain ⟨A6, c6, rfl⟩ := own_shape hsg6.row
      have d3 : w6.cell? ⟨g, 3, none⟩ = some (.slice A6 segs.length c6) := hgb6.cell 3
      have hf3 := hgb6.frozen 3
      have HGB6 := Lib.hid hgb6
      have HSG6 := Lib.hid hsg6
      have HGS := Lib.hid hgS1
      clear hd6 hc6 hgb6 hsg6 hk6 h9n h9n6 HSN d0
      obtain ⟨i0, hi0, hz0, hz1, hz2⟩ := info_parts info_segs
      have hg9 : g ≠ w1.heap.size := by omega
      have d3' := (HGB6.out.alloc (.cells #[.int .i64 (number : Int), .int .i64 (first : Int), .int .i64 ((head first).length : Int), .slice none 0 0] 76)).cell 3
      simp only [List.getElem?_toArray, List.getElem?_cons_zero, List.getElem?_cons_succ] at d3'
      go_wp2_with fail
      go_region_law ((refine step_append_sh (by rfl) (.tmp 69) (.tmp 71) _ (by rfl) 0 76 i0 _ 4 48 Tryz.underlying62 hi0 hz0 hz1 hz2 rfl (by omega) (.slice A6 segs.length c6) segs.length _ (by rfl) (show (w6.alloc (.cells (SgV ⟨number, first, (head first).length, []⟩ (.slice none 0 0)) 76)).drew.ownsRow 0 76 4 (.slice A6 segs.length c6) segs.length _ from HSG6.out.row.alloc _) (fun _ => False) _ 1 (segCells ⟨number, first, (head first).length, []⟩ (.slice none 0 0)) (by rfl) (show Sl (w6.alloc (.cells (SgV ⟨number, first, (head first).length, []⟩ (.slice none 0 0)) 76)).drew (fun _ => False) _ _ _ _ from seg_lit w6 (fun _ => False) _ ⟨number, first, (head first).length, []⟩ (.slice none 0 0) (fun h => h)) (segCells_one _ _ _ _) (by simp only [maxLen]; omega) (by omega) (Nat.zero_le _) ?_; intro A7 c7 w7 happ; have happ := appended_drew happ; have q7 := (HGB6.out.alloc (.cells (SgV ⟨number, first, (head first).length, []⟩ (.slice none 0 0)) 76)).grown happ.2.1 (fun e1 => own_far HSG6.out.row HGB6.out (by decide) e1.symm); have q3 := q7.cell 3; have qf3 := q7.frozen 3; simp only [List.getElem?_toArray, List.getElem?_cons_zero, List.getElem?_cons_succ] at q3))
      all_goals
        go_wp2_with fail
        go_ret
        rw [HBG.out]
        refine ⟨rfl, ?_⟩
        rw [if_pos rfl]
        have hal : Below w6.heap.size w6 (w6.alloc (.cells (SgV ⟨number, first, (head first).length, []⟩ (.slice none 0 0)) 76)) := (Below.refl _ _).alloc (Nat.le_refl _) _
        have hpush := Segs.push (s := ⟨number, first, (head first).length, []⟩) (u := .slice none 0 0) (HSG6.out.ch (Ch.of_below (S := fun _ => False) hal (Nat.le_refl _)) (fun _ _ h => h)) (Rcs.nil _ _) (fun k i u1 hk => by simp [Value.ownBlock] at hk) ⟨by simp only; omega, hf, by simp only; omega, by simp⟩ happ
        have hrow : ∀ k, (Value.slice A6 segs.length c6).ownBlock = some k → S1 k ∧ k ≠ g := fun k hk => HSG6.out.own k hk
        have hc7 : Ch S1 w6 w7 := (Ch.of_below hal (Nat.le_refl _)).trans (Ch.of_grown (S := S1) happ.2.1 (fun k hk _ => (hrow k hk).1)) (fun _ _ h => h)
        have hcf : Ch S1 w6 (w7.setCell ⟨g, 3, none⟩ (.slice A7 (segs.length + 1) c7)) := hc7.setCell (fun _ => HGS.out) _
        have hlg : Lg (w7.setCell ⟨g, 3, none⟩ (.slice A7 (segs.length + 1) c7)) (Up S1 w6 (w7.setCell ⟨g, 3, none⟩ (.slice A7 (segs.length + 1) c7))) g p name most (segs ++ [⟨number, first, (head first).length, []⟩]) synced := by
          refine ⟨.slice A7 (segs.length + 1) c7, rv ++ [.slice none 0 0], by have := q7.set_ 3 (.slice A7 (segs.length + 1) c7); simpa using this, .inl HGS.out, ?_, hn16, hmost⟩
          refine (hpush.ch ((Ch.refl (fun k => k = g) w7).setCell (p := ⟨g, 3, none⟩) (fun _ => rfl) _) (fun k hk e => ?_)).weaken (fun k hk => ?_)
          · subst e
            rcases hk with hk | hk
            · exact hk.2 rfl
            · have := hk.1; simp at this; have := HGB6.out.lt; omega
          · rcases hk with hk | hk
            · exact ⟨.inl hk.1, hk.2⟩
            · have h1 := hk.1
              simp at h1
              exact ⟨.inr ⟨by omega, by have := hk.2; simpa [World.setCell] using this⟩, by have := HGB6.out.lt; omega⟩
        have hfin := HD6.out.1.logw hcf hlg
        exact ⟨_, _, hfin.1, (((HS3.out.trans HD4.out.2).trans HD5.out.2).trans HD6.out.2).trans hfin.2⟩

end Go.Proofs.YtjjfhbbaabakmaaGreatDoor.Ws

/-
  Contracts of layer 4's Sync and Roll.
-/
namespace Go.Proofs.YtjjfhbbaabakmaaGreatDoor.Wt
set_option linter.unusedSimpArgs false
open Go Go.RowKit Ck Kw Ga Dm Dw Da Db Dc Dd De Df Dg Dh Wc Wf Wa Wb Wd Wn We Kx Wg Wh Wl Wj Wk Wo Wq Wr Ws
attribute [local go_sem ↓] Go.wp_at_zero Go.wp_at_succ
set_option linter.unusedVariables false

section
variable {w w' : World} {S1 S2 : Nat → Prop} {g p room most synced : Nat} {L : List Fl} {name : Tx} {segs : List Sg}
theorem _root_.Go.Proofs.YtjjfhbbaabakmaaGreatDoor.Ws.LDs.cells (h : LDs w S1 S2 g p L room name most segs synced) (hne : 0 < segs.length) : ∃ gb cap, LgC w g p gb cap name most segs synced ∧ S1 gb ∧ gb ≠ g := h.lg.cells hne
theorem _root_.Go.Proofs.YtjjfhbbaabakmaaGreatDoor.Ws.LDs.name_le (h : LDs w S1 S2 g p L room name most segs synced) : name.length ≤ 16 := by obtain ⟨_, _, _, _, _, hn16, _⟩ := h.lg; exact hn16
theorem _root_.Go.Proofs.YtjjfhbbaabakmaaGreatDoor.Ws.LDs.good (h : LDs w S1 S2 g p L room name most segs synced) : ∀ s ∈ segs, GoodS s := by obtain ⟨_, _, _, _, hs, _⟩ := h.lg; exact hs.good
theorem _root_.Go.Proofs.YtjjfhbbaabakmaaGreatDoor.Ws.LDs.drewN (h : LDs w S1 S2 g p L room name most segs synced) (n : Nat) : LDs (w.drewN n) S1 S2 g p L room name most segs synced := h.later (below_drewN (Below.refl _ w) n)
/-- The number of what is sure, set. -/
theorem _root_.Go.Proofs.YtjjfhbbaabakmaaGreatDoor.Ws.LDs.set_sync (h : LDs w S1 S2 g p L room name most segs synced) (n : Nat) : LDs (w.setCell ⟨g, 4, none⟩ (.int .i64 (n : Int))) (Up S1 w (w.setCell ⟨g, 4, none⟩ (.int .i64 (n : Int)))) S2 g p L room name most segs n ∧ Step S1 S2 (Up S1 w (w.setCell ⟨g, 4, none⟩ (.int .i64 (n : Int)))) S2 w (w.setCell ⟨g, 4, none⟩ (.int .i64 (n : Int))) := by
  obtain ⟨v, rv, h1, h2, h3, h4, h5⟩ := h.lg
  have c : Ch (fun k => k = g) w (w.setCell ⟨g, 4, none⟩ (.int .i64 (n : Int))) := (Ch.refl (fun k => k = g) w).setCell (p := ⟨g, 4, none⟩) (fun _ => rfl) _
  refine h.logw (c.mono (fun k _ e => by subst e; exact h2)) ⟨v, rv, by have := h1.set_ 4 (.int .i64 (n : Int)); simpa using this, .inl h2, (h3.ch c (fun k hk e => hk.2 e)).weaken (fun k hk => ⟨.inl hk.1, hk.2⟩), h4, h5⟩
end

theorem below_last {w w1 : World} (h : ∃ n, w1 = w.drew.drewN n) : Below w.heap.size w w1 := by
  obtain ⟨n, rfl⟩ := h
  exact below_drewN (below_drewN (Below.refl _ w) 1) n
theorem lastS_nat {s : Sg} (h : 1 ≤ s.first) : lastS s = ((s.first + s.recs.length - 1 : Nat) : Int) := by unfold lastS; omega

set_option maxRecDepth 100000 in
set_option maxHeartbeats 4000000 in
theorem sync_log (w : World) (S1 S2 : Nat → Prop) (g p : Nat) (L : List Fl) (room : Nat) (name : Tx) (most : Nat) (ls : List Sg) (s : Sg) (synced : Nat) (f : Fl) (h : LDs w S1 S2 g p L room name most (ls ++ [s]) synced) (hl : ls.length ≤ 549755813888) (h1 : 1 ≤ s.first) (hf : find L (nm name s.num) = some f) :
    Calls Tryz.prog 10 #[.pointer (some ⟨g, 0, none⟩)] w fun e w' => e = .returned (.int .i64 0) ∧ Wal S1 S2 g p room name most w (upd L f.n (setf f.b f.b.length)) (ls ++ [s]) (s.first + s.recs.length - 1) w' := by
  obtain ⟨gb, cap, hC, hgb, hgn⟩ := h.cells (by simp)
  have hgood := h.good s (by simp)
  have hn16 := h.name_le
  have hnl : (nm name s.num).length ≤ 140737488355328 := by
    have := nm_len (name := name) (k := s.num) hgood.num
    omega
  have c0 : w.cell? ⟨g, 0, none⟩ = some (.pointer (some ⟨p, 0, none⟩)) := hC.blk.cell 0
  have H := Lib.hid h
  have HC := Lib.hid hC
  have HM := Lib.hid (made_log w g p gb cap name most _ synced hC)
  have HSY : Hid (syncS L false (nm name s.num) = (upd L f.n (setf f.b f.b.length), 0)) := Lib.hid (by simp [syncS, hf])
  have hfr : ∀ W, Below w.heap.size w W → W.cell? ⟨gb, ls.length * 4, none⟩ = some (.int .i64 (s.num : Int)) := fun W hb => by
    obtain ⟨A, c, q0, _⟩ := (hC.after hb).row ls.length (by simp)
    simpa using q0
  have HFR := Lib.hid hfr
  have HN := Lib.hid hgood.num
  have HLN := Lib.hid (lastS_nat h1)
  have hglt := hC.blk.lt
  clear h hC hgood hf hfr h1
  go_enter Tryz.func10, Tryz.ntmps10
  go_wp2_with (go_at_call 32; refine HM.out.mono ?_; rintro e w1 ⟨rfl, rfl⟩)
  go_region_held3 (fun w' => w'.cell? ⟨g, 0, none⟩ = some (.pointer (some ⟨p, 0, none⟩))) (first | exact c0 | exact d0 | exact d1)
    (first
    | (go_at_call 34; refine (last_log _ g p gb cap name most ls s synced (HC.out.after (below_drewN (Below.refl _ w) 1)) hl).mono ?_; rintro e w1 ⟨rfl, hw1⟩; have HB1 : Hid (Below w.heap.size w w1) := Lib.hid (below_last hw1); have d0 := (HB1.out.cell hglt).trans c0; clear hw1)
    | (go_at_call 36; refine (file_log _ g p name most synced _ (HC.out.after HB1.out).blk hn16 (H.out.later HB1.out).tab gb _ s.num HN.out (HFR.out _ HB1.out)).mono ?_; rintro e w2 ⟨rfl, hb2⟩; have HB2 : Hid (Below w.heap.size w w2) := Lib.hid (HB1.out.trans (hb2.mono HB1.out.size)); have d1 := (HB2.out.cell hglt).trans c0; clear hb2)
    | (go_at_call 24; refine (sync_on _ S2 p L room false (nm name s.num) hnl (H.out.later HB2.out).dk).mono ?_; rintro e w3 hd3; have HD3 := Lib.hid ((H.out.later HB2.out).disk hd3); rw [HSY.out] at HD3 hd3; obtain ⟨rfl, -, hc3⟩ := hd3; have d1 := hc3.cell d1 (fun h2 => by obtain ⟨v, rv, _, hg1, _⟩ := H.out.lg; exact H.out.apart g hg1 h2); clear hc3))
  obtain ⟨gb3, cap3, hC3, _, _⟩ := HD3.out.1.cells (by simp)
  have HLA := Lib.hid (lastn_log w3 g p gb3 cap3 name most ls s synced hC3 hl)
  have hC3b := hC3.blk
  have HC3 := Lib.hid hC3b
  clear hC3 hC3b
  go_wp2_with fail
  refine HLA.out.mono ?_
  rintro e w4 ⟨rfl, hb4⟩
  have hk4 := HC3.out.below hb4 HC3.out.lt
  have q4 := hk4.cell 4
  have qf := hk4.frozen 4
  simp only [List.getElem?_toArray, List.getElem?_cons_zero, List.getElem?_cons_succ] at q4
  have HB4 := Lib.hid hb4
  rw [HLN.out]
  clear hk4 hb4
  go_wp2_with fail
  go_ret
  have h4 := HD3.out.1.later HB4.out
  have h5 := h4.set_sync (s.first + s.recs.length - 1)
  exact ⟨rfl, _, _, h5.1, (((Step.below HB2.out).trans HD3.out.2).trans (Step.below HB4.out)).trans h5.2⟩

/-- Roll. -/
def rollS (L : List Fl) (room : Nat) (name : Tx) (f : Fl) (s : Sg) : List Fl × Nat := begS (upd L f.n (setf f.b f.b.length)) room name (s.num + 1) (s.first + s.recs.length)
def rolled (ls : List Sg) (s : Sg) (c : Nat) : List Sg := if c = 0 then (ls ++ [s]) ++ [⟨s.num + 1, s.first + s.recs.length, (head (s.first + s.recs.length)).length, []⟩] else ls ++ [s]
theorem begin_any (w : World) (S1 S2 : Nat → Prop) (g p : Nat) (L : List Fl) (room : Nat) (name : Tx) (most : Nat) (segs : List Sg) (synced number first : Nat) (h : LDs w S1 S2 g p L room name most segs synced) (hsl : segs.length ≤ 549755813888) :
    Calls Tryz.prog 38 #[.pointer (some ⟨g, 0, none⟩), .int .i64 (number : Int), .int .i64 (first : Int)] w (Begun S1 S2 g p room name most w (begS L room name number first) segs synced number first) := by
  by_cases h1 : 9007199254740992 < first
  · refine (begin_big w S1 S2 g p L room name most segs synced number first h h1).mono ?_
    rintro e w' ⟨rfl, hw⟩
    have : begS L room name number first = (L, 6) := by unfold begS; rw [if_pos h1]
    rw [this]
    exact ⟨rfl, by rw [if_neg (show ¬ (6 : Nat) = 0 by omega)]; exact hw⟩
  · by_cases h2 : 999999999999999 < number
    · refine (begin_num w S1 S2 g p L room name most segs synced number first h (by omega) h2).mono ?_
      rintro e w' ⟨rfl, hw⟩
      have : begS L room name number first = (L, 6) := by unfold begS; rw [if_neg h1, if_pos h2]
      rw [this]
      exact ⟨rfl, by rw [if_neg (show ¬ (6 : Nat) = 0 by omega)]; exact hw⟩
    · exact begin_go w S1 S2 g p L room name most segs synced number first h (by omega) (by omega) hsl

def Rolled (S1 S2 : Nat → Prop) (g p room : Nat) (name : Tx) (most : Nat) (w : World) (r : List Fl × Nat) (ls : List Sg) (s : Sg) (e : Ending) (w' : World) : Prop :=
  e = .returned (.int .i64 (r.2 : Int)) ∧ Wal S1 S2 g p room name most w r.1 (rolled ls s r.2) (s.first + s.recs.length - 1) w'
set_option maxRecDepth 100000 in
set_option maxHeartbeats 4000000 in
theorem roll_log (w : World) (S1 S2 : Nat → Prop) (g p : Nat) (L : List Fl) (room : Nat) (name : Tx) (most : Nat) (ls : List Sg) (s : Sg) (synced : Nat) (f : Fl) (h : LDs w S1 S2 g p L room name most (ls ++ [s]) synced) (hl : ls.length ≤ 549755813887) (h1 : 1 ≤ s.first) (hf : find L (nm name s.num) = some f) :
    Calls Tryz.prog 11 #[.pointer (some ⟨g, 0, none⟩)] w (Rolled S1 S2 g p room name most w (rollS L room name f s) ls s) := by
  have HS := Lib.hid (sync_log w S1 S2 g p L room name most ls s synced f h (by omega) h1 hf)
  have hgood := h.good s (by simp)
  have g1 := hgood.num
  have g2 := hgood.first
  have g3 := hgood.few
  have g4 := hgood.size
  have HG := Lib.hid hgood
  clear h hgood h1 hf
  go_enter Tryz.func11, Tryz.ntmps11
  go_wp2_with fail
  refine HS.out.mono ?_
  rintro e w1 ⟨rfl, R1, R2, h1, s1⟩
  have H1 := Lib.hid h1
  have HST1 := Lib.hid s1
  obtain ⟨gb, cap, hC, _, _⟩ := h1.cells (by simp)
  have HLA := Lib.hid (last_log w1 g p gb cap name most ls s _ hC (by omega))
  obtain ⟨A, c, q0, q1, q2, q3⟩ := hC.row ls.length (by simp)
  simp only [List.getElem_append_right (Nat.le_refl _), Nat.sub_self, List.getElem_cons_zero] at q0 q1 q2 q3
  clear hC h1 s1
  go_wp2_with fail
  refine HLA.out.mono ?_
  rintro e w2 ⟨rfl, hw2⟩
  have hb2 : Below w1.heap.size w1 w2 := by obtain ⟨nn, rfl⟩ := hw2; exact below_drewN (Below.refl _ w1) nn
  have q0 := (hb2.cell (World.block_lt_of_cell? _ _ q0)).trans q0
  have q1 := (hb2.cell (World.block_lt_of_cell? _ _ q1)).trans q1
  have q2 := (hb2.cell (World.block_lt_of_cell? _ _ q2)).trans q2
  have q3 := (hb2.cell (World.block_lt_of_cell? _ _ q3)).trans q3
  have hlt := World.block_lt_of_cell? _ _ q0
  have HB2 := Lib.hid hb2
  have HNX := Lib.hid (fun W => next_any W s A c HG.out)
  have hw1 : IntKind.i64.wrap ((s.num : Int) + 1) = (s.num : Int) + 1 := wrap64 (by omega) (by omega)
  have HBG : Hid (∀ W, Below w1.heap.size w1 W → Calls Tryz.prog 38 #[.pointer (some ⟨g, 0, none⟩), .int .i64 ((s.num : Int) + 1), .int .i64 ((s.first + s.recs.length : Nat) : Int)] W (Begun R1 R2 g p room name most W (begS (upd L f.n (setf f.b f.b.length)) room name (s.num + 1) (s.first + s.recs.length)) (ls ++ [s]) (s.first + s.recs.length - 1) (s.num + 1) (s.first + s.recs.length))) := Lib.hid fun W hb => by
    have := begin_any W R1 R2 g p (upd L f.n (setf f.b f.b.length)) room name most (ls ++ [s]) (s.first + s.recs.length - 1) (s.num + 1) (s.first + s.recs.length) (H1.out.later hb) (by simp; omega)
    rw [Int.natCast_add s.num 1] at this
    exact this
  clear hw2 hb2
  obtain ⟨fn, hfn⟩ : ∃ fn, fn = s.first + s.recs.length := ⟨_, rfl⟩
  rw [← hfn] at HNX HBG
  have HFN := Lib.hid hfn
  clear hfn
  go_wp2_with fail
  go_region_with (first
    | (go_at_call 39; refine (HNX.out _).mono ?_; rintro e w3 ⟨rfl, hb3⟩; have hb3 := below_of_drew hb3; have HB3 := Lib.hid (HB2.out.trans (hb3.mono HB2.out.size)); have k0 := (hb3.cell (p := ⟨gb, ls.length * 4, none⟩) hlt).trans q0; clear hb3)
    | (go_at_call 38; refine (HBG.out _ HB3.out).mono ?_; rintro e w5 ⟨rfl, hw⟩))
  all_goals
    go_wp2_with fail
    go_ret
    rw [show rollS L room name f s = begS (upd L f.n (setf f.b f.b.length)) room name (s.num + 1) fn by unfold rollS; rw [← HFN.out]]
    exact ⟨rfl, Wal.of (HST1.out.trans (Step.below HB3.out)) (by unfold rolled; rw [← HFN.out]; exact hw)⟩

end Go.Proofs.YtjjfhbbaabakmaaGreatDoor.Wt

import Derived.Test.YtjoonpkgepkkhaaGreatDoorQ4
import Derived.Laws.OwnMore
/-
  Contract of layer 4's begin: another segment; a log and its disk, step by step.
-/
namespace Go.Proofs.YtjoonpkgepkkhaaGreatDoor.Ws
open Go Go.RowKit Ck Kw Ga Dm Dw Da Db Dc Dd De Df Dg Dh Wc Wf Wa Wb Wd Wn We Kx Wg Wh Wl Wj Wk Wo Wq Wr
attribute [local go_sem ↓] Go.wp_at_zero Go.wp_at_succ
set_option linter.unusedVariables false

/-- A log in blocks of S1, its disk in blocks of S2. -/
structure LDs (w : World) (S1 S2 : Nat → Prop) (g p : Nat) (L : List Fl) (room : Nat) (name : Tx) (most : Nat) (segs : List Sg) (synced : Nat) : Prop where
  lg : Lg w S1 g p name most segs synced
  dk : Dk w S2 p L room false
  apart : ∀ k, S1 k → S2 k → False
  b1 : ∀ k, S1 k → k < w.heap.size
  b2 : ∀ k, S2 k → k < w.heap.size
  tab : Tab w
  z1 : ¬ S1 0
  z2 : ¬ S2 0
/-- What a step from w to w' makes of the two sets of blocks. -/
structure Step (S1 S2 S1' S2' : Nat → Prop) (w w' : World) : Prop where
  s1 : ∀ k, S1' k → Up S1 w w' k
  s2 : ∀ k, S2' k → Up S2 w w' k
  ch : Ch (fun k => S1 k ∨ S2 k) w w'
section
variable {w w1 w' : World} {S1 S2 R1 R2 T1 T2 : Nat → Prop} {g p room most synced : Nat} {L L' : List Fl} {name : Tx} {segs : List Sg}
theorem Step.refl (S1 S2 : Nat → Prop) (w : World) : Step S1 S2 S1 S2 w w := ⟨fun _ h => .inl h, fun _ h => .inl h, Ch.refl _ _⟩
theorem Step.below (b : Below w.heap.size w w') : Step S1 S2 S1 S2 w w' := ⟨fun _ h => .inl h, fun _ h => .inl h, Ch.of_below b (Nat.le_refl _)⟩
theorem Step.trans (h : Step S1 S2 R1 R2 w w1) (k : Step R1 R2 T1 T2 w1 w') : Step S1 S2 T1 T2 w w' := by
  have h1 := h.ch.size
  have h2 := k.ch.size
  refine ⟨fun j hj => ?_, fun j hj => ?_, h.ch.trans k.ch (fun j hj hr => ?_)⟩
  · rcases k.s1 j hj with a | a
    · rcases h.s1 j a with b | b
      · exact .inl b
      · exact .inr ⟨b.1, by omega⟩
    · exact .inr ⟨by omega, a.2⟩
  · rcases k.s2 j hj with a | a
    · rcases h.s2 j a with b | b
      · exact .inl b
      · exact .inr ⟨b.1, by omega⟩
    · exact .inr ⟨by omega, a.2⟩
  · rcases hr with hr | hr
    · rcases h.s1 j hr with b | b
      · exact .inl b
      · omega
    · rcases h.s2 j hr with b | b
      · exact .inr b
      · omega
theorem LDs.later (h : LDs w S1 S2 g p L room name most segs synced) (b : Below w.heap.size w w') : LDs w' S1 S2 g p L room name most segs synced :=
  ⟨h.lg.after b, h.dk.later b, h.apart, fun k hk => Nat.lt_of_lt_of_le (h.b1 k hk) b.size, fun k hk => Nat.lt_of_lt_of_le (h.b2 k hk) b.size, h.tab.after b, h.z1, h.z2⟩
theorem LDs.zero (h : LDs w S1 S2 g p L room name most segs synced) : 0 < w.heap.size := h.tab.lt
/-- A call on the disk alone. -/
theorem LDs.disk {r : List Fl × Nat} {e : Ending} (h : LDs w S1 S2 g p L room name most segs synced) (d : Did S2 p r room false w e w') : LDs w' S1 (Up S2 w w') g p r.1 room name most segs synced ∧ Step S1 S2 S1 (Up S2 w w') w w' := by
  obtain ⟨_, hd, hc⟩ := d
  refine ⟨⟨h.lg.ch hc (fun k a b => h.apart k a b), hd, fun k a b => ?_, fun k hk => Nat.lt_of_lt_of_le (h.b1 k hk) hc.size, fun k hk => ?_, h.tab.ch hc h.z2, h.z1, fun hz => ?_⟩, fun _ h => .inl h, fun _ h => h, hc.mono (fun _ _ h => .inr h)⟩
  · rcases b with b | b
    · exact h.apart k a b
    · have := h.b1 k a; omega
  · rcases hk with hk | hk
    · exact Nat.lt_of_lt_of_le (h.b2 k hk) hc.size
    · exact hk.2
  · rcases hz with hz | hz
    · exact h.z2 hz
    · have := h.zero; omega
end
/-- A change of the log alone. -/
theorem LDs.logw {w w' : World} {S1 S2 : Nat → Prop} {g p room most synced synced' : Nat} {L : List Fl} {name : Tx} {segs segs' : List Sg} (h : LDs w S1 S2 g p L room name most segs synced) (c : Ch S1 w w') (hl : Lg w' (Up S1 w w') g p name most segs' synced') : LDs w' (Up S1 w w') S2 g p L room name most segs' synced' ∧ Step S1 S2 (Up S1 w w') S2 w w' := by
  refine ⟨⟨hl, h.dk.ch c (fun k a b => h.apart k b a), fun k a b => ?_, fun k hk => ?_, fun k hk => Nat.lt_of_lt_of_le (h.b2 k hk) c.size, h.tab.ch c h.z1, fun hz => ?_, h.z2⟩, fun _ h => h, fun _ h => .inl h, c.mono (fun _ _ h => .inl h)⟩
  · rcases a with a | a
    · exact h.apart k a b
    · have := h.b2 k b; omega
  · rcases hk with hk | hk
    · exact Nat.lt_of_lt_of_le (h.b1 k hk) c.size
    · exact hk.2
  · rcases hz with hz | hz
    · exact h.z1 hz
    · have := h.zero; omega
/-- What a call on a log answers and leaves. -/
def Wal (S1 S2 : Nat → Prop) (g p room : Nat) (name : Tx) (most : Nat) (w : World) (L : List Fl) (segs : List Sg) (synced : Nat) (w' : World) : Prop :=
  ∃ S1' S2', LDs w' S1' S2' g p L room name most segs synced ∧ Step S1 S2 S1' S2' w w'
theorem Wal.of {S1 S2 R1 R2 : Nat → Prop} {g p room most synced : Nat} {name : Tx} {w w1 w' : World} {L : List Fl} {segs : List Sg} (s : Step S1 S2 R1 R2 w w1) (h : Wal R1 R2 g p room name most w1 L segs synced w') : Wal S1 S2 g p room name most w L segs synced w' := by
  obtain ⟨A, B, h1, h2⟩ := h
  exact ⟨A, B, h1, s.trans h2⟩

set_option maxRecDepth 100000 in
set_option maxHeartbeats 4000000 in
theorem begin_big (w : World) (S1 S2 : Nat → Prop) (g p : Nat) (L : List Fl) (room : Nat) (name : Tx) (most : Nat) (segs : List Sg) (synced number first : Nat) (h : LDs w S1 S2 g p L room name most segs synced) (hf : 9007199254740992 < first) :
    Calls Tryz.prog 57 #[.pointer (some ⟨g, 0, none⟩), .int .i64 (number : Int), .int .i64 (first : Int)] w fun e w' => e = .returned (.int .i64 6) ∧ Wal S1 S2 g p room name most w L segs synced w' := by
  have H := Lib.hid h
  clear h
  go_enter Tryz.func57, Tryz.ntmps57
  go_wp2_with (go_at_call 97; refine (head_big _ (first : Int) (by omega)).mono ?_; rintro e w1 ⟨rfl, rfl⟩)
  go_ret
  exact ⟨rfl, _, _, H.out, Step.refl _ _ _⟩
set_option maxRecDepth 100000 in
set_option maxHeartbeats 4000000 in
theorem begin_num (w : World) (S1 S2 : Nat → Prop) (g p : Nat) (L : List Fl) (room : Nat) (name : Tx) (most : Nat) (segs : List Sg) (synced number first : Nat) (h : LDs w S1 S2 g p L room name most segs synced) (hf : first ≤ 9007199254740992) (hn : 999999999999999 < number) :
    Calls Tryz.prog 57 #[.pointer (some ⟨g, 0, none⟩), .int .i64 (number : Int), .int .i64 (first : Int)] w fun e w' => e = .returned (.int .i64 6) ∧ Wal S1 S2 g p room name most w L segs synced w' := by
  have H := Lib.hid h
  clear h
  go_enter Tryz.func57, Tryz.ntmps57
  go_wp2_with (go_at_call 97; refine (head_any _ first hf).mono ?_; rintro e w1 ⟨A, c, rfl, ho1, hb1⟩)
  go_ret
  exact ⟨rfl, _, _, H.out.later hb1, Step.below hb1⟩

/-- What begin answers and leaves. -/
def Begun (S1 S2 : Nat → Prop) (g p room : Nat) (name : Tx) (most : Nat) (w : World) (r : List Fl × Nat) (segs : List Sg) (synced number first : Nat) (e : Ending) (w' : World) : Prop :=
  e = .returned (.int .i64 (r.2 : Int)) ∧ Wal S1 S2 g p room name most w r.1 (if r.2 = 0 then segs ++ [⟨number, first, (head first).length, []⟩] else segs) synced w'
/-- Three blocks of the caller's own, made since w: none is the log's or the disk's. -/
theorem up_new {S : Nat → Prop} {w0 w w' : World} {k : Nat} (hS : ∀ k, S k → k < w0.heap.size) (hk : w0.heap.size ≤ k) (hk' : k < w.heap.size) : ¬ Up S w w' k := fun h => by
  rcases h with h | h
  · have := hS k h; omega
  · omega

set_option maxRecDepth 100000 in
set_option maxHeartbeats 8000000 in
theorem begin_go (w : World) (S1 S2 : Nat → Prop) (g p : Nat) (L : List Fl) (room : Nat) (name : Tx) (most : Nat) (segs : List Sg) (synced number first : Nat) (h : LDs w S1 S2 g p L room name most segs synced) (hf : first ≤ 9007199254740992) (hn : number ≤ 999999999999999) (hsl : segs.length ≤ 549755813888) :
    Calls Tryz.prog 57 #[.pointer (some ⟨g, 0, none⟩), .int .i64 (number : Int), .int .i64 (first : Int)] w (Begun S1 S2 g p room name most w (begS L room name number first) segs synced number first) := by
  have hst := beg_steps (L := L) (room := room) (name := name) (number := number) (first := first) (by omega) (by omega)
  have hhl := head_len first
  have hnl : (nm name number).length ≤ 140737488355328 := by
    obtain ⟨_, _, _, _, _, hn16, _⟩ := h.lg
    have := nm_len (name := name) (k := number) (by omega)
    omega
  have hn16 : name.length ≤ 16 := by obtain ⟨_, _, _, _, _, hn16, _⟩ := h.lg; exact hn16
  have hrp : ∃ v3, Blk w g 64 #[.pointer (some ⟨p, 0, none⟩), .string ⟨name.toArray⟩, .int .i64 (most : Int), v3, .int .i64 (synced : Int)] := by
    obtain ⟨v, rv, h1, _⟩ := h.lg
    exact ⟨v, h1⟩
  obtain ⟨v3, hgb⟩ := hrp
  have H := Lib.hid h
  have HST := Lib.hid hst
  have HGB := Lib.hid hgb
  have hgs : g < w.heap.size := hgb.lt
  clear h hst hgb
  go_enter Tryz.func57, Tryz.ntmps57
  go_wp2_with fail
  refine (head_any _ first hf).mono ?_
  rintro e w1 ⟨A, c, rfl, ho1, hb1⟩
  have HO1 := Lib.hid ho1
  have HB1 := Lib.hid hb1
  have HG1 := Lib.hid (HGB.out.below hb1 HGB.out.lt)
  have hs1 := hb1.size
  clear ho1 hb1
  go_wp2_with fail
  have hk9 : Blk (w1.alloc (.cells #[.int .i64 (number : Int), .int .i64 (first : Int), .int .i64 ((head first).length : Int), .slice none 0 0] 97)) w1.heap.size 97 #[.int .i64 (number : Int), .int .i64 (first : Int), .int .i64 ((head first).length : Int), .slice none 0 0] := Blk.new _ _ _
  have hb2 : Below w.heap.size w (w1.alloc (.cells #[.int .i64 (number : Int), .int .i64 (first : Int), .int .i64 ((head first).length : Int), .slice none 0 0] 97)) := HB1.out.alloc hs1 _
  have hs2 : (w1.alloc (.cells #[.int .i64 (number : Int), .int .i64 (first : Int), .int .i64 ((head first).length : Int), .slice none 0 0] 97)).heap.size = w1.heap.size + 1 := by simp
  have ho2 : (w1.alloc (.cells #[.int .i64 (number : Int), .int .i64 (first : Int), .int .i64 ((head first).length : Int), .slice none 0 0] 97)).ownsRow w.heap.size 5 1 (.slice A (head first).length c) (head first).length (BVs (head first)) := HO1.out.alloc _
  have hg2 := HG1.out.alloc (.cells #[.int .i64 (number : Int), .int .i64 (first : Int), .int .i64 ((head first).length : Int), .slice none 0 0] 97)
  generalize (w1.alloc (.cells #[.int .i64 (number : Int), .int .i64 (first : Int), .int .i64 ((head first).length : Int), .slice none 0 0] 97)) = w2 at hk9 hb2 hs2 ho2 hg2 ⊢
  have HK9 := Lib.hid hk9
  have HB2 := Lib.hid hb2
  have HO2 := Lib.hid ho2
  have HG2 := Lib.hid hg2
  have HT2 := Lib.hid (H.out.tab.after hb2)
  have hc9 : w2.cell? ⟨w1.heap.size, 0, none⟩ = some (.int .i64 (number : Int)) := hk9.cell 0
  have HFI := Lib.hid (file_log w2 g p name most synced v3 hg2 hn16 HT2.out w1.heap.size 0 number (by omega) hc9)
  clear hk9 hb2 ho2 hg2 hc9 HO1 HB1 HG1 HT2
  go_wp2_with fail
  refine HFI.out.mono ?_
  rintro e w3 ⟨rfl, hb3⟩
  have hL3 := H.out.later (HB2.out.trans (hb3.mono HB2.out.size))
  have HL3 := Lib.hid hL3
  have HS3 : Hid (Step S1 S2 S1 S2 w w3) := Lib.hid (Step.below (HB2.out.trans (hb3.mono HB2.out.size)))
  have hk3 := HK9.out.below hb3 HK9.out.lt
  have HK3 := Lib.hid hk3
  have ho3 := own_below HO2.out hb3
  have HO3 := Lib.hid ho3
  have hg3 := HG2.out.below hb3 HG2.out.lt
  have HG3 := Lib.hid hg3
  have hs3 := hb3.size
  have d0 : w3.cell? ⟨g, 0, none⟩ = some (.pointer (some ⟨p, 0, none⟩)) := hg3.cell 0
  clear hL3 hk3 ho3 hg3 hb3 HFI HK9 HO2 HG2 HB2
  have HCR := Lib.hid (create_on w3 S2 p L room false (nm name number) hnl HL3.out.dk)
  rcases HST.out with ⟨cc, hc0, hc1, hcr, hbg⟩ | ⟨L1, hcr, hrest⟩
  · rw [hcr] at HCR
    have HBG := Lib.hid hbg
    have hne : ((cc : Int) == 0) = false := by rw [beq_eq_false_iff_ne]; omega
    clear hcr hbg HST
    go_wp2_with fail
    refine HCR.out.mono ?_
    rintro e w4 ⟨rfl, hd4, hc4⟩
    have HD4 := Lib.hid (HL3.out.disk (e := .returned (.int .i64 (cc : Int))) ⟨rfl, hd4, hc4⟩)
    clear hd4 hc4
    go_wp2_with fail
    go_ret
    rw [HBG.out]
    exact ⟨rfl, by rw [if_neg hc0]; exact ⟨_, _, HD4.out.1, HS3.out.trans HD4.out.2⟩⟩
  · have HREST := Lib.hid hrest
    rw [hcr] at HCR
    clear hcr hrest HST
    go_wp2_with fail
    refine HCR.out.mono ?_
    rintro e w4 ⟨rfl, hd4, hc4⟩
    have hc4k := hc4
    have HD4 := Lib.hid (HL3.out.disk (e := .returned (.int .i64 (((L1, 0) : List Fl × Nat).2 : Int))) ⟨rfl, hd4, hc4⟩)
    have HC4 := Lib.hid hc4
    have far : ∀ k, w.heap.size ≤ k → ¬ S2 k := fun k hk h2 => by have := H.out.b2 k h2; omega
    have HFAR := Lib.hid far
    have hk4 := HK3.out.ch hc4 (far _ hs1)
    have HK4 := Lib.hid hk4
    have HO4 := Lib.hid (own_ch HO3.out hc4 (fun k hk h2 => far k (HO3.out.lt k hk).1 h2))
    have hs4 := hc4.size
    have hgS : ¬ S2 g := fun h2 => by obtain ⟨v, rv, _, hg1, _⟩ := H.out.lg; exact H.out.apart g hg1 h2
    have HG4 := Lib.hid (HG3.out.ch hc4 hgS)
    have d0 : w4.cell? ⟨g, 0, none⟩ = some (.pointer (some ⟨p, 0, none⟩)) := HG4.out.cell 0
    have hgn4 : ¬ Up S2 w3 w4 g := fun h2 => by rcases h2 with h2 | h2; exact hgS h2; omega
    have HX4 : Hid (∀ k, Up S2 w3 w4 k → (fun j => j < w3.heap.size ∧ w.heap.size ≤ j → False) k) := Lib.hid fun k hk ⟨h1, h2⟩ => by
      rcases hk with hk | hk
      · exact HFAR.out k h2 hk
      · omega
    have HSL4 : Hid (Sl w4 (fun j => j < w3.heap.size ∧ w.heap.size ≤ j → False) 1 (.slice A (head first).length c) (head first).length (BVs (head first))) := Lib.hid (Sl.of_own' HO4.out (fun k hk hh => hh ⟨(HO3.out.lt k hk).2, (HO3.out.lt k hk).1⟩))
    have HAP := Lib.hid (append_on w4 (Up S2 w3 w4) _ p L1 room false (nm name number) hnl HD4.out.1.dk (head first) A c HSL4.out HX4.out (by omega))
    clear hd4 hc4 hc4k HCR far hk4
    rcases HREST.out with ⟨ha, hr, hbg⟩ | ⟨L2, L3, ha, hsy, hbg, hL3⟩
    · rw [ha] at HAP
      have HBG := Lib.hid hbg
      have HR := Lib.hid hr
      clear ha hr hbg HREST
      go_wp2_with fail
      refine HAP.out.mono ?_
      rintro e w5 ⟨rfl, hd5, hc5⟩
      have HD5 := Lib.hid (HD4.out.1.disk (e := .returned (.int .i64 (((L1, 30) : List Fl × Nat).2 : Int))) ⟨rfl, hd5, hc5⟩)
      have HG5 := Lib.hid (HG4.out.ch hc5 hgn4)
      have d0 : w5.cell? ⟨g, 0, none⟩ = some (.pointer (some ⟨p, 0, none⟩)) := HG5.out.cell 0
      have HRM := Lib.hid (remove_on w5 _ p L1 room false (nm name number) hnl HD5.out.1.dk)
      rw [HR.out] at HRM
      clear hd5 hc5 HAP
      go_wp2_with fail
      refine HRM.out.mono ?_
      rintro e w6 ⟨rfl, hd6, hc6⟩
      have HD6 := Lib.hid (HD5.out.1.disk (e := .returned (.int .i64 (((L, 0) : List Fl × Nat).2 : Int))) ⟨rfl, hd6, hc6⟩)
      clear hd6 hc6
      go_wp2_with fail
      go_ret
      rw [HBG.out]
      exact ⟨rfl, by rw [if_neg (show ¬ (30 : Nat) = 0 by omega)]; exact ⟨_, _, HD6.out.1, ((HS3.out.trans HD4.out.2).trans HD5.out.2).trans HD6.out.2⟩⟩
    · rw [ha] at HAP
      have HBG := Lib.hid hbg
      have HSY := Lib.hid hsy
      clear ha hsy hbg HREST
      go_wp2_with fail
      refine HAP.out.mono ?_
      rintro e w5 ⟨rfl, hd5, hc5⟩
      have HD5 := Lib.hid (HD4.out.1.disk (e := .returned (.int .i64 (((L2, 0) : List Fl × Nat).2 : Int))) ⟨rfl, hd5, hc5⟩)
      have HG5 := Lib.hid (HG4.out.ch hc5 hgn4)
      have h9n : ¬ Up S2 w3 w4 w1.heap.size := fun hk => by
        rcases hk with hk | hk
        · exact HFAR.out _ hs1 hk
        · omega
      have HK5 := Lib.hid (HK4.out.ch hc5 h9n)
      have hs5 := hc5.size
      have d0 : w5.cell? ⟨g, 0, none⟩ = some (.pointer (some ⟨p, 0, none⟩)) := HG5.out.cell 0
      have HSN := Lib.hid (sync_on w5 _ p L2 room false (nm name number) hnl HD5.out.1.dk)
      rw [HSY.out] at HSN
      clear hd5 hc5 HAP
      go_wp2_with fail
      refine HSN.out.mono ?_
      rintro e w6 ⟨rfl, hd6, hc6⟩
      have HD6 := Lib.hid (HD5.out.1.disk (e := .returned (.int .i64 (((L3, 0) : List Fl × Nat).2 : Int))) ⟨rfl, hd6, hc6⟩)
      have h9n6 : ¬ Up (Up S2 w3 w4) w4 w5 w1.heap.size := fun hk => by
        rcases hk with hk | hk
        · exact h9n hk
        · omega
      have hk6 := HK5.out.ch hc6 h9n6
      have HK6 := Lib.hid hk6
      have hs6 := hc6.size
      have m0 : w6.cell? ⟨w1.heap.size, 0, none⟩ = some (.int .i64 (number : Int)) := hk6.cell 0
      have m1 : w6.cell? ⟨w1.heap.size, 1, none⟩ = some (.int .i64 (first : Int)) := hk6.cell 1
      have m2 : w6.cell? ⟨w1.heap.size, 2, none⟩ = some (.int .i64 ((head first).length : Int)) := hk6.cell 2
      have m3 : w6.cell? ⟨w1.heap.size, 3, none⟩ = some (.slice none 0 0) := hk6.cell 3
      obtain ⟨v, rv, hgb6, hgS1, hsg6, _, hmost⟩ := HD6.out.1.lg
      obtain ⟨A6, c6, rfl⟩ := own_shape hsg6.row
      have d3 : w6.cell? ⟨g, 3, none⟩ = some (.slice A6 segs.length c6) := hgb6.cell 3
      have hf3 := hgb6.frozen 3
      have HGB6 := Lib.hid hgb6
      have HSG6 := Lib.hid hsg6
      have HGS := Lib.hid hgS1
      clear hd6 hc6 hgb6 hsg6 hk6 h9n h9n6 HSN d0
      obtain ⟨i0, hi0, hz0, hz1, hz2⟩ := info_parts info_segs
      have hg9 : g ≠ w1.heap.size := by omega
      have d3' := (HGB6.out.alloc (.cells #[.int .i64 (number : Int), .int .i64 (first : Int), .int .i64 ((head first).length : Int), .slice none 0 0] 97)).cell 3
      simp only [List.getElem?_toArray, List.getElem?_cons_zero, List.getElem?_cons_succ] at d3'
      go_wp2_with fail
      go_region_law ((refine step_append_sh (by rfl) (.tmp 69) (.tmp 71) _ (by rfl) 0 97 i0 _ 4 48 Tryz.underlying62 hi0 hz0 hz1 hz2 rfl (by omega) (.slice A6 segs.length c6) segs.length _ (by rfl) (show (w6.alloc (.cells (SgV ⟨number, first, (head first).length, []⟩ (.slice none 0 0)) 97)).drew.ownsRow 0 97 4 (.slice A6 segs.length c6) segs.length _ from HSG6.out.row.alloc _) (fun _ => False) _ 1 (segCells ⟨number, first, (head first).length, []⟩ (.slice none 0 0)) (by rfl) (show Sl (w6.alloc (.cells (SgV ⟨number, first, (head first).length, []⟩ (.slice none 0 0)) 97)).drew (fun _ => False) _ _ _ _ from seg_lit w6 (fun _ => False) _ ⟨number, first, (head first).length, []⟩ (.slice none 0 0) (fun h => h)) (segCells_one _ _ _ _) (by simp only [maxLen]; omega) (by omega) (Nat.zero_le _) ?_; intro A7 c7 w7 happ; have happ := appended_drew happ; have q7 := (HGB6.out.alloc (.cells (SgV ⟨number, first, (head first).length, []⟩ (.slice none 0 0)) 97)).grown happ.2.1 (fun e1 => own_far HSG6.out.row HGB6.out (by decide) e1.symm); have q3 := q7.cell 3; have qf3 := q7.frozen 3; simp only [List.getElem?_toArray, List.getElem?_cons_zero, List.getElem?_cons_succ] at q3))
      all_goals
        go_wp2_with fail
        go_ret
        rw [HBG.out]
        refine ⟨rfl, ?_⟩
        rw [if_pos rfl]
        have hal : Below w6.heap.size w6 (w6.alloc (.cells (SgV ⟨number, first, (head first).length, []⟩ (.slice none 0 0)) 97)) := (Below.refl _ _).alloc (Nat.le_refl _) _
        have hpush := Segs.push (s := ⟨number, first, (head first).length, []⟩) (u := .slice none 0 0) (HSG6.out.ch (Ch.of_below (S := fun _ => False) hal (Nat.le_refl _)) (fun _ _ h => h)) (Rcs.nil _ _) (fun k i u1 hk => by simp [Value.ownBlock] at hk) ⟨by simp only; omega, hf, by simp only; omega, by simp⟩ happ
        have hrow : ∀ k, (Value.slice A6 segs.length c6).ownBlock = some k → S1 k ∧ k ≠ g := fun k hk => HSG6.out.own k hk
        have hc7 : Ch S1 w6 w7 := (Ch.of_below hal (Nat.le_refl _)).trans (Ch.of_grown (S := S1) happ.2.1 (fun k hk _ => (hrow k hk).1)) (fun _ _ h => h)
        have hcf : Ch S1 w6 (w7.setCell ⟨g, 3, none⟩ (.slice A7 (segs.length + 1) c7)) := hc7.setCell (fun _ => HGS.out) _
        have hlg : Lg (w7.setCell ⟨g, 3, none⟩ (.slice A7 (segs.length + 1) c7)) (Up S1 w6 (w7.setCell ⟨g, 3, none⟩ (.slice A7 (segs.length + 1) c7))) g p name most (segs ++ [⟨number, first, (head first).length, []⟩]) synced := by
          refine ⟨.slice A7 (segs.length + 1) c7, rv ++ [.slice none 0 0], by have := q7.set_ 3 (.slice A7 (segs.length + 1) c7); simpa using this, .inl HGS.out, ?_, hn16, hmost⟩
          refine (hpush.ch ((Ch.refl (fun k => k = g) w7).setCell (p := ⟨g, 3, none⟩) (fun _ => rfl) _) (fun k hk e => ?_)).weaken (fun k hk => ?_)
          · subst e
            rcases hk with hk | hk
            · exact hk.2 rfl
            · have := hk.1; simp at this; have := HGB6.out.lt; omega
          · rcases hk with hk | hk
            · exact ⟨.inl hk.1, hk.2⟩
            · have h1 := hk.1
              simp at h1
              exact ⟨.inr ⟨by omega, by have := hk.2; simpa [World.setCell] using this⟩, by have := HGB6.out.lt; omega⟩
        have hfin := HD6.out.1.logw hcf hlg
        exact ⟨_, _, hfin.1, (((HS3.out.trans HD4.out.2).trans HD5.out.2).trans HD6.out.2).trans hfin.2⟩

end Go.Proofs.YtjoonpkgepkkhaaGreatDoor.Ws

/-
  Contracts of layer 4's Sync and Roll.
-/
namespace Go.Proofs.YtjoonpkgepkkhaaGreatDoor.Wt
open Go Go.RowKit Ck Kw Ga Dm Dw Da Db Dc Dd De Df Dg Dh Wc Wf Wa Wb Wd Wn We Kx Wg Wh Wl Wj Wk Wo Wq Wr Ws
attribute [local go_sem ↓] Go.wp_at_zero Go.wp_at_succ
set_option linter.unusedVariables false

section
variable {w w' : World} {S1 S2 : Nat → Prop} {g p room most synced : Nat} {L : List Fl} {name : Tx} {segs : List Sg}
theorem _root_.Go.Proofs.YtjoonpkgepkkhaaGreatDoor.Ws.LDs.cells (h : LDs w S1 S2 g p L room name most segs synced) (hne : 0 < segs.length) : ∃ gb cap, LgC w g p gb cap name most segs synced ∧ S1 gb ∧ gb ≠ g := h.lg.cells hne
theorem _root_.Go.Proofs.YtjoonpkgepkkhaaGreatDoor.Ws.LDs.name_le (h : LDs w S1 S2 g p L room name most segs synced) : name.length ≤ 16 := by obtain ⟨_, _, _, _, _, hn16, _⟩ := h.lg; exact hn16
theorem _root_.Go.Proofs.YtjoonpkgepkkhaaGreatDoor.Ws.LDs.good (h : LDs w S1 S2 g p L room name most segs synced) : ∀ s ∈ segs, GoodS s := by obtain ⟨_, _, _, _, hs, _⟩ := h.lg; exact hs.good
theorem _root_.Go.Proofs.YtjoonpkgepkkhaaGreatDoor.Ws.LDs.drewN (h : LDs w S1 S2 g p L room name most segs synced) (n : Nat) : LDs (w.drewN n) S1 S2 g p L room name most segs synced := h.later (below_drewN (Below.refl _ w) n)
/-- The number of what is sure, set. -/
theorem _root_.Go.Proofs.YtjoonpkgepkkhaaGreatDoor.Ws.LDs.set_sync (h : LDs w S1 S2 g p L room name most segs synced) (n : Nat) : LDs (w.setCell ⟨g, 4, none⟩ (.int .i64 (n : Int))) (Up S1 w (w.setCell ⟨g, 4, none⟩ (.int .i64 (n : Int)))) S2 g p L room name most segs n ∧ Step S1 S2 (Up S1 w (w.setCell ⟨g, 4, none⟩ (.int .i64 (n : Int)))) S2 w (w.setCell ⟨g, 4, none⟩ (.int .i64 (n : Int))) := by
  obtain ⟨v, rv, h1, h2, h3, h4, h5⟩ := h.lg
  have c : Ch (fun k => k = g) w (w.setCell ⟨g, 4, none⟩ (.int .i64 (n : Int))) := (Ch.refl (fun k => k = g) w).setCell (p := ⟨g, 4, none⟩) (fun _ => rfl) _
  refine h.logw (c.mono (fun k _ e => by subst e; exact h2)) ⟨v, rv, by have := h1.set_ 4 (.int .i64 (n : Int)); simpa using this, .inl h2, (h3.ch c (fun k hk e => hk.2 e)).weaken (fun k hk => ⟨.inl hk.1, hk.2⟩), h4, h5⟩
end

theorem below_last {w w1 : World} (h : ∃ n, w1 = w.drew.drewN n) : Below w.heap.size w w1 := by
  obtain ⟨n, rfl⟩ := h
  exact below_drewN (below_drewN (Below.refl _ w) 1) n
theorem lastS_nat {s : Sg} (h : 1 ≤ s.first) : lastS s = ((s.first + s.recs.length - 1 : Nat) : Int) := by unfold lastS; omega

set_option maxRecDepth 100000 in
set_option maxHeartbeats 4000000 in
theorem sync_log (w : World) (S1 S2 : Nat → Prop) (g p : Nat) (L : List Fl) (room : Nat) (name : Tx) (most : Nat) (ls : List Sg) (s : Sg) (synced : Nat) (f : Fl) (h : LDs w S1 S2 g p L room name most (ls ++ [s]) synced) (hl : ls.length ≤ 549755813888) (h1 : 1 ≤ s.first) (hf : find L (nm name s.num) = some f) :
    Calls Tryz.prog 20 #[.pointer (some ⟨g, 0, none⟩)] w fun e w' => e = .returned (.int .i64 0) ∧ Wal S1 S2 g p room name most w (upd L f.n (setf f.b f.b.length)) (ls ++ [s]) (s.first + s.recs.length - 1) w' := by
  obtain ⟨gb, cap, hC, hgb, hgn⟩ := h.cells (by simp)
  have hgood := h.good s (by simp)
  have hn16 := h.name_le
  have hnl : (nm name s.num).length ≤ 140737488355328 := by
    have := nm_len (name := name) (k := s.num) hgood.num
    omega
  have c0 : w.cell? ⟨g, 0, none⟩ = some (.pointer (some ⟨p, 0, none⟩)) := hC.blk.cell 0
  have H := Lib.hid h
  have HC := Lib.hid hC
  have HM := Lib.hid (made_log w g p gb cap name most _ synced hC)
  have HSY : Hid (syncS L false (nm name s.num) = (upd L f.n (setf f.b f.b.length), 0)) := Lib.hid (by simp [syncS, hf])
  have hfr : ∀ W, Below w.heap.size w W → W.cell? ⟨gb, ls.length * 4, none⟩ = some (.int .i64 (s.num : Int)) := fun W hb => by
    obtain ⟨A, c, q0, _⟩ := (hC.after hb).row ls.length (by simp)
    simpa using q0
  have HFR := Lib.hid hfr
  have HN := Lib.hid hgood.num
  have HLN := Lib.hid (lastS_nat h1)
  have hglt := hC.blk.lt
  clear h hC hgood hf hfr h1
  go_enter Tryz.func20, Tryz.ntmps20
  go_wp2_with (go_at_call 53; refine HM.out.mono ?_; rintro e w1 ⟨rfl, rfl⟩)
  go_region_held3 (fun w' => w'.cell? ⟨g, 0, none⟩ = some (.pointer (some ⟨p, 0, none⟩))) (first | exact c0 | exact d0 | exact d1)
    (first
    | (go_at_call 54; refine (last_log _ g p gb cap name most ls s synced (HC.out.after (below_drewN (Below.refl _ w) 1)) hl).mono ?_; rintro e w1 ⟨rfl, hw1⟩; have HB1 : Hid (Below w.heap.size w w1) := Lib.hid (below_last hw1); have d0 := (HB1.out.cell hglt).trans c0; clear hw1)
    | (go_at_call 56; refine (file_log _ g p name most synced _ (HC.out.after HB1.out).blk hn16 (H.out.later HB1.out).tab gb _ s.num HN.out (HFR.out _ HB1.out)).mono ?_; rintro e w2 ⟨rfl, hb2⟩; have HB2 : Hid (Below w.heap.size w w2) := Lib.hid (HB1.out.trans (hb2.mono HB1.out.size)); have d1 := (HB2.out.cell hglt).trans c0; clear hb2)
    | (go_at_call 34; refine (sync_on _ S2 p L room false (nm name s.num) hnl (H.out.later HB2.out).dk).mono ?_; rintro e w3 hd3; have HD3 := Lib.hid ((H.out.later HB2.out).disk hd3); rw [HSY.out] at HD3 hd3; obtain ⟨rfl, -, hc3⟩ := hd3; have d1 := hc3.cell d1 (fun h2 => by obtain ⟨v, rv, _, hg1, _⟩ := H.out.lg; exact H.out.apart g hg1 h2); clear hc3))
  obtain ⟨gb3, cap3, hC3, _, _⟩ := HD3.out.1.cells (by simp)
  have HLA := Lib.hid (lastn_log w3 g p gb3 cap3 name most ls s synced hC3 hl)
  have hC3b := hC3.blk
  have HC3 := Lib.hid hC3b
  clear hC3 hC3b
  go_wp2_with fail
  refine HLA.out.mono ?_
  rintro e w4 ⟨rfl, hb4⟩
  have hk4 := HC3.out.below hb4 HC3.out.lt
  have q4 := hk4.cell 4
  have qf := hk4.frozen 4
  simp only [List.getElem?_toArray, List.getElem?_cons_zero, List.getElem?_cons_succ] at q4
  have HB4 := Lib.hid hb4
  rw [HLN.out]
  clear hk4 hb4
  go_wp2_with fail
  go_ret
  have h4 := HD3.out.1.later HB4.out
  have h5 := h4.set_sync (s.first + s.recs.length - 1)
  exact ⟨rfl, _, _, h5.1, (((Step.below HB2.out).trans HD3.out.2).trans (Step.below HB4.out)).trans h5.2⟩

/-- Roll. -/
def rollS (L : List Fl) (room : Nat) (name : Tx) (f : Fl) (s : Sg) : List Fl × Nat := begS (upd L f.n (setf f.b f.b.length)) room name (s.num + 1) (s.first + s.recs.length)
def rolled (ls : List Sg) (s : Sg) (c : Nat) : List Sg := if c = 0 then (ls ++ [s]) ++ [⟨s.num + 1, s.first + s.recs.length, (head (s.first + s.recs.length)).length, []⟩] else ls ++ [s]
theorem begin_any (w : World) (S1 S2 : Nat → Prop) (g p : Nat) (L : List Fl) (room : Nat) (name : Tx) (most : Nat) (segs : List Sg) (synced number first : Nat) (h : LDs w S1 S2 g p L room name most segs synced) (hsl : segs.length ≤ 549755813888) :
    Calls Tryz.prog 57 #[.pointer (some ⟨g, 0, none⟩), .int .i64 (number : Int), .int .i64 (first : Int)] w (Begun S1 S2 g p room name most w (begS L room name number first) segs synced number first) := by
  by_cases h1 : 9007199254740992 < first
  · refine (begin_big w S1 S2 g p L room name most segs synced number first h h1).mono ?_
    rintro e w' ⟨rfl, hw⟩
    have : begS L room name number first = (L, 6) := by unfold begS; rw [if_pos h1]
    rw [this]
    exact ⟨rfl, by rw [if_neg (show ¬ (6 : Nat) = 0 by omega)]; exact hw⟩
  · by_cases h2 : 999999999999999 < number
    · refine (begin_num w S1 S2 g p L room name most segs synced number first h (by omega) h2).mono ?_
      rintro e w' ⟨rfl, hw⟩
      have : begS L room name number first = (L, 6) := by unfold begS; rw [if_neg h1, if_pos h2]
      rw [this]
      exact ⟨rfl, by rw [if_neg (show ¬ (6 : Nat) = 0 by omega)]; exact hw⟩
    · exact begin_go w S1 S2 g p L room name most segs synced number first h (by omega) (by omega) hsl

def Rolled (S1 S2 : Nat → Prop) (g p room : Nat) (name : Tx) (most : Nat) (w : World) (r : List Fl × Nat) (ls : List Sg) (s : Sg) (e : Ending) (w' : World) : Prop :=
  e = .returned (.int .i64 (r.2 : Int)) ∧ Wal S1 S2 g p room name most w r.1 (rolled ls s r.2) (s.first + s.recs.length - 1) w'
set_option maxRecDepth 100000 in
set_option maxHeartbeats 4000000 in
theorem roll_log (w : World) (S1 S2 : Nat → Prop) (g p : Nat) (L : List Fl) (room : Nat) (name : Tx) (most : Nat) (ls : List Sg) (s : Sg) (synced : Nat) (f : Fl) (h : LDs w S1 S2 g p L room name most (ls ++ [s]) synced) (hl : ls.length ≤ 549755813887) (h1 : 1 ≤ s.first) (hf : find L (nm name s.num) = some f) :
    Calls Tryz.prog 21 #[.pointer (some ⟨g, 0, none⟩)] w (Rolled S1 S2 g p room name most w (rollS L room name f s) ls s) := by
  have HS := Lib.hid (sync_log w S1 S2 g p L room name most ls s synced f h (by omega) h1 hf)
  have hgood := h.good s (by simp)
  have g1 := hgood.num
  have g2 := hgood.first
  have g3 := hgood.few
  have g4 := hgood.size
  have HG := Lib.hid hgood
  clear h hgood h1 hf
  go_enter Tryz.func21, Tryz.ntmps21
  go_wp2_with fail
  refine HS.out.mono ?_
  rintro e w1 ⟨rfl, R1, R2, h1, s1⟩
  have H1 := Lib.hid h1
  have HST1 := Lib.hid s1
  obtain ⟨gb, cap, hC, _, _⟩ := h1.cells (by simp)
  have HLA := Lib.hid (last_log w1 g p gb cap name most ls s _ hC (by omega))
  obtain ⟨A, c, q0, q1, q2, q3⟩ := hC.row ls.length (by simp)
  simp only [List.getElem_append_right (Nat.le_refl _), Nat.sub_self, List.getElem_cons_zero] at q0 q1 q2 q3
  clear hC h1 s1
  go_wp2_with fail
  refine HLA.out.mono ?_
  rintro e w2 ⟨rfl, hw2⟩
  have hb2 : Below w1.heap.size w1 w2 := by obtain ⟨nn, rfl⟩ := hw2; exact below_drewN (Below.refl _ w1) nn
  have q0 := (hb2.cell (World.block_lt_of_cell? _ _ q0)).trans q0
  have q1 := (hb2.cell (World.block_lt_of_cell? _ _ q1)).trans q1
  have q2 := (hb2.cell (World.block_lt_of_cell? _ _ q2)).trans q2
  have q3 := (hb2.cell (World.block_lt_of_cell? _ _ q3)).trans q3
  have hlt := World.block_lt_of_cell? _ _ q0
  have HB2 := Lib.hid hb2
  have HNX := Lib.hid (fun W => next_any W s A c HG.out)
  have hw1 : IntKind.i64.wrap ((s.num : Int) + 1) = (s.num : Int) + 1 := wrap64 (by omega) (by omega)
  have HBG : Hid (∀ W, Below w1.heap.size w1 W → Calls Tryz.prog 57 #[.pointer (some ⟨g, 0, none⟩), .int .i64 ((s.num : Int) + 1), .int .i64 ((s.first + s.recs.length : Nat) : Int)] W (Begun R1 R2 g p room name most W (begS (upd L f.n (setf f.b f.b.length)) room name (s.num + 1) (s.first + s.recs.length)) (ls ++ [s]) (s.first + s.recs.length - 1) (s.num + 1) (s.first + s.recs.length))) := Lib.hid fun W hb => by
    have := begin_any W R1 R2 g p (upd L f.n (setf f.b f.b.length)) room name most (ls ++ [s]) (s.first + s.recs.length - 1) (s.num + 1) (s.first + s.recs.length) (H1.out.later hb) (by simp; omega)
    rw [Int.natCast_add s.num 1] at this
    exact this
  clear hw2 hb2
  obtain ⟨fn, hfn⟩ : ∃ fn, fn = s.first + s.recs.length := ⟨_, rfl⟩
  rw [← hfn] at HNX HBG
  have HFN := Lib.hid hfn
  clear hfn
  go_wp2_with fail
  go_region_with (first
    | (go_at_call 58; refine (HNX.out _).mono ?_; rintro e w3 ⟨rfl, hb3⟩; have hb3 := below_of_drew hb3; have HB3 := Lib.hid (HB2.out.trans (hb3.mono HB2.out.size)); have k0 := (hb3.cell (p := ⟨gb, ls.length * 4, none⟩) hlt).trans q0; clear hb3)
    | (go_at_call 57; refine (HBG.out _ HB3.out).mono ?_; rintro e w5 ⟨rfl, hw⟩))
  all_goals
    go_wp2_with fail
    go_ret
    rw [show rollS L room name f s = begS (upd L f.n (setf f.b f.b.length)) room name (s.num + 1) fn by unfold rollS; rw [← HFN.out]]
    exact ⟨rfl, Wal.of (HST1.out.trans (Step.below HB3.out)) (by unfold rolled; rw [← HFN.out]; exact hw)⟩

end Go.Proofs.YtjoonpkgepkkhaaGreatDoor.Wt

/-
  Words for layer 4's Append: the last segment, longer by a record.
-/
namespace Go.Proofs.YtjoonpkgepkkhaaGreatDoor.Wu
open Go Go.RowKit Ck Kw Ga Dm Dw Da Db Dc Dd De Df Dg Dh Wc Wf Wa Wb Wd Wn We Kx Wg Wh Wl Wj Wk Wo Wq Wr Ws Wt
set_option linter.unusedVariables false

theorem cellsS_last {ls : List Sg} {rl : List Value} {s : Sg} {u : Value} (h : rl.length = ls.length) : cellsS (ls ++ [s]) (rl ++ [u]) = cellsS ls rl ++ segCells s u := by rw [cellsS_app h]; rfl
theorem cells_set_size {ls : List Sg} {rl : List Value} {s : Sg} {u : Value} (h : rl.length = ls.length) (z : Nat) : (cellsS (ls ++ [s]) (rl ++ [u])).set (ls.length * 4 + 2) (.int .i64 (z : Int)) = cellsS (ls ++ [⟨s.num, s.first, z, s.recs⟩]) (rl ++ [u]) := by
  rw [cellsS_last h, cellsS_last h, List.set_append_right _ _ (by rw [cellsS_len h]; omega), cellsS_len h, show ls.length * 4 + 2 - ls.length * 4 = 2 by omega]
  rfl
theorem cells_set_recs {ls : List Sg} {rl : List Value} {s : Sg} {u u' : Value} (h : rl.length = ls.length) (r : List Tx) : (cellsS (ls ++ [s]) (rl ++ [u])).set (ls.length * 4 + 3) u' = cellsS (ls ++ [⟨s.num, s.first, s.size, r⟩]) (rl ++ [u']) := by
  rw [cellsS_last h, cellsS_last h, List.set_append_right _ _ (by rw [cellsS_len h]; omega), cellsS_len h, show ls.length * 4 + 3 - ls.length * 4 = 3 by omega]
  rfl
section
variable {w w7 : World} {S : Nat → Prop} {ls : List Sg} {s : Sg} {rl : List Value} {u v' : Value} {gb N cap : Nat}
theorem snoc_at {α : Type} {l : List α} {x : α} {i : Nat} {y : α} (h : (l ++ [x])[i]? = some y) : l[i]? = some y ∨ (i = l.length ∧ y = x) := by
  by_cases hlt : i < l.length
  · rw [List.getElem?_append_left hlt] at h; exact .inl h
  · rw [List.getElem?_append_right (by omega)] at h
    have : i - l.length = 0 := by have := (List.getElem?_eq_some_iff.1 h).1; simp at this; omega
    rw [this] at h
    exact .inr ⟨by omega, by simpa using h.symm⟩
/-- The last segment's size, set. -/
theorem Segs.set_size (h : Segs w S (.slice (some ⟨gb, 0, none⟩) N cap) (ls ++ [s]) (rl ++ [u])) (hN : N = ls.length + 1) (z : Nat) (hg : GoodS ⟨s.num, s.first, z, s.recs⟩) :
    Segs (w.setCell ⟨gb, ls.length * 4 + 2, none⟩ (.int .i64 (z : Int))) S (.slice (some ⟨gb, 0, none⟩) N cap) (ls ++ [⟨s.num, s.first, z, s.recs⟩]) (rl ++ [u]) := by
  have hrl : rl.length = ls.length := by have := h.len; simp at this; exact this
  have c : Ch (fun k => k = gb) w (w.setCell ⟨gb, ls.length * 4 + 2, none⟩ (.int .i64 (z : Int))) := (Ch.refl (fun k => k = gb) w).setCell (p := ⟨gb, ls.length * 4 + 2, none⟩) (fun _ => rfl) _
  have hkeep : ∀ {x : Value} {rs : List Tx}, Rcs w S x rs → Rcs (w.setCell ⟨gb, ls.length * 4 + 2, none⟩ (.int .i64 (z : Int))) S x rs := fun {x rs} hx => by
    refine hx.keep c (fun k hk e => ?_) (fun k b n y A cc hrow hk e => ?_)
    · obtain ⟨vals, h1, _⟩ := hx
      exact row_far h1 h.row (by decide) hk (by rw [e]; rfl)
    · exact row_far hrow h.row (by decide) hk (by rw [e]; rfl)
  have hlen : (ls ++ [s]).length = N := by simp [hN]
  have hlen2 : (ls ++ [(⟨s.num, s.first, z, s.recs⟩ : Sg)]).length = N := by simp [hN]
  refine ⟨by have := h.len; simpa using this, ?_, h.own, fun i hi => ?_, h.apart, fun x hx => ?_⟩
  · have hr := h.row
    rw [hlen] at hr
    have := hr.stored (ls.length * 4 + 2) (.int .i64 (z : Int))
    rw [cells_set_size hrl] at this
    rw [hlen2]
    exact this.1
  · have hi' : i < (ls ++ [s]).length := by simpa using hi
    obtain ⟨x, h1, h2⟩ := h.rcs i hi'
    refine ⟨x, h1, ?_⟩
    by_cases hlt : i < ls.length
    · rw [List.getElem_append_left hlt] at h2 ⊢; exact hkeep h2
    · have e : i = ls.length := by simp at hi; omega
      subst e
      rw [List.getElem_append_right (Nat.le_refl _)] at h2 ⊢
      simp only [Nat.sub_self, List.getElem_cons_zero] at h2 ⊢
      exact hkeep h2
  · rcases List.mem_append.1 hx with hx | hx
    · exact h.good x (List.mem_append_left _ hx)
    · rw [List.mem_singleton.1 hx]; exact hg
/-- The last segment's records, one more. -/
theorem Segs.app_last {x : Tx} {A : Option Addr} {c : Nat} {vals : List Value} (h : Segs w S (.slice (some ⟨gb, 0, none⟩) N cap) (ls ++ [s]) (rl ++ [u])) (hN : N = ls.length + 1) (hg : GoodS ⟨s.num, s.first, s.size, s.recs ++ [x]⟩)
    (hvals : w.ownsRow 0 22 1 u s.recs.length vals) (hx : w.ownsRow 0 5 1 (.slice A x.length c) x.length (BVs x)) (hxS : ∀ k, (Value.slice A x.length c).ownBlock = some k → S k)
    (ha : Appended w 0 22 1 u (s.recs.length + 1) (vals ++ [.slice A x.length c]) v' w7) :
    Segs (w7.setCell ⟨gb, ls.length * 4 + 3, none⟩ v') (Up S w w7) (.slice (some ⟨gb, 0, none⟩) N cap) (ls ++ [⟨s.num, s.first, s.size, s.recs ++ [x]⟩]) (rl ++ [v']) := by
  obtain ⟨ho, hgr, hloc⟩ := ha
  have hrl : rl.length = ls.length := by have := h.len; simp at this; exact this
  have cg : Ch (fun k => u.ownBlock = some k) w w7 := Ch.of_grown hgr (fun g hg _ => hg)
  have hrow7 := own_ch h.row cg (fun k hk e => row_far hvals h.row (by decide) e hk)
  have c : Ch (fun k => k = gb) w7 (w7.setCell ⟨gb, ls.length * 4 + 3, none⟩ v') := (Ch.refl (fun k => k = gb) w7).setCell (p := ⟨gb, ls.length * 4 + 3, none⟩) (fun _ => rfl) _
  have hkeep : ∀ {y : Value} {T : Nat → Prop} {rs : List Tx}, Rcs w7 T y rs → Rcs (w7.setCell ⟨gb, ls.length * 4 + 3, none⟩ v') T y rs := fun {y T rs} hy => by
    refine hy.keep c (fun k hk e => ?_) (fun k b n z A cc hrow hk e => ?_)
    · obtain ⟨vs, h1, _⟩ := hy
      exact row_far h1 hrow7 (by decide) hk (by rw [e]; rfl)
    · exact row_far hrow hrow7 (by decide) hk (by rw [e]; rfl)
  have hlen : (ls ++ [s]).length = N := by simp [hN]
  have hlen2 : (ls ++ [(⟨s.num, s.first, s.size, s.recs ++ [x]⟩ : Sg)]).length = N := by simp [hN]
  have hu : (rl ++ [u])[ls.length]? = some u := by rw [List.getElem?_append_right (by omega), hrl]; simp
  refine ⟨by have := h.len; simpa using this, ?_, fun k hk => .inl (h.own k hk), fun i hi => ?_, fun i j u1 u2 k hij h1 h2 hk => ?_, fun y hy => ?_⟩
  · have hr := hrow7
    rw [hlen] at hr
    have := hr.stored (ls.length * 4 + 3) v'
    rw [cells_set_recs hrl (s.recs ++ [x])] at this
    rw [hlen2]
    exact this.1
  · by_cases hlt : i < ls.length
    · obtain ⟨y, h1, h2⟩ := h.rcs i (by simp; omega)
      rw [List.getElem_append_left hlt] at h2 ⊢
      have hy : rl[i]? = some y := by rwa [List.getElem?_append_left (by omega)] at h1
      refine ⟨y, by rw [List.getElem?_append_left (by omega)]; exact hy, hkeep ((h2.keep cg (fun k hk e => ?_) (fun k b n z A cc hrow hk e => row_far hvals hrow (by decide) e hk)).weaken (fun k hk => .inl hk))⟩
      exact h.apart i ls.length y u k (by omega) h1 hu hk e
    · have e : i = ls.length := by simp at hi; omega
      subst e
      obtain ⟨y, h1, h2⟩ := h.rcs ls.length (by simp)
      rw [List.getElem_append_right (Nat.le_refl _)] at h2 ⊢
      simp only [Nat.sub_self, List.getElem_cons_zero] at h2 ⊢
      have hyu : y = u := by rw [hu] at h1; injection h1 with h1; exact h1.symm
      subst hyu
      exact ⟨v', by rw [List.getElem?_append_right (by omega), hrl]; simp, hkeep (Rcs.push (vals := vals) h2 (fun vs hvs => row_vals hvs hvals) hx hxS ho hgr hloc (fun e => (ho.lt _ e).2))⟩
  · have hnew : ∀ (i : Nat) (y : Value) (k : Nat), i ≠ rl.length → rl[i]? = some y → v'.ownBlock = some k → y.ownBlock ≠ some k := fun i y k hi hy hk hyk => by
      have hyi : (rl ++ [u])[i]? = some y := by rw [List.getElem?_append_left (List.getElem?_eq_some_iff.1 hy).1]; exact hy
      rcases hloc with hb | hb
      · rw [hb] at hk
        exact h.apart i ls.length y u k (by omega) hyi hu hyk hk
      · rw [hb] at hk
        injection hk with hk
        have hil : i < (ls ++ [s]).length := by have := (List.getElem?_eq_some_iff.1 hy).1; simp; omega
        obtain ⟨y', g1, g2⟩ := h.rcs i hil
        rw [hyi] at g1
        injection g1 with g1
        subst g1
        have := (g2.in_ k hyk).2
        omega
    rcases snoc_at h1 with g1 | ⟨g1, rfl⟩ <;> rcases snoc_at h2 with g2 | ⟨g2, rfl⟩
    · exact h.apart i j u1 u2 k hij (by rw [List.getElem?_append_left (List.getElem?_eq_some_iff.1 g1).1]; exact g1) (by rw [List.getElem?_append_left (List.getElem?_eq_some_iff.1 g2).1]; exact g2) hk
    · exact fun e => hnew i u1 k (by omega) g1 e hk
    · exact hnew j u2 k (by omega) g2 hk
    · omega
  · rcases List.mem_append.1 hy with hy | hy
    · exact h.good y (List.mem_append_left _ hy)
    · rw [List.mem_singleton.1 hy]; exact hg
end

end Go.Proofs.YtjoonpkgepkkhaaGreatDoor.Wu

/-
  Contract of layer 4's Append.
-/
namespace Go.Proofs.YtjoonpkgepkkhaaGreatDoor.Wv
open Go Go.RowKit Ck Kw Ga Dm Dw Da Db Dc Dd De Df Dg Dh Wc Wf Wa Wb Wd Wn We Kx Wg Wh Wl Wj Wk Wo Wq Wr Ws Wt Wu
attribute [local go_sem ↓] Go.wp_at_zero Go.wp_at_succ
set_option linter.unusedVariables false

/-- Must another segment begin first? -/
def full (s : Sg) (most : Nat) : Bool := decide (0 < s.recs.length) && decide (most ≤ s.size)
/-- What the last part of Append answers and leaves. -/
def Apped (S1 S2 : Nat → Prop) (g p room : Nat) (name : Tx) (most : Nat) (w : World) (L : List Fl) (ls : List Sg) (s : Sg) (synced : Nat) (x : Tx) (e : Ending) (w' : World) : Prop :=
  ((appS L room false (nm name s.num) (frame x)).2 = 0 ∧ e = .returned (.tuple #[.int .i64 ((s.first + s.recs.length : Nat) : Int), .int .i64 0]) ∧
    Wal S1 S2 g p room name most w (appS L room false (nm name s.num) (frame x)).1 (ls ++ [⟨s.num, s.first, s.size + (frame x).length, s.recs ++ [x]⟩]) synced w') ∨
  ((appS L room false (nm name s.num) (frame x)).2 ≠ 0 ∧ e = .returned (.tuple #[.int .i64 0, .int .i64 ((appS L room false (nm name s.num) (frame x)).2 : Int)]) ∧
    Wal S1 S2 g p room name most w (appS L room false (nm name s.num) (frame x)).1 (ls ++ [s]) synced w')
/-- What Append answers and leaves: it rolls first, or not. -/
def AppLog (S1 S2 : Nat → Prop) (g p room : Nat) (name : Tx) (most : Nat) (w : World) (L : List Fl) (ls : List Sg) (s : Sg) (synced : Nat) (f : Fl) (x : Tx) (e : Ending) (w' : World) : Prop :=
  (full s most = false ∧ Apped S1 S2 g p room name most w L ls s synced x e w') ∨
  (full s most = true ∧ (rollS L room name f s).2 = 0 ∧ Apped S1 S2 g p room name most w (rollS L room name f s).1 (ls ++ [s]) ⟨s.num + 1, s.first + s.recs.length, (head (s.first + s.recs.length)).length, []⟩ (s.first + s.recs.length - 1) x e w') ∨
  (full s most = true ∧ (rollS L room name f s).2 ≠ 0 ∧ e = .returned (.tuple #[.int .i64 0, .int .i64 ((rollS L room name f s).2 : Int)]) ∧ Wal S1 S2 g p room name most w (rollS L room name f s).1 (ls ++ [s]) (s.first + s.recs.length - 1) w')

/-- A frame put behind a file that fits: what the file's length may be. -/
theorem app_fits {L : List Fl} {room : Nat} {n : Tx} {f : Fl} {x : Tx} (h : GoodL L room) (hf : find L n = some f) (hc : (appS L room false n x).2 = 0) : f.b.length + x.length ≤ 4194304 := by
  have e : appS L room false n x = putS L room f f.b.length x := by rw [appS, hf]; rfl
  rw [e, putS] at hc
  split at hc
  · simp at hc
  · have := h.room
    have := used_mem (List.mem_of_find?_eq_some hf)
    omega
theorem beg_find {L : List Fl} {room : Nat} {name : Tx} {k first : Nat} (h : (begS L room name k first).2 = 0) : ∃ f, find (begS L room name k first).1 (nm name k) = some f ∧ f.b.length = (head first).length := by
  unfold begS at h ⊢
  split at h
  · simp at h
  · rename_i h1
    rw [if_neg h1]
    split at h
    · simp at h
    · rename_i h2
      rw [if_neg h2]
      split at h
      · simp at h
      · rename_i h3
        rw [if_neg h3]
        split at h
        · simp at h
        · rename_i h4
          rw [if_neg h4]
          split at h
          · simp at h
          · rename_i h5
            rw [if_neg h5]
            have h3 : isIn L (nm name k) = false := by simpa using h3
            have := find_ins (x := ⟨nm name k, head first, (head first).length⟩) h3
            exact ⟨_, this, rfl⟩

/-- A log's last segment, laid open. -/
theorem lds_last {w : World} {S1 S2 : Nat → Prop} {g p room most y : Nat} {L : List Fl} {name : Tx} {ls : List Sg} {s : Sg} (h : LDs w S1 S2 g p L room name most (ls ++ [s]) y) :
    ∃ gb cap rl A c, LgC w g p gb cap name most (ls ++ [s]) y ∧ S1 gb ∧ gb ≠ g ∧ S1 g ∧ rl.length = ls.length ∧ Segs w (fun k => S1 k ∧ k ≠ g) (.slice (some ⟨gb, 0, none⟩) (ls ++ [s]).length cap) (ls ++ [s]) (rl ++ [.slice A s.recs.length c]) := by
  obtain ⟨gb, cap, h1, h2, h3⟩ := h.cells (by simp)
  obtain ⟨v, rv, k1, k2, k3, _⟩ := h.lg
  have e1 := h1.blk.cell 3
  have e2 := k1.cell 3
  simp only [List.getElem?_toArray, List.getElem?_cons_zero, List.getElem?_cons_succ] at e1 e2
  rw [e1] at e2
  injection e2 with e2
  subst e2
  have hl := k3.len
  rcases List.eq_nil_or_concat rv with rfl | ⟨rl, u, rfl⟩
  · simp at hl
  · rw [List.concat_eq_append] at *
    have hl' : rl.length = ls.length := by simpa using hl
    obtain ⟨u', g1, g2⟩ := k3.rcs ls.length (by simp)
    rw [List.getElem?_append_right (by omega), hl'] at g1
    rw [List.getElem_append_right (Nat.le_refl _)] at g2
    simp only [Nat.sub_self, List.getElem?_cons_zero, List.getElem_cons_zero] at g1 g2
    injection g1 with g1
    subst g1
    obtain ⟨A, c, rfl⟩ := g2.shape
    exact ⟨gb, cap, rl, A, c, h1, h2, h3, k2, hl', k3⟩
/-- The last one of a row of segments, read. -/
theorem seg_last {w : World} {S : Nat → Prop} {gb cap : Nat} {ls : List Sg} {s : Sg} {rl : List Value} {u : Value} (h : Segs w S (.slice (some ⟨gb, 0, none⟩) (ls ++ [s]).length cap) (ls ++ [s]) (rl ++ [u])) (hrl : rl.length = ls.length) :
    gb < w.heap.size ∧ w.cell? ⟨gb, ls.length * 4 + 2, none⟩ = some (.int .i64 (s.size : Int)) ∧ w.cell? ⟨gb, ls.length * 4 + 3, none⟩ = some u ∧ (∀ j, w.frozen? ⟨gb, j, none⟩ = false) ∧ Rcs w S u s.recs := by
  obtain ⟨gbx, capx, hvx, -, hgbl, hcapx, hat⟩ := h.at_ (by simp)
  injection hvx with hvx1 hvx2 hvx3
  injection hvx1 with hvx1
  injection hvx1 with hvx1
  subst hvx1
  subst hvx3
  obtain ⟨ux, hux, r0, r1, r2, r3, rf, hrc⟩ := hat ls.length (by simp)
  rw [List.getElem?_append_right (by omega), hrl] at hux
  simp only [List.getElem_append_right (Nat.le_refl _), Nat.sub_self, List.getElem_cons_zero, List.getElem?_cons_zero] at hux r0 r1 r2 r3 hrc
  injection hux with hux
  subst hux
  exact ⟨hgbl, r2, r3, rf, hrc⟩
theorem row_frozen {w : World} {b e sz n m gb cap : Nat} {xs : List Value} (h : w.ownsRow b e sz (.slice (some ⟨gb, 0, none⟩) n cap) m xs) (j : Nat) : w.frozen? ⟨gb, j, none⟩ = false := by
  rcases h.2 with ⟨h0, _⟩ | ⟨g, c, cur, h0, hb, hg, _⟩
  · simp at h0
  · injection h0 with h1 _ _
    injection h1 with h1
    injection h1 with h1
    subst h1
    simp [World.frozen?, hg]
theorem one_lit (w : World) (X : Nat → Prop) (t : TypeId) (u : Value) (hX : ¬ X w.heap.size) : Sl (w.alloc (.cells #[u] t)) X 1 (.slice (some ⟨w.heap.size, 0, none⟩) 1 1) 1 [u] := by
  refine ⟨_, _, rfl, rfl, Nat.le_refl _, by simp only [maxLen]; omega, fun _ => ⟨_, rfl, by simp, hX, fun j x hx => ?_⟩⟩
  have ha : (⟨w.heap.size, 0, none⟩ : Addr).add j = ⟨w.heap.size, j, none⟩ := by unfold Addr.add; split <;> simp_all
  rw [ha, Blk.cell (Blk.new w t _) j]
  simpa using hx
theorem app_cells {wa w9 : World} {u v' y : Value} {n n' N m gb cap j : Nat} {vals xs cs : List Value} (hv : wa.ownsRow 0 22 1 u n vals) (hs : wa.ownsRow 0 97 4 (.slice (some ⟨gb, 0, none⟩) N cap) m cs) (ha : Appended wa 0 22 1 u n' xs v' w9) (hc : wa.cell? ⟨gb, j, none⟩ = some y) :
    w9.cell? ⟨gb, j, none⟩ = some y ∧ w9.frozen? ⟨gb, j, none⟩ = false := by
  have cg : Ch (fun k => u.ownBlock = some k) wa w9 := Ch.of_grown ha.2.1 (fun k hk _ => hk)
  have hne : ¬ u.ownBlock = some gb := fun e => row_far hv hs (by decide) e rfl
  exact ⟨cg.cell hc hne, row_frozen (own_ch hs cg (fun k hk e => by injection hk with hk; subst hk; exact hne e)) j⟩
/-- Where the last part of Append begins. -/
def TailAt (S1 S2 : Nat → Prop) (g p room : Nat) (name : Tx) (most : Nat) (w : World) (L : List Fl) (ls : List Sg) (s : Sg) (synced : Nat) (f : Fl) (x : Tx) (w3 W : World) : Prop :=
  ∃ R1 R2 L' ls' s' y', LDs W R1 R2 g p L' room name most (ls' ++ [s']) y' ∧ Step S1 S2 R1 R2 w3 W ∧ (∃ f', find L' (nm name s'.num) = some f' ∧ f'.b.length = s'.size) ∧ ls'.length ≤ 549755813888 ∧ 1 ≤ s'.first ∧
    ∀ e w', Apped S1 S2 g p room name most w L' ls' s' y' x e w' → AppLog S1 S2 g p room name most w L ls s synced f x e w'

set_option maxRecDepth 100000 in
set_option maxHeartbeats 8000000 in
theorem append_log (w : World) (S1 S2 X : Nat → Prop) (g p : Nat) (L : List Fl) (room : Nat) (name : Tx) (most : Nat) (ls : List Sg) (s : Sg) (synced : Nat) (f : Fl) (h : LDs w S1 S2 g p L room name most (ls ++ [s]) synced) (hl : ls.length ≤ 274877906944) (h1 : 1 ≤ s.first)
    (hf : find L (nm name s.num) = some f) (hsz : f.b.length = s.size) (A : Option Addr) (c : Nat) (x : Tx) (hx : Sl w X 1 (.slice A x.length c) x.length (BVs x)) (hX1 : ∀ k, S1 k → X k) (hX2 : ∀ k, S2 k → X k) (hxl : x.length ≤ 524288) :
    Calls Tryz.prog 18 #[.pointer (some ⟨g, 0, none⟩), .slice A x.length c] w (AppLog S1 S2 g p room name most w L ls s synced f x) := by
  have hfl : 5 ≤ (frame x).length ∧ (frame x).length ≤ 600000 := by
    have := Cm.enc_len x.length
    rw [frame_len]
    have h1 := this.1
    have h2 := this.2
    omega
  have H := Lib.hid h
  have HX := Lib.hid hx
  obtain ⟨gb, cap, hC, hgb, hgn⟩ := h.cells (by simp)
  have HM := Lib.hid (made_log w g p gb cap name most _ synced hC)
  have HFR := Lib.hid (frame_any w X A c x hx hxl)
  have HC := Lib.hid hC
  have HROLL : Hid (∀ W, Below w.heap.size w W → Calls Tryz.prog 21 #[.pointer (some ⟨g, 0, none⟩)] W (Rolled S1 S2 g p room name most W (rollS L room name f s) ls s)) := Lib.hid fun W hb => roll_log W S1 S2 g p L room name most ls s synced f (h.later hb) (by omega) h1 hf
  have HH := Lib.hid (And.intro h1 (And.intro hf (And.intro hsz (And.intro hX1 hX2))))
  clear h hx hC h1 hf hsz hX1 hX2
  go_enter Tryz.func18, Tryz.ntmps18
  go_wp2_with fail
  refine HM.out.mono ?_
  rintro e w1 ⟨rfl, rfl⟩
  go_wp2_with fail
  refine HFR.out.mono ?_
  rintro e w2 ⟨A2, c2, rfl, ho2, hb2⟩
  have HO2 := Lib.hid ho2
  have HB2 := Lib.hid hb2
  have hC2 := HC.out.after hb2
  have HLA := Lib.hid (last_log w2 g p gb cap name most ls s synced hC2 (by omega))
  have HC2 := Lib.hid hC2
  clear ho2 hb2 hC2
  go_wp2_with fail
  refine HLA.out.mono ?_
  rintro e w3 ⟨rfl, hw3⟩
  have hb3 : Below w2.heap.size w2 w3 := by obtain ⟨nn, rfl⟩ := hw3; exact below_drewN (Below.refl _ w2) nn
  have HB3 := Lib.hid (HB2.out.trans (hb3.mono HB2.out.size))
  have hC3 := HC2.out.after hb3
  have HO3 := Lib.hid (own_below HO2.out hb3)
  obtain ⟨A3, c3, q0, q1, q2, q3⟩ := hC3.row ls.length (by simp)
  simp only [List.getElem_append_right (Nat.le_refl _), Nat.sub_self, List.getElem_cons_zero] at q0 q1 q2 q3
  have m2 : w3.cell? ⟨g, 2, none⟩ = some (.int .i64 (most : Int)) := hC3.blk.cell 2
  have HROLL3 := Lib.hid (fun nn => HROLL.out (w3.drewN nn) (below_drewN HB3.out nn))
  have HT0 : Hid (∀ W, Below w3.heap.size w3 W → LDs W S1 S2 g p L room name most (ls ++ [s]) synced) := Lib.hid fun W hb => H.out.later (HB3.out.trans (hb.mono HB3.out.size))
  clear hw3 hb3 hC3 HLA HC2 HO2 HFR HM
  by_cases hfull : full s most = true
  have hfu := hfull
  simp only [full, Bool.and_eq_true, decide_eq_true_eq] at hfu
  have f1 : decide (0 < s.recs.length) = true := by simpa using hfu.1
  have f2 : decide (most ≤ s.size) = true := by simpa using hfu.2
  have HFU := Lib.hid hfull
  clear hfull hfu
  go_wp2_with fail
  go_quiet (fail)
  go_wp2_with fail
  refine (HROLL3.out nq).mono ?_
  rintro e W ⟨rfl, RR1, RR2, hr, hst⟩
  by_cases hc0 : (rollS L room name f s).2 = 0
  have HTA : Hid (TailAt S1 S2 g p room name most w L ls s synced f x w3 W) := Lib.hid (by
    have hr' := hr
    rw [rolled, if_pos hc0] at hr'
    refine ⟨_, _, _, _, _, _, hr', (Step.below (below_drewN (Below.refl _ _) _)).trans hst, beg_find (by unfold rollS at hc0; exact hc0), by simp; omega, by have := HH.out.1; simp only; omega, fun e w' ha => .inr (.inl ⟨HFU.out, hc0, ha⟩)⟩)
  rw [hc0]
  clear hr hst hc0
  go_wp2_with fail
  rotate_left
  · have hq : ((((rollS L room name f s).2 : Nat) : Int) == 0) = false := by rw [beq_eq_false_iff_ne]; omega
    have HR := Lib.hid (And.intro hc0 (And.intro hr hst))
    clear hr hst hc0
    obtain ⟨cc, hcc⟩ : ∃ cc, cc = (rollS L room name f s).2 := ⟨_, rfl⟩
    rw [← hcc] at hq ⊢
    go_wp2_with fail
    go_ret2
    rw [hcc]
    have hr := HR.out.2.1
    rw [rolled, if_neg HR.out.1] at hr
    exact .inr (.inr ⟨HFU.out, HR.out.1, rfl, _, _, hr, ((Step.below HB3.out).trans (Step.below (below_drewN (Below.refl _ _) _))).trans HR.out.2.2⟩)
  have HTA0 : Hid (∀ n, TailAt S1 S2 g p room name most w L ls s synced f x w3 (w3.drewN n)) := Lib.hid fun n =>
      ⟨_, _, _, _, _, _, HT0.out _ (below_drewN (Below.refl _ _) _), Step.below (below_drewN (Below.refl _ _) _), ⟨f, HH.out.2.1, HH.out.2.2.1⟩, by omega, HH.out.1, fun e w' ha => .inl ⟨by simpa using hfull, ha⟩⟩
  by_cases hrec : 0 < s.recs.length
  have f1 : decide (0 < s.recs.length) = true := by simpa using hrec
  have f2 : decide (most ≤ s.size) = false := by
    simp only [full, Bool.and_eq_true, decide_eq_true_eq, not_and] at hfull
    simpa using hfull hrec
  clear hfull hrec
  go_wp2_with fail
  go_quiet (fail)
  go_wp2_with fail
  have HTA := Lib.hid (HTA0.out nq)
  obtain ⟨W, hW⟩ : ∃ W, W = w3.drewN nq := ⟨_, rfl⟩
  rw [← hW] at HTA ⊢
  clear hW
  rotate_left
  have f1 : decide (0 < s.recs.length) = false := by simpa using hrec
  clear hfull hrec
  go_wp2_with fail
  go_quiet (fail)
  go_wp2_with fail
  have HTA := Lib.hid (HTA0.out nq)
  obtain ⟨W, hW⟩ : ∃ W, W = w3.drewN nq := ⟨_, rfl⟩
  rw [← hW] at HTA ⊢
  clear hW
  rotate_left
  all_goals
    clear HROLL3 HROLL HT0 q0 q1 q2 q3 m2 HC f1
    obtain ⟨R1, R2, L', ls', s', y', hT, hS, ⟨f', hf', hfz⟩, hl', h1', hQ⟩ := HTA.out
    have HT := Lib.hid hT
    have HS := Lib.hid hS
    have HF := Lib.hid hf'
    have HFZ := Lib.hid hfz
    have HQ := Lib.hid hQ
    have HG := Lib.hid (hT.good s' (by simp))
    obtain ⟨gb', cap', rl', A', c', hC, hgb', hgn', hg', hrl', hsg⟩ := lds_last hT
    have HC := Lib.hid hC
    have HSG := Lib.hid hsg
    have hnl : (nm name s'.num).length ≤ 140737488355328 := by
      have := nm_len (name := name) (k := s'.num) HG.out.num
      have := hT.name_le
      omega
    have HN16 := Lib.hid hT.name_le
    have HFRM : Hid (∀ W', Below W.heap.size W W' → Sl W' R2 1 (.slice A2 (frame x).length c2) (frame x).length (BVs (frame x))) := Lib.hid fun W' hb => by
      have ho := HO3.out
      have hw3 := HB3.out.size
      have ho' := own_ch ho hS.ch (fun k hk hr => by
        have := (ho.lt k hk).1
        rcases hr with hr | hr
        · have := H.out.b1 k hr; omega
        · have := H.out.b2 k hr; omega)
      refine Sl.of_own' (own_below ho' hb) (fun k hk hr => ?_)
      have h2 := ho.lt k hk
      rcases hS.s2 k hr with hr | hr
      · have := H.out.b2 k hr; omega
      · omega
    have HLA := Lib.hid (last_log W g p gb' cap' name most ls' s' y' hC hl')
    clear hT hS hf' hfz hQ hC hsg HTA
    refine HLA.out.mono ?_
    rintro e w4 ⟨rfl, hw4⟩
    have HB4 : Hid (Below W.heap.size W w4) := Lib.hid (by obtain ⟨nn, rfl⟩ := hw4; exact below_drewN (Below.refl _ W) nn)
    have c0 : w4.cell? ⟨g, 0, none⟩ = some (.pointer (some ⟨p, 0, none⟩)) := (HC.out.after HB4.out).blk.cell 0
    obtain ⟨A'', c'', r0, _⟩ := (HC.out.after HB4.out).row ls'.length (by simp)
    simp only [List.getElem_append_right (Nat.le_refl _), Nat.sub_self, List.getElem_cons_zero] at r0
    have hglt := (HC.out.after HB4.out).blk.lt
    clear hw4 HLA
    go_wp2_with fail
    go_region_held3 (fun w' => w'.cell? ⟨g, 0, none⟩ = some (.pointer (some ⟨p, 0, none⟩))) (first | exact c0 | exact d0 | exact d1)
      (first
      | (go_at_call 56; refine (file_log _ g p name most y' _ (HC.out.after (below_drewN HB4.out 1)).blk HN16.out (HT.out.later (below_drewN HB4.out 1)).tab gb' _ s'.num HG.out.num r0).mono ?_; rintro e w5 ⟨rfl, hb5⟩; have hb5 := below_of_drew hb5; have HB5 : Hid (Below W.heap.size W w5) := Lib.hid (HB4.out.trans (hb5.mono HB4.out.size)); have d0 := (hb5.cell hglt).trans c0; clear hb5)
      | (go_at_call 55; refine (append_on _ R2 R2 p L' room false (nm name s'.num) hnl (HT.out.later HB5.out).dk (frame x) A2 c2 (HFRM.out _ HB5.out) (fun _ h => h) (by omega)).mono ?_; rintro e w6 hd6; have HD6 := Lib.hid ((HT.out.later HB5.out).disk hd6); obtain ⟨rfl, -, hc6⟩ := hd6; have d1 := hc6.cell d0 (fun h2 => HT.out.apart g hg' h2); have HC6 := Lib.hid hc6; clear hc6))
    clear c0 d0 r0 HFRM
    by_cases hc0 : (appS L' room false (nm name s'.num) (frame x)).2 = 0
    · have HC0 := Lib.hid hc0
      rw [hc0]
      have hsz := app_fits (HT.out.dk.elim fun _ h => h.2.2.2) HF.out hc0
      rw [HFZ.out] at hsz
      have HSG6 := Lib.hid ((HSG.out.ch (Ch.of_below (S := fun _ => False) HB5.out (Nat.le_refl _)) (fun _ _ h => h)).ch HC6.out (fun k hk h2 => HT.out.apart k hk.1 h2))
      obtain ⟨hgbl, r2, r3, rf, hrc⟩ := seg_last HSG6.out hrl'
      have hf2 := rf (ls'.length * 4 + 2)
      have hwr : IntKind.i64.wrap ((s'.size : Int) + ((frame x).length : Int)) = ((s'.size + (frame x).length : Nat) : Int) := by rw [wrap64 (by omega) (by omega)]; omega
      clear hrc hc0 rf r3
      go_wp2_with fail
      have HT6 := Lib.hid ((((Step.below HB3.out).trans HS.out).trans (Step.below HB5.out)).trans HD6.out.2)
      have HB6 := Lib.hid ((HC.out.after HB5.out).ch HC6.out (fun h2 => HT.out.apart g hg' h2) (fun h2 => HT.out.apart gb' hgb' h2)).blk
      have hg1 := HG.out.few
      have HGN : Hid (GoodS ⟨s'.num, s'.first, s'.size + (frame x).length, s'.recs⟩ ∧ GoodS ⟨s'.num, s'.first, s'.size + (frame x).length, s'.recs ++ [x]⟩) := Lib.hid ⟨⟨HG.out.num, HG.out.first, hsz, by simp only; omega⟩, ⟨HG.out.num, HG.out.first, hsz, by simp; omega⟩⟩
      have hs7 := Segs.set_size HSG6.out (by simp) (s'.size + (frame x).length) HGN.out.1
      have ch7 : Ch (fun k => k = gb') w6 (w6.setCell ⟨gb', ls'.length * 4 + 2, none⟩ (.int .i64 ((s'.size + (frame x).length : Nat) : Int))) := (Ch.refl (fun k => k = gb') w6).setCell (p := ⟨gb', ls'.length * 4 + 2, none⟩) (fun _ => rfl) _
      have hw7 : (w6.setCell ⟨gb', ls'.length * 4 + 2, none⟩ (.int .i64 ((s'.size + (frame x).length : Nat) : Int))).heap.size = w6.heap.size := by simp [World.setCell]
      rw [Int.natCast_add] at hs7 ch7 hw7
      generalize (w6.setCell ⟨gb', ls'.length * 4 + 2, none⟩ (.int .i64 ((s'.size : Int) + ((frame x).length : Int)))) = w7 at hs7 ch7 hw7 ⊢
      have HC7 := Lib.hid ch7
      have HSG7 : Hid (Segs w7 (fun k => R1 k ∧ k ≠ g) (.slice (some ⟨gb', 0, none⟩) (ls' ++ [(⟨s'.num, s'.first, s'.size + (frame x).length, s'.recs⟩ : Sg)]).length cap') (ls' ++ [⟨s'.num, s'.first, s'.size + (frame x).length, s'.recs⟩]) (rl' ++ [.slice A' s'.recs.length c'])) := Lib.hid (by simpa using hs7)
      clear hs7 r2 hf2 hwr
      obtain ⟨hgbl7, -, r3, rf, hrc⟩ := seg_last HSG7.out hrl'
      obtain ⟨vals, hvals, hrest⟩ := hrc
      have HV7 := Lib.hid hvals
      have HX7 : Hid (Sl w7 X 1 (.slice A x.length c) x.length (BVs x)) := Lib.hid (HX.out.ch (HT6.out.ch.trans ch7 (fun j hj e => by
        subst e
        rcases HT6.out.s1 _ hgb' with h | h
        · exact .inl h
        · omega)) (fun k _ hk => by
        rcases hk with hk | hk
        · exact HH.out.2.2.2.1 k hk
        · exact HH.out.2.2.2.2 k hk))
      obtain ⟨i0, hi0, hz0, hz1, hz2⟩ := info_parts info_recs
      have HCL := Lib.hid (clone_sh X _ x.length x w7.drew (show Sl w7.drew X 1 (.slice A x.length c) x.length (BVs x) from HX7.out) (by omega))
      clear hrest hvals ch7 rf
      go_region_law (first
        | (go_simp; go_at_call 44; refine HCL.out.mono ?_; rintro e w8 ⟨A8, c8, rfl, ho8, hb8⟩; have hb8 : Below w7.heap.size w7 w8 := below_of_drew hb8; have HO8 : Hid (w8.ownsRow w7.heap.size 5 1 (.slice A8 x.length c8) x.length (BVs x)) := Lib.hid ho8; have HB8 := Lib.hid hb8; have r3a := (hb8.cell (p := ⟨gb', ls'.length * 4 + 3, none⟩) hgbl7).trans r3; have r3b := ((hb8.alloc hb8.size (.cells #[.slice A8 x.length c8] 22)).cell (p := ⟨gb', ls'.length * 4 + 3, none⟩) hgbl7).trans r3; clear ho8 hb8)
        | (refine step_append_sh (by rfl) (.tmp 74) (.tmp 77) _ (by rfl) 0 22 i0 _ 1 24 Tryz.underlying54 hi0 hz0 hz1 hz2 rfl (by omega) (.slice A' s'.recs.length c') s'.recs.length vals (by rfl) (show (w8.alloc (.cells #[.slice A8 x.length c8] 22)).ownsRow 0 22 1 (.slice A' s'.recs.length c') s'.recs.length vals from (own_below HV7.out HB8.out).alloc _) (fun _ => False) _ 1 [.slice A8 x.length c8] (by rfl) (show Sl (w8.alloc (.cells #[.slice A8 x.length c8] 22)) (fun _ => False) _ _ _ _ from one_lit w8 (fun _ => False) _ _ (fun h => h)) (by intro v hv; simp at hv; subst hv; rfl) (by simp only [maxLen]; omega) (by omega) (Nat.zero_le _) ?_; intro A9 c9 w9 happ; have HAP : Hid (Appended (w8.alloc (.cells #[.slice A8 x.length c8] 22)) 0 22 1 (.slice A' s'.recs.length c') (s'.recs.length + 1) (vals ++ [.slice A8 x.length c8]) (.slice A9 (s'.recs.length + 1) c9) w9) := Lib.hid happ; obtain ⟨r9, f9⟩ := app_cells ((own_below HV7.out HB8.out).alloc (.cells #[.slice A8 x.length c8] 22)) ((own_below HSG7.out.row HB8.out).alloc _) happ r3b; clear happ))
      all_goals
        clear HCL
        have hal : Below w7.heap.size w7 (w8.alloc (.cells #[.slice A8 x.length c8] 22)) := HB8.out.alloc HB8.out.size _
        have hfin := Segs.app_last (x := x) (A := A8) (c := c8) ((HSG7.out.ch (Ch.of_below (S := fun _ => False) hal (Nat.le_refl _)) (fun _ _ h => h)).weaken (T := fun k => (R1 k ∧ k ≠ g) ∨ w6.heap.size ≤ k) (fun k hk => .inl hk)) (by simp) HGN.out.2 ((own_below HV7.out HB8.out).alloc _) ((own_base HO8.out (Nat.zero_le _)).alloc _) (fun k hk => .inr (by have := (HO8.out.lt k hk).1; omega)) HAP.out
        have hcg : Ch (fun k => (Value.slice A' s'.recs.length c').ownBlock = some k) (w8.alloc (.cells #[.slice A8 x.length c8] 22)) w9 := Ch.of_grown HAP.out.2.1 (fun k hk _ => hk)
        have hur : ∀ k, (Value.slice A' s'.recs.length c').ownBlock = some k → R1 k ∧ k ≠ g := fun k hk => by
          obtain ⟨_, _, _, _, hr⟩ := seg_last HSG7.out hrl'
          exact (hr.in_ k hk).1
        have CF : Ch (fun k => R1 k ∧ k ≠ g) w6 (w9.setCell ⟨gb', ls'.length * 4 + 3, none⟩ (.slice A9 (s'.recs.length + 1) c9)) :=
          (((HC7.out.mono (fun k _ e => by subst e; exact ⟨hgb', hgn'⟩)).trans (Ch.of_below hal (Nat.le_refl _)) (fun _ _ h => h)).trans (hcg.mono (fun k _ hk => hur k hk)) (fun _ _ h => h)).setCell (fun _ => ⟨hgb', hgn'⟩) _
        have hsF : (w9.setCell ⟨gb', ls'.length * 4 + 3, none⟩ (.slice A9 (s'.recs.length + 1) c9)).heap.size = w9.heap.size := by simp [World.setCell]
        have has : w6.heap.size ≤ (w8.alloc (.cells #[.slice A8 x.length c8] 22)).heap.size := by have := hal.size; omega
        generalize (w9.setCell ⟨gb', ls'.length * 4 + 3, none⟩ (.slice A9 (s'.recs.length + 1) c9)) = wF at hfin CF hsF ⊢
        have hlg : Lg wF (Up R1 w6 wF) g p name most (ls' ++ [⟨s'.num, s'.first, s'.size + (frame x).length, s'.recs ++ [x]⟩]) y' := by
          obtain ⟨_, _, _, _, _, hn16, hmost⟩ := HD6.out.1.lg
          refine ⟨_, _, by simpa using HB6.out.ch CF (fun h => h.2 rfl), .inl hg', (hfin.bound).weaken (fun k hk => ?_), hn16, hmost⟩
          have hgl := HB6.out.lt
          obtain ⟨hk, hlt⟩ := hk
          rcases hk with (hk | hk) | hk
          · exact ⟨.inl hk.1, hk.2⟩
          · exact ⟨.inr ⟨hk, hlt⟩, by omega⟩
          · have h1 := hk.1
            exact ⟨.inr ⟨by omega, hlt⟩, by omega⟩
        have hF := HD6.out.1.logw (CF.mono (fun k _ h => h.1)) hlg
        have HFI := Lib.hid hF
        obtain ⟨gbF, capF, hCF, _, _⟩ := hF.1.cells (by simp)
        have HLA := Lib.hid (lastn_log wF g p gbF capF name most ls' ⟨s'.num, s'.first, s'.size + (frame x).length, s'.recs ++ [x]⟩ y' hCF (by omega))
        have hln : lastS ⟨s'.num, s'.first, s'.size + (frame x).length, s'.recs ++ [x]⟩ = ((s'.first + s'.recs.length : Nat) : Int) := by
          rw [lastS_nat (s := ⟨s'.num, s'.first, s'.size + (frame x).length, s'.recs ++ [x]⟩) h1']
          simp
        rw [hln] at HLA
        clear hln hCF hF hlg hfin CF hcg hur hal
        go_wp2_with fail
        refine HLA.out.mono ?_
        rintro e w10 ⟨rfl, hb10⟩
        have HB10 := Lib.hid hb10
        clear hb10
        go_wp2_with fail
        go_ret2
        refine HQ.out _ _ (.inl ⟨HC0.out, rfl, _, _, HFI.out.1.later HB10.out, ?_⟩)
        exact ((HT6.out.trans HFI.out.2)).trans (Step.below HB10.out)
    · have hq : ((((appS L' room false (nm name s'.num) (frame x)).2 : Nat) : Int) == 0) = false := by rw [beq_eq_false_iff_ne]; omega
      have HC0 := Lib.hid hc0
      clear hc0
      obtain ⟨cc, hcc⟩ : ∃ cc, cc = (appS L' room false (nm name s'.num) (frame x)).2 := ⟨_, rfl⟩
      rw [← hcc] at hq ⊢
      go_wp2_with fail
      go_ret2
      rw [hcc]
      exact HQ.out _ _ (.inr ⟨HC0.out, rfl, _, _, HD6.out.1, (((Step.below HB3.out).trans HS.out).trans (Step.below HB5.out)).trans HD6.out.2⟩)

end Go.Proofs.YtjoonpkgepkkhaaGreatDoor.Wv

/-
  Contracts of layer 4's fits and Get.
-/
namespace Go.Proofs.YtjoonpkgepkkhaaGreatDoor.Ww
open Go Go.RowKit Ck Kw Ga Dm Dw Da Db Dc Dd De Df Dg Dh Wc Wf Wa Wb Wd Wn We Kx Wg Wh Wl Wj Wk Wo Wq Wr Ws Wt Wu Wv
attribute [local go_sem ↓] Go.wp_at_zero Go.wp_at_succ
set_option linter.unusedVariables false

set_option maxRecDepth 100000 in
set_option maxHeartbeats 4000000 in
theorem fits_one (w : World) (S : Nat → Prop) (g p : Nat) (name : Tx) (most synced : Nat) (h : Lg w S g p name most [] synced) (s : Sg) (A : Option Addr) (c : Nat) (h1 : 1 ≤ s.first) :
    Calls Tryz.prog 91 #[.pointer (some ⟨g, 0, none⟩), .agg (SgV s (.slice A s.recs.length c))] w fun e w' => e = .returned (.bool true) ∧ Below w.heap.size w w' := by
  obtain ⟨v, rv, hb, hS, hs, _⟩ := h
  obtain ⟨A0, c0, rfl⟩ := own_shape hs.row
  simp only [List.length_nil] at hb
  have d3 := (hb.alloc (.cells (SgV s (.slice A s.recs.length c)) 97)).cell 3
  simp only [List.getElem?_toArray, List.getElem?_cons_zero, List.getElem?_cons_succ] at d3
  have f1 : (0 : Int) < (s.first : Int) := by omega
  have hal : Below w.heap.size w (w.alloc (.cells (SgV s (.slice A s.recs.length c)) 97)) := (Below.refl _ w).alloc (Nat.le_refl _) _
  have HAL := Lib.hid hal
  simp only [SgV] at d3 ⊢
  clear hs hb hal
  go_enter Tryz.func91, Tryz.ntmps91
  go_wp2_with fail
  go_ret
  exact ⟨rfl, HAL.out⟩

theorem below_n {w w2 : World} (h : ∃ n, w2 = w.drewN n) : Below w.heap.size w w2 := by obtain ⟨n, rfl⟩ := h; exact below_drewN (Below.refl _ _) n
theorem six_below {w w' : World} (b : Below w.heap.size w w') {a1 a2 a3 a4 a5 a6 : Addr} {v1 v2 v3 v4 v5 v6 : Value} (h1 : w.cell? a1 = some v1) (h2 : w.cell? a2 = some v2) (h3 : w.cell? a3 = some v3) (h4 : w.cell? a4 = some v4) (h5 : w.cell? a5 = some v5) (h6 : w.cell? a6 = some v6) :
    w'.cell? a1 = some v1 ∧ w'.cell? a2 = some v2 ∧ w'.cell? a3 = some v3 ∧ w'.cell? a4 = some v4 ∧ w'.cell? a5 = some v5 ∧ w'.cell? a6 = some v6 := by
  have k : ∀ {a : Addr} {v : Value}, w.cell? a = some v → w'.cell? a = some v := fun {a v} h => (b.cell (World.block_lt_of_cell? _ _ h)).trans h
  exact ⟨k h1, k h2, k h3, k h4, k h5, k h6⟩
set_option maxRecDepth 100000 in
set_option maxHeartbeats 4000000 in
theorem fits_more (w : World) (g p gb cap : Nat) (name : Tx) (most synced : Nat) (ls : List Sg) (t s : Sg) (h : LgC w g p gb cap name most (ls ++ [t]) synced) (hl : ls.length ≤ 549755813888) (A : Option Addr) (c : Nat) (h1 : 1 ≤ s.first) (hn : s.num = t.num + 1) (hf : s.first = t.first + t.recs.length) :
    Calls Tryz.prog 91 #[.pointer (some ⟨g, 0, none⟩), .agg (SgV s (.slice A s.recs.length c))] w fun e w' => e = .returned (.bool true) ∧ Below w.heap.size w w' := by
  have hal : Below w.heap.size w (w.alloc (.cells (SgV s (.slice A s.recs.length c)) 97)) := (Below.refl _ w).alloc (Nat.le_refl _) _
  have hbx : Blk (w.alloc (.cells (SgV s (.slice A s.recs.length c)) 97)) w.heap.size 97 (SgV s (.slice A s.recs.length c)) := Blk.new w _ _
  have h' := h.after hal
  have HLA := Lib.hid (last_log _ g p gb cap name most ls t synced h' hl)
  have d3 := h'.blk.cell 3
  simp only [List.getElem?_toArray, List.getElem?_cons_zero, List.getElem?_cons_succ] at d3
  have hgood := h.good t (by simp)
  have HAL := Lib.hid hal
  have HB := Lib.hid hbx
  have H := Lib.hid h'
  have hlen : (0 : Int) < ((ls ++ [t]).length : Int) := by simp only [List.length_append, List.length_cons, List.length_nil]; omega
  obtain ⟨N, hN⟩ : ∃ N, N = (ls ++ [t]).length := ⟨_, rfl⟩
  have hne : ((N : Int) == 0) = false := by rw [beq_eq_false_iff_ne]; omega
  rw [← hN] at d3
  simp only [SgV] at d3 HLA HB H HAL ⊢
  have HN := Lib.hid hn
  have HF := Lib.hid hf
  clear h h' hal hbx hN hlen hn hf
  go_enter Tryz.func91, Tryz.ntmps91
  go_wp2_with fail
  refine HLA.out.mono ?_
  rintro e w2 ⟨rfl, hw2⟩
  have HB2 := Lib.hid (below_n hw2)
  have k0 := HB.out.below HB2.out HB.out.lt
  have s0 := k0.cell 0
  have s1 := k0.cell 1
  simp only [List.getElem?_toArray, List.getElem?_cons_zero, List.getElem?_cons_succ] at s0 s1
  obtain ⟨A2, c2, t0, t1, t2, t3⟩ := (H.out.after HB2.out).row ls.length (by simp)
  simp only [List.getElem_append_right (Nat.le_refl _), Nat.sub_self, List.getElem_cons_zero] at t0 t1 t2 t3
  have hwr : IntKind.i64.wrap ((t.num : Int) + 1) = (s.num : Int) := by have := hgood.num; have := HN.out; rw [wrap64 (by omega) (by omega)]; omega
  have f0 : ((s.first : Int) == 0) = false := by rw [beq_eq_false_iff_ne]; omega
  have HNX := Lib.hid (fun W => next_any W t A2 c2 hgood)
  clear hw2 HLA k0
  go_wp2_with fail
  go_region_held3 (fun w' => w'.cell? ⟨w.heap.size, 0, none⟩ = some (.int .i64 (s.num : Int)) ∧ w'.cell? ⟨w.heap.size, 1, none⟩ = some (.int .i64 (s.first : Int)) ∧ w'.cell? ⟨gb, ls.length * 4, none⟩ = some (.int .i64 (t.num : Int)) ∧ w'.cell? ⟨gb, ls.length * 4 + 1, none⟩ = some (.int .i64 (t.first : Int)) ∧ w'.cell? ⟨gb, ls.length * 4 + 2, none⟩ = some (.int .i64 (t.size : Int)) ∧ w'.cell? ⟨gb, ls.length * 4 + 3, none⟩ = some (.slice A2 t.recs.length c2))
    (first | exact ⟨s0, s1, t0, t1, t2, t3⟩ | exact HOK.out)
    (first
    | (go_at_call 58; refine (HNX.out _).mono ?_; rintro e w3 ⟨rfl, hb3⟩; have HB3 := Lib.hid (below_of_drew hb3); have HOK := Lib.hid (six_below HB3.out s0 s1 t0 t1 t2 t3); clear hb3))
  all_goals
    have hq : ((s.first : Int) == (t.first : Int) + (t.recs.length : Int)) = true := by have := HF.out; rw [beq_iff_eq]; omega
    go_wp2_with fail
    go_ret
    refine ⟨by simp; have := HF.out; omega, (HAL.out.trans (HB2.out.mono HAL.out.size)).trans (HB3.out.mono (Nat.le_trans HAL.out.size HB2.out.size))⟩

end Go.Proofs.YtjoonpkgepkkhaaGreatDoor.Ww

/-
  Contract of layer 4's mend.
-/
namespace Go.Proofs.YtjoonpkgepkkhaaGreatDoor.Wx
open Go Go.RowKit Ck Kw Ga Dm Dw Da Db Dc Dd De Df Dg Dh Wc Wf Wa Wb Wd Wn We Kx Wg Wh Wl Wj Wk Wo Wq Wr Ws Wt Wu Wv Ww
attribute [local go_sem ↓] Go.wp_at_zero Go.wp_at_succ
set_option linter.unusedVariables false

/-- All the files of these segments, sure. -/
def syncAll (L : List Fl) (name : Tx) : List Sg → List Fl
  | [] => L
  | s :: ss => syncAll (syncS L false (nm name s.num)).1 name ss
theorem find_upd {L : List Fl} {n t : Tx} {h : Fl → Fl} (hn : ∀ f, (h f).n = f.n) : find (upd L n h) t = (find L t).map (fun f => if f.n = n then h f else f) := by
  induction L with
  | nil => rfl
  | cons f L ih =>
    simp only [find, upd, List.map_cons, List.find?_cons] at ih ⊢
    by_cases e : f.n = n
    · rw [if_pos e, hn]
      by_cases e2 : (f.n == t) = true
      · rw [e2]
        simp [e]
      · have e2 : (f.n == t) = false := by simpa using e2
        simp only [e2]
        exact ih
    · rw [if_neg e]
      by_cases e2 : (f.n == t) = true
      · rw [e2]
        simp [e]
      · have e2 : (f.n == t) = false := by simpa using e2
        simp only [e2]
        exact ih
theorem some_sync {L : List Fl} {n t : Tx} (h : (find L t).isSome = true) : (find (syncS L false n).1 t).isSome = true := by
  simp only [syncS]
  cases hf : find L n with
  | none => simpa [hf] using h
  | some f =>
    have e : (if false = true then (L, 32) else (upd L f.n (setf f.b f.b.length), 0)) = (upd L f.n (setf f.b f.b.length), (0 : Nat)) := rfl
    simp only [Bool.false_eq_true, if_false]
    rw [find_upd (h := setf f.b f.b.length) (fun _ => rfl)]
    simpa using h
theorem syncAll_snoc {name : Tx} : ∀ (ss : List Sg) (L : List Fl) (s : Sg), syncAll L name (ss ++ [s]) = (syncS (syncAll L name ss) false (nm name s.num)).1
  | [], L, s => rfl
  | a :: ss, L, s => by simp only [List.cons_append, syncAll, syncAll_snoc ss]
theorem some_all {name : Tx} {t : Tx} : ∀ (ss : List Sg) (L : List Fl), (find L t).isSome = true → (find (syncAll L name ss) t).isSome = true
  | [], L, h => h
  | a :: ss, L, h => some_all ss _ (some_sync h)
theorem sync_zero {L : List Fl} {n : Tx} (h : (find L n).isSome = true) : (syncS L false n).2 = 0 := by
  cases hf : find L n with
  | none => simp [hf] at h
  | some f => simp [syncS, hf]

/-- Where mend's loop stands. -/
def MendAt (S1 S2 : Nat → Prop) (g p room : Nat) (name : Tx) (most synced : Nat) (segs : List Sg) (L1 : List Fl) (w3 wr : World) (k : Nat) : Prop :=
  ∃ T2, LDs wr S1 T2 g p (syncAll L1 name (segs.take k)) room name most segs synced ∧ Step S1 S2 S1 T2 w3 wr
theorem lt_cells {w : World} {g p gb cap most synced : Nat} {name : Tx} {segs : List Sg} (h : LgC w g p gb cap name most segs synced) {k : Nat} (hk : k < segs.length) : w.cell? ⟨g, 0, none⟩ = some (.pointer (some ⟨p, 0, none⟩)) ∧ w.cell? ⟨g, 3, none⟩ = some (.slice (some ⟨gb, 0, none⟩) segs.length cap) ∧ w.cell? ⟨gb, k * 4, none⟩ = some (.int .i64 (segs[k].num : Int)) := by
  obtain ⟨A, c, q0, _⟩ := h.row k hk
  exact ⟨h.blk.cell 0, h.blk.cell 3, q0⟩
theorem three_below {w w' : World} (b : Below w.heap.size w w') {a1 a2 a3 : Addr} {v1 v2 v3 : Value} (h : w.cell? a1 = some v1 ∧ w.cell? a2 = some v2 ∧ w.cell? a3 = some v3) : w'.cell? a1 = some v1 ∧ w'.cell? a2 = some v2 ∧ w'.cell? a3 = some v3 := by
  have k : ∀ {a : Addr} {v : Value}, w.cell? a = some v → w'.cell? a = some v := fun {a v} h => (b.cell (World.block_lt_of_cell? _ _ h)).trans h
  exact ⟨k h.1, k h.2.1, k h.2.2⟩
theorem three_ch {w w' : World} {S : Nat → Prop} (b : Ch S w w') {a1 a2 a3 : Addr} {v1 v2 v3 : Value} (h : w.cell? a1 = some v1 ∧ w.cell? a2 = some v2 ∧ w.cell? a3 = some v3) (h1 : ¬ S a1.block) (h2 : ¬ S a2.block) (h3 : ¬ S a3.block) : w'.cell? a1 = some v1 ∧ w'.cell? a2 = some v2 ∧ w'.cell? a3 = some v3 :=
  ⟨b.cell h.1 h1, b.cell h.2.1 h2, b.cell h.2.2 h3⟩

set_option maxRecDepth 100000 in
set_option maxHeartbeats 8000000 in
theorem mend_log (w : World) (S1 S2 : Nat → Prop) (g p : Nat) (L : List Fl) (room : Nat) (name : Tx) (most : Nat) (ls : List Sg) (s : Sg) (synced : Nat) (f : Fl) (h : LDs w S1 S2 g p L room name most (ls ++ [s]) synced) (hl : ls.length ≤ 549755813888) (h1 : 1 ≤ s.first) (hf : find L (nm name s.num) = some f) (hsz : s.size ≤ f.b.length)
    (hall : ∀ t ∈ ls ++ [s], (find (truncS L false (nm name s.num) s.size).1 (nm name t.num)).isSome = true) :
    Calls Tryz.prog 92 #[.pointer (some ⟨g, 0, none⟩)] w fun e w' => e = .returned (.int .i64 0) ∧ Wal S1 S2 g p room name most w (syncAll (truncS L false (nm name s.num) s.size).1 name (ls ++ [s])) (ls ++ [s]) synced w' := by
  obtain ⟨L1, htr⟩ : ∃ L1, truncS L false (nm name s.num) (s.size : Int) = (L1, 0) := ⟨_, by
    simp only [truncS, hf]
    rw [if_neg (by simp), if_neg (by omega)]⟩
  simp only [htr] at hall ⊢
  have hnm : ∀ t ∈ ls ++ [s], (nm name t.num).length ≤ 140737488355328 ∧ t.num < 1000000000000000 := fun t ht => by
    have hn := (h.good t ht).num
    have := nm_len (name := name) (k := t.num) hn
    have := h.name_le
    exact ⟨by omega, hn⟩
  have HNM := Lib.hid hnm
  have HN16 := Lib.hid h.name_le
  have HTR := Lib.hid htr
  have HALL := Lib.hid hall
  have H := Lib.hid h
  obtain ⟨gb, cap, hC, hgb, hgn⟩ := h.cells (by simp)
  have HC := Lib.hid hC
  have HLA := Lib.hid (last_log w g p gb cap name most ls s synced hC hl)
  have hnl := (hnm s (by simp)).1
  have hns := (hnm s (by simp)).2
  clear h hf hsz htr hall hnm hC
  go_enter Tryz.func92, Tryz.ntmps92
  go_wp2_with fail
  refine HLA.out.mono ?_
  rintro e w1 ⟨rfl, hw1⟩
  have HB1 := Lib.hid (below_n hw1)
  have hC1 := HC.out.after HB1.out
  obtain ⟨A1, c1, q0, q1, q2, q3⟩ := hC1.row ls.length (by simp)
  simp only [List.getElem_append_right (Nat.le_refl _), Nat.sub_self, List.getElem_cons_zero] at q0 q1 q2 q3
  have c0 : w1.cell? ⟨g, 0, none⟩ = some (.pointer (some ⟨p, 0, none⟩)) := hC1.blk.cell 0
  have f0 : ((s.first : Int) == 0) = false := by rw [beq_eq_false_iff_ne]; omega
  have HC1 := Lib.hid hC1
  clear hw1 HLA hC1
  go_wp2_with fail
  go_region_held3 (fun w' => w'.cell? ⟨g, 0, none⟩ = some (.pointer (some ⟨p, 0, none⟩)) ∧ w'.cell? ⟨gb, ls.length * 4 + 2, none⟩ = some (.int .i64 (s.size : Int))) (first | exact ⟨c0, q2⟩ | exact d0 | exact d1)
    (first
    | (go_at_call 56; refine (file_log _ g p name most synced _ (HC1.out.after (below_drewN (Below.refl _ w1) 1)).blk HN16.out (H.out.later (HB1.out.trans ((below_drewN (Below.refl _ w1) 1).mono HB1.out.size))).tab gb _ s.num hns q0).mono ?_; rintro e w2 ⟨rfl, hb2⟩; have hb2 := below_of_drew hb2; have HB2 : Hid (Below w.heap.size w w2) := Lib.hid (HB1.out.trans (hb2.mono HB1.out.size)); have d0 : w2.cell? ⟨g, 0, none⟩ = some (.pointer (some ⟨p, 0, none⟩)) ∧ w2.cell? ⟨gb, ls.length * 4 + 2, none⟩ = some (.int .i64 (s.size : Int)) := ⟨(hb2.cell (World.block_lt_of_cell? _ _ c0)).trans c0, (hb2.cell (World.block_lt_of_cell? _ _ q2)).trans q2⟩; clear hb2)
    | (go_at_call 124; refine (trunc_on _ S2 p L room false (nm name s.num) hnl (H.out.later HB2.out).dk (s.size : Int)).mono ?_; rintro e w3 hd3; have HD3 := Lib.hid ((H.out.later HB2.out).disk hd3); rw [HTR.out] at hd3 HD3; obtain ⟨rfl, -, hc3⟩ := hd3; have d1 : w3.cell? ⟨g, 0, none⟩ = some (.pointer (some ⟨p, 0, none⟩)) ∧ w3.cell? ⟨gb, ls.length * 4 + 2, none⟩ = some (.int .i64 (s.size : Int)) := ⟨hc3.cell d0.1 (fun h2 => by obtain ⟨v, rv, _, hg1, _⟩ := H.out.lg; exact H.out.apart g hg1 h2), hc3.cell d0.2 (fun h2 => H.out.apart gb hgb h2)⟩; have HC3 := Lib.hid hc3; clear hc3))
  have hC3 := (HC.out.after HB2.out).ch HC3.out (fun h2 => by obtain ⟨v, rv, _, hg1, _⟩ := H.out.lg; exact H.out.apart g hg1 h2) (fun h2 => H.out.apart gb hgb h2)
  have c3 : w3.cell? ⟨g, 3, none⟩ = some (.slice (some ⟨gb, 0, none⟩) (ls ++ [s]).length cap) := hC3.blk.cell 3
  have hMA : MendAt S1 (Up S2 w2 w3) g p room name most synced (ls ++ [s]) L1 w3 w3 0 := ⟨_, HD3.out.1, Step.refl _ _ _⟩
  have HMA := Lib.hid hMA
  have hlen : (ls ++ [s]).length ≤ 549755813889 := by simp; omega
  have HS3 : Hid (Step S1 S2 S1 (Up S2 w2 w3) w w3) := Lib.hid ((Step.below HB2.out).trans HD3.out.2)
  generalize hsg : ls ++ [s] = segs at *
  have HSG := Lib.hid hsg
  clear hsg
  clear hC3 hMA d1 d0 HD3 HC1 HTR HC H q0 q1 q2 q3 c0
  go_wp2_with fail
  go_loopw [41] (fun i wr => ∃ k : Nat, k ≤ segs.length ∧ i = .int .i64 k ∧ Hid (MendAt S1 (Up S2 w2 w3) g p room name most synced segs L1 w3 wr k)) (fun i _ => segs.length - (intOf i).toNat)
  case atStart => exact ⟨0, Nat.zero_le _, rfl, HMA⟩
  case round =>
    obtain ⟨k, hk, rfl, hm⟩ := hrel
    by_cases hlt : k < segs.length
    · obtain ⟨T2, hD, hS⟩ := hm.out
      have hn1 := (HNM.out _ (List.getElem_mem hlt)).1
      have hn2 := (HNM.out _ (List.getElem_mem hlt)).2
      have hz := sync_zero (some_all (segs.take k) L1 (HALL.out _ (List.getElem_mem hlt)) : (find (syncAll L1 name (segs.take k)) (nm name segs[k].num)).isSome = true)
      have htk : syncAll L1 name (segs.take (k + 1)) = (syncS (syncAll L1 name (segs.take k)) false (nm name segs[k].num)).1 := by rw [List.take_succ_eq_append_getElem hlt, syncAll_snoc]
      obtain ⟨L2, hL2⟩ : ∃ L2, syncS (syncAll L1 name (segs.take k)) false (nm name segs[k].num) = (L2, 0) := ⟨_, Prod.ext rfl hz⟩
      rw [hL2] at htk
      have HTK := Lib.hid htk
      have HL2 := Lib.hid hL2
      have HD := Lib.hid hD
      have HS := Lib.hid hS
      obtain ⟨gbr, capr, hCr, hg1, hg2⟩ := hD.cells (by omega)
      have HCr := Lib.hid hCr
      have HP := Lib.hid (lt_cells hCr hlt)
      have HG := Lib.hid (show S1 g by obtain ⟨_, _, _, h, _⟩ := hD.lg; exact h)
      clear hz htk hL2 hD hS hCr hm
      go_wp2_with fail
      go_region_held3 (fun w' => w'.cell? ⟨g, 0, none⟩ = some (.pointer (some ⟨p, 0, none⟩)) ∧ w'.cell? ⟨g, 3, none⟩ = some (.slice (some ⟨gbr, 0, none⟩) segs.length capr) ∧ w'.cell? ⟨gbr, k * 4, none⟩ = some (.int .i64 (segs[k].num : Int))) (first | exact HP.out | exact HP4.out | exact HP5.out)
        (first
        | (go_at_call 56; refine (file_log _ g p name most synced _ (HCr.out.after (below_drewN (Below.refl _ wr) 1)).blk HN16.out (HD.out.later (below_drewN (Below.refl _ wr) 1)).tab gbr _ segs[k].num hn2 HP.out.2.2).mono ?_; rintro e w4 ⟨rfl, hb4⟩; have HB4 : Hid (Below wr.heap.size wr w4) := Lib.hid (below_of_drew hb4); have HP4 := Lib.hid (three_below HB4.out HP.out); clear hb4)
        | (go_at_call 34; refine (sync_on _ T2 p _ room false (nm name segs[k].num) hn1 (HD.out.later HB4.out).dk).mono ?_; rintro e w5 hd5; have HD5 := Lib.hid ((HD.out.later HB4.out).disk hd5); rw [HL2.out] at hd5 HD5; obtain ⟨rfl, -, hc5⟩ := hd5; have HP5 := Lib.hid (three_ch hc5 HP4.out (fun h2 => HD.out.apart g HG.out h2) (fun h2 => HD.out.apart g HG.out h2) (fun h2 => HD.out.apart gbr hg1 h2)); clear hc5))
      all_goals
        go_wp2_with fail
        go_roundw
        case rel => exact ⟨k + 1, by omega, by go_num, Lib.hid ⟨_, by rw [HTK.out]; exact HD5.out.1, (HS.out.trans (Step.below HB4.out)).trans HD5.out.2⟩⟩
        case measure => simp [intOf]; omega
    · have hke : k = segs.length := by omega
      subst hke
      obtain ⟨T2, hD, hS⟩ := hm.out
      rw [List.take_length] at hD
      have HD := Lib.hid hD
      clear hD hm
      go_wp2_with fail
      go_ret
      rw [HSG.out]
      exact ⟨rfl, _, _, HD.out, HS3.out.trans hS⟩

end Go.Proofs.YtjoonpkgepkkhaaGreatDoor.Wx

/-
  Words for layer 4's load: a segment more.
-/
namespace Go.Proofs.YtjoonpkgepkkhaaGreatDoor.Wy
open Go Go.RowKit Ck Kw Ga Dm Dw Da Db Dc Dd De Df Dg Dh Wc Wf Wa Wb Wd Wn We Kx Wg Wh Wl Wj Wk Wo Wq Wr Ws Wt Wu Wv Ww Wx
attribute [local go_sem ↓] Go.wp_at_zero Go.wp_at_succ
set_option linter.unusedVariables false

/-- The log's blocks, and all that came since. -/
def Wide (T : Nat → Prop) (wa w : World) (k : Nat) : Prop := T k ∨ (wa.heap.size ≤ k ∧ k < w.heap.size)
theorem LDs.wide {wa w : World} {T1 S2 : Nat → Prop} {g p room most y : Nat} {L : List Fl} {name : Tx} {segs : List Sg} (h : LDs wa T1 S2 g p L room name most segs y) (b : Below wa.heap.size wa w) : LDs w (Wide T1 wa w) S2 g p L room name most segs y ∧ Step T1 S2 (Wide T1 wa w) S2 wa w := by
  have h' := h.later b
  refine ⟨⟨h'.lg.weaken (fun k hk => .inl hk), h'.dk, fun k a c => ?_, fun k hk => ?_, h'.b2, h'.tab, fun hz => ?_, h'.z2⟩, fun k hk => hk, fun k hk => .inl hk, Ch.of_below b (Nat.le_refl _)⟩
  · rcases a with a | a
    · exact h.apart k a c
    · have := h.b2 k c; omega
  · rcases hk with hk | hk
    · exact h'.b1 k hk
    · exact hk.2
  · rcases hz with hz | hz
    · exact h.z1 hz
    · have := h.zero; omega
theorem lds_push {wa w6 w7 : World} {T1 S2 : Nat → Prop} {g p room most y : Nat} {L : List Fl} {name : Tx} {segs : List Sg} {s : Sg} {Au A6 A7 : Option Addr} {cu c6 c7 N : Nat} {rv : List Value} (hN : N = segs.length) (h : LDs wa T1 S2 g p L room name most segs y) (b : Below wa.heap.size wa w6)
    (hu : Rcs w6 (fun k => wa.heap.size ≤ k ∧ k < w6.heap.size) (.slice Au s.recs.length cu) s.recs) (hg : GoodS s) (hsg : Segs w6 (fun k => T1 k ∧ k ≠ g) (.slice A6 N c6) segs rv)
    (hblk : Blk w6 g 64 #[.pointer (some ⟨p, 0, none⟩), .string ⟨name.toArray⟩, .int .i64 (most : Int), .slice A6 N c6, .int .i64 (y : Int)])
    (happ : Appended (w6.alloc (.cells (SgV s (.slice Au s.recs.length cu)) 97)) 0 97 4 (.slice A6 N c6) (N + 1) (cellsS segs rv ++ segCells s (.slice Au s.recs.length cu)) (.slice A7 (N + 1) c7) w7) :
    ∃ T1', LDs (w7.setCell ⟨g, 3, none⟩ (.slice A7 (N + 1) c7)) T1' S2 g p L room name most (segs ++ [s]) y ∧ Step T1 S2 T1' S2 wa (w7.setCell ⟨g, 3, none⟩ (.slice A7 (N + 1) c7)) := by
  subst hN
  have hw := LDs.wide h b
  have hbs := b.size
  have hal : Below w6.heap.size w6 (w6.alloc (.cells (SgV s (.slice Au s.recs.length cu)) 97)) := (Below.refl _ _).alloc (Nat.le_refl _) _
  have q7 := (hblk.alloc (.cells (SgV s (.slice Au s.recs.length cu)) 97)).grown happ.2.1 (fun e1 => own_far hsg.row hblk (by decide) e1.symm)
  have hgS : T1 g := by obtain ⟨_, _, _, h, _⟩ := h.lg; exact h
  have hga : g < wa.heap.size := h.b1 g hgS
  have hsgW : Segs w6 (fun k => Wide T1 wa w6 k ∧ k ≠ g) (.slice A6 segs.length c6) segs rv := hsg.weaken (fun k hk => ⟨.inl hk.1, hk.2⟩)
  have huW : Rcs w6 (fun k => Wide T1 wa w6 k ∧ k ≠ g) (.slice Au s.recs.length cu) s.recs := hu.weaken (fun k hk => ⟨.inr hk, by omega⟩)
  have hpush := Segs.push (s := s) (u := .slice Au s.recs.length cu) (hsgW.ch (Ch.of_below (S := fun _ => False) hal (Nat.le_refl _)) (fun _ _ h => h)) (huW.after hal) (fun k i u1 hk hi he => by
    have h1 := (hu.in_ k hk).1
    have hil : i < segs.length := by have := (List.getElem?_eq_some_iff.1 hi).1; rw [hsg.len] at this; exact this
    obtain ⟨u', hu', hr⟩ := hsg.rcs i hil
    rw [hi] at hu'
    injection hu' with hu'
    subst hu'
    have := (hr.in_ k he).1.1
    have := h.b1 k this
    omega) hg happ
  have hrow : ∀ k, (Value.slice A6 segs.length c6).ownBlock = some k → Wide T1 wa w6 k ∧ k ≠ g := fun k hk => hsgW.own k hk
  have hc7 : Ch (Wide T1 wa w6) w6 w7 := (Ch.of_below hal (Nat.le_refl _)).trans (Ch.of_grown (S := Wide T1 wa w6) happ.2.1 (fun k hk _ => (hrow k hk).1)) (fun _ _ h => h)
  have hcf : Ch (Wide T1 wa w6) w6 (w7.setCell ⟨g, 3, none⟩ (.slice A7 (segs.length + 1) c7)) := hc7.setCell (fun _ => .inl hgS) _
  have hlg : Lg (w7.setCell ⟨g, 3, none⟩ (.slice A7 (segs.length + 1) c7)) (Up (Wide T1 wa w6) w6 (w7.setCell ⟨g, 3, none⟩ (.slice A7 (segs.length + 1) c7))) g p name most (segs ++ [s]) y := by
    obtain ⟨_, _, _, _, _, hn16, hmost⟩ := h.lg
    refine ⟨.slice A7 (segs.length + 1) c7, rv ++ [.slice Au s.recs.length cu], by have := q7.set_ 3 (.slice A7 (segs.length + 1) c7); simpa using this, .inl (.inl hgS), ?_, hn16, hmost⟩
    refine (hpush.ch ((Ch.refl (fun k => k = g) w7).setCell (p := ⟨g, 3, none⟩) (fun _ => rfl) _) (fun k hk e => ?_)).weaken (fun k hk => ?_)
    · subst e
      rcases hk with hk | hk
      · exact hk.2 rfl
      · have := hk.1; simp at this; have := hblk.lt; omega
    · rcases hk with hk | hk
      · exact ⟨.inl hk.1, hk.2⟩
      · have h1 := hk.1
        simp at h1
        exact ⟨.inr ⟨by omega, by have := hk.2; simpa [World.setCell] using this⟩, by have := hblk.lt; omega⟩
  have hfin := hw.1.logw hcf hlg
  exact ⟨_, hfin.1, hw.2.trans hfin.2⟩

end Go.Proofs.YtjoonpkgepkkhaaGreatDoor.Wy

/-
  Contract of layer 4's load.
-/
namespace Go.Proofs.YtjoonpkgepkkhaaGreatDoor.Wz
open Go Go.RowKit Ck Kw Ga Dm Dw Da Db Dc Dd De Df Dg Dh Wc Wf Wa Wb Wd Wn We Kx Wg Wh Wl Wj Wk Wo Wq Wr Ws Wt Wu Wv Ww Wx Wy
attribute [local go_sem ↓] Go.wp_at_zero Go.wp_at_succ
set_option linter.unusedVariables false

/-- A segment stands in its file; what is behind its whole frames may stand in the last file alone. -/
structure IsAt (L : List Fl) (name : Tx) (s : Sg) (f : Fl) (xs : List Tx) (r : Tx) : Prop where
  file : find L (nm name s.num) = some f
  frs : Frs f.b xs r
  seg : segOf s.num xs = s
  first : 1 ≤ s.first
  good : GoodS s
  size : s.size ≤ f.b.length
  len : f.b.length ≤ 4194304
structure Loads (L : List Fl) (name : Tx) (segs : List Sg) : Prop where
  at_ : ∀ i (h : i < segs.length), ∃ f xs r, IsAt L name segs[i] f xs r ∧ (i + 1 < segs.length → segs[i].size = f.b.length)
  chain : ∀ i (h : i + 1 < segs.length), segs[i + 1].num = segs[i].num + 1 ∧ segs[i + 1].first = segs[i].first + segs[i].recs.length
  few : segs.length ≤ 64
theorem sl_get {w : World} {X : Nat → Prop} {A : Option Addr} {n c : Nat} {l : List Value} (h : Sl w X 1 (.slice A n c) n l) {k : Nat} (hk : k < l.length) : ∃ ad, A = some ad ∧ ad.block < w.heap.size ∧ ¬ X ad.block ∧ w.cell? (ad.add k) = some l[k] := by
  obtain ⟨A0, c0, hv, hl, hc, hm, hx⟩ := h
  injection hv with e1 e2 e3
  have hn : n = l.length := by simpa using hl.symm
  obtain ⟨ad, hA, hb, hX, hcell⟩ := hx (by omega)
  exact ⟨ad, e1.trans hA, hb, hX, hcell k _ (by simp [hk])⟩
theorem fits_at (w : World) (T1 S2 : Nat → Prop) (g p room most y : Nat) (L : List Fl) (name : Tx) (segs : List Sg) (k : Nat) (hlt : k < segs.length) (hL : Loads L name segs) (h : LDs w T1 S2 g p L room name most (segs.take k) y) (A : Option Addr) (c : Nat) :
    Calls Tryz.prog 91 #[.pointer (some ⟨g, 0, none⟩), .agg (SgV segs[k] (.slice A segs[k].recs.length c))] w fun e w' => e = .returned (.bool true) ∧ Below w.heap.size w w' := by
  obtain ⟨f, xs, r, ha, _⟩ := hL.at_ k hlt
  have hfew := hL.few
  cases k with
  | zero => exact fits_one w T1 g p name most y (by simpa using h.lg) segs[0] A c ha.first
  | succ k =>
    have h2 := h
    rw [List.take_succ_eq_append_getElem (show k < segs.length by omega)] at h2
    obtain ⟨gb, cap, hC, _, _⟩ := h2.cells (by simp only [List.length_append, List.length_cons, List.length_nil]; omega)
    have hch := hL.chain k (by omega)
    exact fits_more w g p gb cap name most y (segs.take k) segs[k] segs[k + 1] hC (by simp; omega) A c ha.first hch.1 hch.2
/-- Where load's loop stands. -/
def LoadAt (S1 S2 : Nat → Prop) (g p room : Nat) (name : Tx) (most y : Nat) (segs : List Sg) (L : List Fl) (w wr : World) (k : Nat) : Prop :=
  ∃ T1, LDs wr T1 S2 g p L room name most (segs.take k) y ∧ Step S1 S2 T1 S2 w wr
theorem two_below {w w' : World} (b : Below w.heap.size w w') {a1 a2 : Addr} {v1 v2 : Value} (h : w.cell? a1 = some v1 ∧ w.cell? a2 = some v2) : w'.cell? a1 = some v1 ∧ w'.cell? a2 = some v2 := by
  have k : ∀ {a : Addr} {v : Value}, w.cell? a = some v → w'.cell? a = some v := fun {a v} h => (b.cell (World.block_lt_of_cell? _ _ h)).trans h
  exact ⟨k h.1, k h.2⟩
theorem lds_blk {w : World} {T1 S2 : Nat → Prop} {g p room most y : Nat} {L : List Fl} {name : Tx} {segs : List Sg} (h : LDs w T1 S2 g p L room name most segs y) : ∃ A c rv, Blk w g 64 #[.pointer (some ⟨p, 0, none⟩), .string ⟨name.toArray⟩, .int .i64 (most : Int), .slice A segs.length c, .int .i64 (y : Int)] ∧ Segs w (fun k => T1 k ∧ k ≠ g) (.slice A segs.length c) segs rv := by
  obtain ⟨v, rv, h1, _, h3, _⟩ := h.lg
  obtain ⟨A, c, rfl⟩ := own_shape h3.row
  exact ⟨A, c, rv, h1, h3⟩

set_option maxRecDepth 100000 in
set_option maxHeartbeats 16000000 in
theorem load_log (w : World) (S1 S2 X : Nat → Prop) (g p : Nat) (L : List Fl) (room : Nat) (name : Tx) (most : Nat) (ls : List Sg) (s : Sg) (synced : Nat) (hd : LDs w S1 S2 g p L room name most [] synced) (hL : Loads L name (ls ++ [s]))
    (hall : ∀ t ∈ ls ++ [s], (find (truncS L false (nm name s.num) s.size).1 (nm name t.num)).isSome = true) (A : Option Addr) (c : Nat) (hN : Sl w X 1 (.slice A (ls ++ [s]).length c) (ls ++ [s]).length ((ls ++ [s]).map (fun t => Value.int .i64 (t.num : Int)))) (hX1 : ∀ k, S1 k → X k) (hX2 : ∀ k, S2 k → X k) :
    Calls Tryz.prog 50 #[.pointer (some ⟨g, 0, none⟩), .slice A (ls ++ [s]).length c] w fun e w' => e = .returned (.int .i64 0) ∧ Wal S1 S2 g p room name most w (syncAll (truncS L false (nm name s.num) s.size).1 name (ls ++ [s])) (ls ++ [s]) synced w' := by
  have hs0 := hL.at_ ls.length (by simp)
  simp only [List.getElem_append_right (Nat.le_refl _), Nat.sub_self, List.getElem_cons_zero] at hs0
  have HMEND : Hid (∀ W T1, LDs W T1 S2 g p L room name most (ls ++ [s]) synced → Calls Tryz.prog 92 #[.pointer (some ⟨g, 0, none⟩)] W fun e w' => e = .returned (.int .i64 0) ∧ Wal T1 S2 g p room name most W (syncAll (truncS L false (nm name s.num) s.size).1 name (ls ++ [s])) (ls ++ [s]) synced w') := Lib.hid fun W T1 h => by
    obtain ⟨f, xs, r, ha, _⟩ := hs0
    have := hL.few
    exact mend_log W T1 S2 g p L room name most ls s synced f h (by simp at this; omega) ha.first ha.file ha.size hall
  have HD := Lib.hid hd
  have HL := Lib.hid hL
  have hfew : (ls ++ [s]).length ≤ 64 := hL.few
  have hpos : 0 < (ls ++ [s]).length := by simp
  have HN := Lib.hid hN
  have HX := Lib.hid (And.intro hX1 hX2)
  have hn16 := hd.name_le
  have HLA : Hid (LoadAt S1 S2 g p room name most synced (ls ++ [s]) L w w 0) := Lib.hid ⟨_, by simpa using hd, Step.refl _ _ _⟩
  generalize hsg : ls ++ [s] = segs at *
  have HSG := Lib.hid hsg
  have HNL : Hid (∀ t ∈ segs, t.num < 1000000000000000 → (nm name t.num).length ≤ 140737488355328) := Lib.hid fun t _ hn => by
    have := nm_len (name := name) (k := t.num) hn
    omega
  clear hs0 hd hL hN hX1 hX2 hall hsg
  obtain ⟨n, hn⟩ : ∃ n, n = segs.length := ⟨_, rfl⟩
  rw [← hn] at HN hfew hpos ⊢
  have hn0 : ((n : Int) == 0) = false := by rw [beq_eq_false_iff_ne]; omega
  have HNN := Lib.hid hn
  clear hn
  go_enter Tryz.func50, Tryz.ntmps50
  go_wp2_with fail
  go_loopw [18] (fun i wr => ∃ k : Nat, k ≤ n ∧ i = .int .i64 k ∧ Hid (LoadAt S1 S2 g p room name most synced segs L w wr k)) (fun i _ => n - (intOf i).toNat)
  case atStart => exact ⟨0, Nat.zero_le _, rfl, HLA⟩
  case round =>
    obtain ⟨k, hk, rfl, hm⟩ := hrel
    by_cases hlt : k < n
    · obtain ⟨T1, hD, hS⟩ := hm.out
      have hlt' : k < segs.length := by have := HNN.out; omega
      obtain ⟨f, xs, r, ha, hwh⟩ := HL.out.at_ k hlt'
      have HA := Lib.hid ha
      have HW := Lib.hid hwh
      have hNr := HN.out.ch hS.ch (fun j _ hj => by
        rcases hj with hj | hj
        · exact HX.out.1 j hj
        · exact HX.out.2 j hj)
      obtain ⟨ad, rfl, hadl, -, hcell⟩ := sl_get hNr (k := k) (by simpa using hlt')
      simp only [List.getElem_map] at hcell
      obtain ⟨A6, c6, rv, hblk, hseg⟩ := lds_blk hD
      have HP : Hid (wr.cell? ⟨g, 0, none⟩ = some (.pointer (some ⟨p, 0, none⟩)) ∧ wr.cell? ⟨g, 1, none⟩ = some (.string ⟨name.toArray⟩)) := Lib.hid ⟨hblk.cell 0, hblk.cell 1⟩
      have HFT := Lib.hid (fun W (b : Below wr.heap.size wr W) => fits_at W T1 S2 g p room most synced L name segs k hlt' HL.out (hD.later b))
      have hnum := ha.good.num
      have hnl := HNL.out _ (List.getElem_mem hlt') hnum
      have hget : getS L false (nm name segs[k].num) = (f.b, 0) := by simp [getS, ha.file]
      have HGET := Lib.hid hget
      have HDR := Lib.hid hD
      have HS := Lib.hid hS
      have HBK := Lib.hid hblk
      have HSE := Lib.hid hseg
      obtain ⟨sg, hsg⟩ : ∃ sg, sg = segs[k] := ⟨_, rfl⟩
      have HSK := Lib.hid hsg
      rw [← hsg] at HA HW HFT hnum hnl HGET hcell
      clear hm hD hS ha hwh hNr hblk hseg hget hsg
      go_wp2_with fail
      go_region_held3 (fun w' => w'.cell? ⟨g, 0, none⟩ = some (.pointer (some ⟨p, 0, none⟩)) ∧ w'.cell? ⟨g, 1, none⟩ = some (.string ⟨name.toArray⟩)) (first | exact HP.out | exact HP4.out | exact HP5.out)
        (first
        | (go_at_call 89; refine (file_name _ name sg.num (HDR.out.later (below_drewN (Below.refl _ wr) 1)).tab hnum (by omega)).mono ?_; rintro e w4 ⟨rfl, hb4⟩; have HB4 : Hid (Below wr.heap.size wr w4) := Lib.hid (below_of_drew hb4); have HP4 := Lib.hid (two_below HB4.out HP.out); clear hb4)
        | (go_at_call 31; refine (get_on _ S2 p L room false (nm name sg.num) hnl (HDR.out.later HB4.out).dk).mono ?_; rintro e w5 hg5; rw [HGET.out] at hg5; obtain ⟨A5, c5, rfl, ho5, hb5⟩ := hg5; have HO5 := Lib.hid ho5; have HB5 := Lib.hid (HB4.out.trans (hb5.mono HB4.out.size)); have HP5 := Lib.hid (two_below hb5 HP4.out); clear hb5 ho5))
      all_goals
        go_wp2_with fail
        refine (parse_any w5 (fun _ => False) sg.num hnum A5 c5 f.b r xs (Sl.of_own HO5.out (fun _ _ _ h => h)) (by have := HA.out.len; omega) HA.out.frs).mono ?_
        rintro e w6 ⟨v, rfl, hrc, hb6⟩
        rw [HA.out.seg] at hrc ⊢
        obtain ⟨Au, cu, rfl⟩ := hrc.shape
        have HRC := Lib.hid hrc
        have HB6 := Lib.hid (HB5.out.trans (hb6.mono HB5.out.size))
        clear hrc hb6
        simp only [SgV]
        have f0 : ((sg.first : Int) == 0) = false := by have := HA.out.first; rw [beq_eq_false_iff_ne]; omega
        by_cases hwhole : sg.size = f.b.length
        focus
          have hz : ¬ sg.size < f.b.length := by omega
          clear hwhole
          go_wp2_with fail
        rotate_left
        focus
          have hz : sg.size < f.b.length := by have := HA.out.size; omega
          have hk1 : k + 1 = n := by
            have := HNN.out
            by_cases h : k + 1 < segs.length
            · exact absurd (HW.out h) hwhole
            · omega
          have hwn : IntKind.i64.wrap ((n : Int) - 1) = (n : Int) - 1 := wrap64 (by omega) (by omega)
          have hkn : ¬ (k : Int) < (n : Int) - 1 := by omega
          clear hwhole hk1
          go_wp2_with fail
        rotate_left
        all_goals
          refine (HFT.out _ (HB6.out.alloc HB6.out.size (.cells (SgV sg (.slice Au sg.recs.length cu)) 97)) Au cu).mono ?_
          rintro e w7 ⟨rfl, hb7⟩
          have HB7 : Hid (Below wr.heap.size wr w7) := Lib.hid ((HB6.out.alloc HB6.out.size _).trans (hb7.mono (by have := HB6.out.size; simp; omega)))
          have HB67 : Hid (Below w6.heap.size w6 w7) := Lib.hid (((Below.refl _ w6).alloc (Nat.le_refl _) _).trans (hb7.mono (by simp)))
          have kb := (Blk.new w6 97 (SgV sg (.slice Au sg.recs.length cu))).below hb7 (by simp)
          have s0 := kb.cell 0
          have s1 := kb.cell 1
          have s2 := kb.cell 2
          have s3 := kb.cell 3
          simp only [SgV, List.getElem?_toArray, List.getElem?_cons_zero, List.getElem?_cons_succ] at s0 s1 s2 s3
          have htl : (segs.take k).length = k := by simp; omega
          have hk7 := HBK.out.below HB7.out HBK.out.lt
          rw [htl] at hk7
          have d3 := hk7.cell 3
          have d3' := (hk7.alloc (.cells #[.int .i64 (sg.num : Int), .int .i64 (sg.first : Int), .int .i64 (sg.size : Int), .slice Au sg.recs.length cu] 97)).cell 3
          have df := hk7.frozen 3
          simp only [List.getElem?_toArray, List.getElem?_cons_zero, List.getElem?_cons_succ] at d3 d3'
          have hs7 := HSE.out.ch (Ch.of_below (S := fun _ => False) HB7.out (Nat.le_refl _)) (fun _ _ h => h)
          have hr7 := hs7.row
          rw [htl] at hr7 hs7
          have HK7 := Lib.hid hk7
          have HS7 := Lib.hid hs7
          have HR7 := Lib.hid hr7
          obtain ⟨i0, hi0, hz0, hz1, hz2⟩ := info_parts info_segs
          clear hb7 kb hk7 hs7 hr7
          go_wp2_with fail
          go_region_law ((refine step_append_sh (by rfl) (.tmp 71) (.tmp 73) _ (by rfl) 0 97 i0 _ 4 48 Tryz.underlying62 hi0 hz0 hz1 hz2 rfl (by omega) (.slice A6 k c6) k _ (by rfl) (show (w7.alloc (.cells (SgV sg (.slice Au sg.recs.length cu)) 97)).drew.ownsRow 0 97 4 (.slice A6 k c6) k _ from HR7.out.alloc _) (fun _ => False) _ 1 (segCells sg (.slice Au sg.recs.length cu)) (by rfl) (show Sl (w7.alloc (.cells (SgV sg (.slice Au sg.recs.length cu)) 97)).drew (fun _ => False) _ _ _ _ from seg_lit w7 (fun _ => False) _ sg (.slice Au sg.recs.length cu) (fun h => h)) (segCells_one _ _ _ _) (by simp only [maxLen]; omega) (by omega) (Nat.zero_le _) ?_; intro A7 c7 w8 happ; have happ := appended_drew happ; have q7 := (HK7.out.alloc (.cells (SgV sg (.slice Au sg.recs.length cu)) 97)).grown happ.2.1 (fun e1 => own_far HR7.out HK7.out (by decide) e1.symm); have q3 := q7.cell 3; have qf3 := q7.frozen 3; simp only [List.getElem?_toArray, List.getElem?_cons_zero, List.getElem?_cons_succ] at q3; have HAP := Lib.hid happ; clear happ q7))
          all_goals
            go_wp2_with fail
            go_roundw
            case rel =>
              refine ⟨k + 1, by omega, by go_num, Lib.hid ?_⟩
              have hp := lds_push (s := sg) htl.symm HDR.out HB7.out ((HRC.out.after HB67.out).weaken (fun j hj => ⟨by have := hj.1; have := HB5.out.size; omega, by have := hj.2; have := HB67.out.size; omega⟩)) HA.out.good (HS7.out) HK7.out HAP.out
              obtain ⟨T1', h1, h2⟩ := hp
              refine ⟨T1', ?_, HS.out.trans h2⟩
              rw [List.take_succ_eq_append_getElem hlt', ← HSK.out]
              exact h1
            case measure => simp [intOf]; omega
    · have hke : k = n := by omega
      subst hke
      obtain ⟨T1, hD, hS⟩ := hm.out
      rw [HNN.out, List.take_length] at hD
      have HME := Lib.hid (HMEND.out wr T1 hD)
      have HS := Lib.hid hS
      clear hD hS hm HMEND
      go_wp2_with fail
      refine HME.out.mono ?_
      rintro e w2 ⟨rfl, hw⟩
      go_wp2_with fail
      go_ret
      exact ⟨rfl, Wal.of HS.out hw⟩

end Go.Proofs.YtjoonpkgepkkhaaGreatDoor.Wz

/-
  Contract of layer 4's Open on an empty disk.
-/
namespace Go.Proofs.YtjoonpkgepkkhaaGreatDoor.Va
open Go Go.RowKit Ck Kw Ga Dm Dw Da Db Dc Dd De Df Dg Dh Wc Wf Wa Wb Wd Wn We Kx Wg Wh Wl Wj Wk Wo Wq Wr Ws Wt Wu Wv Ww Wx Wy Wz
attribute [local go_sem ↓] Go.wp_at_zero Go.wp_at_succ
set_option linter.unusedVariables false

set_option maxRecDepth 100000 in
set_option maxHeartbeats 4000000 in
theorem load_none (w : World) (S1 S2 : Nat → Prop) (g p : Nat) (L : List Fl) (room : Nat) (name : Tx) (most : Nat) (synced : Nat) (h : LDs w S1 S2 g p L room name most [] synced) (A : Option Addr) (c : Nat) :
    Calls Tryz.prog 50 #[.pointer (some ⟨g, 0, none⟩), .slice A 0 c] w (Begun S1 S2 g p room name most w (begS L room name 1 1) [] synced 1 1) := by
  have HB := Lib.hid (begin_any w S1 S2 g p L room name most [] synced 1 1 h (by simp))
  clear h
  go_enter Tryz.func50, Tryz.ntmps50
  go_wp2_with fail
  refine HB.out.mono ?_
  rintro e w2 ⟨rfl, hw⟩
  go_wp2_with fail
  go_ret
  exact ⟨rfl, hw⟩

/-- What Open answers and leaves where it opens. -/
def Opened (S : Nat → Prop) (p room : Nat) (name : Tx) (most : Nat) (w : World) (L : List Fl) (segs : List Sg) (y : Nat) (e : Ending) (w' : World) : Prop :=
  ∃ g S1 S2, e = .returned (.tuple #[.pointer (some ⟨g, 0, none⟩), .int .i64 0]) ∧ LDs w' S1 S2 g p L room name most segs y ∧ Step (fun _ => False) S S1 S2 w w'
/-- A log just made. -/
theorem lds_new {w w1 : World} {S : Nat → Prop} {p room most : Nat} {L : List Fl} {name : Tx} (h : Dk w S p L room false) (hS : ∀ k, S k → k < w.heap.size) (hT : Tab w) (hz : ¬ S 0) (b : Below w.heap.size w w1) (hn : name.length ≤ 16) (hm : most ≤ 4194304) :
    LDs (w1.alloc (.cells #[.pointer (some ⟨p, 0, none⟩), .string ⟨name.toArray⟩, .int .i64 (most : Int), .slice none 0 0, .int .i64 0] 64)) (fun k => k = w1.heap.size) S w1.heap.size p L room name most [] 0 ∧
    Step (fun _ => False) S (fun k => k = w1.heap.size) S w (w1.alloc (.cells #[.pointer (some ⟨p, 0, none⟩), .string ⟨name.toArray⟩, .int .i64 (most : Int), .slice none 0 0, .int .i64 0] 64)) := by
  have hs := b.size
  have hb : Below w.heap.size w (w1.alloc (.cells #[.pointer (some ⟨p, 0, none⟩), .string ⟨name.toArray⟩, .int .i64 (most : Int), .slice none 0 0, .int .i64 0] 64)) := b.alloc b.size _
  refine ⟨⟨⟨_, [], Blk.new w1 _ _, rfl, Segs.nil _ _, hn, hm⟩, h.later hb, fun k e hk => ?_, fun k e => ?_, fun k hk => ?_, hT.after hb, fun e => ?_, hz⟩, fun k e => ?_, fun k hk => .inl hk, Ch.of_below hb (Nat.le_refl _)⟩
  · have := hS k hk; omega
  · rw [e]; simp
  · have := hS k hk; simp; omega
  · have := hT.lt; omega
  · exact .inr ⟨by omega, by rw [e]; simp⟩

set_option maxRecDepth 100000 in
set_option maxHeartbeats 8000000 in
theorem open_empty (w : World) (S : Nat → Prop) (p room : Nat) (name : Tx) (most : Nat) (h : Dk w S p [] room false) (hS : ∀ k, S k → k < w.heap.size) (hT : Tab w) (hz : ¬ S 0) (hn : okName name = true) (hm1 : 64 ≤ most) (hm2 : most ≤ 4194304) (hr : 15 ≤ room) :
    Calls Tryz.prog 17 #[.pointer (some ⟨p, 0, none⟩), .string ⟨name.toArray⟩, .int .i64 (most : Int)] w (Opened S p room name most w [⟨nm name 1, head 1, (head 1).length⟩] [⟨1, 1, (head 1).length, []⟩] 0) := by
  have hn16 : name.length ≤ 16 := by rw [okName_of] at hn; simp at hn; exact hn.2
  have hbeg : begS [] room name 1 1 = ([⟨nm name 1, head 1, (head 1).length⟩], 0) := by
    have := (head_len 1).1
    unfold begS
    rw [if_neg (by omega), if_neg (by omega), if_neg (by simp [isIn]), if_neg (by simp), if_neg (by simp [used]; omega)]
    rfl
  have HRD := Lib.hid (ready_on_ w S p [] room h rfl)
  have HIS := Lib.hid (isname_any w name (by omega))
  have HN := Lib.hid hn
  have HBG := Lib.hid hbeg
  have H := Lib.hid (And.intro h (And.intro hS (And.intro hT hz)))
  have m1 : ¬ (most : Int) < 64 := by omega
  have m2 : ¬ (4194304 : Int) < (most : Int) := by omega
  clear h hS hT hz hn hbeg
  go_enter Tryz.func17, Tryz.ntmps17
  go_wp2_with fail
  refine HRD.out.mono ?_
  rintro e w1 ⟨rfl, rfl⟩
  go_wp2_with fail
  refine HIS.out.mono ?_
  rintro e w1 ⟨rfl, hb1⟩
  rw [HN.out]
  have HB1 := Lib.hid hb1
  clear hb1
  go_wp2_with fail
  have hl := lds_new H.out.1 H.out.2.1 H.out.2.2.1 H.out.2.2.2 HB1.out hn16 hm2
  obtain ⟨g, hg⟩ : ∃ g, g = w1.heap.size := ⟨_, rfl⟩
  simp only [← hg] at hl ⊢
  generalize (w1.alloc (.cells #[.pointer (some ⟨p, 0, none⟩), .string ⟨name.toArray⟩, .int .i64 (most : Int), .slice none 0 0, .int .i64 0] 64)) = w2 at hl ⊢
  have HL := Lib.hid hl
  have HLI := Lib.hid (Dl.list_on w2 S p [] room false hl.1.dk)
  clear hl hg
  refine HLI.out.mono ?_
  rintro e w3 ⟨A3, c3, rfl, ho3, hb3⟩
  rw [show (List.map (fun x : Fl => x.n) []).mergeSort leB = List.map (nm name) ([] : List Nat) by simp] at ho3
  have HN3 := Lib.hid (numbers_any w3 (fun _ => False) A3 c3 name [] (HL.out.1.later hb3).tab (by simp) (by omega) (by simp) (Sl.of_own ho3 (fun _ _ _ h => h)))
  have HB3 := Lib.hid hb3
  simp only [List.length_nil] at HN3 ⊢
  clear ho3 hb3 HLI
  go_wp2_with fail
  refine HN3.out.mono ?_
  rintro e w4 ⟨A4, c4, rfl, -, hb4⟩
  have HB4 := Lib.hid (HB3.out.trans (hb4.mono HB3.out.size))
  have HLO := Lib.hid (load_none w4 _ _ g p [] room name most 0 (HL.out.1.later HB4.out) A4 c4)
  rw [HBG.out] at HLO
  clear hb4 HN3
  go_wp2_with fail
  refine HLO.out.mono ?_
  rintro e w5 ⟨rfl, T1, T2, hD, hS5⟩
  rw [if_pos rfl] at hD
  obtain ⟨gb, cap, hC, hgb, hgn⟩ := hD.cells (by simp)
  have HLA := Lib.hid (lastn_log w5 g p gb cap name most [] ⟨1, 1, (head 1).length, []⟩ 0 hC (by simp))
  have HKB := Lib.hid hC.blk
  have HD := Lib.hid hD
  have HS5 := Lib.hid hS5
  have hls : lastS ⟨1, 1, (head 1).length, []⟩ = 0 := by simp [lastS]
  rw [hls] at HLA
  clear hD hS5 hC HLO
  go_wp2_with fail
  refine HLA.out.mono ?_
  rintro e w6 ⟨rfl, hb6⟩
  have hk6 := HKB.out.below hb6 HKB.out.lt
  have q4 := hk6.cell 4
  have qf := hk6.frozen 4
  simp only [List.getElem?_toArray, List.getElem?_cons_zero, List.getElem?_cons_succ] at q4
  have HB6 := Lib.hid hb6
  clear hk6 hb6
  go_wp2_with fail
  go_ret2
  have h6 := (HD.out.later HB6.out).set_sync 0
  exact ⟨g, _, _, rfl, h6.1, (((HL.out.2.trans (Step.below HB4.out)).trans HS5.out).trans (Step.below HB6.out)).trans h6.2⟩

end Go.Proofs.YtjoonpkgepkkhaaGreatDoor.Va

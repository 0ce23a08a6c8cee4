import Derived.Test.YtdkjimfehipeaaaGreatDoorT12
/-
  Contract of layer 4's load.
-/
namespace Go.Proofs.YtdkjimfehipeaaaGreatDoor.Wz
open Go Go.RowKit Ck Kw Ga Dm Dw Da Db Dc Dd De Df Dg Dh Wc Wf Wa Wb Wd Wn We Kx Wg Wh Wl Wj Wk Wo Wq Wr Ws Wt Wu Wv Ww Wx Wy
attribute [local go_sem ↓] Go.wp_at_zero Go.wp_at_succ
set_option linter.unusedVariables false

/-- A segment stands in its file; what is behind its whole frames may stand in the last file alone. -/
structure IsAt (L : List Fl) (name : Tx) (s : Sg) (f : Fl) (xs : List Tx) (r : Tx) : Prop where
  file : find L (nm name s.num) = some f
  frs : Frs f.b xs r
  seg : segOf s.num xs = s
  first : 1 ≤ s.first
  good : GoodS s
  size : s.size ≤ f.b.length
  len : f.b.length ≤ 4194304
structure Loads (L : List Fl) (name : Tx) (segs : List Sg) : Prop where
  at_ : ∀ i (h : i < segs.length), ∃ f xs r, IsAt L name segs[i] f xs r ∧ (i + 1 < segs.length → segs[i].size = f.b.length)
  chain : ∀ i (h : i + 1 < segs.length), segs[i + 1].num = segs[i].num + 1 ∧ segs[i + 1].first = segs[i].first + segs[i].recs.length
  few : segs.length ≤ 64
theorem sl_get {w : World} {X : Nat → Prop} {A : Option Addr} {n c : Nat} {l : List Value} (h : Sl w X 1 (.slice A n c) n l) {k : Nat} (hk : k < l.length) : ∃ ad, A = some ad ∧ ad.block < w.heap.size ∧ ¬ X ad.block ∧ w.cell? (ad.add k) = some l[k] := by
  obtain ⟨A0, c0, hv, hl, hc, hm, hx⟩ := h
  injection hv with e1 e2 e3
  have hn : n = l.length := by simpa using hl.symm
  obtain ⟨ad, hA, hb, hX, hcell⟩ := hx (by omega)
  exact ⟨ad, e1.trans hA, hb, hX, hcell k _ (by simp [hk])⟩
theorem fits_at (w : World) (T1 S2 : Nat → Prop) (g p room most y : Nat) (L : List Fl) (name : Tx) (segs : List Sg) (k : Nat) (hlt : k < segs.length) (hL : Loads L name segs) (h : LDs w T1 S2 g p L room name most (segs.take k) y) (A : Option Addr) (c : Nat) :
    Calls Tryz.prog 91 #[.pointer (some ⟨g, 0, none⟩), .agg (SgV segs[k] (.slice A segs[k].recs.length c))] w fun e w' => e = .returned (.bool true) ∧ Below w.heap.size w w' := by
  obtain ⟨f, xs, r, ha, _⟩ := hL.at_ k hlt
  have hfew := hL.few
  cases k with
  | zero => exact fits_one w T1 g p name most y (by simpa using h.lg) segs[0] A c ha.first
  | succ k =>
    have h2 := h
    rw [List.take_succ_eq_append_getElem (show k < segs.length by omega)] at h2
    obtain ⟨gb, cap, hC, _, _⟩ := h2.cells (by simp only [List.length_append, List.length_cons, List.length_nil]; omega)
    have hch := hL.chain k (by omega)
    exact fits_more w g p gb cap name most y (segs.take k) segs[k] segs[k + 1] hC (by simp; omega) A c ha.first hch.1 hch.2
/-- Where load's loop stands. -/
def LoadAt (S1 S2 : Nat → Prop) (g p room : Nat) (name : Tx) (most y : Nat) (segs : List Sg) (L : List Fl) (w wr : World) (k : Nat) : Prop :=
  ∃ T1, LDs wr T1 S2 g p L room name most (segs.take k) y ∧ Step S1 S2 T1 S2 w wr
theorem two_below {w w' : World} (b : Below w.heap.size w w') {a1 a2 : Addr} {v1 v2 : Value} (h : w.cell? a1 = some v1 ∧ w.cell? a2 = some v2) : w'.cell? a1 = some v1 ∧ w'.cell? a2 = some v2 := by
  have k : ∀ {a : Addr} {v : Value}, w.cell? a = some v → w'.cell? a = some v := fun {a v} h => (b.cell (World.block_lt_of_cell? _ _ h)).trans h
  exact ⟨k h.1, k h.2⟩
theorem lds_blk {w : World} {T1 S2 : Nat → Prop} {g p room most y : Nat} {L : List Fl} {name : Tx} {segs : List Sg} (h : LDs w T1 S2 g p L room name most segs y) : ∃ A c rv, Blk w g 64 #[.pointer (some ⟨p, 0, none⟩), .string ⟨name.toArray⟩, .int .i64 (most : Int), .slice A segs.length c, .int .i64 (y : Int)] ∧ Segs w (fun k => T1 k ∧ k ≠ g) (.slice A segs.length c) segs rv := by
  obtain ⟨v, rv, h1, _, h3, _⟩ := h.lg
  obtain ⟨A, c, rfl⟩ := own_shape h3.row
  exact ⟨A, c, rv, h1, h3⟩

set_option maxRecDepth 100000 in
set_option maxHeartbeats 16000000 in
theorem load_log (w : World) (S1 S2 X : Nat → Prop) (g p : Nat) (L : List Fl) (room : Nat) (name : Tx) (most : Nat) (ls : List Sg) (s : Sg) (synced : Nat) (hd : LDs w S1 S2 g p L room name most [] synced) (hL : Loads L name (ls ++ [s]))
    (hall : ∀ t ∈ ls ++ [s], (find (truncS L false (nm name s.num) s.size).1 (nm name t.num)).isSome = true) (A : Option Addr) (c : Nat) (hN : Sl w X 1 (.slice A (ls ++ [s]).length c) (ls ++ [s]).length ((ls ++ [s]).map (fun t => Value.int .i64 (t.num : Int)))) (hX1 : ∀ k, S1 k → X k) (hX2 : ∀ k, S2 k → X k) :
    Calls Tryz.prog 50 #[.pointer (some ⟨g, 0, none⟩), .slice A (ls ++ [s]).length c] w fun e w' => e = .returned (.int .i64 0) ∧ Wal S1 S2 g p room name most w (syncAll (truncS L false (nm name s.num) s.size).1 name (ls ++ [s])) (ls ++ [s]) synced w' := by
  have hs0 := hL.at_ ls.length (by simp)
  simp only [List.getElem_append_right (Nat.le_refl _), Nat.sub_self, List.getElem_cons_zero] at hs0
  have HMEND : Hid (∀ W T1, LDs W T1 S2 g p L room name most (ls ++ [s]) synced → Calls Tryz.prog 92 #[.pointer (some ⟨g, 0, none⟩)] W fun e w' => e = .returned (.int .i64 0) ∧ Wal T1 S2 g p room name most W (syncAll (truncS L false (nm name s.num) s.size).1 name (ls ++ [s])) (ls ++ [s]) synced w') := Lib.hid fun W T1 h => by
    obtain ⟨f, xs, r, ha, _⟩ := hs0
    have := hL.few
    exact mend_log W T1 S2 g p L room name most ls s synced f h (by simp at this; omega) ha.first ha.file ha.size hall
  have HD := Lib.hid hd
  have HL := Lib.hid hL
  have hfew : (ls ++ [s]).length ≤ 64 := hL.few
  have hpos : 0 < (ls ++ [s]).length := by simp
  have HN := Lib.hid hN
  have HX := Lib.hid (And.intro hX1 hX2)
  have hn16 := hd.name_le
  have HLA : Hid (LoadAt S1 S2 g p room name most synced (ls ++ [s]) L w w 0) := Lib.hid ⟨_, by simpa using hd, Step.refl _ _ _⟩
  generalize hsg : ls ++ [s] = segs at *
  have HSG := Lib.hid hsg
  have HNL : Hid (∀ t ∈ segs, t.num < 1000000000000000 → (nm name t.num).length ≤ 140737488355328) := Lib.hid fun t _ hn => by
    have := nm_len (name := name) (k := t.num) hn
    omega
  clear hs0 hd hL hN hX1 hX2 hall hsg
  obtain ⟨n, hn⟩ : ∃ n, n = segs.length := ⟨_, rfl⟩
  rw [← hn] at HN hfew hpos ⊢
  have hn0 : ((n : Int) == 0) = false := by rw [beq_eq_false_iff_ne]; omega
  have HNN := Lib.hid hn
  clear hn
  go_enter Tryz.func50, Tryz.ntmps50
  go_wp2_with fail
  go_loopw [18] (fun i wr => ∃ k : Nat, k ≤ n ∧ i = .int .i64 k ∧ Hid (LoadAt S1 S2 g p room name most synced segs L w wr k)) (fun i _ => n - (intOf i).toNat)
  case atStart => exact ⟨0, Nat.zero_le _, rfl, HLA⟩
  case round =>
    obtain ⟨k, hk, rfl, hm⟩ := hrel
    by_cases hlt : k < n
    · obtain ⟨T1, hD, hS⟩ := hm.out
      have hlt' : k < segs.length := by have := HNN.out; omega
      obtain ⟨f, xs, r, ha, hwh⟩ := HL.out.at_ k hlt'
      have HA := Lib.hid ha
      have HW := Lib.hid hwh
      have hNr := HN.out.ch hS.ch (fun j _ hj => by
        rcases hj with hj | hj
        · exact HX.out.1 j hj
        · exact HX.out.2 j hj)
      obtain ⟨ad, rfl, hadl, -, hcell⟩ := sl_get hNr (k := k) (by simpa using hlt')
      simp only [List.getElem_map] at hcell
      obtain ⟨A6, c6, rv, hblk, hseg⟩ := lds_blk hD
      have HP : Hid (wr.cell? ⟨g, 0, none⟩ = some (.pointer (some ⟨p, 0, none⟩)) ∧ wr.cell? ⟨g, 1, none⟩ = some (.string ⟨name.toArray⟩)) := Lib.hid ⟨hblk.cell 0, hblk.cell 1⟩
      have HFT := Lib.hid (fun W (b : Below wr.heap.size wr W) => fits_at W T1 S2 g p room most synced L name segs k hlt' HL.out (hD.later b))
      have hnum := ha.good.num
      have hnl := HNL.out _ (List.getElem_mem hlt') hnum
      have hget : getS L false (nm name segs[k].num) = (f.b, 0) := by simp [getS, ha.file]
      have HGET := Lib.hid hget
      have HDR := Lib.hid hD
      have HS := Lib.hid hS
      have HBK := Lib.hid hblk
      have HSE := Lib.hid hseg
      obtain ⟨sg, hsg⟩ : ∃ sg, sg = segs[k] := ⟨_, rfl⟩
      have HSK := Lib.hid hsg
      rw [← hsg] at HA HW HFT hnum hnl HGET hcell
      clear hm hD hS ha hwh hNr hblk hseg hget hsg
      go_wp2_with fail
      go_region_held3 (fun w' => w'.cell? ⟨g, 0, none⟩ = some (.pointer (some ⟨p, 0, none⟩)) ∧ w'.cell? ⟨g, 1, none⟩ = some (.string ⟨name.toArray⟩)) (first | exact HP.out | exact HP4.out | exact HP5.out)
        (first
        | (go_at_call 89; refine (file_name _ name sg.num (HDR.out.later (below_drewN (Below.refl _ wr) 1)).tab hnum (by omega)).mono ?_; rintro e w4 ⟨rfl, hb4⟩; have HB4 : Hid (Below wr.heap.size wr w4) := Lib.hid (below_of_drew hb4); have HP4 := Lib.hid (two_below HB4.out HP.out); clear hb4)
        | (go_at_call 31; refine (get_on _ S2 p L room false (nm name sg.num) hnl (HDR.out.later HB4.out).dk).mono ?_; rintro e w5 hg5; rw [HGET.out] at hg5; obtain ⟨A5, c5, rfl, ho5, hb5⟩ := hg5; have HO5 := Lib.hid ho5; have HB5 := Lib.hid (HB4.out.trans (hb5.mono HB4.out.size)); have HP5 := Lib.hid (two_below hb5 HP4.out); clear hb5 ho5))
      all_goals
        go_wp2_with fail
        refine (parse_any w5 (fun _ => False) sg.num hnum A5 c5 f.b r xs (Sl.of_own HO5.out (fun _ _ _ h => h)) (by have := HA.out.len; omega) HA.out.frs).mono ?_
        rintro e w6 ⟨v, rfl, hrc, hb6⟩
        rw [HA.out.seg] at hrc ⊢
        obtain ⟨Au, cu, rfl⟩ := hrc.shape
        have HRC := Lib.hid hrc
        have HB6 := Lib.hid (HB5.out.trans (hb6.mono HB5.out.size))
        clear hrc hb6
        simp only [SgV]
        have f0 : ((sg.first : Int) == 0) = false := by have := HA.out.first; rw [beq_eq_false_iff_ne]; omega
        by_cases hwhole : sg.size = f.b.length
        focus
          have hz : ¬ sg.size < f.b.length := by omega
          clear hwhole
          go_wp2_with fail
        rotate_left
        focus
          have hz : sg.size < f.b.length := by have := HA.out.size; omega
          have hk1 : k + 1 = n := by
            have := HNN.out
            by_cases h : k + 1 < segs.length
            · exact absurd (HW.out h) hwhole
            · omega
          have hwn : IntKind.i64.wrap ((n : Int) - 1) = (n : Int) - 1 := wrap64 (by omega) (by omega)
          have hkn : ¬ (k : Int) < (n : Int) - 1 := by omega
          clear hwhole hk1
          go_wp2_with fail
        rotate_left
        all_goals
          refine (HFT.out _ (HB6.out.alloc HB6.out.size (.cells (SgV sg (.slice Au sg.recs.length cu)) 97)) Au cu).mono ?_
          rintro e w7 ⟨rfl, hb7⟩
          have HB7 : Hid (Below wr.heap.size wr w7) := Lib.hid ((HB6.out.alloc HB6.out.size _).trans (hb7.mono (by have := HB6.out.size; simp; omega)))
          have HB67 : Hid (Below w6.heap.size w6 w7) := Lib.hid (((Below.refl _ w6).alloc (Nat.le_refl _) _).trans (hb7.mono (by simp)))
          have kb := (Blk.new w6 97 (SgV sg (.slice Au sg.recs.length cu))).below hb7 (by simp)
          have s0 := kb.cell 0
          have s1 := kb.cell 1
          have s2 := kb.cell 2
          have s3 := kb.cell 3
          simp only [SgV, List.getElem?_toArray, List.getElem?_cons_zero, List.getElem?_cons_succ] at s0 s1 s2 s3
          have htl : (segs.take k).length = k := by simp; omega
          have hk7 := HBK.out.below HB7.out HBK.out.lt
          rw [htl] at hk7
          have d3 := hk7.cell 3
          have d3' := (hk7.alloc (.cells #[.int .i64 (sg.num : Int), .int .i64 (sg.first : Int), .int .i64 (sg.size : Int), .slice Au sg.recs.length cu] 97)).cell 3
          have df := hk7.frozen 3
          simp only [List.getElem?_toArray, List.getElem?_cons_zero, List.getElem?_cons_succ] at d3 d3'
          have hs7 := HSE.out.ch (Ch.of_below (S := fun _ => False) HB7.out (Nat.le_refl _)) (fun _ _ h => h)
          have hr7 := hs7.row
          rw [htl] at hr7 hs7
          have HK7 := Lib.hid hk7
          have HS7 := Lib.hid hs7
          have HR7 := Lib.hid hr7
          obtain ⟨i0, hi0, hz0, hz1, hz2⟩ := info_parts info_segs
          clear hb7 kb hk7 hs7 hr7
          go_wp2_with fail
          go_region_law ((refine step_append_sh (by rfl) (.tmp 71) (.tmp 73) _ (by rfl) 0 97 i0 _ 4 48 Tryz.underlying62 hi0 hz0 hz1 hz2 rfl (by omega) (.slice A6 k c6) k _ (by rfl) (show (w7.alloc (.cells (SgV sg (.slice Au sg.recs.length cu)) 97)).drew.ownsRow 0 97 4 (.slice A6 k c6) k _ from HR7.out.alloc _) (fun _ => False) _ 1 (segCells sg (.slice Au sg.recs.length cu)) (by rfl) (show Sl (w7.alloc (.cells (SgV sg (.slice Au sg.recs.length cu)) 97)).drew (fun _ => False) _ _ _ _ from seg_lit w7 (fun _ => False) _ sg (.slice Au sg.recs.length cu) (fun h => h)) (segCells_one _ _ _ _) (by simp only [maxLen]; omega) (by omega) (Nat.zero_le _) ?_; intro A7 c7 w8 happ; have happ := appended_drew happ; have q7 := (HK7.out.alloc (.cells (SgV sg (.slice Au sg.recs.length cu)) 97)).grown happ.2.1 (fun e1 => own_far HR7.out HK7.out (by decide) e1.symm); have q3 := q7.cell 3; have qf3 := q7.frozen 3; simp only [List.getElem?_toArray, List.getElem?_cons_zero, List.getElem?_cons_succ] at q3; have HAP := Lib.hid happ; clear happ q7))
          all_goals
            go_wp2_with fail
            go_roundw
            case rel =>
              refine ⟨k + 1, by omega, by go_num, Lib.hid ?_⟩
              have hp := lds_push (s := sg) htl.symm HDR.out HB7.out ((HRC.out.after HB67.out).weaken (fun j hj => ⟨by have := hj.1; have := HB5.out.size; omega, by have := hj.2; have := HB67.out.size; omega⟩)) HA.out.good (HS7.out) HK7.out HAP.out
              obtain ⟨T1', h1, h2⟩ := hp
              refine ⟨T1', ?_, HS.out.trans h2⟩
              rw [List.take_succ_eq_append_getElem hlt', ← HSK.out]
              exact h1
            case measure => simp [intOf]; omega
    · have hke : k = n := by omega
      subst hke
      obtain ⟨T1, hD, hS⟩ := hm.out
      rw [HNN.out, List.take_length] at hD
      have HME := Lib.hid (HMEND.out wr T1 hD)
      have HS := Lib.hid hS
      clear hD hS hm HMEND
      go_wp2_with fail
      refine HME.out.mono ?_
      rintro e w2 ⟨rfl, hw⟩
      go_wp2_with fail
      go_ret
      exact ⟨rfl, Wal.of HS.out hw⟩

end Go.Proofs.YtdkjimfehipeaaaGreatDoor.Wz

/-
  Contract of layer 4's Open on an empty disk.
-/
namespace Go.Proofs.YtdkjimfehipeaaaGreatDoor.Va
open Go Go.RowKit Ck Kw Ga Dm Dw Da Db Dc Dd De Df Dg Dh Wc Wf Wa Wb Wd Wn We Kx Wg Wh Wl Wj Wk Wo Wq Wr Ws Wt Wu Wv Ww Wx Wy Wz
attribute [local go_sem ↓] Go.wp_at_zero Go.wp_at_succ
set_option linter.unusedVariables false

set_option maxRecDepth 100000 in
set_option maxHeartbeats 16000000 in
theorem load_none (w : World) (S1 S2 : Nat → Prop) (g p : Nat) (L : List Fl) (room : Nat) (name : Tx) (most : Nat) (synced : Nat) (h : LDs w S1 S2 g p L room name most [] synced) (A : Option Addr) (c : Nat) :
    Calls Tryz.prog 50 #[.pointer (some ⟨g, 0, none⟩), .slice A 0 c] w (Begun S1 S2 g p room name most w (begS L room name 1 1) [] synced 1 1) := by
  have HB := Lib.hid (begin_any w S1 S2 g p L room name most [] synced 1 1 h (by simp))
  clear h
  go_enter Tryz.func50, Tryz.ntmps50
  go_wp2_with fail
  refine HB.out.mono ?_
  rintro e w2 ⟨rfl, hw⟩
  go_wp2_with fail
  go_ret
  exact ⟨rfl, hw⟩

/-- What Open answers and leaves where it opens. -/
def Opened (S : Nat → Prop) (p room : Nat) (name : Tx) (most : Nat) (w : World) (L : List Fl) (segs : List Sg) (y : Nat) (e : Ending) (w' : World) : Prop :=
  ∃ g S1 S2, e = .returned (.tuple #[.pointer (some ⟨g, 0, none⟩), .int .i64 0]) ∧ LDs w' S1 S2 g p L room name most segs y ∧ Step (fun _ => False) S S1 S2 w w'
/-- A log just made. -/
theorem lds_new {w w1 : World} {S : Nat → Prop} {p room most : Nat} {L : List Fl} {name : Tx} (h : Dk w S p L room false) (hS : ∀ k, S k → k < w.heap.size) (hT : Tab w) (hz : ¬ S 0) (b : Below w.heap.size w w1) (hn : name.length ≤ 16) (hm : most ≤ 4194304) :
    LDs (w1.alloc (.cells #[.pointer (some ⟨p, 0, none⟩), .string ⟨name.toArray⟩, .int .i64 (most : Int), .slice none 0 0, .int .i64 0] 64)) (fun k => k = w1.heap.size) S w1.heap.size p L room name most [] 0 ∧
    Step (fun _ => False) S (fun k => k = w1.heap.size) S w (w1.alloc (.cells #[.pointer (some ⟨p, 0, none⟩), .string ⟨name.toArray⟩, .int .i64 (most : Int), .slice none 0 0, .int .i64 0] 64)) := by
  have hs := b.size
  have hb : Below w.heap.size w (w1.alloc (.cells #[.pointer (some ⟨p, 0, none⟩), .string ⟨name.toArray⟩, .int .i64 (most : Int), .slice none 0 0, .int .i64 0] 64)) := b.alloc b.size _
  refine ⟨⟨⟨_, [], Blk.new w1 _ _, rfl, Segs.nil _ _, hn, hm⟩, h.later hb, fun k e hk => ?_, fun k e => ?_, fun k hk => ?_, hT.after hb, fun e => ?_, hz⟩, fun k e => ?_, fun k hk => .inl hk, Ch.of_below hb (Nat.le_refl _)⟩
  · have := hS k hk; omega
  · rw [e]; simp
  · have := hS k hk; simp; omega
  · have := hT.lt; omega
  · exact .inr ⟨by omega, by rw [e]; simp⟩

set_option maxRecDepth 100000 in
set_option maxHeartbeats 16000000 in
theorem open_empty (w : World) (S : Nat → Prop) (p room : Nat) (name : Tx) (most : Nat) (h : Dk w S p [] room false) (hS : ∀ k, S k → k < w.heap.size) (hT : Tab w) (hz : ¬ S 0) (hn : okName name = true) (hm1 : 64 ≤ most) (hm2 : most ≤ 4194304) (hr : 15 ≤ room) :
    Calls Tryz.prog 17 #[.pointer (some ⟨p, 0, none⟩), .string ⟨name.toArray⟩, .int .i64 (most : Int)] w (Opened S p room name most w [⟨nm name 1, head 1, (head 1).length⟩] [⟨1, 1, (head 1).length, []⟩] 0) := by
  have hn16 : name.length ≤ 16 := by rw [okName_of] at hn; simp at hn; exact hn.2
  have hbeg : begS [] room name 1 1 = ([⟨nm name 1, head 1, (head 1).length⟩], 0) := by
    have := (head_len 1).1
    unfold begS
    rw [if_neg (by omega), if_neg (by omega), if_neg (by simp [isIn]), if_neg (by simp), if_neg (by simp [used]; omega)]
    rfl
  have HRD := Lib.hid (ready_on_ w S p [] room h rfl)
  have HIS := Lib.hid (isname_any w name (by omega))
  have HN := Lib.hid hn
  have HBG := Lib.hid hbeg
  have H := Lib.hid (And.intro h (And.intro hS (And.intro hT hz)))
  have m1 : ¬ (most : Int) < 64 := by omega
  have m2 : ¬ (4194304 : Int) < (most : Int) := by omega
  clear h hS hT hz hn hbeg
  go_enter Tryz.func17, Tryz.ntmps17
  go_wp2_with fail
  refine HRD.out.mono ?_
  rintro e w1 ⟨rfl, rfl⟩
  go_wp2_with fail
  refine HIS.out.mono ?_
  rintro e w1 ⟨rfl, hb1⟩
  rw [HN.out]
  have HB1 := Lib.hid hb1
  clear hb1
  go_wp2_with fail
  have hl := lds_new H.out.1 H.out.2.1 H.out.2.2.1 H.out.2.2.2 HB1.out hn16 hm2
  obtain ⟨g, hg⟩ : ∃ g, g = w1.heap.size := ⟨_, rfl⟩
  simp only [← hg] at hl ⊢
  generalize (w1.alloc (.cells #[.pointer (some ⟨p, 0, none⟩), .string ⟨name.toArray⟩, .int .i64 (most : Int), .slice none 0 0, .int .i64 0] 64)) = w2 at hl ⊢
  have HL := Lib.hid hl
  have HLI := Lib.hid (Dl.list_on w2 S p [] room false hl.1.dk)
  clear hl hg
  refine HLI.out.mono ?_
  rintro e w3 ⟨A3, c3, rfl, ho3, hb3⟩
  rw [show (List.map (fun x : Fl => x.n) []).mergeSort leB = List.map (nm name) ([] : List Nat) by simp] at ho3
  have HN3 := Lib.hid (numbers_any w3 (fun _ => False) A3 c3 name [] (HL.out.1.later hb3).tab (by simp) (by omega) (by simp) (Sl.of_own ho3 (fun _ _ _ h => h)))
  have HB3 := Lib.hid hb3
  simp only [List.length_nil] at HN3 ⊢
  clear ho3 hb3 HLI
  go_wp2_with fail
  refine HN3.out.mono ?_
  rintro e w4 ⟨A4, c4, rfl, -, hb4⟩
  have HB4 := Lib.hid (HB3.out.trans (hb4.mono HB3.out.size))
  have HLO := Lib.hid (load_none w4 _ _ g p [] room name most 0 (HL.out.1.later HB4.out) A4 c4)
  rw [HBG.out] at HLO
  clear hb4 HN3
  go_wp2_with fail
  refine HLO.out.mono ?_
  rintro e w5 ⟨rfl, T1, T2, hD, hS5⟩
  rw [if_pos rfl] at hD
  obtain ⟨gb, cap, hC, hgb, hgn⟩ := hD.cells (by simp)
  have HLA := Lib.hid (lastn_log w5 g p gb cap name most [] ⟨1, 1, (head 1).length, []⟩ 0 hC (by simp))
  have HKB := Lib.hid hC.blk
  have HD := Lib.hid hD
  have HS5 := Lib.hid hS5
  have hls : lastS ⟨1, 1, (head 1).length, []⟩ = 0 := by simp [lastS]
  rw [hls] at HLA
  clear hD hS5 hC HLO
  go_wp2_with fail
  refine HLA.out.mono ?_
  rintro e w6 ⟨rfl, hb6⟩
  have hk6 := HKB.out.below hb6 HKB.out.lt
  have q4 := hk6.cell 4
  have qf := hk6.frozen 4
  simp only [List.getElem?_toArray, List.getElem?_cons_zero, List.getElem?_cons_succ] at q4
  have HB6 := Lib.hid hb6
  clear hk6 hb6
  go_wp2_with fail
  go_ret2
  have h6 := (HD.out.later HB6.out).set_sync 0
  exact ⟨g, _, _, rfl, h6.1, (((HL.out.2.trans (Step.below HB4.out)).trans HS5.out).trans (Step.below HB6.out)).trans h6.2⟩

end Go.Proofs.YtdkjimfehipeaaaGreatDoor.Va

/-
  Contract of layer 4's Open on a disk that has a log's files alone.
-/
namespace Go.Proofs.YtdkjimfehipeaaaGreatDoor.Vb
open Go Go.RowKit Ck Kw Ga Dm Dw Da Db Dc Dd De Df Dg Dh Wc Wf Wa Wb Wd Wn We Kx Wg Wh Wl Wj Wk Wo Wq Wr Ws Wt Wu Wv Ww Wx Wy Wz Va
attribute [local go_sem ↓] Go.wp_at_zero Go.wp_at_succ
set_option linter.unusedVariables false

theorem perm_map {α β : Type} (f : α → β) {l : List α} {m : List β} (h : m.Perm (l.map f)) : ∃ k : List α, k.Perm l ∧ m = k.map f := by
  generalize hm : l.map f = q at h
  induction h generalizing l with
  | nil => exact ⟨[], by cases l with | nil => exact .refl _ | cons a l => simp at hm, rfl⟩
  | cons x _ ih =>
    cases l with
    | nil => simp at hm
    | cons a l =>
      simp at hm
      obtain ⟨k, h1, h2⟩ := ih hm.2
      exact ⟨a :: k, h1.cons a, by rw [h2, List.map_cons, hm.1]⟩
  | swap x y t =>
    cases l with
    | nil => simp at hm
    | cons a l =>
      cases l with
      | nil => simp at hm
      | cons b l =>
        simp at hm
        obtain ⟨rfl, rfl, rfl⟩ := hm
        exact ⟨b :: a :: l, .swap _ _ _, rfl⟩
  | trans _ _ ih1 ih2 =>
    obtain ⟨k, h1, h2⟩ := ih2 hm
    obtain ⟨k2, h3, h4⟩ := ih1 h2.symm
    exact ⟨k2, h3.trans h1, h4⟩
theorem Loads.rises {L : List Fl} {name : Tx} {segs : List Sg} (h : Loads L name segs) : ∀ (d i : Nat) (hi : i + d < segs.length), segs[i + d].num = segs[i].num + d
  | 0, i, hi => rfl
  | d + 1, i, hi => by
    have h1 := Loads.rises h d i (by omega)
    have h2 := (h.chain (i + d) (by omega)).1
    have e : segs[i + (d + 1)] = segs[i + d + 1] := rfl
    rw [e, h2, h1]
    omega
theorem nums_sorted {L : List Fl} {name : Tx} {segs : List Sg} (h : Loads L name segs) {ks : List Nat} (hp : ks.Perm (segs.map (·.num))) :
    (ks.map (fun k : Nat => (k : Int))).mergeSort (fun x y => decide (x ≤ y)) = segs.map (fun t => (t.num : Int)) := by
  have hp1 : ((ks.map (fun k : Nat => (k : Int))).mergeSort (fun x y => decide (x ≤ y))).Perm (segs.map (fun t => (t.num : Int))) := by
    refine (List.mergeSort_perm _ _).trans ?_
    have := hp.map (fun k : Nat => (k : Int))
    rwa [List.map_map] at this
  have h1 : ((ks.map (fun k : Nat => (k : Int))).mergeSort (fun x y => decide (x ≤ y))).Pairwise (fun x y => decide (x ≤ y) = true) := List.pairwise_mergeSort (by intro a b c; simp; omega) (by intro a b; simp; omega) _
  have h2 : (segs.map (fun t => (t.num : Int))).Pairwise (fun x y => decide (x ≤ y) = true) := by
    rw [List.pairwise_iff_getElem]
    intro i j hi hj hij
    simp only [List.length_map] at hi hj
    have := Loads.rises h (j - i) i (by omega)
    have e : segs[i + (j - i)]'(by omega) = segs[j] := by congr 1; omega
    rw [e] at this
    simp only [List.getElem_map, decide_eq_true_eq]
    omega
  exact hp1.eq_of_pairwise (fun a b _ _ h1 h2 => by simp at h1 h2; omega) h1 h2
theorem names_rows {L : List Fl} {name : Tx} {segs : List Sg} (hp : (L.map (·.n)).Perm (segs.map (fun t => nm name t.num))) : ∃ ks : List Nat, ks.Perm (segs.map (·.num)) ∧ (L.map (·.n)).mergeSort leB = ks.map (nm name) := by
  have h1 : ((L.map (·.n)).mergeSort leB).Perm ((segs.map (·.num)).map (nm name)) := by
    refine (List.mergeSort_perm _ _).trans ?_
    rw [List.map_map]
    exact hp
  exact perm_map _ h1

theorem all_some {L : List Fl} {name : Tx} {segs : List Sg} (h : Loads L name segs) (n : Tx) (z : Nat) : ∀ t ∈ segs, (find (truncS L false n z).1 (nm name t.num)).isSome = true := fun t ht => by
  obtain ⟨i, hi, rfl⟩ := List.getElem_of_mem ht
  obtain ⟨f, xs, r, ha, _⟩ := h.at_ i hi
  simp only [truncS]
  cases hf : find L n with
  | none => simp [ha.file]
  | some f0 =>
    simp only [Bool.false_eq_true, if_false]
    split
    · simp [ha.file]
    · rw [find_upd (h := setf _ _) (fun _ => rfl)]
      simp [ha.file]
/-- What Open makes of the files. -/
def openS (L : List Fl) (name : Tx) (ls : List Sg) (s : Sg) : List Fl := syncAll (truncS L false (nm name s.num) s.size).1 name (ls ++ [s])

set_option maxRecDepth 100000 in
set_option maxHeartbeats 16000000 in
theorem open_segs (w : World) (S : Nat → Prop) (p room : Nat) (name : Tx) (most : Nat) (L : List Fl) (ls : List Sg) (s : Sg) (h : Dk w S p L room false) (hS : ∀ k, S k → k < w.heap.size) (hT : Tab w) (hz : ¬ S 0) (hn : okName name = true) (hm1 : 64 ≤ most) (hm2 : most ≤ 4194304)
    (hL : Loads L name (ls ++ [s])) (hp : (L.map (·.n)).Perm ((ls ++ [s]).map (fun t => nm name t.num))) (h1 : 1 ≤ s.num ∧ ∀ t ∈ ls, 1 ≤ t.num) (he : find L [] = none) :
    Calls Tryz.prog 17 #[.pointer (some ⟨p, 0, none⟩), .string ⟨name.toArray⟩, .int .i64 (most : Int)] w (Opened S p room name most w (openS L name ls s) (ls ++ [s]) (s.first + s.recs.length - 1)) := by
  have hn16 : name.length ≤ 16 := by rw [okName_of] at hn; simp at hn; exact hn.2
  have HRD := Lib.hid (ready_on_ w S p L room h he)
  have HIS := Lib.hid (isname_any w name (by omega))
  have HN := Lib.hid hn
  have H := Lib.hid (And.intro h (And.intro hS (And.intro hT hz)))
  have m1 : ¬ (most : Int) < 64 := by omega
  have m2 : ¬ (4194304 : Int) < (most : Int) := by omega
  obtain ⟨ks, hk1, hk2⟩ := names_rows hp
  have hlen : L.length = ks.length := by have := hp.length_eq; have := hk1.length_eq; simp at *; omega
  have hkl : ks.length ≤ 64 := by have := hk1.length_eq; have := hL.few; simp at *; omega
  have hkb : ∀ k ∈ ks, 1 ≤ k ∧ k < 1000000000000000 := fun k hk => by
    have := (hk1.mem_iff).1 hk
    rw [List.mem_map] at this
    obtain ⟨t, ht, rfl⟩ := this
    obtain ⟨i, hi, rfl⟩ := List.getElem_of_mem ht
    obtain ⟨f, xs, r, ha, _⟩ := hL.at_ i hi
    refine ⟨?_, ha.good.num⟩
    rcases List.mem_append.1 ht with ht | ht
    · exact h1.2 _ ht
    · rw [List.mem_singleton.1 ht]; exact h1.1
  have hso := nums_sorted hL hk1
  have hkn : ks.length = (ls ++ [s]).length := by have := hk1.length_eq; simpa using this
  have hs0 := hL.at_ ls.length (by simp)
  simp only [List.getElem_append_right (Nat.le_refl _), Nat.sub_self, List.getElem_cons_zero] at hs0
  have hs1 : 1 ≤ s.first := by obtain ⟨_, _, _, ha, _⟩ := hs0; exact ha.first
  have HK := Lib.hid (And.intro hk2 (And.intro hkb (And.intro hso hkn)))
  have HLS := Lib.hid hL
  have hll : ls.length ≤ 549755813888 := by have := hL.few; simp at this; omega
  clear h hS hT hz hn hk1 hk2 hkb hso hL hp h1 he hs0 hkn
  go_enter Tryz.func17, Tryz.ntmps17
  go_wp2_with fail
  refine HRD.out.mono ?_
  rintro e w1 ⟨rfl, rfl⟩
  go_wp2_with fail
  refine HIS.out.mono ?_
  rintro e w1 ⟨rfl, hb1⟩
  rw [HN.out]
  have HB1 := Lib.hid hb1
  clear hb1
  go_wp2_with fail
  have hl := lds_new H.out.1 H.out.2.1 H.out.2.2.1 H.out.2.2.2 HB1.out hn16 hm2
  obtain ⟨g, hg⟩ : ∃ g, g = w1.heap.size := ⟨_, rfl⟩
  simp only [← hg] at hl ⊢
  generalize (w1.alloc (.cells #[.pointer (some ⟨p, 0, none⟩), .string ⟨name.toArray⟩, .int .i64 (most : Int), .slice none 0 0, .int .i64 0] 64)) = w2 at hl ⊢
  have HL := Lib.hid hl
  have HLI := Lib.hid (Dl.list_on w2 S p L room false hl.1.dk)
  clear hl hg
  refine HLI.out.mono ?_
  rintro e w3 ⟨A3, c3, rfl, ho3, hb3⟩
  rw [HK.out.1, hlen] at ho3
  have HN3 := Lib.hid (numbers_any w3 (fun _ => False) A3 c3 name ks (HL.out.1.later hb3).tab HK.out.2.1 (by omega) hkl (Sl.of_own ho3 (fun _ _ _ h => h)))
  have HB3 := Lib.hid hb3
  rw [hlen]
  clear ho3 hb3 HLI
  go_wp2_with fail
  refine HN3.out.mono ?_
  rintro e w4 ⟨A4, c4, rfl, ho4, hb4⟩
  rw [HK.out.2.2.1, List.map_map, HK.out.2.2.2] at ho4
  have HB4 := Lib.hid (HB3.out.trans (hb4.mono HB3.out.size))
  have HLO := Lib.hid (load_log w4 _ _ (fun k => k < w3.heap.size) g p L room name most ls s 0 (HL.out.1.later HB4.out) HLS.out (all_some HLS.out _ _) A4 c4 (Sl.of_own ho4 (fun k h1 _ h2 => by have : k < w3.heap.size := h2; omega)) (fun k hk => by have := HL.out.1.b1 k hk; have := HB3.out.size; show k < w3.heap.size; omega) (fun k hk => by have := HL.out.1.b2 k hk; have := HB3.out.size; show k < w3.heap.size; omega))
  rw [← HK.out.2.2.2] at HLO
  clear hb4 HN3 ho4
  go_wp2_with fail
  refine HLO.out.mono ?_
  rintro e w5 ⟨rfl, T1, T2, hD, hS5⟩
  obtain ⟨gb, cap, hC, hgb, hgn⟩ := hD.cells (by simp)
  have HLA := Lib.hid (lastn_log w5 g p gb cap name most ls s 0 hC hll)
  have HKB := Lib.hid hC.blk
  have HD := Lib.hid hD
  have HS5 := Lib.hid hS5
  rw [lastS_nat hs1] at HLA
  clear hD hS5 hC HLO
  go_wp2_with fail
  refine HLA.out.mono ?_
  rintro e w6 ⟨rfl, hb6⟩
  have hk6 := HKB.out.below hb6 HKB.out.lt
  have q4 := hk6.cell 4
  have qf := hk6.frozen 4
  simp only [List.getElem?_toArray, List.getElem?_cons_zero, List.getElem?_cons_succ] at q4
  have HB6 := Lib.hid hb6
  obtain ⟨yy, hyy⟩ : ∃ yy, yy = s.first + s.recs.length - 1 := ⟨_, rfl⟩
  rw [← hyy]
  have HY := Lib.hid hyy
  clear hk6 hb6 hyy
  go_wp2_with fail
  go_ret2
  have e := HY.out
  subst e
  have h6 := (HD.out.later HB6.out).set_sync (s.first + s.recs.length - 1)
  exact ⟨g, _, _, rfl, h6.1, (((HL.out.2.trans (Step.below HB4.out)).trans HS5.out).trans (Step.below HB6.out)).trans h6.2⟩

end Go.Proofs.YtdkjimfehipeaaaGreatDoor.Vb

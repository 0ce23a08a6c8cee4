/-
  Contract of layer 4's Open on an empty disk.
-/
import Derived.Test.YtjjfhbbaabakmaaGreatDoorWD14
import Derived.Test.YtjjfhbbaabakmaaGreatDoorWD08
namespace Go.Proofs.YtjjfhbbaabakmaaGreatDoor.Va
set_option linter.unusedSimpArgs false
open Go Go.RowKit Ck Kw Ga Dm Dw Da Db Dc Dd De Df Dg Dh Wc Wf Wa Wb Wd Wn We Kx Wg Wh Wl Wj Wk Wo Wq Wr Ws Wt Wu Wv Ww Wx Wy Wz
attribute [local go_sem ↓] Go.wp_at_zero Go.wp_at_succ
set_option linter.unusedVariables false

set_option maxRecDepth 100000 in
set_option maxHeartbeats 4000000 in
theorem load_none (w : World) (S1 S2 : Nat → Prop) (g p : Nat) (L : List Fl) (room : Nat) (name : Tx) (most : Nat) (synced : Nat) (h : LDs w S1 S2 g p L room name most [] synced) (A : Option Addr) (c : Nat) :
    Calls Tryz.prog 27 #[.pointer (some ⟨g, 0, none⟩), .slice A 0 c] w (Begun S1 S2 g p room name most w (begS L room name 1 1) [] synced 1 1) := by
  have HB := Lib.hid (begin_any w S1 S2 g p L room name most [] synced 1 1 h (by simp))
  clear h
  go_enter Tryz.func27, Tryz.ntmps27
  go_wp2_with fail
  refine HB.out.mono ?_
  rintro e w2 ⟨rfl, hw⟩
  go_wp2_with fail
  go_ret
  exact ⟨rfl, hw⟩

/-- What Open answers and leaves where it opens. -/
def Opened (S : Nat → Prop) (p room : Nat) (name : Tx) (most : Nat) (w : World) (L : List Fl) (segs : List Sg) (y : Nat) (e : Ending) (w' : World) : Prop :=
  ∃ g S1 S2, e = .returned (.tuple #[.pointer (some ⟨g, 0, none⟩), .int .i64 0]) ∧ LDs w' S1 S2 g p L room name most segs y ∧ Step (fun _ => False) S S1 S2 w w'
/-- A log just made. -/
theorem lds_new {w w1 : World} {S : Nat → Prop} {p room most : Nat} {L : List Fl} {name : Tx} (h : Dk w S p L room false) (hS : ∀ k, S k → k < w.heap.size) (hT : Tab w) (hz : ¬ S 0) (b : Below w.heap.size w w1) (hn : name.length ≤ 16) (hm : most ≤ 4194304) :
    LDs (w1.alloc (.cells #[.pointer (some ⟨p, 0, none⟩), .string ⟨name.toArray⟩, .int .i64 (most : Int), .slice none 0 0, .int .i64 0] 64)) (fun k => k = w1.heap.size) S w1.heap.size p L room name most [] 0 ∧
    Step (fun _ => False) S (fun k => k = w1.heap.size) S w (w1.alloc (.cells #[.pointer (some ⟨p, 0, none⟩), .string ⟨name.toArray⟩, .int .i64 (most : Int), .slice none 0 0, .int .i64 0] 64)) := by
  have hs := b.size
  have hb : Below w.heap.size w (w1.alloc (.cells #[.pointer (some ⟨p, 0, none⟩), .string ⟨name.toArray⟩, .int .i64 (most : Int), .slice none 0 0, .int .i64 0] 64)) := b.alloc b.size _
  refine ⟨⟨⟨_, [], Blk.new w1 _ _, rfl, Segs.nil _ _, hn, hm⟩, h.later hb, fun k e hk => ?_, fun k e => ?_, fun k hk => ?_, hT.after hb, fun e => ?_, hz⟩, fun k e => ?_, fun k hk => .inl hk, Ch.of_below hb (Nat.le_refl _)⟩
  · have := hS k hk; omega
  · rw [e]; simp
  · have := hS k hk; simp; omega
  · have := hT.lt; omega
  · exact .inr ⟨by omega, by rw [e]; simp⟩

set_option maxRecDepth 100000 in
set_option maxHeartbeats 8000000 in
theorem open_empty (w : World) (S : Nat → Prop) (p room : Nat) (name : Tx) (most : Nat) (h : Dk w S p [] room false) (hS : ∀ k, S k → k < w.heap.size) (hT : Tab w) (hz : ¬ S 0) (hn : okName name = true) (hm1 : 64 ≤ most) (hm2 : most ≤ 4194304) (hr : 15 ≤ room) :
    Calls Tryz.prog 6 #[.pointer (some ⟨p, 0, none⟩), .string ⟨name.toArray⟩, .int .i64 (most : Int)] w (Opened S p room name most w [⟨nm name 1, head 1, (head 1).length⟩] [⟨1, 1, (head 1).length, []⟩] 0) := by
  have hn16 : name.length ≤ 16 := by rw [okName_of] at hn; simp at hn; exact hn.2
  have hbeg : begS [] room name 1 1 = ([⟨nm name 1, head 1, (head 1).length⟩], 0) := by
    have := (head_len 1).1
    unfold begS
    rw [if_neg (by omega), if_neg (by omega), if_neg (by simp [isIn]), if_neg (by simp), if_neg (by simp [used]; omega)]
    rfl
  have HRD := Lib.hid (ready_on_ w S p [] room h rfl)
  have HIS := Lib.hid (isname_any w name (by omega))
  have HN := Lib.hid hn
  have HBG := Lib.hid hbeg
  have H := Lib.hid (And.intro h (And.intro hS (And.intro hT hz)))
  have m1 : ¬ (most : Int) < 64 := by omega
  have m2 : ¬ (4194304 : Int) < (most : Int) := by omega
  clear h hS hT hz hn hbeg
  go_enter Tryz.func6, Tryz.ntmps6
  go_wp2_with fail
  refine HRD.out.mono ?_
  rintro e w1 ⟨rfl, rfl⟩
  go_wp2_with fail
  refine HIS.out.mono ?_
  rintro e w1 ⟨rfl, hb1⟩
  rw [HN.out]
  have HB1 := Lib.hid hb1
  clear hb1
  go_wp2_with fail
  have hl := lds_new H.out.1 H.out.2.1 H.out.2.2.1 H.out.2.2.2 HB1.out hn16 hm2
  obtain ⟨g, hg⟩ : ∃ g, g = w1.heap.size := ⟨_, rfl⟩
  simp only [← hg] at hl ⊢
  generalize (w1.alloc (.cells #[.pointer (some ⟨p, 0, none⟩), .string ⟨name.toArray⟩, .int .i64 (most : Int), .slice none 0 0, .int .i64 0] 64)) = w2 at hl ⊢
  have HL := Lib.hid hl
  have HLI := Lib.hid (Dl.list_on w2 S p [] room false hl.1.dk)
  clear hl hg
  refine HLI.out.mono ?_
  rintro e w3 ⟨A3, c3, rfl, ho3, hb3⟩
  rw [show (List.map (fun x : Fl => x.n) []).mergeSort leB = List.map (nm name) ([] : List Nat) by simp] at ho3
  have HN3 := Lib.hid (numbers_any w3 (fun _ => False) A3 c3 name [] (HL.out.1.later hb3).tab (by simp) (by omega) (by simp) (Sl.of_own ho3 (fun _ _ _ h => h)))
  have HB3 := Lib.hid hb3
  simp only [List.length_nil] at HN3 ⊢
  clear ho3 hb3 HLI
  go_wp2_with fail
  refine HN3.out.mono ?_
  rintro e w4 ⟨A4, c4, rfl, -, hb4⟩
  have HB4 := Lib.hid (HB3.out.trans (hb4.mono HB3.out.size))
  have HLO := Lib.hid (load_none w4 _ _ g p [] room name most 0 (HL.out.1.later HB4.out) A4 c4)
  rw [HBG.out] at HLO
  clear hb4 HN3
  go_wp2_with fail
  refine HLO.out.mono ?_
  rintro e w5 ⟨rfl, T1, T2, hD, hS5⟩
  rw [if_pos rfl] at hD
  obtain ⟨gb, cap, hC, hgb, hgn⟩ := hD.cells (by simp)
  have HLA := Lib.hid (lastn_log w5 g p gb cap name most [] ⟨1, 1, (head 1).length, []⟩ 0 hC (by simp))
  have HKB := Lib.hid hC.blk
  have HD := Lib.hid hD
  have HS5 := Lib.hid hS5
  have hls : lastS ⟨1, 1, (head 1).length, []⟩ = 0 := by simp [lastS]
  rw [hls] at HLA
  clear hD hS5 hC HLO
  go_wp2_with fail
  refine HLA.out.mono ?_
  rintro e w6 ⟨rfl, hb6⟩
  have hk6 := HKB.out.below hb6 HKB.out.lt
  have q4 := hk6.cell 4
  have qf := hk6.frozen 4
  simp only [List.getElem?_toArray, List.getElem?_cons_zero, List.getElem?_cons_succ] at q4
  have HB6 := Lib.hid hb6
  clear hk6 hb6
  go_wp2_with fail
  go_ret2
  have h6 := (HD.out.later HB6.out).set_sync 0
  exact ⟨g, _, _, rfl, h6.1, (((HL.out.2.trans (Step.below HB4.out)).trans HS5.out).trans (Step.below HB6.out)).trans h6.2⟩

end Go.Proofs.YtjjfhbbaabakmaaGreatDoor.Va

/-
  Contract of layer 4's Open on a disk that has a log's files alone.
-/
namespace Go.Proofs.YtjjfhbbaabakmaaGreatDoor.Vb
set_option linter.unusedSimpArgs false
open Go Go.RowKit Ck Kw Ga Dm Dw Da Db Dc Dd De Df Dg Dh Wc Wf Wa Wb Wd Wn We Kx Wg Wh Wl Wj Wk Wo Wq Wr Ws Wt Wu Wv Ww Wx Wy Wz Va
attribute [local go_sem ↓] Go.wp_at_zero Go.wp_at_succ
set_option linter.unusedVariables false

theorem perm_map {α β : Type} (f : α → β) {l : List α} {m : List β} (h : m.Perm (l.map f)) : ∃ k : List α, k.Perm l ∧ m = k.map f := by
  generalize hm : l.map f = q at h
  induction h generalizing l with
  | nil => exact ⟨[], by cases l with | nil => exact .refl _ | cons a l => simp at hm, rfl⟩
  | cons x _ ih =>
    cases l with
    | nil => simp at hm
    | cons a l =>
      simp at hm
      obtain ⟨k, h1, h2⟩ := ih hm.2
      exact ⟨a :: k, h1.cons a, by rw [h2, List.map_cons, hm.1]⟩
  | swap x y t =>
    cases l with
    | nil => simp at hm
    | cons a l =>
      cases l with
      | nil => simp at hm
      | cons b l =>
        simp at hm
        obtain ⟨rfl, rfl, rfl⟩ := hm
        exact ⟨b :: a :: l, .swap _ _ _, rfl⟩
  | trans _ _ ih1 ih2 =>
    obtain ⟨k, h1, h2⟩ := ih2 hm
    obtain ⟨k2, h3, h4⟩ := ih1 h2.symm
    exact ⟨k2, h3.trans h1, h4⟩
theorem Loads.rises {L : List Fl} {name : Tx} {segs : List Sg} (h : Loads L name segs) : ∀ (d i : Nat) (hi : i + d < segs.length), segs[i + d].num = segs[i].num + d
  | 0, i, hi => rfl
  | d + 1, i, hi => by
    have h1 := Loads.rises h d i (by omega)
    have h2 := (h.chain (i + d) (by omega)).1
    have e : segs[i + (d + 1)] = segs[i + d + 1] := rfl
    rw [e, h2, h1]
    omega
theorem nums_sorted {L : List Fl} {name : Tx} {segs : List Sg} (h : Loads L name segs) {ks : List Nat} (hp : ks.Perm (segs.map (·.num))) :
    (ks.map (fun k : Nat => (k : Int))).mergeSort (fun x y => decide (x ≤ y)) = segs.map (fun t => (t.num : Int)) := by
  have hp1 : ((ks.map (fun k : Nat => (k : Int))).mergeSort (fun x y => decide (x ≤ y))).Perm (segs.map (fun t => (t.num : Int))) := by
    refine (List.mergeSort_perm _ _).trans ?_
    have := hp.map (fun k : Nat => (k : Int))
    rwa [List.map_map] at this
  have h1 : ((ks.map (fun k : Nat => (k : Int))).mergeSort (fun x y => decide (x ≤ y))).Pairwise (fun x y => decide (x ≤ y) = true) := List.pairwise_mergeSort (by intro a b c; simp; omega) (by intro a b; simp; omega) _
  have h2 : (segs.map (fun t => (t.num : Int))).Pairwise (fun x y => decide (x ≤ y) = true) := by
    rw [List.pairwise_iff_getElem]
    intro i j hi hj hij
    simp only [List.length_map] at hi hj
    have := Loads.rises h (j - i) i (by omega)
    have e : segs[i + (j - i)]'(by omega) = segs[j] := by congr 1; omega
    rw [e] at this
    simp only [List.getElem_map, decide_eq_true_eq]
    omega
  exact hp1.eq_of_pairwise (fun a b _ _ h1 h2 => by simp at h1 h2; omega) h1 h2
theorem names_rows {L : List Fl} {name : Tx} {segs : List Sg} (hp : (L.map (·.n)).Perm (segs.map (fun t => nm name t.num))) : ∃ ks : List Nat, ks.Perm (segs.map (·.num)) ∧ (L.map (·.n)).mergeSort leB = ks.map (nm name) := by
  have h1 : ((L.map (·.n)).mergeSort leB).Perm ((segs.map (·.num)).map (nm name)) := by
    refine (List.mergeSort_perm _ _).trans ?_
    rw [List.map_map]
    exact hp
  exact perm_map _ h1

theorem all_some {L : List Fl} {name : Tx} {segs : List Sg} (h : Loads L name segs) (n : Tx) (z : Nat) : ∀ t ∈ segs, (find (truncS L false n z).1 (nm name t.num)).isSome = true := fun t ht => by
  obtain ⟨i, hi, rfl⟩ := List.getElem_of_mem ht
  obtain ⟨f, xs, r, ha, _⟩ := h.at_ i hi
  simp only [truncS]
  cases hf : find L n with
  | none => simp [ha.file]
  | some f0 =>
    simp only [Bool.false_eq_true, if_false]
    split
    · simp [ha.file]
    · rw [find_upd (h := setf _ _) (fun _ => rfl)]
      simp [ha.file]
/-- What Open makes of the files. -/
def openS (L : List Fl) (name : Tx) (ls : List Sg) (s : Sg) : List Fl := syncAll (truncS L false (nm name s.num) s.size).1 name (ls ++ [s])

set_option maxRecDepth 100000 in
set_option maxHeartbeats 8000000 in
theorem open_segs (w : World) (S : Nat → Prop) (p room : Nat) (name : Tx) (most : Nat) (L : List Fl) (ls : List Sg) (s : Sg) (h : Dk w S p L room false) (hS : ∀ k, S k → k < w.heap.size) (hT : Tab w) (hz : ¬ S 0) (hn : okName name = true) (hm1 : 64 ≤ most) (hm2 : most ≤ 4194304)
    (hL : Loads L name (ls ++ [s])) (hp : (L.map (·.n)).Perm ((ls ++ [s]).map (fun t => nm name t.num))) (h1 : 1 ≤ s.num ∧ ∀ t ∈ ls, 1 ≤ t.num) (he : find L [] = none) :
    Calls Tryz.prog 6 #[.pointer (some ⟨p, 0, none⟩), .string ⟨name.toArray⟩, .int .i64 (most : Int)] w (Opened S p room name most w (openS L name ls s) (ls ++ [s]) (s.first + s.recs.length - 1)) := by
  have hn16 : name.length ≤ 16 := by rw [okName_of] at hn; simp at hn; exact hn.2
  have HRD := Lib.hid (ready_on_ w S p L room h he)
  have HIS := Lib.hid (isname_any w name (by omega))
  have HN := Lib.hid hn
  have H := Lib.hid (And.intro h (And.intro hS (And.intro hT hz)))
  have m1 : ¬ (most : Int) < 64 := by omega
  have m2 : ¬ (4194304 : Int) < (most : Int) := by omega
  obtain ⟨ks, hk1, hk2⟩ := names_rows hp
  have hlen : L.length = ks.length := by have := hp.length_eq; have := hk1.length_eq; simp at *; omega
  have hkl : ks.length ≤ 64 := by have := hk1.length_eq; have := hL.few; simp at *; omega
  have hkb : ∀ k ∈ ks, 1 ≤ k ∧ k < 1000000000000000 := fun k hk => by
    have := (hk1.mem_iff).1 hk
    rw [List.mem_map] at this
    obtain ⟨t, ht, rfl⟩ := this
    obtain ⟨i, hi, rfl⟩ := List.getElem_of_mem ht
    obtain ⟨f, xs, r, ha, _⟩ := hL.at_ i hi
    refine ⟨?_, ha.good.num⟩
    rcases List.mem_append.1 ht with ht | ht
    · exact h1.2 _ ht
    · rw [List.mem_singleton.1 ht]; exact h1.1
  have hso := nums_sorted hL hk1
  have hkn : ks.length = (ls ++ [s]).length := by have := hk1.length_eq; simpa using this
  have hs0 := hL.at_ ls.length (by simp)
  simp only [List.getElem_append_right (Nat.le_refl _), Nat.sub_self, List.getElem_cons_zero] at hs0
  have hs1 : 1 ≤ s.first := by obtain ⟨_, _, _, ha, _⟩ := hs0; exact ha.first
  have HK := Lib.hid (And.intro hk2 (And.intro hkb (And.intro hso hkn)))
  have HLS := Lib.hid hL
  have hll : ls.length ≤ 549755813888 := by have := hL.few; simp at this; omega
  clear h hS hT hz hn hk1 hk2 hkb hso hL hp h1 he hs0 hkn
  go_enter Tryz.func6, Tryz.ntmps6
  go_wp2_with fail
  refine HRD.out.mono ?_
  rintro e w1 ⟨rfl, rfl⟩
  go_wp2_with fail
  refine HIS.out.mono ?_
  rintro e w1 ⟨rfl, hb1⟩
  rw [HN.out]
  have HB1 := Lib.hid hb1
  clear hb1
  go_wp2_with fail
  have hl := lds_new H.out.1 H.out.2.1 H.out.2.2.1 H.out.2.2.2 HB1.out hn16 hm2
  obtain ⟨g, hg⟩ : ∃ g, g = w1.heap.size := ⟨_, rfl⟩
  simp only [← hg] at hl ⊢
  generalize (w1.alloc (.cells #[.pointer (some ⟨p, 0, none⟩), .string ⟨name.toArray⟩, .int .i64 (most : Int), .slice none 0 0, .int .i64 0] 64)) = w2 at hl ⊢
  have HL := Lib.hid hl
  have HLI := Lib.hid (Dl.list_on w2 S p L room false hl.1.dk)
  clear hl hg
  refine HLI.out.mono ?_
  rintro e w3 ⟨A3, c3, rfl, ho3, hb3⟩
  rw [HK.out.1, hlen] at ho3
  have HN3 := Lib.hid (numbers_any w3 (fun _ => False) A3 c3 name ks (HL.out.1.later hb3).tab HK.out.2.1 (by omega) hkl (Sl.of_own ho3 (fun _ _ _ h => h)))
  have HB3 := Lib.hid hb3
  rw [hlen]
  clear ho3 hb3 HLI
  go_wp2_with fail
  refine HN3.out.mono ?_
  rintro e w4 ⟨A4, c4, rfl, ho4, hb4⟩
  rw [HK.out.2.2.1, List.map_map, HK.out.2.2.2] at ho4
  have HB4 := Lib.hid (HB3.out.trans (hb4.mono HB3.out.size))
  have HLO := Lib.hid (load_log w4 _ _ (fun k => k < w3.heap.size) g p L room name most ls s 0 (HL.out.1.later HB4.out) HLS.out (all_some HLS.out _ _) A4 c4 (Sl.of_own ho4 (fun k h1 _ h2 => by have : k < w3.heap.size := h2; omega)) (fun k hk => by have := HL.out.1.b1 k hk; have := HB3.out.size; show k < w3.heap.size; omega) (fun k hk => by have := HL.out.1.b2 k hk; have := HB3.out.size; show k < w3.heap.size; omega))
  rw [← HK.out.2.2.2] at HLO
  clear hb4 HN3 ho4
  go_wp2_with fail
  refine HLO.out.mono ?_
  rintro e w5 ⟨rfl, T1, T2, hD, hS5⟩
  obtain ⟨gb, cap, hC, hgb, hgn⟩ := hD.cells (by simp)
  have HLA := Lib.hid (lastn_log w5 g p gb cap name most ls s 0 hC hll)
  have HKB := Lib.hid hC.blk
  have HD := Lib.hid hD
  have HS5 := Lib.hid hS5
  rw [lastS_nat hs1] at HLA
  clear hD hS5 hC HLO
  go_wp2_with fail
  refine HLA.out.mono ?_
  rintro e w6 ⟨rfl, hb6⟩
  have hk6 := HKB.out.below hb6 HKB.out.lt
  have q4 := hk6.cell 4
  have qf := hk6.frozen 4
  simp only [List.getElem?_toArray, List.getElem?_cons_zero, List.getElem?_cons_succ] at q4
  have HB6 := Lib.hid hb6
  obtain ⟨yy, hyy⟩ : ∃ yy, yy = s.first + s.recs.length - 1 := ⟨_, rfl⟩
  rw [← hyy]
  have HY := Lib.hid hyy
  clear hk6 hb6 hyy
  go_wp2_with fail
  go_ret2
  have e := HY.out
  subst e
  have h6 := (HD.out.later HB6.out).set_sync (s.first + s.recs.length - 1)
  exact ⟨g, _, _, rfl, h6.1, (((HL.out.2.trans (Step.below HB4.out)).trans HS5.out).trans (Step.below HB6.out)).trans h6.2⟩

end Go.Proofs.YtjjfhbbaabakmaaGreatDoor.Vb

/-
  Contract of layer 4's Get.
-/
namespace Go.Proofs.YtjjfhbbaabakmaaGreatDoor.Vc
set_option linter.unusedSimpArgs false
open Go Go.RowKit Ck Kw Ga Dm Dw Da Db Dc Dd De Df Dg Dh Wc Wf Wa Wb Wd Wn We Kx Wg Wh Wl Wj Wk Wo Wq Wr Ws Wt Wu Wv Ww Wx Wy Wz Va Vb
attribute [local go_sem ↓] Go.wp_at_zero Go.wp_at_succ
set_option linter.unusedVariables false

/-- What Get reads of a log. -/
structure Reads (w : World) (g p gb cap : Nat) (name : Tx) (most y : Nat) (segs : List Sg) : Prop where
  lgc : LgC w g p gb cap name most segs y
  row : ∀ i (h : i < segs.length), ∃ u, w.cell? ⟨gb, i * 4, none⟩ = some (.int .i64 (segs[i].num : Int)) ∧ w.cell? ⟨gb, i * 4 + 1, none⟩ = some (.int .i64 (segs[i].first : Int)) ∧ w.cell? ⟨gb, i * 4 + 2, none⟩ = some (.int .i64 (segs[i].size : Int)) ∧ w.cell? ⟨gb, i * 4 + 3, none⟩ = some u ∧ Rcs w (fun _ => True) u segs[i].recs
theorem Reads.of {w : World} {S : Nat → Prop} {g p most y : Nat} {name : Tx} {segs : List Sg} (h : Lg w S g p name most segs y) (hne : 0 < segs.length) : ∃ gb cap, Reads w g p gb cap name most y segs := by
  obtain ⟨gb, cap, hC, _, _⟩ := h.cells hne
  obtain ⟨v, rv, k1, k2, k3, _⟩ := h
  have e1 := hC.blk.cell 3
  have e2 := k1.cell 3
  simp only [List.getElem?_toArray, List.getElem?_cons_zero, List.getElem?_cons_succ] at e1 e2
  rw [e1] at e2
  injection e2 with e2
  subst e2
  obtain ⟨gb', cap', hv, _, _, _, hat⟩ := k3.at_ hne
  injection hv with hv1 _ hv3
  injection hv1 with hv1
  injection hv1 with hv1
  subst hv1
  exact ⟨gb, cap, hC, fun i hi => by obtain ⟨u, _, c0, c1, c2, c3, _, hr⟩ := hat i hi; exact ⟨u, c0, c1, c2, c3, hr.weaken (fun _ _ => trivial)⟩⟩
theorem Reads.after {w w' : World} {g p gb cap most y : Nat} {name : Tx} {segs : List Sg} (h : Reads w g p gb cap name most y segs) (b : Below w.heap.size w w') : Reads w' g p gb cap name most y segs :=
  ⟨h.lgc.after b, fun i hi => by
    obtain ⟨u, c0, c1, c2, c3, hr⟩ := h.row i hi
    have k : ∀ {a : Addr} {v : Value}, w.cell? a = some v → w'.cell? a = some v := fun {a v} h => (b.cell (World.block_lt_of_cell? _ _ h)).trans h
    exact ⟨u, k c0, k c1, k c2, k c3, hr.after b⟩⟩

set_option maxRecDepth 100000 in
set_option maxHeartbeats 8000000 in
theorem getn_log (w : World) (g p gb cap : Nat) (name : Tx) (most y : Nat) (segs : List Sg) (h : Reads w g p gb cap name most y segs) (s0 sl : Sg) (rest ini : List Sg) (e1 : segs = s0 :: rest) (e2 : segs = ini ++ [sl]) (hfew : segs.length ≤ 549755813888) (n q j : Nat) (hq : q < segs.length) (hj : j < segs[q].recs.length) (hn : n = segs[q].first + j)
    (h0 : s0.first ≤ n) (hlast : n < sl.first + sl.recs.length) (hlow : ∀ i (hi : i < q), segs[i].first + segs[i].recs.length ≤ n) (hxl : segs[q].recs[j].length ≤ 549755813888) :
    Calls Tryz.prog 30 #[.pointer (some ⟨g, 0, none⟩), .int .i64 (n : Int)] w (Got w (segs[q].recs[j], 0)) := by
  have HM := Lib.hid (made_log w g p gb cap name most segs y h.lgc)
  have HFI : Hid (Calls Tryz.prog 15 #[.pointer (some ⟨g, 0, none⟩)] w fun e w' => e = .returned (.int .i64 (s0.first : Int)) ∧ w = w') := Lib.hid (first_log w g p gb cap name most s0 rest y (by rw [← e1]; exact h.lgc) (by have := congrArg List.length e1; simp at this; omega))
  have HLA : Hid (Calls Tryz.prog 14 #[.pointer (some ⟨g, 0, none⟩)] w fun e w' => e = .returned (.int .i64 (lastS sl)) ∧ Below w.heap.size w w') := Lib.hid (lastn_log w g p gb cap name most ini sl y (by rw [← e2]; exact h.lgc) (by have := congrArg List.length e2; simp at this; omega))
  have t1 : ¬ (n : Int) < (s0.first : Int) := by omega
  have t2 : ¬ lastS sl < (n : Int) := by unfold lastS; omega
  have U := Lib.hid (And.intro (show decide (n < s0.first) = false by simp; omega) (show decide (lastS sl < (n : Int)) = false by simp; omega))
  have H := Lib.hid h
  have HLOW := Lib.hid hlow
  have HQ : Hid (n < segs[q].first + segs[q].recs.length) := Lib.hid (by omega)
  have HN := Lib.hid hn
  have HFEW := Lib.hid hfew
  clear h hlow h0 hlast e1 e2 hn
  go_enter Tryz.func30, Tryz.ntmps30
  go_wp2_with (first
    | (go_at_call 32; refine HM.out.mono ?_; rintro e w1 ⟨rfl, rfl⟩)
    | (go_at_call 15; refine HFI.out.mono ?_; rintro e w1 ⟨rfl, rfl⟩)
    | (go_at_call 14; refine HLA.out.mono ?_; rintro e w1 ⟨rfl, hb1⟩; have HB1 := Lib.hid hb1; clear hb1))
  clear t1 t2
  simp only [U.out.1, U.out.2, Bool.or_false]
  go_loopw [6] (fun i wr => ∃ k : Nat, k ≤ q ∧ i = .int .i64 k ∧ Hid (Below w.heap.size w wr)) (fun i _ => q - (intOf i).toNat)
  case atStart => exact ⟨0, Nat.zero_le _, rfl, HB1⟩
  case round =>
    obtain ⟨k, hk, rfl, hb⟩ := hrel
    have hkl : k < segs.length := by omega
    have HR := Lib.hid (H.out.after hb.out)
    have d3 := HR.out.lgc.blk.cell 3
    simp only [List.getElem?_toArray, List.getElem?_cons_zero, List.getElem?_cons_succ] at d3
    obtain ⟨u, c0, c1, c2, c3, hr⟩ := HR.out.row k hkl
    obtain ⟨Au, cu, rfl⟩ := hr.shape
    have HNX := Lib.hid (fun W => next_any W segs[k] Au cu (HR.out.lgc.good _ (List.getElem_mem hkl)))
    have HRC := Lib.hid hr
    obtain ⟨N, hN⟩ : ∃ N, N = segs.length := ⟨_, rfl⟩
    have i1 : (k : Int) < (N : Int) := by omega
    rw [← hN] at d3
    have HNN := Lib.hid hN
    clear hr hN
    by_cases hlt : k < q
    · have hge : segs[k].first + segs[k].recs.length ≤ n := HLOW.out k hlt
      have t3 : ((segs[k].first + segs[k].recs.length : Nat) : Int) ≤ (n : Int) := by omega
      obtain ⟨nx, hnx⟩ : ∃ nx, nx = segs[k].first + segs[k].recs.length := ⟨_, rfl⟩
      rw [← hnx] at t3 HNX
      clear hge hnx
      go_wp2_with fail
      refine (HNX.out _).mono ?_
      rintro e w2 ⟨rfl, hb2⟩
      have HB2 := Lib.hid hb2
      clear hb2
      go_wp2_with fail
      go_roundw
      case rel => exact ⟨k + 1, by omega, by go_num, Lib.hid (hb.out.trans (HB2.out.mono hb.out.size))⟩
      case measure => simp [intOf]; omega
    · have hke : k = q := by omega
      subst hke
      have t3 : ¬ ((segs[k].first + segs[k].recs.length : Nat) : Int) ≤ (n : Int) := by have := HQ.out; omega
      obtain ⟨nx, hnx⟩ : ∃ nx, nx = segs[k].first + segs[k].recs.length := ⟨_, rfl⟩
      rw [← hnx] at t3 HNX
      clear hnx
      obtain ⟨sg, hsg⟩ : ∃ sg, sg = segs[k] := ⟨_, rfl⟩
      have HSG := Lib.hid hsg
      have hj' : j < sg.recs.length := by rw [hsg]; exact hj
      have HGG : Hid (GoodS sg ∧ n = sg.first + j) := Lib.hid ⟨by rw [hsg]; exact HR.out.lgc.good _ (List.getElem_mem hkl), by rw [hsg]; exact HN.out⟩
      have hres : segs[k].recs[j] = sg.recs[j] := by subst hsg; rfl
      have HRES := Lib.hid hres
      have hxl' : sg.recs[j].length ≤ 549755813888 := by rw [← hres]; exact hxl
      rw [← hsg] at c0 c1 c2 c3 HRC HNX
      clear hsg hres
      go_wp2_with fail
      refine (HNX.out _).mono ?_
      rintro e w2 ⟨rfl, hb2⟩
      have HB2 := Lib.hid hb2
      have hb3 : Below wr.heap.size wr (w2.alloc (.cells #[.int .i64 (sg.num : Int), .int .i64 (sg.first : Int), .int .i64 (sg.size : Int), .slice Au sg.recs.length cu] 76)) := hb2.alloc hb2.size _
      have d3 := (hb2.cell (World.block_lt_of_cell? _ _ d3)).trans d3
      have c0 := (hb2.cell (World.block_lt_of_cell? _ _ c0)).trans c0
      have c1 := (hb2.cell (World.block_lt_of_cell? _ _ c1)).trans c1
      have c2 := (hb2.cell (World.block_lt_of_cell? _ _ c2)).trans c2
      have c3 := (hb2.cell (World.block_lt_of_cell? _ _ c3)).trans c3
      obtain ⟨vals, hv, _, hi⟩ := HRC.out.after hb3
      obtain ⟨Ax, cx, hx, hox, _⟩ := hi j hj'
      have hvl : j < vals.length := (List.getElem?_eq_some_iff.1 hx).1
      obtain ⟨ad, rfl, hadl, -, hcell⟩ := sl_get (Sl.of_own hv (X := fun _ => False) (fun _ _ _ h => h)) hvl
      have hvx : vals[j] = .slice Ax sg.recs[j].length cx := (List.getElem?_eq_some_iff.1 hx).2
      rw [hvx] at hcell
      have HOX := Lib.hid hox
      have hwr : IntKind.i64.wrap ((n : Int) - (sg.first : Int)) = (j : Int) := by have := HGG.out.2; have := HGG.out.1.first; have := HGG.out.1.few; have := HGG.out.1.size; rw [wrap64 (by omega) (by omega)]; omega
      have hjl : (j : Int) < (sg.recs.length : Int) := by omega
      clear hb2 hv hi hx hox hvx hvl
      go_wp2_with fail
      refine (clone_sh (fun _ => False) _ sg.recs[j].length sg.recs[j] _ (Sl.of_own HOX.out (fun _ _ _ h => h)) hxl').mono ?_
      rintro e w4 ⟨A4, c4, rfl, ho4, hb4⟩
      have HO4 := Lib.hid ho4
      have HB4 := Lib.hid (hb3.trans (hb4.mono (by have := HB2.out.size; simp; omega)))
      clear ho4 hb4
      go_wp2_with fail
      go_ret2
      rw [HRES.out]
      exact ⟨A4, c4, rfl, own_base HO4.out (by have := hb.out.size; have := HB2.out.size; simp; omega), hb.out.trans (HB4.out.mono hb.out.size)⟩

end Go.Proofs.YtjjfhbbaabakmaaGreatDoor.Vc

/-
  Contract of layer 4's law's begun.
-/
namespace Go.Proofs.YtjjfhbbaabakmaaGreatDoor.Vd
set_option linter.unusedSimpArgs false
open Go Go.RowKit Ck Kw Ga Dm Dw Da Db Dc Dd De Df Dg Dh Wc Wf Wa Wb Wd Wn We Kx Wg Wh Wl Wj Wk Wo Wq Wr Ws Wt Wu Wv Ww Wx Wy Wz Va Vb Vc
attribute [local go_sem ↓] Go.wp_at_zero Go.wp_at_succ
set_option linter.unusedVariables false

theorem frs_frames {xs : List Bs} (h : ∀ x ∈ xs, x.length ≤ 524288) : Frs (frames xs) xs [] := ⟨by simp, h, fun x t hf => by
  have := congrArg List.length hf.1
  have := frame_pos x
  simp at *
  omega⟩
def lg : Tx := [108, 111, 103]
def r78 : Tx := [7, 8]
theorem okName_lg : okName lg = true := by decide
def seg1 : Sg := ⟨1, 1, (head 1).length + (frame r78).length, [r78]⟩
def L1 : List Fl := [⟨nm lg 1, head 1, (head 1).length⟩]
def L2 : List Fl := [⟨nm lg 1, head 1 ++ frame r78, (head 1).length⟩]
theorem frame_r78 : (frame r78).length ≤ 20 ∧ 5 ≤ (frame r78).length := by
  have := Cm.enc_len r78.length
  rw [frame_len]
  have h1 := this.1
  have h2 := this.2
  have h3 : r78.length = 2 := rfl
  omega
theorem app_L1 : appS L1 1000 false (nm lg 1) (frame r78) = (L2, 0) := by
  have h1 := head_len 1
  have h2 := frame_r78
  have hf : find L1 (nm lg 1) = some ⟨nm lg 1, head 1, (head 1).length⟩ := by simp [find, L1]
  rw [appS, hf]
  simp only [Bool.false_eq_true, if_false, putS]
  rw [if_neg (by simp [L1, used]; omega)]
  simp [L1, L2, upd, setf, Db.wr]
theorem seg1_of : segOf 1 [Cm.enc 1, r78] = seg1 := by
  have h : fstOf (Cm.enc 1) = 1 := fstOf_enc (by omega)
  simp only [segOf, h]
  rw [if_neg (by omega)]
  simp [seg1, frames, head]
theorem loads_L2 : Loads L2 lg ([] ++ [seg1]) := by
  have h1 := head_len 1
  have h2 := frame_r78
  have he := Cm.enc_len 1
  refine ⟨fun i hi => ?_, fun i hi => by simp at hi, by simp⟩
  have hi0 : i = 0 := by simpa using hi
  subst hi0
  refine ⟨⟨nm lg 1, head 1 ++ frame r78, (head 1).length⟩, [Cm.enc 1, r78], [], ⟨?_, ?_, seg1_of, ?_, ⟨?_, ?_, ?_, ?_⟩, ?_, ?_⟩, fun h => by simp at h⟩
  · simp [find, L2, seg1]
  · have := frs_frames (xs := [Cm.enc 1, r78]) (fun x hx => by
      simp at hx
      rcases hx with rfl | rfl
      · have := he.1; omega
      · simp [r78])
    simpa [frames, head] using this
  · simp [seg1]
  · simp [seg1]
  · simp [seg1]
  · simp [seg1]; omega
  · simp [seg1]; omega
  · simp [seg1]
  · simp; omega

theorem two_lit (w : World) (X : Nat → Prop) (t : TypeId) (hX : ¬ X w.heap.size) : Sl (w.alloc (.cells #[.int .u8 7, .int .u8 8] t)) X 1 (.slice (some ⟨w.heap.size, 0, none⟩) 2 2) 2 (BVs r78) := by
  refine ⟨_, _, rfl, rfl, Nat.le_refl _, by simp only [maxLen]; omega, fun _ => ⟨_, rfl, by simp, hX, fun j x hx => ?_⟩⟩
  have ha : (⟨w.heap.size, 0, none⟩ : Addr).add j = ⟨w.heap.size, j, none⟩ := by unfold Addr.add; split <;> simp_all
  rw [ha, Blk.cell (Blk.new w t _) j]
  have e : BVs r78 = [.int .u8 7, .int .u8 8] := rfl
  rw [e] at hx
  simpa using hx

set_option maxRecDepth 100000 in
set_option maxHeartbeats 8000000 in
theorem begun_any (w : World) (hT : Tab w) : Calls Tryz.prog 7 #[] w fun e w' => e = .returned (.bool true) ∧ Below w.heap.size w w' := by
  have HT := Lib.hid hT
  clear hT
  go_enter Tryz.func7, Tryz.ntmps7
  go_wp2_with fail
  refine (new_ok w 1000 (by omega)).mono ?_
  rintro e w1 ⟨p, rfl, hdk, hb1⟩
  have HB1 := Lib.hid hb1
  have HOP := Lib.hid (open_empty w1 (New w w1) p 1000 lg 64 hdk (fun k hk => hk.2) (HT.out.after hb1) (fun hz => by have := HT.out.lt; have := hz.1; omega) okName_lg (by omega) (by omega) (by omega))
  clear hdk hb1
  go_wp2_with fail
  refine HOP.out.mono ?_
  rintro e w2 ⟨g, S1, S2, rfl, hD, hS⟩
  have HD2 := Lib.hid hD
  have HS2 := Lib.hid hS
  clear hD hS HOP
  go_wp2_with fail
  have hal : Below w2.heap.size w2 (w2.alloc (.cells #[.int .u8 7, .int .u8 8] 5)) := (Below.refl _ w2).alloc (Nat.le_refl _) _
  have HAL := Lib.hid hal
  have HAP := Lib.hid (append_log (w2.alloc (.cells #[.int .u8 7, .int .u8 8] 5)) S1 S2 (fun k => k < w2.heap.size) g p L1 1000 lg 64 [] ⟨1, 1, (head 1).length, []⟩ 0 ⟨nm lg 1, head 1, (head 1).length⟩ (HD2.out.later hal) (by simp) (by simp) (by simp [find, L1]) rfl (some ⟨w2.heap.size, 0, none⟩) 2 r78 (two_lit w2 _ _ (by simp)) (fun k hk => HD2.out.b1 k hk) (fun k hk => HD2.out.b2 k hk) (by simp [r78]))
  clear hal
  refine HAP.out.mono ?_
  rintro e w4 hA
  have hA2 : e = .returned (.tuple #[.int .i64 1, .int .i64 0]) ∧ Wal S1 S2 g p 1000 lg 64 (w2.alloc (.cells #[.int .u8 7, .int .u8 8] 5)) L2 [seg1] 0 w4 := by
    rcases hA with ⟨_, hA⟩ | ⟨hf, _⟩ | ⟨hf, _⟩
    · rcases hA with ⟨_, he, hw⟩ | ⟨hc, _⟩
      · rw [app_L1] at hw
        exact ⟨he, hw⟩
      · rw [app_L1] at hc
        exact absurd rfl hc
    · simp [full] at hf
    · simp [full] at hf
  obtain ⟨rfl, R1, R2, hD, hS⟩ := hA2
  have HD4 := Lib.hid hD
  have HS4 := Lib.hid hS
  have HOP := Lib.hid (open_segs w4 R2 p 1000 lg 64 L2 [] seg1 hD.dk hD.b2 hD.tab hD.z2 okName_lg (by omega) (by omega) loads_L2 (by simp [L2, seg1]) (by simp [seg1]) (by simp [find, L2, nm_ne]))
  obtain ⟨gb4, cap4, hC4, hgb4, _⟩ := hD.cells (by simp)
  clear hA hD hS HAP
  go_wp2_with fail
  refine HOP.out.mono ?_
  rintro e w5 ⟨m, T1, T2, rfl, hD, hS⟩
  have HD5 := Lib.hid hD
  have HS5 := Lib.hid hS
  have hl5 := HD4.out.lg
  obtain ⟨gb5, cap5, hR⟩ := Reads.of hD.lg (by simp)
  have hlast : seg1.first + seg1.recs.length - 1 = 1 := rfl
  rw [hlast] at HD5
  have HGE : Hid (Calls Tryz.prog 30 #[.pointer (some ⟨m, 0, none⟩), .int .i64 1] w5 (Got w5 (r78, 0))) := Lib.hid (getn_log w5 m p gb5 cap5 lg 64 _ [seg1] hR seg1 seg1 [] [] rfl rfl (by simp) 1 0 0 (by simp) (by simp [seg1]) rfl (by simp [seg1]) (by simp [seg1]) (fun i hi => by omega) (by simp [seg1, r78]))
  have hgR : R1 g := by obtain ⟨_, _, _, h, _⟩ := HD4.out.lg; exact h
  have HCL := Lib.hid (hC4.ch hS.ch (fun h => h.elim (fun h => h) (fun h => HD4.out.apart g hgR h)) (fun h => h.elim (fun h => h) (fun h => HD4.out.apart gb4 hgb4 h)))
  have HCM := Lib.hid hR.lgc
  clear hD hS hl5 hR HOP
  go_wp2_with fail
  refine HGE.out.mono ?_
  rintro e w6 ⟨A6, c6, rfl, ho6, hb6⟩
  have HB6 := Lib.hid hb6
  have HO6 := Lib.hid ho6
  clear hb6 ho6
  dsimp only
  go_wp2_with fail
  have hb7 : Below w5.heap.size w5 (w6.alloc (.cells #[.int .u8 7, .int .u8 8] 5)) := HB6.out.alloc HB6.out.size _
  have HB7 := Lib.hid hb7
  have HEQ := Lib.hid (equal_any (w6.alloc (.cells #[.int .u8 7, .int .u8 8] 5)) (fun _ => False) (fun _ => False) _ _ _ _ r78 r78 (Sl.of_own (HO6.out.alloc _) (fun _ _ _ h => h)) (two_lit w6 _ _ (fun h => h)))
  have HLA := Lib.hid (lastn_log _ m p gb5 cap5 lg 64 [] seg1 _ (HCM.out.after hb7) (by simp))
  have hls : lastS seg1 = 1 := rfl
  rw [hls] at HLA
  clear hb7 hls
  refine HEQ.out.mono ?_
  rintro e w8 ⟨rfl, rfl⟩
  have hbe : (r78 == r78) = true := by decide
  rw [hbe]
  go_wp2_with fail
  refine HLA.out.mono ?_
  rintro e w8 ⟨rfl, hb8⟩
  have HB8 := Lib.hid (HB7.out.trans (hb8.mono HB7.out.size))
  have HSL := Lib.hid (synced_log w8 g p gb4 cap4 lg 64 _ 0 (HCL.out.after HB8.out))
  have HSM := Lib.hid (synced_log w8 m p gb5 cap5 lg 64 _ 1 (HCM.out.after HB8.out))
  clear hb8
  go_wp2_with fail
  refine HSL.out.mono ?_
  rintro e w9 ⟨rfl, rfl⟩
  go_wp2_with fail
  refine HSM.out.mono ?_
  rintro e w9 ⟨rfl, rfl⟩
  go_wp2_with fail
  go_ret
  have tot := (HS2.out.trans (Step.below HAL.out)).trans HS4.out
  have z1 := HB1.out.size
  have z2 := tot.ch.size
  have c1 : Below w.heap.size w w4 := HB1.out.trans (tot.ch.below (fun k hk h => by
    rcases h with h | h
    · exact h
    · have := h.1; omega) z1)
  have c2 : Below w.heap.size w w5 := c1.trans (HS5.out.ch.below (fun k hk h => by
    rcases h with h | h
    · exact h
    · rcases tot.s2 k h with h | h
      · have := h.1; omega
      · omega) c1.size)
  exact ⟨rfl, c2.trans (HB8.out.mono c2.size)⟩

end Go.Proofs.YtjjfhbbaabakmaaGreatDoor.Vd

/-
  Contract of layer 4's Open on an empty disk.
-/
import Derived.Test.YtjjfhbbaabakmaaGreatDoorWS14
import Derived.Test.YtjjfhbbaabakmaaGreatDoorWS09
import Derived.Test.YtjjfhbbaabakmaaGreatDoorWS11
namespace Go.Proofs.YtjjfhbbaabakmaaGreatDoor.Va
set_option linter.unusedSimpArgs false
open Go Go.RowKit Ck Kw Ga Dm Dw Da Db Dc Dd De Df Dg Dh Wc Wf Wa Wb Wd Wn We Kx Wg Wh Wl Wj Wk Wo Wq Wr Ws Wt Wu Wv Ww Wx Wy Wz
attribute [local go_sem ↓] Go.wp_at_zero Go.wp_at_succ
set_option linter.unusedVariables false

set_option maxRecDepth 100000 in
set_option maxHeartbeats 4000000 in
theorem load_none (w : World) (S1 S2 : Nat → Prop) (g p : Nat) (L : List Fl) (room : Nat) (name : Tx) (most : Nat) (synced : Nat) (h : LDs w S1 S2 g p L room name most [] synced) (A : Option Addr) (c : Nat) :
    Calls Tryz.prog 27 #[.pointer (some ⟨g, 0, none⟩), .slice A 0 c] w (Begun S1 S2 g p room name most w (begS L room name 1 1) [] synced 1 1) := by
  have HB := Lib.hid (begin_any w S1 S2 g p L room name most [] synced 1 1 h (by simp))
  clear h
  go_enter Tryz.func27, Tryz.ntmps27
  go_wp2_with fail
  refine HB.out.mono ?_
  rintro e w2 ⟨rfl, hw⟩
  go_wp2_with fail
  go_ret
  exact ⟨rfl, hw⟩

/-- What Open answers and leaves where it opens. -/
def Opened (S : Nat → Prop) (p room : Nat) (name : Tx) (most : Nat) (w : World) (L : List Fl) (segs : List Sg) (y : Nat) (e : Ending) (w' : World) : Prop :=
  ∃ g S1 S2, e = .returned (.tuple #[.pointer (some ⟨g, 0, none⟩), .int .i64 0]) ∧ LDs w' S1 S2 g p L room name most segs y ∧ Step (fun _ => False) S S1 S2 w w'
/-- A log just made. -/
theorem lds_new {w w1 : World} {S : Nat → Prop} {p room most : Nat} {L : List Fl} {name : Tx} (h : Dk w S p L room false) (hS : ∀ k, S k → k < w.heap.size) (hT : Tab w) (hz : ¬ S 0) (b : Below w.heap.size w w1) (hn : name.length ≤ 16) (hm : most ≤ 4194304) :
    LDs (w1.alloc (.cells #[.pointer (some ⟨p, 0, none⟩), .string ⟨name.toArray⟩, .int .i64 (most : Int), .slice none 0 0, .int .i64 0] 64)) (fun k => k = w1.heap.size) S w1.heap.size p L room name most [] 0 ∧
    Step (fun _ => False) S (fun k => k = w1.heap.size) S w (w1.alloc (.cells #[.pointer (some ⟨p, 0, none⟩), .string ⟨name.toArray⟩, .int .i64 (most : Int), .slice none 0 0, .int .i64 0] 64)) := by
  have hs := b.size
  have hb : Below w.heap.size w (w1.alloc (.cells #[.pointer (some ⟨p, 0, none⟩), .string ⟨name.toArray⟩, .int .i64 (most : Int), .slice none 0 0, .int .i64 0] 64)) := b.alloc b.size _
  refine ⟨⟨⟨_, [], Blk.new w1 _ _, rfl, Segs.nil _ _, hn, hm⟩, h.later hb, fun k e hk => ?_, fun k e => ?_, fun k hk => ?_, hT.after hb, fun e => ?_, hz⟩, fun k e => ?_, fun k hk => .inl hk, Ch.of_below hb (Nat.le_refl _)⟩
  · have := hS k hk; omega
  · rw [e]; simp
  · have := hS k hk; simp; omega
  · have := hT.lt; omega
  · exact .inr ⟨by omega, by rw [e]; simp⟩

set_option maxRecDepth 100000 in
set_option maxHeartbeats 8000000 in
theorem open_empty (w : World) (S : Nat → Prop) (p room : Nat) (name : Tx) (most : Nat) (h : Dk w S p [] room false) (hS : ∀ k, S k → k < w.heap.size) (hT : Tab w) (hz : ¬ S 0) (hn : okName name = true) (hm1 : 64 ≤ most) (hm2 : most ≤ 4194304) (hr : 15 ≤ room) :
    Calls Tryz.prog 6 #[.pointer (some ⟨p, 0, none⟩), .string ⟨name.toArray⟩, .int .i64 (most : Int)] w (Opened S p room name most w [⟨nm name 1, head 1, (head 1).length⟩] [⟨1, 1, (head 1).length, []⟩] 0) := by
  have hn16 : name.length ≤ 16 := by rw [okName_of] at hn; simp at hn; exact hn.2
  have hbeg : begS [] room name 1 1 = ([⟨nm name 1, head 1, (head 1).length⟩], 0) := by
    have := (head_len 1).1
    unfold begS
    rw [if_neg (by omega), if_neg (by omega), if_neg (by simp [isIn]), if_neg (by simp), if_neg (by simp [used]; omega)]
    rfl
  have HRD := Lib.hid (ready_on_ w S p [] room h rfl)
  have HIS := Lib.hid (isname_any w name (by omega))
  have HN := Lib.hid hn
  have HBG := Lib.hid hbeg
  have H := Lib.hid (And.intro h (And.intro hS (And.intro hT hz)))
  have m1 : ¬ (most : Int) < 64 := by omega
  have m2 : ¬ (4194304 : Int) < (most : Int) := by omega
  clear h hS hT hz hn hbeg
  go_enter Tryz.func6, Tryz.ntmps6
  go_wp2_with fail
  refine HRD.out.mono ?_
  rintro e w1 ⟨rfl, rfl⟩
  go_wp2_with fail
  refine HIS.out.mono ?_
  rintro e w1 ⟨rfl, hb1⟩
  rw [HN.out]
  have HB1 := Lib.hid hb1
  clear hb1
  go_wp2_with fail
  have hl := lds_new H.out.1 H.out.2.1 H.out.2.2.1 H.out.2.2.2 HB1.out hn16 hm2
  obtain ⟨g, hg⟩ : ∃ g, g = w1.heap.size := ⟨_, rfl⟩
  simp only [← hg] at hl ⊢
  generalize (w1.alloc (.cells #[.pointer (some ⟨p, 0, none⟩), .string ⟨name.toArray⟩, .int .i64 (most : Int), .slice none 0 0, .int .i64 0] 64)) = w2 at hl ⊢
  have HL := Lib.hid hl
  have HLI := Lib.hid (Dl.list_on w2 S p [] room false hl.1.dk)
  clear hl hg
  refine HLI.out.mono ?_
  rintro e w3 ⟨A3, c3, rfl, ho3, hb3⟩
  rw [show (List.map (fun x : Fl => x.n) []).mergeSort leB = List.map (nm name) ([] : List Nat) by simp] at ho3
  have HN3 := Lib.hid (numbers_any w3 (fun _ => False) A3 c3 name [] (HL.out.1.later hb3).tab (by simp) (by omega) (by simp) (Sl.of_own ho3 (fun _ _ _ h => h)))
  have HB3 := Lib.hid hb3
  simp only [List.length_nil] at HN3 ⊢
  clear ho3 hb3 HLI
  go_wp2_with fail
  refine HN3.out.mono ?_
  rintro e w4 ⟨A4, c4, rfl, -, hb4⟩
  have HB4 := Lib.hid (HB3.out.trans (hb4.mono HB3.out.size))
  have HLO := Lib.hid (load_none w4 _ _ g p [] room name most 0 (HL.out.1.later HB4.out) A4 c4)
  rw [HBG.out] at HLO
  clear hb4 HN3
  go_wp2_with fail
  refine HLO.out.mono ?_
  rintro e w5 ⟨rfl, T1, T2, hD, hS5⟩
  rw [if_pos rfl] at hD
  obtain ⟨gb, cap, hC, hgb, hgn⟩ := hD.cells (by simp)
  have HLA := Lib.hid (lastn_log w5 g p gb cap name most [] ⟨1, 1, (head 1).length, []⟩ 0 hC (by simp))
  have HKB := Lib.hid hC.blk
  have HD := Lib.hid hD
  have HS5 := Lib.hid hS5
  have hls : lastS ⟨1, 1, (head 1).length, []⟩ = 0 := by simp [lastS]
  rw [hls] at HLA
  clear hD hS5 hC HLO
  go_wp2_with fail
  refine HLA.out.mono ?_
  rintro e w6 ⟨rfl, hb6⟩
  have hk6 := HKB.out.below hb6 HKB.out.lt
  have q4 := hk6.cell 4
  have qf := hk6.frozen 4
  simp only [List.getElem?_toArray, List.getElem?_cons_zero, List.getElem?_cons_succ] at q4
  have HB6 := Lib.hid hb6
  clear hk6 hb6
  go_wp2_with fail
  go_ret2
  have h6 := (HD.out.later HB6.out).set_sync 0
  exact ⟨g, _, _, rfl, h6.1, (((HL.out.2.trans (Step.below HB4.out)).trans HS5.out).trans (Step.below HB6.out)).trans h6.2⟩

end Go.Proofs.YtjjfhbbaabakmaaGreatDoor.Va

/-
  Contract of layer 4's Open on a disk that has a log's files alone.
-/
namespace Go.Proofs.YtjjfhbbaabakmaaGreatDoor.Vb
set_option linter.unusedSimpArgs false
open Go Go.RowKit Ck Kw Ga Dm Dw Da Db Dc Dd De Df Dg Dh Wc Wf Wa Wb Wd Wn We Kx Wg Wh Wl Wj Wk Wo Wq Wr Ws Wt Wu Wv Ww Wx Wy Wz Va
attribute [local go_sem ↓] Go.wp_at_zero Go.wp_at_succ
set_option linter.unusedVariables false

theorem perm_map {α β : Type} (f : α → β) {l : List α} {m : List β} (h : m.Perm (l.map f)) : ∃ k : List α, k.Perm l ∧ m = k.map f := by
  generalize hm : l.map f = q at h
  induction h generalizing l with
  | nil => exact ⟨[], by cases l with | nil => exact .refl _ | cons a l => simp at hm, rfl⟩
  | cons x _ ih =>
    cases l with
    | nil => simp at hm
    | cons a l =>
      simp at hm
      obtain ⟨k, h1, h2⟩ := ih hm.2
      exact ⟨a :: k, h1.cons a, by rw [h2, List.map_cons, hm.1]⟩
  | swap x y t =>
    cases l with
    | nil => simp at hm
    | cons a l =>
      cases l with
      | nil => simp at hm
      | cons b l =>
        simp at hm
        obtain ⟨rfl, rfl, rfl⟩ := hm
        exact ⟨b :: a :: l, .swap _ _ _, rfl⟩
  | trans _ _ ih1 ih2 =>
    obtain ⟨k, h1, h2⟩ := ih2 hm
    obtain ⟨k2, h3, h4⟩ := ih1 h2.symm
    exact ⟨k2, h3.trans h1, h4⟩
theorem Loads.rises {L : List Fl} {name : Tx} {segs : List Sg} (h : Loads L name segs) : ∀ (d i : Nat) (hi : i + d < segs.length), segs[i + d].num = segs[i].num + d
  | 0, i, hi => rfl
  | d + 1, i, hi => by
    have h1 := Loads.rises h d i (by omega)
    have h2 := (h.chain (i + d) (by omega)).1
    have e : segs[i + (d + 1)] = segs[i + d + 1] := rfl
    rw [e, h2, h1]
    omega
theorem nums_sorted {L : List Fl} {name : Tx} {segs : List Sg} (h : Loads L name segs) {ks : List Nat} (hp : ks.Perm (segs.map (·.num))) :
    (ks.map (fun k : Nat => (k : Int))).mergeSort (fun x y => decide (x ≤ y)) = segs.map (fun t => (t.num : Int)) := by
  have hp1 : ((ks.map (fun k : Nat => (k : Int))).mergeSort (fun x y => decide (x ≤ y))).Perm (segs.map (fun t => (t.num : Int))) := by
    refine (List.mergeSort_perm _ _).trans ?_
    have := hp.map (fun k : Nat => (k : Int))
    rwa [List.map_map] at this
  have h1 : ((ks.map (fun k : Nat => (k : Int))).mergeSort (fun x y => decide (x ≤ y))).Pairwise (fun x y => decide (x ≤ y) = true) := List.pairwise_mergeSort (by intro a b c; simp; omega) (by intro a b; simp; omega) _
  have h2 : (segs.map (fun t => (t.num : Int))).Pairwise (fun x y => decide (x ≤ y) = true) := by
    rw [List.pairwise_iff_getElem]
    intro i j hi hj hij
    simp only [List.length_map] at hi hj
    have := Loads.rises h (j - i) i (by omega)
    have e : segs[i + (j - i)]'(by omega) = segs[j] := by congr 1; omega
    rw [e] at this
    simp only [List.getElem_map, decide_eq_true_eq]
    omega
  exact hp1.eq_of_pairwise (fun a b _ _ h1 h2 => by simp at h1 h2; omega) h1 h2
theorem names_rows {L : List Fl} {name : Tx} {segs : List Sg} (hp : (L.map (·.n)).Perm (segs.map (fun t => nm name t.num))) : ∃ ks : List Nat, ks.Perm (segs.map (·.num)) ∧ (L.map (·.n)).mergeSort leB = ks.map (nm name) := by
  have h1 : ((L.map (·.n)).mergeSort leB).Perm ((segs.map (·.num)).map (nm name)) := by
    refine (List.mergeSort_perm _ _).trans ?_
    rw [List.map_map]
    exact hp
  exact perm_map _ h1

theorem all_some {L : List Fl} {name : Tx} {segs : List Sg} (h : Loads L name segs) (n : Tx) (z : Nat) : ∀ t ∈ segs, (find (truncS L false n z).1 (nm name t.num)).isSome = true := fun t ht => by
  obtain ⟨i, hi, rfl⟩ := List.getElem_of_mem ht
  obtain ⟨f, xs, r, ha, _⟩ := h.at_ i hi
  simp only [truncS]
  cases hf : find L n with
  | none => simp [ha.file]
  | some f0 =>
    simp only [Bool.false_eq_true, if_false]
    split
    · simp [ha.file]
    · rw [find_upd (h := setf _ _) (fun _ => rfl)]
      simp [ha.file]
/-- What Open makes of the files. -/
def openS (L : List Fl) (name : Tx) (ls : List Sg) (s : Sg) : List Fl := syncAll (truncS L false (nm name s.num) s.size).1 name (ls ++ [s])

set_option maxRecDepth 100000 in
set_option maxHeartbeats 8000000 in
theorem open_segs (w : World) (S : Nat → Prop) (p room : Nat) (name : Tx) (most : Nat) (L : List Fl) (ls : List Sg) (s : Sg) (h : Dk w S p L room false) (hS : ∀ k, S k → k < w.heap.size) (hT : Tab w) (hz : ¬ S 0) (hn : okName name = true) (hm1 : 64 ≤ most) (hm2 : most ≤ 4194304)
    (hL : Loads L name (ls ++ [s])) (hp : (L.map (·.n)).Perm ((ls ++ [s]).map (fun t => nm name t.num))) (h1 : 1 ≤ s.num ∧ ∀ t ∈ ls, 1 ≤ t.num) (he : find L [] = none) :
    Calls Tryz.prog 6 #[.pointer (some ⟨p, 0, none⟩), .string ⟨name.toArray⟩, .int .i64 (most : Int)] w (Opened S p room name most w (openS L name ls s) (ls ++ [s]) (s.first + s.recs.length - 1)) := by
  have hn16 : name.length ≤ 16 := by rw [okName_of] at hn; simp at hn; exact hn.2
  have HRD := Lib.hid (ready_on_ w S p L room h he)
  have HIS := Lib.hid (isname_any w name (by omega))
  have HN := Lib.hid hn
  have H := Lib.hid (And.intro h (And.intro hS (And.intro hT hz)))
  have m1 : ¬ (most : Int) < 64 := by omega
  have m2 : ¬ (4194304 : Int) < (most : Int) := by omega
  obtain ⟨ks, hk1, hk2⟩ := names_rows hp
  have hlen : L.length = ks.length := by have := hp.length_eq; have := hk1.length_eq; simp at *; omega
  have hkl : ks.length ≤ 64 := by have := hk1.length_eq; have := hL.few; simp at *; omega
  have hkb : ∀ k ∈ ks, 1 ≤ k ∧ k < 1000000000000000 := fun k hk => by
    have := (hk1.mem_iff).1 hk
    rw [List.mem_map] at this
    obtain ⟨t, ht, rfl⟩ := this
    obtain ⟨i, hi, rfl⟩ := List.getElem_of_mem ht
    obtain ⟨f, xs, r, ha, _⟩ := hL.at_ i hi
    refine ⟨?_, ha.good.num⟩
    rcases List.mem_append.1 ht with ht | ht
    · exact h1.2 _ ht
    · rw [List.mem_singleton.1 ht]; exact h1.1
  have hso := nums_sorted hL hk1
  have hkn : ks.length = (ls ++ [s]).length := by have := hk1.length_eq; simpa using this
  have hs0 := hL.at_ ls.length (by simp)
  simp only [List.getElem_append_right (Nat.le_refl _), Nat.sub_self, List.getElem_cons_zero] at hs0
  have hs1 : 1 ≤ s.first := by obtain ⟨_, _, _, ha, _⟩ := hs0; exact ha.first
  have HK := Lib.hid (And.intro hk2 (And.intro hkb (And.intro hso hkn)))
  have HLS := Lib.hid hL
  have hll : ls.length ≤ 549755813888 := by have := hL.few; simp at this; omega
  clear h hS hT hz hn hk1 hk2 hkb hso hL hp h1 he hs0 hkn
  go_enter Tryz.func6, Tryz.ntmps6
  go_wp2_with fail
  refine HRD.out.mono ?_
  rintro e w1 ⟨rfl, rfl⟩
  go_wp2_with fail
  refine HIS.out.mono ?_
  rintro e w1 ⟨rfl, hb1⟩
  rw [HN.out]
  have HB1 := Lib.hid hb1
  clear hb1
  go_wp2_with fail
  have hl := lds_new H.out.1 H.out.2.1 H.out.2.2.1 H.out.2.2.2 HB1.out hn16 hm2
  obtain ⟨g, hg⟩ : ∃ g, g = w1.heap.size := ⟨_, rfl⟩
  simp only [← hg] at hl ⊢
  generalize (w1.alloc (.cells #[.pointer (some ⟨p, 0, none⟩), .string ⟨name.toArray⟩, .int .i64 (most : Int), .slice none 0 0, .int .i64 0] 64)) = w2 at hl ⊢
  have HL := Lib.hid hl
  have HLI := Lib.hid (Dl.list_on w2 S p L room false hl.1.dk)
  clear hl hg
  refine HLI.out.mono ?_
  rintro e w3 ⟨A3, c3, rfl, ho3, hb3⟩
  rw [HK.out.1, hlen] at ho3
  have HN3 := Lib.hid (numbers_any w3 (fun _ => False) A3 c3 name ks (HL.out.1.later hb3).tab HK.out.2.1 (by omega) hkl (Sl.of_own ho3 (fun _ _ _ h => h)))
  have HB3 := Lib.hid hb3
  rw [hlen]
  clear ho3 hb3 HLI
  go_wp2_with fail
  refine HN3.out.mono ?_
  rintro e w4 ⟨A4, c4, rfl, ho4, hb4⟩
  rw [HK.out.2.2.1, List.map_map, HK.out.2.2.2] at ho4
  have HB4 := Lib.hid (HB3.out.trans (hb4.mono HB3.out.size))
  have HLO := Lib.hid (load_log w4 _ _ (fun k => k < w3.heap.size) g p L room name most ls s 0 (HL.out.1.later HB4.out) HLS.out (all_some HLS.out _ _) A4 c4 (Sl.of_own ho4 (fun k h1 _ h2 => by have : k < w3.heap.size := h2; omega)) (fun k hk => by have := HL.out.1.b1 k hk; have := HB3.out.size; show k < w3.heap.size; omega) (fun k hk => by have := HL.out.1.b2 k hk; have := HB3.out.size; show k < w3.heap.size; omega))
  rw [← HK.out.2.2.2] at HLO
  clear hb4 HN3 ho4
  go_wp2_with fail
  refine HLO.out.mono ?_
  rintro e w5 ⟨rfl, T1, T2, hD, hS5⟩
  obtain ⟨gb, cap, hC, hgb, hgn⟩ := hD.cells (by simp)
  have HLA := Lib.hid (lastn_log w5 g p gb cap name most ls s 0 hC hll)
  have HKB := Lib.hid hC.blk
  have HD := Lib.hid hD
  have HS5 := Lib.hid hS5
  rw [lastS_nat hs1] at HLA
  clear hD hS5 hC HLO
  go_wp2_with fail
  refine HLA.out.mono ?_
  rintro e w6 ⟨rfl, hb6⟩
  have hk6 := HKB.out.below hb6 HKB.out.lt
  have q4 := hk6.cell 4
  have qf := hk6.frozen 4
  simp only [List.getElem?_toArray, List.getElem?_cons_zero, List.getElem?_cons_succ] at q4
  have HB6 := Lib.hid hb6
  obtain ⟨yy, hyy⟩ : ∃ yy, yy = s.first + s.recs.length - 1 := ⟨_, rfl⟩
  rw [← hyy]
  have HY := Lib.hid hyy
  clear hk6 hb6 hyy
  go_wp2_with fail
  go_ret2
  have e := HY.out
  subst e
  have h6 := (HD.out.later HB6.out).set_sync (s.first + s.recs.length - 1)
  exact ⟨g, _, _, rfl, h6.1, (((HL.out.2.trans (Step.below HB4.out)).trans HS5.out).trans (Step.below HB6.out)).trans h6.2⟩

end Go.Proofs.YtjjfhbbaabakmaaGreatDoor.Vb

/-
  Contract of layer 4's Prune: the first segments go.
-/
namespace Go.Proofs.YtjjfhbbaabakmaaGreatDoor.Uo
set_option linter.unusedSimpArgs false
open Go Go.RowKit Ck Kw Ga Dm Dw Da Db Dc Dd De Df Dg Dh Wc Wf Wa Wb Wd Wn We Kx Wg Wh Wl Wj Wk Wo Wq Wr Ws Wt Wu Wv Ww Wx Un
attribute [local go_sem ↓] Go.wp_at_zero Go.wp_at_succ
set_option linter.unusedVariables false

theorem cellsS_one : ∀ {l : List Sg} {r : List Value}, (∀ u ∈ r, u.oneCell' = true) → ∀ x ∈ cellsS l r, x.oneCell' = true
  | [], _, _, x, hx => by simp [cellsS] at hx
  | _ :: _, [], _, x, hx => by simp [cellsS] at hx
  | s :: l, v :: r, h, x, hx => by
    simp only [cellsS, List.mem_cons] at hx
    rcases hx with rfl | rfl | rfl | rfl | hx
    · rfl
    · rfl
    · rfl
    · exact h _ (by simp)
    · exact cellsS_one (fun u hu => h u (by simp [hu])) x hx
theorem segs_one {w : World} {S : Nat → Prop} {v : Value} {segs : List Sg} {rv : List Value} (h : Segs w S v segs rv) : ∀ x ∈ cellsS segs rv, x.oneCell' = true := by
  refine cellsS_one (fun u hu => ?_)
  obtain ⟨i, hi, rfl⟩ := List.getElem_of_mem hu
  obtain ⟨u, h1, h2⟩ := h.rcs i (by rw [← h.len]; exact hi)
  rw [List.getElem?_eq_getElem hi] at h1
  rw [Option.some.inj h1]
  obtain ⟨A, c, rfl⟩ := h2.shape
  rfl
theorem segs_tail {w w' : World} {S : Nat → Prop} {v v' u : Value} {t : Sg} {ls : List Sg} {rv : List Value} (h : Segs w S v (t :: ls) (u :: rv)) (hrow : w'.ownsRow 0 76 4 v' ls.length (cellsS ls rv)) (hv' : v'.ownBlock = v.ownBlock) (c : Ch (fun q => v.ownBlock = some q) w w') : Segs w' S v' ls rv := by
  refine ⟨by have := h.len; simpa using this, hrow, fun k hk => h.own k (by rw [← hv']; exact hk), fun i hi => ?_, fun i j u1 u2 k hij h1 h2 => h.apart (i + 1) (j + 1) u1 u2 k (by omega) (by simpa using h1) (by simpa using h2), fun s hs => h.good s (by simp [hs])⟩
  obtain ⟨x, h1, h2⟩ := h.rcs (i + 1) (by simp; omega)
  refine ⟨x, by simpa using h1, ?_⟩
  simp only [List.getElem_cons_succ] at h2
  refine h2.keep c (fun k hk e => ?_) (fun k b n y A cc hr hk e => ?_)
  · obtain ⟨vals, q1, _⟩ := h2
    exact row_far q1 h.row (by decide) hk e
  · exact row_far hr h.row (by decide) hk e
/-- The files without these segments'. -/
def dels (L : List Fl) (name : Tx) : List Sg → List Fl
  | [] => L
  | t :: r => dels (del L (nm name t.num)) name r
theorem dels_snoc {name : Tx} {t : Sg} : ∀ {ss : List Sg} {L : List Fl}, dels L name (ss ++ [t]) = del (dels L name ss) (nm name t.num)
  | [], _ => rfl
  | s :: ss, L => by simp only [List.cons_append, dels]; exact dels_snoc
theorem take_more {α : Type} {l r : List α} {m : Nat} {t : α} (h : l.drop m = t :: r) : l.take (m + 1) = l.take m ++ [t] ∧ l.drop (m + 1) = r := by
  have h1 : l[m]? = some t := by
    have := congrArg (·[0]?) h
    simpa [List.getElem?_drop] using this
  refine ⟨by rw [List.take_add_one, h1]; rfl, ?_⟩
  rw [← List.drop_drop, h]
  rfl
theorem rem_ways (L : List Fl) (n : Tx) : ∃ L5 z, remS L false n = (L5, z) ∧ ((z = 4 ∧ L5 = L) ∨ (z = 0 ∧ L5 = del L n)) := by
  cases hf : find L n with
  | none => exact ⟨L, 4, rem_no (.inr ⟨rfl, hf, rfl⟩), .inl ⟨rfl, rfl⟩⟩
  | some f => exact ⟨del L f.n, 0, by simp [remS, hf], .inr ⟨rfl, by rw [(find_some hf).2]⟩⟩
def lenAt (wr : World) (g : Nat) : Nat := match wr.cell? ⟨g, 3, none⟩ with | some (.slice _ n _) => n | _ => 0
/-- Where Prune's loop stands. -/
def PruAt (S1 S2 : Nat → Prop) (g p room : Nat) (name : Tx) (most synced : Nat) (segs : List Sg) (L : List Fl) (w wr : World) (m : Nat) : Prop :=
  Wal S1 S2 g p room name most w (dels L name (segs.take m)) (segs.drop m) synced wr
/-- The first segment is gone from the row. -/
theorem lds_tail {w w6 : World} {S1 S2 : Nat → Prop} {g p room most y : Nat} {L : List Fl} {name : Tx} {t : Sg} {ls : List Sg} {v v' u : Value} {rv : List Value} (h : LDs w S1 S2 g p L room name most (t :: ls) y) (hn16 : name.length ≤ 16) (hm : most ≤ 4194304)
    (h1 : Blk w g 64 #[.pointer (some ⟨p, 0, none⟩), .string ⟨name.toArray⟩, .int .i64 (most : Int), v, .int .i64 (y : Int)]) (h2 : S1 g) (hs : Segs w (fun k => S1 k ∧ k ≠ g) v (t :: ls) (u :: rv)) (hrow : w6.ownsRow 0 76 4 v' ls.length (cellsS ls rv)) (hv' : v'.ownBlock = v.ownBlock) (c : Ch (fun q => v.ownBlock = some q) w w6) :
    LDs (w6.setCell ⟨g, 3, none⟩ v') (Up S1 w (w6.setCell ⟨g, 3, none⟩ v')) S2 g p L room name most ls y ∧ Step S1 S2 (Up S1 w (w6.setCell ⟨g, 3, none⟩ v')) S2 w (w6.setCell ⟨g, 3, none⟩ v') := by
  have hg : v.ownBlock ≠ some g := fun e => (hs.own g e).2 rfl
  have c2 : Ch (fun k => k = g) w6 (w6.setCell ⟨g, 3, none⟩ v') := (Ch.refl (fun k => k = g) w6).setCell (p := ⟨g, 3, none⟩) (fun _ => rfl) _
  have ht := segs_tail hs hrow hv' c
  refine h.logw ((c.mono (fun k _ e => (hs.own k e).1)).trans (c2.mono (fun k _ e => by subst e; exact h2)) (fun k _ h => h)) ⟨v', rv, ?_, .inl h2, (ht.ch c2 (fun k hk e => hk.2 e)).weaken (fun k hk => ⟨.inl hk.1, hk.2⟩), hn16, hm⟩
  have := (h1.ch c (fun e => hg e)).set_ 3 v'
  simpa using this

set_option maxRecDepth 100000 in
set_option maxHeartbeats 8000000 in
theorem prune_log (w : World) (S1 S2 : Nat → Prop) (g p : Nat) (L : List Fl) (room : Nat) (name : Tx) (most : Nat) (ls : List Sg) (s : Sg) (synced : Nat) (h : LDs w S1 S2 g p L room name most (ls ++ [s]) synced) (hl : ls.length ≤ 64) (upto : Int) :
    Calls Tryz.prog 12 #[.pointer (some ⟨g, 0, none⟩), .int .i64 upto] w fun e w' => (∃ v, e = .returned v) ∧ ∃ m, m < (ls ++ [s]).length ∧ PruAt S1 S2 g p room name most synced (ls ++ [s]) L w w' m := by
  obtain ⟨gb, cap, hC, hgb, hgn⟩ := h.cells (by simp)
  have HN16 := Lib.hid h.name_le
  have HM16 : Hid (most ≤ 4194304) := Lib.hid hC.mst
  have H := Lib.hid h
  have HM := Lib.hid (made_log w g p gb cap name most _ synced hC)
  have HLA := Lib.hid (lastn_log w g p gb cap name most ls s synced hC (by omega))
  clear hC h
  obtain ⟨lst, hlst⟩ : ∃ lst, lst = lastS s := ⟨_, rfl⟩
  rw [← hlst] at HLA
  clear hlst
  have hlen : (ls ++ [s]).length ≤ 65 := by simp; omega
  have hpos : 0 < (ls ++ [s]).length := by simp
  generalize ls ++ [s] = segs at *
  go_enter Tryz.func12, Tryz.ntmps12
  go_wp2_with fail
  refine HM.out.mono ?_
  rintro e w1 ⟨rfl, rfl⟩
  go_wp2_with fail
  refine HLA.out.mono ?_
  rintro e w2 ⟨rfl, hb2⟩
  have HB2 := Lib.hid hb2
  clear hb2 HLA HM
  by_cases hup : lst < upto
  · go_wp2_with fail
    go_ret
    exact ⟨⟨_, rfl⟩, 0, hpos, _, _, H.out.later HB2.out, Step.below HB2.out⟩
  · have hP0 : Hid (PruAt S1 S2 g p room name most synced segs L w w2 0) := Lib.hid ⟨_, _, H.out.later HB2.out, Step.below HB2.out⟩
    clear HB2
    go_wp2_with fail
    go_loopw [5] (fun _ wr => ∃ m, m < segs.length ∧ lenAt wr g = segs.length - m ∧ Hid (PruAt S1 S2 g p room name most synced segs L w wr m)) (fun _ wr => lenAt wr g)
    case atStart =>
      obtain ⟨T1, T2, hD, hS⟩ := hP0.out
      obtain ⟨A, c, rv, hb, -⟩ := Wz.lds_blk hD
      have c3 := hb.cell 3
      simp only [List.getElem?_toArray, List.getElem?_cons_zero, List.getElem?_cons_succ] at c3
      exact ⟨0, hpos, by simp [lenAt, c3], hP0⟩
    case round =>
      obtain ⟨m, hm, hln, hpru⟩ := hrel
      clear hP0
      obtain ⟨T1, T2, hD, hS⟩ := hpru.out
      have hlr : (segs.drop m).length = segs.length - m := by simp
      obtain ⟨gbr, capr, hCr, hg1, hg2⟩ := hD.cells (by omega)
      have c3 := hCr.blk.cell 3
      have c0 : wr.cell? ⟨g, 0, none⟩ = some (.pointer (some ⟨p, 0, none⟩)) := hCr.blk.cell 0
      simp only [List.getElem?_toArray, List.getElem?_cons_zero, List.getElem?_cons_succ] at c3
      by_cases h1 : segs.length - m ≤ 1
      · have hone : (segs.drop m).length = 1 := by omega
        rw [hone] at c3
        clear hlr hone hln hCr hD hS
        go_wp2_with fail
        go_ret
        exact ⟨⟨_, rfl⟩, m, hm, hpru.out⟩
      · obtain ⟨t, t2, r, hd⟩ : ∃ t t2 r, segs.drop m = t :: t2 :: r := by
          match hdd : segs.drop m with
          | [] => rw [hdd] at hlr; simp at hlr; omega
          | [a] => rw [hdd] at hlr; simp at hlr; omega
          | a :: b :: r => exact ⟨a, b, r, rfl⟩
        have HDR := Lib.hid hd
        rw [hd] at c3 hCr hD hlr
        have hgt := hD.good t (by simp)
        have hgt2 := hD.good t2 (by simp)
        obtain ⟨A0, cc0, q0, -, -, -⟩ := hCr.row 0 (by simp)
        obtain ⟨A1, cc1, -, q1, -, -⟩ := hCr.row 1 (by simp)
        simp only [List.getElem_cons_zero, List.getElem_cons_succ, Nat.zero_mul, Nat.one_mul, Nat.reduceAdd] at q0 q1
        have f2 := hgt2.first
        have hw1 : IntKind.i64.wrap ((t2.first : Int) - 1) = (t2.first : Int) - 1 := wrap64 (by omega) (by omega)
        obtain ⟨n, hn⟩ : ∃ n, n = (t :: t2 :: r).length := ⟨_, rfl⟩
        have hn2 : 2 ≤ n := by rw [hn]; simp
        have hnI : (1 : Int) < (n : Int) := by omega
        have hn0 : 0 < n := by omega
        obtain ⟨L5, z, hrs, hz⟩ := rem_ways (dels L name (segs.take m)) (nm name t.num)
        have HRS := Lib.hid hrs
        clear hrs
        rw [← hn] at c3 hlr
        have HD := Lib.hid (And.intro hD hS)
        have HCr := Lib.hid hCr
        have HN := Lib.hid (And.intro hn hlr)
        have HG := Lib.hid (And.intro hgt.num hgt2.first)
        clear hn hlr hCr hD hS hgt hgt2 hd hln
        by_cases h2 : (t2.first : Int) - 1 ≤ upto
        · go_wp2_with fail
          go_region_held3 (fun w' => w'.cell? ⟨g, 0, none⟩ = some (.pointer (some ⟨p, 0, none⟩)) ∧ w'.cell? ⟨g, 3, none⟩ = some (.slice (some ⟨gbr, 0, none⟩) n capr) ∧ w'.cell? ⟨gbr, 0, none⟩ = some (.int .i64 (t.num : Int))) (first | exact ⟨c0, c3, q0⟩ | exact HP4.out | exact HP5.out)
            (first
            | (go_at_call 36; refine (file_log _ g p name most synced _ (HCr.out.after (below_drewN (Below.refl _ wr) 1)).blk HN16.out (HD.out.1.later (below_drewN (Below.refl _ wr) 1)).tab gbr _ t.num HG.out.1 q0).mono ?_; rintro e w4 ⟨rfl, hb4⟩; have HB4 : Hid (Below wr.heap.size wr w4) := Lib.hid (below_of_drew hb4); have HP4 := Lib.hid (three_below HB4.out ⟨c0, c3, q0⟩); clear hb4)
            | (go_at_call 40; refine (remove_on _ T2 p _ room false (nm name t.num) (by have := nm_len (name := name) (k := t.num) HG.out.1; have := HN16.out; omega) (HD.out.1.later HB4.out).dk).mono ?_; rintro e w5 hd5; have HD5 := Lib.hid ((HD.out.1.later HB4.out).disk hd5); rw [HRS.out] at hd5 HD5; obtain ⟨rfl, -, hc5⟩ := hd5; have HP5 := Lib.hid (three_ch hc5 HP4.out (fun h2 => HD.out.1.apart g (by obtain ⟨_, _, _, h, _⟩ := HD.out.1.lg; exact h) h2) (fun h2 => HD.out.1.apart g (by obtain ⟨_, _, _, h, _⟩ := HD.out.1.lg; exact h) h2) (fun h2 => HD.out.1.apart gbr hg1 h2)); clear hc5))
          all_goals
            rcases hz with ⟨rfl, rfl⟩ | ⟨rfl, rfl⟩
            · go_wp2_with fail
              go_ret
              refine ⟨⟨_, rfl⟩, m, hm, ?_⟩
              unfold PruAt
              rw [HDR.out]
              exact ⟨_, _, HD5.out.1, (HD.out.2.trans (Step.below HB4.out)).trans HD5.out.2⟩
            · obtain ⟨v, rv, b1, s1, sg, -, -⟩ := HD5.out.1.lg
              have hv : v = .slice (some ⟨gbr, 0, none⟩) n capr := by
                have := b1.cell 3
                simp only [List.getElem?_toArray, List.getElem?_cons_zero, List.getElem?_cons_succ] at this
                exact Option.some.inj (this.symm.trans HP5.out.2.1)
              subst hv
              obtain ⟨u, rv, rfl⟩ : ∃ u rv', rv = u :: rv' := by
                have := sg.len
                cases rv with
                | nil => simp at this
                | cons u rv => exact ⟨u, rv, rfl⟩
              have hrow := sg.row
              rw [← HN.out.1] at hrow
              have HSD := Lib.hid (sdel_any w5 _ n _ hrow hn2 (by have := HN.out.2; omega) (segs_one sg))
              have HSG := Lib.hid (And.intro b1 (And.intro s1 sg))
              have c53 := HP5.out.2.1
              have hnr : n - 1 = (t2 :: r).length := by rw [HN.out.1]; rfl
              have HNR := Lib.hid hnr
              clear b1 s1 sg hrow hnr
              go_wp2_with fail
              refine HSD.out.mono ?_
              rintro e w6 ⟨v', rfl, hrow6, hvb, hc6⟩
              have b6 := HSG.out.1.ch hc6 (fun e => hg2 (by simpa [Value.ownBlock] using e))
              obtain ⟨A6, c6, rfl⟩ := own_shape hrow6
              have k63 := b6.cell 3
              have f63 := b6.frozen 3
              simp only [List.getElem?_toArray, List.getElem?_cons_zero, List.getElem?_cons_succ] at k63
              rw [HNR.out] at hrow6 hvb
              have H7 := lds_tail HD5.out.1 HN16.out HM16.out HSG.out.1 HSG.out.2.1 HSG.out.2.2 hrow6 hvb hc6
              rw [← HNR.out] at H7
              have HE := Lib.hid H7
              clear b6 hrow6 hvb hc6 H7 HSD
              go_wp2_with fail
              obtain ⟨ht1, ht2⟩ := take_more HDR.out
              go_roundw
              case rel =>
                have h7 := HE.out
                obtain ⟨A7, c7, rv7, hb7, -⟩ := Wz.lds_blk h7.1
                have c73 := hb7.cell 3
                simp only [List.getElem?_toArray, List.getElem?_cons_zero, List.getElem?_cons_succ] at c73
                refine ⟨m + 1, by have := HN.out.2; omega, by have := HN.out; have := HNR.out; simp only [lenAt, c73]; omega, Lib.hid ?_⟩
                unfold PruAt
                rw [ht1, ht2, dels_snoc]
                exact ⟨_, _, h7.1, ((HD.out.2.trans (Step.below HB4.out)).trans HD5.out.2).trans h7.2⟩
              case measure =>
                have h7 := HE.out
                obtain ⟨A7, c7, rv7, hb7, -⟩ := Wz.lds_blk h7.1
                have c73 := hb7.cell 3
                simp only [List.getElem?_toArray, List.getElem?_cons_zero, List.getElem?_cons_succ] at c73
                have := HNR.out
                simp only [lenAt, c73, c3]
                omega
        · go_wp2_with fail
          go_ret
          exact ⟨⟨_, rfl⟩, m, hm, hpru.out⟩
end Go.Proofs.YtjjfhbbaabakmaaGreatDoor.Uo

/-
  Contract of layer 4's Get.
-/
namespace Go.Proofs.YtjjfhbbaabakmaaGreatDoor.Vc
set_option linter.unusedSimpArgs false
open Go Go.RowKit Ck Kw Ga Dm Dw Da Db Dc Dd De Df Dg Dh Wc Wf Wa Wb Wd Wn We Kx Wg Wh Wl Wj Wk Wo Wq Wr Ws Wt Wu Wv Ww Wx Wy Wz Va Vb
attribute [local go_sem ↓] Go.wp_at_zero Go.wp_at_succ
set_option linter.unusedVariables false

/-- What Get reads of a log. -/
structure Reads (w : World) (g p gb cap : Nat) (name : Tx) (most y : Nat) (segs : List Sg) : Prop where
  lgc : LgC w g p gb cap name most segs y
  row : ∀ i (h : i < segs.length), ∃ u, w.cell? ⟨gb, i * 4, none⟩ = some (.int .i64 (segs[i].num : Int)) ∧ w.cell? ⟨gb, i * 4 + 1, none⟩ = some (.int .i64 (segs[i].first : Int)) ∧ w.cell? ⟨gb, i * 4 + 2, none⟩ = some (.int .i64 (segs[i].size : Int)) ∧ w.cell? ⟨gb, i * 4 + 3, none⟩ = some u ∧ Rcs w (fun _ => True) u segs[i].recs
theorem Reads.of {w : World} {S : Nat → Prop} {g p most y : Nat} {name : Tx} {segs : List Sg} (h : Lg w S g p name most segs y) (hne : 0 < segs.length) : ∃ gb cap, Reads w g p gb cap name most y segs := by
  obtain ⟨gb, cap, hC, _, _⟩ := h.cells hne
  obtain ⟨v, rv, k1, k2, k3, _⟩ := h
  have e1 := hC.blk.cell 3
  have e2 := k1.cell 3
  simp only [List.getElem?_toArray, List.getElem?_cons_zero, List.getElem?_cons_succ] at e1 e2
  rw [e1] at e2
  injection e2 with e2
  subst e2
  obtain ⟨gb', cap', hv, _, _, _, hat⟩ := k3.at_ hne
  injection hv with hv1 _ hv3
  injection hv1 with hv1
  injection hv1 with hv1
  subst hv1
  exact ⟨gb, cap, hC, fun i hi => by obtain ⟨u, _, c0, c1, c2, c3, _, hr⟩ := hat i hi; exact ⟨u, c0, c1, c2, c3, hr.weaken (fun _ _ => trivial)⟩⟩
theorem Reads.after {w w' : World} {g p gb cap most y : Nat} {name : Tx} {segs : List Sg} (h : Reads w g p gb cap name most y segs) (b : Below w.heap.size w w') : Reads w' g p gb cap name most y segs :=
  ⟨h.lgc.after b, fun i hi => by
    obtain ⟨u, c0, c1, c2, c3, hr⟩ := h.row i hi
    have k : ∀ {a : Addr} {v : Value}, w.cell? a = some v → w'.cell? a = some v := fun {a v} h => (b.cell (World.block_lt_of_cell? _ _ h)).trans h
    exact ⟨u, k c0, k c1, k c2, k c3, hr.after b⟩⟩

set_option maxRecDepth 100000 in
set_option maxHeartbeats 8000000 in
theorem getn_log (w : World) (g p gb cap : Nat) (name : Tx) (most y : Nat) (segs : List Sg) (h : Reads w g p gb cap name most y segs) (s0 sl : Sg) (rest ini : List Sg) (e1 : segs = s0 :: rest) (e2 : segs = ini ++ [sl]) (hfew : segs.length ≤ 549755813888) (n q j : Nat) (hq : q < segs.length) (hj : j < segs[q].recs.length) (hn : n = segs[q].first + j)
    (h0 : s0.first ≤ n) (hlast : n < sl.first + sl.recs.length) (hlow : ∀ i (hi : i < q), segs[i].first + segs[i].recs.length ≤ n) (hxl : segs[q].recs[j].length ≤ 549755813888) :
    Calls Tryz.prog 30 #[.pointer (some ⟨g, 0, none⟩), .int .i64 (n : Int)] w (Got w (segs[q].recs[j], 0)) := by
  have HM := Lib.hid (made_log w g p gb cap name most segs y h.lgc)
  have HFI : Hid (Calls Tryz.prog 15 #[.pointer (some ⟨g, 0, none⟩)] w fun e w' => e = .returned (.int .i64 (s0.first : Int)) ∧ w = w') := Lib.hid (first_log w g p gb cap name most s0 rest y (by rw [← e1]; exact h.lgc) (by have := congrArg List.length e1; simp at this; omega))
  have HLA : Hid (Calls Tryz.prog 14 #[.pointer (some ⟨g, 0, none⟩)] w fun e w' => e = .returned (.int .i64 (lastS sl)) ∧ Below w.heap.size w w') := Lib.hid (lastn_log w g p gb cap name most ini sl y (by rw [← e2]; exact h.lgc) (by have := congrArg List.length e2; simp at this; omega))
  have t1 : ¬ (n : Int) < (s0.first : Int) := by omega
  have t2 : ¬ lastS sl < (n : Int) := by unfold lastS; omega
  have U := Lib.hid (And.intro (show decide (n < s0.first) = false by simp; omega) (show decide (lastS sl < (n : Int)) = false by simp; omega))
  have H := Lib.hid h
  have HLOW := Lib.hid hlow
  have HQ : Hid (n < segs[q].first + segs[q].recs.length) := Lib.hid (by omega)
  have HN := Lib.hid hn
  have HFEW := Lib.hid hfew
  clear h hlow h0 hlast e1 e2 hn
  go_enter Tryz.func30, Tryz.ntmps30
  go_wp2_with (first
    | (go_at_call 32; refine HM.out.mono ?_; rintro e w1 ⟨rfl, rfl⟩)
    | (go_at_call 15; refine HFI.out.mono ?_; rintro e w1 ⟨rfl, rfl⟩)
    | (go_at_call 14; refine HLA.out.mono ?_; rintro e w1 ⟨rfl, hb1⟩; have HB1 := Lib.hid hb1; clear hb1))
  clear t1 t2
  simp only [U.out.1, U.out.2, Bool.or_false]
  go_loopw [6] (fun i wr => ∃ k : Nat, k ≤ q ∧ i = .int .i64 k ∧ Hid (Below w.heap.size w wr)) (fun i _ => q - (intOf i).toNat)
  case atStart => exact ⟨0, Nat.zero_le _, rfl, HB1⟩
  case round =>
    obtain ⟨k, hk, rfl, hb⟩ := hrel
    have hkl : k < segs.length := by omega
    have HR := Lib.hid (H.out.after hb.out)
    have d3 := HR.out.lgc.blk.cell 3
    simp only [List.getElem?_toArray, List.getElem?_cons_zero, List.getElem?_cons_succ] at d3
    obtain ⟨u, c0, c1, c2, c3, hr⟩ := HR.out.row k hkl
    obtain ⟨Au, cu, rfl⟩ := hr.shape
    have HNX := Lib.hid (fun W => next_any W segs[k] Au cu (HR.out.lgc.good _ (List.getElem_mem hkl)))
    have HRC := Lib.hid hr
    obtain ⟨N, hN⟩ : ∃ N, N = segs.length := ⟨_, rfl⟩
    have i1 : (k : Int) < (N : Int) := by omega
    rw [← hN] at d3
    have HNN := Lib.hid hN
    clear hr hN
    by_cases hlt : k < q
    · have hge : segs[k].first + segs[k].recs.length ≤ n := HLOW.out k hlt
      have t3 : ((segs[k].first + segs[k].recs.length : Nat) : Int) ≤ (n : Int) := by omega
      obtain ⟨nx, hnx⟩ : ∃ nx, nx = segs[k].first + segs[k].recs.length := ⟨_, rfl⟩
      rw [← hnx] at t3 HNX
      clear hge hnx
      go_wp2_with fail
      refine (HNX.out _).mono ?_
      rintro e w2 ⟨rfl, hb2⟩
      have HB2 := Lib.hid hb2
      clear hb2
      go_wp2_with fail
      go_roundw
      case rel => exact ⟨k + 1, by omega, by go_num, Lib.hid (hb.out.trans (HB2.out.mono hb.out.size))⟩
      case measure => simp [intOf]; omega
    · have hke : k = q := by omega
      subst hke
      have t3 : ¬ ((segs[k].first + segs[k].recs.length : Nat) : Int) ≤ (n : Int) := by have := HQ.out; omega
      obtain ⟨nx, hnx⟩ : ∃ nx, nx = segs[k].first + segs[k].recs.length := ⟨_, rfl⟩
      rw [← hnx] at t3 HNX
      clear hnx
      obtain ⟨sg, hsg⟩ : ∃ sg, sg = segs[k] := ⟨_, rfl⟩
      have HSG := Lib.hid hsg
      have hj' : j < sg.recs.length := by rw [hsg]; exact hj
      have HGG : Hid (GoodS sg ∧ n = sg.first + j) := Lib.hid ⟨by rw [hsg]; exact HR.out.lgc.good _ (List.getElem_mem hkl), by rw [hsg]; exact HN.out⟩
      have hres : segs[k].recs[j] = sg.recs[j] := by subst hsg; rfl
      have HRES := Lib.hid hres
      have hxl' : sg.recs[j].length ≤ 549755813888 := by rw [← hres]; exact hxl
      rw [← hsg] at c0 c1 c2 c3 HRC HNX
      clear hsg hres
      go_wp2_with fail
      refine (HNX.out _).mono ?_
      rintro e w2 ⟨rfl, hb2⟩
      have HB2 := Lib.hid hb2
      have hb3 : Below wr.heap.size wr (w2.alloc (.cells #[.int .i64 (sg.num : Int), .int .i64 (sg.first : Int), .int .i64 (sg.size : Int), .slice Au sg.recs.length cu] 76)) := hb2.alloc hb2.size _
      have d3 := (hb2.cell (World.block_lt_of_cell? _ _ d3)).trans d3
      have c0 := (hb2.cell (World.block_lt_of_cell? _ _ c0)).trans c0
      have c1 := (hb2.cell (World.block_lt_of_cell? _ _ c1)).trans c1
      have c2 := (hb2.cell (World.block_lt_of_cell? _ _ c2)).trans c2
      have c3 := (hb2.cell (World.block_lt_of_cell? _ _ c3)).trans c3
      obtain ⟨vals, hv, _, hi⟩ := HRC.out.after hb3
      obtain ⟨Ax, cx, hx, hox, _⟩ := hi j hj'
      have hvl : j < vals.length := (List.getElem?_eq_some_iff.1 hx).1
      obtain ⟨ad, rfl, hadl, -, hcell⟩ := sl_get (Sl.of_own hv (X := fun _ => False) (fun _ _ _ h => h)) hvl
      have hvx : vals[j] = .slice Ax sg.recs[j].length cx := (List.getElem?_eq_some_iff.1 hx).2
      rw [hvx] at hcell
      have HOX := Lib.hid hox
      have hwr : IntKind.i64.wrap ((n : Int) - (sg.first : Int)) = (j : Int) := by have := HGG.out.2; have := HGG.out.1.first; have := HGG.out.1.few; have := HGG.out.1.size; rw [wrap64 (by omega) (by omega)]; omega
      have hjl : (j : Int) < (sg.recs.length : Int) := by omega
      clear hb2 hv hi hx hox hvx hvl
      go_wp2_with fail
      refine (clone_sh (fun _ => False) _ sg.recs[j].length sg.recs[j] _ (Sl.of_own HOX.out (fun _ _ _ h => h)) hxl').mono ?_
      rintro e w4 ⟨A4, c4, rfl, ho4, hb4⟩
      have HO4 := Lib.hid ho4
      have HB4 := Lib.hid (hb3.trans (hb4.mono (by have := HB2.out.size; simp; omega)))
      clear ho4 hb4
      go_wp2_with fail
      go_ret2
      rw [HRES.out]
      exact ⟨A4, c4, rfl, own_base HO4.out (by have := hb.out.size; have := HB2.out.size; simp; omega), hb.out.trans (HB4.out.mono hb.out.size)⟩

end Go.Proofs.YtjjfhbbaabakmaaGreatDoor.Vc

import Derived.Test.YtjoonpkgepkkhaaGreatDoorQ5
import Derived.Test.YtjoonpkgepkkhaaGreatDoorTie
import Derived.Test.YtjoonpkgepkkhaaGreatDoorCards
import Derived.ProofKit
import Derived.LaidMore
import Derived.Lib.LaidTab
import Derived.Stop.LaidErr
import Derived.Stop.Joined
import Derived.SevenTiedAt
/-
  Contract of layer 4's Open on a disk that has a log's files alone.
-/
namespace Go.Proofs.YtjoonpkgepkkhaaGreatDoor.Vb
open Go Go.RowKit Ck Kw Ga Dm Dw Da Db Dc Dd De Df Dg Dh Wc Wf Wa Wb Wd Wn We Kx Wg Wh Wl Wj Wk Wo Wq Wr Ws Wt Wu Wv Ww Wx Wy Wz Va
attribute [local go_sem ↓] Go.wp_at_zero Go.wp_at_succ
set_option linter.unusedVariables false

theorem perm_map {α β : Type} (f : α → β) {l : List α} {m : List β} (h : m.Perm (l.map f)) : ∃ k : List α, k.Perm l ∧ m = k.map f := by
  generalize hm : l.map f = q at h
  induction h generalizing l with
  | nil => exact ⟨[], by cases l with | nil => exact .refl _ | cons a l => simp at hm, rfl⟩
  | cons x _ ih =>
    cases l with
    | nil => simp at hm
    | cons a l =>
      simp at hm
      obtain ⟨k, h1, h2⟩ := ih hm.2
      exact ⟨a :: k, h1.cons a, by rw [h2, List.map_cons, hm.1]⟩
  | swap x y t =>
    cases l with
    | nil => simp at hm
    | cons a l =>
      cases l with
      | nil => simp at hm
      | cons b l =>
        simp at hm
        obtain ⟨rfl, rfl, rfl⟩ := hm
        exact ⟨b :: a :: l, .swap _ _ _, rfl⟩
  | trans _ _ ih1 ih2 =>
    obtain ⟨k, h1, h2⟩ := ih2 hm
    obtain ⟨k2, h3, h4⟩ := ih1 h2.symm
    exact ⟨k2, h3.trans h1, h4⟩
theorem Loads.rises {L : List Fl} {name : Tx} {segs : List Sg} (h : Loads L name segs) : ∀ (d i : Nat) (hi : i + d < segs.length), segs[i + d].num = segs[i].num + d
  | 0, i, hi => rfl
  | d + 1, i, hi => by
    have h1 := Loads.rises h d i (by omega)
    have h2 := (h.chain (i + d) (by omega)).1
    have e : segs[i + (d + 1)] = segs[i + d + 1] := rfl
    rw [e, h2, h1]
    omega
theorem nums_sorted {L : List Fl} {name : Tx} {segs : List Sg} (h : Loads L name segs) {ks : List Nat} (hp : ks.Perm (segs.map (·.num))) :
    (ks.map (fun k : Nat => (k : Int))).mergeSort (fun x y => decide (x ≤ y)) = segs.map (fun t => (t.num : Int)) := by
  have hp1 : ((ks.map (fun k : Nat => (k : Int))).mergeSort (fun x y => decide (x ≤ y))).Perm (segs.map (fun t => (t.num : Int))) := by
    refine (List.mergeSort_perm _ _).trans ?_
    have := hp.map (fun k : Nat => (k : Int))
    rwa [List.map_map] at this
  have h1 : ((ks.map (fun k : Nat => (k : Int))).mergeSort (fun x y => decide (x ≤ y))).Pairwise (fun x y => decide (x ≤ y) = true) := List.pairwise_mergeSort (by intro a b c; simp; omega) (by intro a b; simp; omega) _
  have h2 : (segs.map (fun t => (t.num : Int))).Pairwise (fun x y => decide (x ≤ y) = true) := by
    rw [List.pairwise_iff_getElem]
    intro i j hi hj hij
    simp only [List.length_map] at hi hj
    have := Loads.rises h (j - i) i (by omega)
    have e : segs[i + (j - i)]'(by omega) = segs[j] := by congr 1; omega
    rw [e] at this
    simp only [List.getElem_map, decide_eq_true_eq]
    omega
  exact hp1.eq_of_pairwise (fun a b _ _ h1 h2 => by simp at h1 h2; omega) h1 h2
theorem names_rows {L : List Fl} {name : Tx} {segs : List Sg} (hp : (L.map (·.n)).Perm (segs.map (fun t => nm name t.num))) : ∃ ks : List Nat, ks.Perm (segs.map (·.num)) ∧ (L.map (·.n)).mergeSort leB = ks.map (nm name) := by
  have h1 : ((L.map (·.n)).mergeSort leB).Perm ((segs.map (·.num)).map (nm name)) := by
    refine (List.mergeSort_perm _ _).trans ?_
    rw [List.map_map]
    exact hp
  exact perm_map _ h1

theorem all_some {L : List Fl} {name : Tx} {segs : List Sg} (h : Loads L name segs) (n : Tx) (z : Nat) : ∀ t ∈ segs, (find (truncS L false n z).1 (nm name t.num)).isSome = true := fun t ht => by
  obtain ⟨i, hi, rfl⟩ := List.getElem_of_mem ht
  obtain ⟨f, xs, r, ha, _⟩ := h.at_ i hi
  simp only [truncS]
  cases hf : find L n with
  | none => simp [ha.file]
  | some f0 =>
    simp only [Bool.false_eq_true, if_false]
    split
    · simp [ha.file]
    · rw [find_upd (h := setf _ _) (fun _ => rfl)]
      simp [ha.file]
/-- What Open makes of the files. -/
def openS (L : List Fl) (name : Tx) (ls : List Sg) (s : Sg) : List Fl := syncAll (truncS L false (nm name s.num) s.size).1 name (ls ++ [s])

set_option maxRecDepth 100000 in
set_option maxHeartbeats 16000000 in
theorem open_segs (w : World) (S : Nat → Prop) (p room : Nat) (name : Tx) (most : Nat) (L : List Fl) (ls : List Sg) (s : Sg) (h : Dk w S p L room false) (hS : ∀ k, S k → k < w.heap.size) (hT : Tab w) (hz : ¬ S 0) (hn : okName name = true) (hm1 : 64 ≤ most) (hm2 : most ≤ 4194304)
    (hL : Loads L name (ls ++ [s])) (hp : (L.map (·.n)).Perm ((ls ++ [s]).map (fun t => nm name t.num))) (h1 : 1 ≤ s.num ∧ ∀ t ∈ ls, 1 ≤ t.num) (he : find L [] = none) :
    Calls Tryz.prog 17 #[.pointer (some ⟨p, 0, none⟩), .string ⟨name.toArray⟩, .int .i64 (most : Int)] w (Opened S p room name most w (openS L name ls s) (ls ++ [s]) (s.first + s.recs.length - 1)) := by
  have hn16 : name.length ≤ 16 := by rw [okName_of] at hn; simp at hn; exact hn.2
  have HRD := Lib.hid (ready_on_ w S p L room h he)
  have HIS := Lib.hid (isname_any w name (by omega))
  have HN := Lib.hid hn
  have H := Lib.hid (And.intro h (And.intro hS (And.intro hT hz)))
  have m1 : ¬ (most : Int) < 64 := by omega
  have m2 : ¬ (4194304 : Int) < (most : Int) := by omega
  obtain ⟨ks, hk1, hk2⟩ := names_rows hp
  have hlen : L.length = ks.length := by have := hp.length_eq; have := hk1.length_eq; simp at *; omega
  have hkl : ks.length ≤ 64 := by have := hk1.length_eq; have := hL.few; simp at *; omega
  have hkb : ∀ k ∈ ks, 1 ≤ k ∧ k < 1000000000000000 := fun k hk => by
    have := (hk1.mem_iff).1 hk
    rw [List.mem_map] at this
    obtain ⟨t, ht, rfl⟩ := this
    obtain ⟨i, hi, rfl⟩ := List.getElem_of_mem ht
    obtain ⟨f, xs, r, ha, _⟩ := hL.at_ i hi
    refine ⟨?_, ha.good.num⟩
    rcases List.mem_append.1 ht with ht | ht
    · exact h1.2 _ ht
    · rw [List.mem_singleton.1 ht]; exact h1.1
  have hso := nums_sorted hL hk1
  have hkn : ks.length = (ls ++ [s]).length := by have := hk1.length_eq; simpa using this
  have hs0 := hL.at_ ls.length (by simp)
  simp only [List.getElem_append_right (Nat.le_refl _), Nat.sub_self, List.getElem_cons_zero] at hs0
  have hs1 : 1 ≤ s.first := by obtain ⟨_, _, _, ha, _⟩ := hs0; exact ha.first
  have HK := Lib.hid (And.intro hk2 (And.intro hkb (And.intro hso hkn)))
  have HLS := Lib.hid hL
  have hll : ls.length ≤ 549755813888 := by have := hL.few; simp at this; omega
  clear h hS hT hz hn hk1 hk2 hkb hso hL hp h1 he hs0 hkn
  go_enter Tryz.func17, Tryz.ntmps17
  go_wp2_with fail
  refine HRD.out.mono ?_
  rintro e w1 ⟨rfl, rfl⟩
  go_wp2_with fail
  refine HIS.out.mono ?_
  rintro e w1 ⟨rfl, hb1⟩
  rw [HN.out]
  have HB1 := Lib.hid hb1
  clear hb1
  go_wp2_with fail
  have hl := lds_new H.out.1 H.out.2.1 H.out.2.2.1 H.out.2.2.2 HB1.out hn16 hm2
  obtain ⟨g, hg⟩ : ∃ g, g = w1.heap.size := ⟨_, rfl⟩
  simp only [← hg] at hl ⊢
  generalize (w1.alloc (.cells #[.pointer (some ⟨p, 0, none⟩), .string ⟨name.toArray⟩, .int .i64 (most : Int), .slice none 0 0, .int .i64 0] 64)) = w2 at hl ⊢
  have HL := Lib.hid hl
  have HLI := Lib.hid (Dl.list_on w2 S p L room false hl.1.dk)
  clear hl hg
  refine HLI.out.mono ?_
  rintro e w3 ⟨A3, c3, rfl, ho3, hb3⟩
  rw [HK.out.1, hlen] at ho3
  have HN3 := Lib.hid (numbers_any w3 (fun _ => False) A3 c3 name ks (HL.out.1.later hb3).tab HK.out.2.1 (by omega) hkl (Sl.of_own ho3 (fun _ _ _ h => h)))
  have HB3 := Lib.hid hb3
  rw [hlen]
  clear ho3 hb3 HLI
  go_wp2_with fail
  refine HN3.out.mono ?_
  rintro e w4 ⟨A4, c4, rfl, ho4, hb4⟩
  rw [HK.out.2.2.1, List.map_map, HK.out.2.2.2] at ho4
  have HB4 := Lib.hid (HB3.out.trans (hb4.mono HB3.out.size))
  have HLO := Lib.hid (load_log w4 _ _ (fun k => k < w3.heap.size) g p L room name most ls s 0 (HL.out.1.later HB4.out) HLS.out (all_some HLS.out _ _) A4 c4 (Sl.of_own ho4 (fun k h1 _ h2 => by have : k < w3.heap.size := h2; omega)) (fun k hk => by have := HL.out.1.b1 k hk; have := HB3.out.size; show k < w3.heap.size; omega) (fun k hk => by have := HL.out.1.b2 k hk; have := HB3.out.size; show k < w3.heap.size; omega))
  rw [← HK.out.2.2.2] at HLO
  clear hb4 HN3 ho4
  go_wp2_with fail
  refine HLO.out.mono ?_
  rintro e w5 ⟨rfl, T1, T2, hD, hS5⟩
  obtain ⟨gb, cap, hC, hgb, hgn⟩ := hD.cells (by simp)
  have HLA := Lib.hid (lastn_log w5 g p gb cap name most ls s 0 hC hll)
  have HKB := Lib.hid hC.blk
  have HD := Lib.hid hD
  have HS5 := Lib.hid hS5
  rw [lastS_nat hs1] at HLA
  clear hD hS5 hC HLO
  go_wp2_with fail
  refine HLA.out.mono ?_
  rintro e w6 ⟨rfl, hb6⟩
  have hk6 := HKB.out.below hb6 HKB.out.lt
  have q4 := hk6.cell 4
  have qf := hk6.frozen 4
  simp only [List.getElem?_toArray, List.getElem?_cons_zero, List.getElem?_cons_succ] at q4
  have HB6 := Lib.hid hb6
  obtain ⟨yy, hyy⟩ : ∃ yy, yy = s.first + s.recs.length - 1 := ⟨_, rfl⟩
  rw [← hyy]
  have HY := Lib.hid hyy
  clear hk6 hb6 hyy
  go_wp2_with fail
  go_ret2
  have e := HY.out
  subst e
  have h6 := (HD.out.later HB6.out).set_sync (s.first + s.recs.length - 1)
  exact ⟨g, _, _, rfl, h6.1, (((HL.out.2.trans (Step.below HB4.out)).trans HS5.out).trans (Step.below HB6.out)).trans h6.2⟩

end Go.Proofs.YtjoonpkgepkkhaaGreatDoor.Vb

/-
  Contract of layer 4's Get.
-/
namespace Go.Proofs.YtjoonpkgepkkhaaGreatDoor.Vc
open Go Go.RowKit Ck Kw Ga Dm Dw Da Db Dc Dd De Df Dg Dh Wc Wf Wa Wb Wd Wn We Kx Wg Wh Wl Wj Wk Wo Wq Wr Ws Wt Wu Wv Ww Wx Wy Wz Va Vb
attribute [local go_sem ↓] Go.wp_at_zero Go.wp_at_succ
set_option linter.unusedVariables false

/-- What Get reads of a log. -/
structure Reads (w : World) (g p gb cap : Nat) (name : Tx) (most y : Nat) (segs : List Sg) : Prop where
  lgc : LgC w g p gb cap name most segs y
  row : ∀ i (h : i < segs.length), ∃ u, w.cell? ⟨gb, i * 4, none⟩ = some (.int .i64 (segs[i].num : Int)) ∧ w.cell? ⟨gb, i * 4 + 1, none⟩ = some (.int .i64 (segs[i].first : Int)) ∧ w.cell? ⟨gb, i * 4 + 2, none⟩ = some (.int .i64 (segs[i].size : Int)) ∧ w.cell? ⟨gb, i * 4 + 3, none⟩ = some u ∧ Rcs w (fun _ => True) u segs[i].recs
theorem Reads.of {w : World} {S : Nat → Prop} {g p most y : Nat} {name : Tx} {segs : List Sg} (h : Lg w S g p name most segs y) (hne : 0 < segs.length) : ∃ gb cap, Reads w g p gb cap name most y segs := by
  obtain ⟨gb, cap, hC, _, _⟩ := h.cells hne
  obtain ⟨v, rv, k1, k2, k3, _⟩ := h
  have e1 := hC.blk.cell 3
  have e2 := k1.cell 3
  simp only [List.getElem?_toArray, List.getElem?_cons_zero, List.getElem?_cons_succ] at e1 e2
  rw [e1] at e2
  injection e2 with e2
  subst e2
  obtain ⟨gb', cap', hv, _, _, _, hat⟩ := k3.at_ hne
  injection hv with hv1 _ hv3
  injection hv1 with hv1
  injection hv1 with hv1
  subst hv1
  exact ⟨gb, cap, hC, fun i hi => by obtain ⟨u, _, c0, c1, c2, c3, _, hr⟩ := hat i hi; exact ⟨u, c0, c1, c2, c3, hr.weaken (fun _ _ => trivial)⟩⟩
theorem Reads.after {w w' : World} {g p gb cap most y : Nat} {name : Tx} {segs : List Sg} (h : Reads w g p gb cap name most y segs) (b : Below w.heap.size w w') : Reads w' g p gb cap name most y segs :=
  ⟨h.lgc.after b, fun i hi => by
    obtain ⟨u, c0, c1, c2, c3, hr⟩ := h.row i hi
    have k : ∀ {a : Addr} {v : Value}, w.cell? a = some v → w'.cell? a = some v := fun {a v} h => (b.cell (World.block_lt_of_cell? _ _ h)).trans h
    exact ⟨u, k c0, k c1, k c2, k c3, hr.after b⟩⟩

set_option maxRecDepth 100000 in
set_option maxHeartbeats 16000000 in
theorem getn_log (w : World) (g p gb cap : Nat) (name : Tx) (most y : Nat) (segs : List Sg) (h : Reads w g p gb cap name most y segs) (s0 sl : Sg) (rest ini : List Sg) (e1 : segs = s0 :: rest) (e2 : segs = ini ++ [sl]) (hfew : segs.length ≤ 549755813888) (n q j : Nat) (hq : q < segs.length) (hj : j < segs[q].recs.length) (hn : n = segs[q].first + j)
    (h0 : s0.first ≤ n) (hlast : n < sl.first + sl.recs.length) (hlow : ∀ i (hi : i < q), segs[i].first + segs[i].recs.length ≤ n) (hxl : segs[q].recs[j].length ≤ 549755813888) :
    Calls Tryz.prog 35 #[.pointer (some ⟨g, 0, none⟩), .int .i64 (n : Int)] w (Got w (segs[q].recs[j], 0)) := by
  have HM := Lib.hid (made_log w g p gb cap name most segs y h.lgc)
  have HFI : Hid (Calls Tryz.prog 25 #[.pointer (some ⟨g, 0, none⟩)] w fun e w' => e = .returned (.int .i64 (s0.first : Int)) ∧ w = w') := Lib.hid (first_log w g p gb cap name most s0 rest y (by rw [← e1]; exact h.lgc) (by have := congrArg List.length e1; simp at this; omega))
  have HLA : Hid (Calls Tryz.prog 24 #[.pointer (some ⟨g, 0, none⟩)] w fun e w' => e = .returned (.int .i64 (lastS sl)) ∧ Below w.heap.size w w') := Lib.hid (lastn_log w g p gb cap name most ini sl y (by rw [← e2]; exact h.lgc) (by have := congrArg List.length e2; simp at this; omega))
  have t1 : ¬ (n : Int) < (s0.first : Int) := by omega
  have t2 : ¬ lastS sl < (n : Int) := by unfold lastS; omega
  have U := Lib.hid (And.intro (show decide (n < s0.first) = false by simp; omega) (show decide (lastS sl < (n : Int)) = false by simp; omega))
  have H := Lib.hid h
  have HLOW := Lib.hid hlow
  have HQ : Hid (n < segs[q].first + segs[q].recs.length) := Lib.hid (by omega)
  have HN := Lib.hid hn
  have HFEW := Lib.hid hfew
  clear h hlow h0 hlast e1 e2 hn
  go_enter Tryz.func35, Tryz.ntmps35
  go_wp2_with (first
    | (go_at_call 53; refine HM.out.mono ?_; rintro e w1 ⟨rfl, rfl⟩)
    | (go_at_call 25; refine HFI.out.mono ?_; rintro e w1 ⟨rfl, rfl⟩)
    | (go_at_call 24; refine HLA.out.mono ?_; rintro e w1 ⟨rfl, hb1⟩; have HB1 := Lib.hid hb1; clear hb1))
  clear t1 t2
  simp only [U.out.1, U.out.2, Bool.or_false]
  go_loopw [6] (fun i wr => ∃ k : Nat, k ≤ q ∧ i = .int .i64 k ∧ Hid (Below w.heap.size w wr)) (fun i _ => q - (intOf i).toNat)
  case atStart => exact ⟨0, Nat.zero_le _, rfl, HB1⟩
  case round =>
    obtain ⟨k, hk, rfl, hb⟩ := hrel
    have hkl : k < segs.length := by omega
    have HR := Lib.hid (H.out.after hb.out)
    have d3 := HR.out.lgc.blk.cell 3
    simp only [List.getElem?_toArray, List.getElem?_cons_zero, List.getElem?_cons_succ] at d3
    obtain ⟨u, c0, c1, c2, c3, hr⟩ := HR.out.row k hkl
    obtain ⟨Au, cu, rfl⟩ := hr.shape
    have HNX := Lib.hid (fun W => next_any W segs[k] Au cu (HR.out.lgc.good _ (List.getElem_mem hkl)))
    have HRC := Lib.hid hr
    obtain ⟨N, hN⟩ : ∃ N, N = segs.length := ⟨_, rfl⟩
    have i1 : (k : Int) < (N : Int) := by omega
    rw [← hN] at d3
    have HNN := Lib.hid hN
    clear hr hN
    by_cases hlt : k < q
    · have hge : segs[k].first + segs[k].recs.length ≤ n := HLOW.out k hlt
      have t3 : ((segs[k].first + segs[k].recs.length : Nat) : Int) ≤ (n : Int) := by omega
      obtain ⟨nx, hnx⟩ : ∃ nx, nx = segs[k].first + segs[k].recs.length := ⟨_, rfl⟩
      rw [← hnx] at t3 HNX
      clear hge hnx
      go_wp2_with fail
      refine (HNX.out _).mono ?_
      rintro e w2 ⟨rfl, hb2⟩
      have HB2 := Lib.hid hb2
      clear hb2
      go_wp2_with fail
      go_roundw
      case rel => exact ⟨k + 1, by omega, by go_num, Lib.hid (hb.out.trans (HB2.out.mono hb.out.size))⟩
      case measure => simp [intOf]; omega
    · have hke : k = q := by omega
      subst hke
      have t3 : ¬ ((segs[k].first + segs[k].recs.length : Nat) : Int) ≤ (n : Int) := by have := HQ.out; omega
      obtain ⟨nx, hnx⟩ : ∃ nx, nx = segs[k].first + segs[k].recs.length := ⟨_, rfl⟩
      rw [← hnx] at t3 HNX
      clear hnx
      obtain ⟨sg, hsg⟩ : ∃ sg, sg = segs[k] := ⟨_, rfl⟩
      have HSG := Lib.hid hsg
      have hj' : j < sg.recs.length := by rw [hsg]; exact hj
      have HGG : Hid (GoodS sg ∧ n = sg.first + j) := Lib.hid ⟨by rw [hsg]; exact HR.out.lgc.good _ (List.getElem_mem hkl), by rw [hsg]; exact HN.out⟩
      have hres : segs[k].recs[j] = sg.recs[j] := by subst hsg; rfl
      have HRES := Lib.hid hres
      have hxl' : sg.recs[j].length ≤ 549755813888 := by rw [← hres]; exact hxl
      rw [← hsg] at c0 c1 c2 c3 HRC HNX
      clear hsg hres
      go_wp2_with fail
      refine (HNX.out _).mono ?_
      rintro e w2 ⟨rfl, hb2⟩
      have HB2 := Lib.hid hb2
      have hb3 : Below wr.heap.size wr (w2.alloc (.cells #[.int .i64 (sg.num : Int), .int .i64 (sg.first : Int), .int .i64 (sg.size : Int), .slice Au sg.recs.length cu] 97)) := hb2.alloc hb2.size _
      have d3 := (hb2.cell (World.block_lt_of_cell? _ _ d3)).trans d3
      have c0 := (hb2.cell (World.block_lt_of_cell? _ _ c0)).trans c0
      have c1 := (hb2.cell (World.block_lt_of_cell? _ _ c1)).trans c1
      have c2 := (hb2.cell (World.block_lt_of_cell? _ _ c2)).trans c2
      have c3 := (hb2.cell (World.block_lt_of_cell? _ _ c3)).trans c3
      obtain ⟨vals, hv, _, hi⟩ := HRC.out.after hb3
      obtain ⟨Ax, cx, hx, hox, _⟩ := hi j hj'
      have hvl : j < vals.length := (List.getElem?_eq_some_iff.1 hx).1
      obtain ⟨ad, rfl, hadl, -, hcell⟩ := sl_get (Sl.of_own hv (X := fun _ => False) (fun _ _ _ h => h)) hvl
      have hvx : vals[j] = .slice Ax sg.recs[j].length cx := (List.getElem?_eq_some_iff.1 hx).2
      rw [hvx] at hcell
      have HOX := Lib.hid hox
      have hwr : IntKind.i64.wrap ((n : Int) - (sg.first : Int)) = (j : Int) := by have := HGG.out.2; have := HGG.out.1.first; have := HGG.out.1.few; have := HGG.out.1.size; rw [wrap64 (by omega) (by omega)]; omega
      have hjl : (j : Int) < (sg.recs.length : Int) := by omega
      clear hb2 hv hi hx hox hvx hvl
      go_wp2_with fail
      refine (clone_sh (fun _ => False) _ sg.recs[j].length sg.recs[j] _ (Sl.of_own HOX.out (fun _ _ _ h => h)) hxl').mono ?_
      rintro e w4 ⟨A4, c4, rfl, ho4, hb4⟩
      have HO4 := Lib.hid ho4
      have HB4 := Lib.hid (hb3.trans (hb4.mono (by have := HB2.out.size; simp; omega)))
      clear ho4 hb4
      go_wp2_with fail
      go_ret2
      rw [HRES.out]
      exact ⟨A4, c4, rfl, own_base HO4.out (by have := hb.out.size; have := HB2.out.size; simp; omega), hb.out.trans (HB4.out.mono hb.out.size)⟩

end Go.Proofs.YtjoonpkgepkkhaaGreatDoor.Vc

/-
  Contract of layer 4's law's begun.
-/
namespace Go.Proofs.YtjoonpkgepkkhaaGreatDoor.Vd
open Go Go.RowKit Ck Kw Ga Dm Dw Da Db Dc Dd De Df Dg Dh Wc Wf Wa Wb Wd Wn We Kx Wg Wh Wl Wj Wk Wo Wq Wr Ws Wt Wu Wv Ww Wx Wy Wz Va Vb Vc
attribute [local go_sem ↓] Go.wp_at_zero Go.wp_at_succ
set_option linter.unusedVariables false

theorem frs_frames {xs : List Bs} (h : ∀ x ∈ xs, x.length ≤ 524288) : Frs (frames xs) xs [] := ⟨by simp, h, fun x t hf => by
  have := congrArg List.length hf.1
  have := frame_pos x
  simp at *
  omega⟩
def lg : Tx := [108, 111, 103]
def r78 : Tx := [7, 8]
theorem okName_lg : okName lg = true := by decide
def seg1 : Sg := ⟨1, 1, (head 1).length + (frame r78).length, [r78]⟩
def L1 : List Fl := [⟨nm lg 1, head 1, (head 1).length⟩]
def L2 : List Fl := [⟨nm lg 1, head 1 ++ frame r78, (head 1).length⟩]
theorem frame_r78 : (frame r78).length ≤ 20 ∧ 5 ≤ (frame r78).length := by
  have := Cm.enc_len r78.length
  rw [frame_len]
  have h1 := this.1
  have h2 := this.2
  have h3 : r78.length = 2 := rfl
  omega
theorem app_L1 : appS L1 1000 false (nm lg 1) (frame r78) = (L2, 0) := by
  have h1 := head_len 1
  have h2 := frame_r78
  have hf : find L1 (nm lg 1) = some ⟨nm lg 1, head 1, (head 1).length⟩ := by simp [find, L1]
  rw [appS, hf]
  simp only [Bool.false_eq_true, if_false, putS]
  rw [if_neg (by simp [L1, used]; omega)]
  simp [L1, L2, upd, setf, Db.wr]
theorem seg1_of : segOf 1 [Cm.enc 1, r78] = seg1 := by
  have h : fstOf (Cm.enc 1) = 1 := fstOf_enc (by omega)
  simp only [segOf, h]
  rw [if_neg (by omega)]
  simp [seg1, frames, head]
theorem loads_L2 : Loads L2 lg ([] ++ [seg1]) := by
  have h1 := head_len 1
  have h2 := frame_r78
  have he := Cm.enc_len 1
  refine ⟨fun i hi => ?_, fun i hi => by simp at hi, by simp⟩
  have hi0 : i = 0 := by simpa using hi
  subst hi0
  refine ⟨⟨nm lg 1, head 1 ++ frame r78, (head 1).length⟩, [Cm.enc 1, r78], [], ⟨?_, ?_, seg1_of, ?_, ⟨?_, ?_, ?_, ?_⟩, ?_, ?_⟩, fun h => by simp at h⟩
  · simp [find, L2, seg1]
  · have := frs_frames (xs := [Cm.enc 1, r78]) (fun x hx => by
      simp at hx
      rcases hx with rfl | rfl
      · have := he.1; omega
      · simp [r78])
    simpa [frames, head] using this
  · simp [seg1]
  · simp [seg1]
  · simp [seg1]
  · simp [seg1]; omega
  · simp [seg1]; omega
  · simp [seg1]
  · simp; omega

theorem two_lit (w : World) (X : Nat → Prop) (t : TypeId) (hX : ¬ X w.heap.size) : Sl (w.alloc (.cells #[.int .u8 7, .int .u8 8] t)) X 1 (.slice (some ⟨w.heap.size, 0, none⟩) 2 2) 2 (BVs r78) := by
  refine ⟨_, _, rfl, rfl, Nat.le_refl _, by simp only [maxLen]; omega, fun _ => ⟨_, rfl, by simp, hX, fun j x hx => ?_⟩⟩
  have ha : (⟨w.heap.size, 0, none⟩ : Addr).add j = ⟨w.heap.size, j, none⟩ := by unfold Addr.add; split <;> simp_all
  rw [ha, Blk.cell (Blk.new w t _) j]
  have e : BVs r78 = [.int .u8 7, .int .u8 8] := rfl
  rw [e] at hx
  simpa using hx

set_option maxRecDepth 100000 in
set_option maxHeartbeats 16000000 in
theorem begun_any (w : World) (hT : Tab w) : Calls Tryz.prog 12 #[] w fun e w' => e = .returned (.bool true) ∧ Below w.heap.size w w' := by
  have HT := Lib.hid hT
  clear hT
  go_enter Tryz.func12, Tryz.ntmps12
  go_wp2_with fail
  refine (new_ok w 1000 (by omega)).mono ?_
  rintro e w1 ⟨p, rfl, hdk, hb1⟩
  have HB1 := Lib.hid hb1
  have HOP := Lib.hid (open_empty w1 (New w w1) p 1000 lg 64 hdk (fun k hk => hk.2) (HT.out.after hb1) (fun hz => by have := HT.out.lt; have := hz.1; omega) okName_lg (by omega) (by omega) (by omega))
  clear hdk hb1
  go_wp2_with fail
  refine HOP.out.mono ?_
  rintro e w2 ⟨g, S1, S2, rfl, hD, hS⟩
  have HD2 := Lib.hid hD
  have HS2 := Lib.hid hS
  clear hD hS HOP
  go_wp2_with fail
  have hal : Below w2.heap.size w2 (w2.alloc (.cells #[.int .u8 7, .int .u8 8] 5)) := (Below.refl _ w2).alloc (Nat.le_refl _) _
  have HAL := Lib.hid hal
  have HAP := Lib.hid (append_log (w2.alloc (.cells #[.int .u8 7, .int .u8 8] 5)) S1 S2 (fun k => k < w2.heap.size) g p L1 1000 lg 64 [] ⟨1, 1, (head 1).length, []⟩ 0 ⟨nm lg 1, head 1, (head 1).length⟩ (HD2.out.later hal) (by simp) (by simp) (by simp [find, L1]) rfl (some ⟨w2.heap.size, 0, none⟩) 2 r78 (two_lit w2 _ _ (by simp)) (fun k hk => HD2.out.b1 k hk) (fun k hk => HD2.out.b2 k hk) (by simp [r78]))
  clear hal
  refine HAP.out.mono ?_
  rintro e w4 hA
  have hA2 : e = .returned (.tuple #[.int .i64 1, .int .i64 0]) ∧ Wal S1 S2 g p 1000 lg 64 (w2.alloc (.cells #[.int .u8 7, .int .u8 8] 5)) L2 [seg1] 0 w4 := by
    rcases hA with ⟨_, hA⟩ | ⟨hf, _⟩ | ⟨hf, _⟩
    · rcases hA with ⟨_, he, hw⟩ | ⟨hc, _⟩
      · rw [app_L1] at hw
        exact ⟨he, hw⟩
      · rw [app_L1] at hc
        exact absurd rfl hc
    · simp [full] at hf
    · simp [full] at hf
  obtain ⟨rfl, R1, R2, hD, hS⟩ := hA2
  have HD4 := Lib.hid hD
  have HS4 := Lib.hid hS
  have HOP := Lib.hid (open_segs w4 R2 p 1000 lg 64 L2 [] seg1 hD.dk hD.b2 hD.tab hD.z2 okName_lg (by omega) (by omega) loads_L2 (by simp [L2, seg1]) (by simp [seg1]) (by simp [find, L2, nm_ne]))
  obtain ⟨gb4, cap4, hC4, hgb4, _⟩ := hD.cells (by simp)
  clear hA hD hS HAP
  go_wp2_with fail
  refine HOP.out.mono ?_
  rintro e w5 ⟨m, T1, T2, rfl, hD, hS⟩
  have HD5 := Lib.hid hD
  have HS5 := Lib.hid hS
  have hl5 := HD4.out.lg
  obtain ⟨gb5, cap5, hR⟩ := Reads.of hD.lg (by simp)
  have hlast : seg1.first + seg1.recs.length - 1 = 1 := rfl
  rw [hlast] at HD5
  have HGE : Hid (Calls Tryz.prog 35 #[.pointer (some ⟨m, 0, none⟩), .int .i64 1] w5 (Got w5 (r78, 0))) := Lib.hid (getn_log w5 m p gb5 cap5 lg 64 _ [seg1] hR seg1 seg1 [] [] rfl rfl (by simp) 1 0 0 (by simp) (by simp [seg1]) rfl (by simp [seg1]) (by simp [seg1]) (fun i hi => by omega) (by simp [seg1, r78]))
  have hgR : R1 g := by obtain ⟨_, _, _, h, _⟩ := HD4.out.lg; exact h
  have HCL := Lib.hid (hC4.ch hS.ch (fun h => h.elim (fun h => h) (fun h => HD4.out.apart g hgR h)) (fun h => h.elim (fun h => h) (fun h => HD4.out.apart gb4 hgb4 h)))
  have HCM := Lib.hid hR.lgc
  clear hD hS hl5 hR HOP
  go_wp2_with fail
  refine HGE.out.mono ?_
  rintro e w6 ⟨A6, c6, rfl, ho6, hb6⟩
  have HB6 := Lib.hid hb6
  have HO6 := Lib.hid ho6
  clear hb6 ho6
  dsimp only
  go_wp2_with fail
  have hb7 : Below w5.heap.size w5 (w6.alloc (.cells #[.int .u8 7, .int .u8 8] 5)) := HB6.out.alloc HB6.out.size _
  have HB7 := Lib.hid hb7
  have HEQ := Lib.hid (equal_any (w6.alloc (.cells #[.int .u8 7, .int .u8 8] 5)) (fun _ => False) (fun _ => False) _ _ _ _ r78 r78 (Sl.of_own (HO6.out.alloc _) (fun _ _ _ h => h)) (two_lit w6 _ _ (fun h => h)))
  have HLA := Lib.hid (lastn_log _ m p gb5 cap5 lg 64 [] seg1 _ (HCM.out.after hb7) (by simp))
  have hls : lastS seg1 = 1 := rfl
  rw [hls] at HLA
  clear hb7 hls
  refine HEQ.out.mono ?_
  rintro e w8 ⟨rfl, rfl⟩
  have hbe : (r78 == r78) = true := by decide
  rw [hbe]
  go_wp2_with fail
  refine HLA.out.mono ?_
  rintro e w8 ⟨rfl, hb8⟩
  have HB8 := Lib.hid (HB7.out.trans (hb8.mono HB7.out.size))
  have HSL := Lib.hid (synced_log w8 g p gb4 cap4 lg 64 _ 0 (HCL.out.after HB8.out))
  have HSM := Lib.hid (synced_log w8 m p gb5 cap5 lg 64 _ 1 (HCM.out.after HB8.out))
  clear hb8
  go_wp2_with fail
  refine HSL.out.mono ?_
  rintro e w9 ⟨rfl, rfl⟩
  go_wp2_with fail
  refine HSM.out.mono ?_
  rintro e w9 ⟨rfl, rfl⟩
  go_wp2_with fail
  go_ret
  have tot := (HS2.out.trans (Step.below HAL.out)).trans HS4.out
  have z1 := HB1.out.size
  have z2 := tot.ch.size
  have c1 : Below w.heap.size w w4 := HB1.out.trans (tot.ch.below (fun k hk h => by
    rcases h with h | h
    · exact h
    · have := h.1; omega) z1)
  have c2 : Below w.heap.size w w5 := c1.trans (HS5.out.ch.below (fun k hk h => by
    rcases h with h | h
    · exact h
    · rcases tot.s2 k h with h | h
      · have := h.1; omega
      · omega) c1.size)
  exact ⟨rfl, c2.trans (HB8.out.mono c2.size)⟩

end Go.Proofs.YtjoonpkgepkkhaaGreatDoor.Vd

/-
  Contract of the document's sum, for layer 4.
-/
namespace Go.Proofs.YtjoonpkgepkkhaaGreatDoor.Vr
open Go Go.RowKit Ck Kw Ga Wc Wf Wa
attribute [local go_sem ↓] Go.wp_at_zero Go.wp_at_succ
set_option linter.unusedVariables false

theorem T_turn {r c : Nat} : T (r ^^^ c) = (if c % 2 = r % 2 then r / 2 else (r / 2) ^^^ 3988292384) ^^^ (c / 2) := by
  unfold T
  rw [xor_half, xor_two]
  rcases Nat.mod_two_eq_zero_or_one r with hr | hr <;> rcases Nat.mod_two_eq_zero_or_one c with hc | hc <;> simp only [hr, hc]
  · simp
  · simp only [if_true, if_false, Nat.one_ne_zero]
    rw [Nat.xor_assoc, Nat.xor_comm (c / 2) 3988292384, ← Nat.xor_assoc]
  · simp only [if_true, if_false, Nat.zero_ne_one]
    rw [Nat.xor_assoc, Nat.xor_comm (c / 2) 3988292384, ← Nat.xor_assoc]
  · simp
set_option maxHeartbeats 16000000 in
set_option maxRecDepth 100000 in
theorem rsum_any (w : World) (X : Nat → Prop) (A : Option Addr) (c : Nat) (l : List UInt8) (h : Sl w X 1 (.slice A l.length c) l.length (BVs l)) :
    Calls Tryz.prog 14 #[.slice A l.length c] w fun e w' => e = .returned (.int .u32 (sum l : Int)) ∧ w = w' := by
  have hlen : l.length ≤ 9223372036854775807 := by obtain ⟨A0, c0, hv, _, hc, hm, _⟩ := h; injection hv with _ _ e; unfold maxLen at hm; omega
  go_enter Tryz.func14, Tryz.ntmps14
  go_wp2
  go_loop [3, 4] (fun r i => ∃ k : Nat, k ≤ l.length ∧ i = .int .i64 k ∧ r = .int .u32 (crc (l.take k) ones : Int)) (fun _ i => l.length - (intOf i).toNat)
  case atStart => exact ⟨0, Nat.zero_le _, rfl, rfl⟩
  case round =>
    obtain ⟨k, hk, rfl, rfl⟩ := hrel
    by_cases hlt : k < l.length
    · obtain ⟨ad, rfl, hcell⟩ := Cf.Sl_at h hlt
      have hcl := crc_lt (l.take k) (r := ones) (by decide)
      have hbl := l[k].toNat_lt
      have HC := Lib.hid (crc_take (r := ones) hlt)
      obtain ⟨r0, hr0⟩ : ∃ r0, r0 = crc (l.take k) ones := ⟨_, rfl⟩
      rw [← hr0] at hcl ⊢
      have HR := Lib.hid hr0
      clear hr0
      go_wp2
      go_loop [3, 5, 6] (fun r c i => ∃ j rn cn : Nat, j ≤ 8 ∧ i = .int .i64 j ∧ r = .int .u32 (rn : Int) ∧ c = .int .u8 (cn : Int) ∧ rn < 4294967296 ∧ cn = l[k].toNat / 2 ^ j ∧ Hid (rn ^^^ cn = Tn j (r0 ^^^ l[k].toNat))) (fun _ _ i => 8 - (intOf i).toNat)
      case atStart => exact ⟨0, r0, l[k].toNat, by omega, rfl, rfl, rfl, hcl, by simp, Lib.hid rfl⟩
      case round =>
        obtain ⟨j, rn, cn, hj, rfl, rfl, rfl, hrn, hcn, hx⟩ := hrel
        have hcb : cn < 256 := by rw [hcn]; exact Nat.lt_of_le_of_lt (Nat.div_le_self _ _) (by omega)
        have HCN := Lib.hid hcn
        clear hcn
        by_cases h8 : j < 8
        · have hT := Tn_next j (r0 ^^^ l[k].toNat)
          rw [← hx.out, T_turn] at hT
          have HT := Lib.hid hT
          clear hT
          by_cases ht : cn % 2 = rn % 2
          · go_wp2
            go_round
            case rel => exact ⟨j + 1, rn / 2, cn / 2, by omega, by go_num, by go_num, by go_num, by omega, by rw [HCN.out, Nat.div_div_eq_div_mul, Nat.pow_succ], Lib.hid (by rw [HT.out, if_pos ht])⟩
            case measure => simp [intOf]; omega
          · go_wp2
            go_round
            case rel => exact ⟨j + 1, (rn / 2) ^^^ 3988292384, cn / 2, by omega, by go_num, by
              rw [show (rn : Int) / 2 = ((rn / 2 : Nat) : Int) by omega, show (3988292384 : Int) = ((3988292384 : Nat) : Int) from rfl, u32_xor_nat _ _ (by omega) (by omega)], by go_num, xor_lt (by omega) (by omega), by rw [HCN.out, Nat.div_div_eq_div_mul, Nat.pow_succ], Lib.hid (by rw [HT.out, if_neg ht])⟩
            case measure => simp [intOf]; omega
        · obtain rfl : j = 8 := by omega
          have hc0 : cn = 0 := by rw [HCN.out]; omega
          have hx8 := hx.out
          rw [hc0, Nat.xor_zero] at hx8
          have HX := Lib.hid hx8
          clear hx8
          go_wp2
          go_round
          case rel => exact ⟨k + 1, by omega, by go_num, by rw [HC.out, ← HR.out, ← HX.out]⟩
          case measure => simp [intOf]; omega
    · have e : l.take k = l := List.take_of_length_le (by omega)
      rw [e]
      go_wp2
      go_ret
      have hm : IntKind.u32.max = ((4294967295 : Nat) : Int) := by decide
      exact ⟨by rw [hm]; exact congrArg (fun z => Ending.returned (.int .u32 z)) (u32_xor_nat _ _ (by omega) (crc_lt l (by decide))), rfl⟩

end Go.Proofs.YtjoonpkgepkkhaaGreatDoor.Vr

/-
  Contract of layer 1's reader: List.
-/
namespace Go.Proofs.YtjoonpkgepkkhaaGreatDoor.Ci
open Go Go.RowKit Ck Ca Cb Ce Cf Cg Ch

theorem info_sl : (Tryz.prog.info? 22).map (fun i => (i.zero, i.size, i.bytes)) = some (some (.slice none 0 0), 1, 24) := by kernel_rfl

/-- The parts of a list that a call makes: none in an old block, none in the list's own row. -/
def Els (w : World) (B : Nat) (v : Value) (vals : List Value) (acc : List (List UInt8)) : Prop :=
  vals.length = acc.length ∧ ∀ i (h : i < acc.length), ∃ u, vals[i]? = some u ∧ Sl w (fun k => k < B ∨ v.ownBlock = some k) 1 u acc[i].length (BVs acc[i])
theorem Els.nil (w : World) (B : Nat) (v : Value) : Els w B v [] [] := ⟨rfl, fun i h => absurd h (by simp)⟩
theorem Els.keep {w w' : World} {B : Nat} {v : Value} {vals : List Value} {acc : List (List UInt8)} (h : Els w B v vals acc) (hs : w.heap.size ≤ w'.heap.size) (hk : ∀ b, b < w.heap.size → ¬ (b < B ∨ v.ownBlock = some b) → w'.heap[b]? = w.heap[b]?) : Els w' B v vals acc :=
  ⟨h.1, fun i hi => by obtain ⟨u, hu, h3⟩ := h.2 i hi; exact ⟨u, hu, h3.keep hs hk⟩⟩
theorem Els.grown {w w' : World} {B : Nat} {v : Value} {vals : List Value} {acc : List (List UInt8)} {row : Option Nat} (h : Els w B v vals acc) (hg : w.grownBy w' row) (hr : ∀ k, row = some k → k < B ∨ v.ownBlock = some k) : Els w' B v vals acc :=
  h.keep hg.size fun b hb hX => hg.block b hb fun e => hX (hr b e.symm)
/-- The list has moved, or not. -/
theorem Els.moved {w : World} {B : Nat} {v v' : Value} {vals : List Value} {acc : List (List UInt8)} (h : Els w B v vals acc) (hr : v'.ownBlock = v.ownBlock ∨ ∀ k, v'.ownBlock = some k → w.heap.size ≤ k) : Els w B v' vals acc :=
  ⟨h.1, fun i hi => by
    obtain ⟨u, hu, h3⟩ := h.2 i hi
    refine ⟨u, hu, h3.weaken fun b hb hy => ?_⟩
    rcases hy with hy | hy
    · exact .inl hy
    · rcases hr with hr | hr
      · rw [hr] at hy; exact .inr hy
      · have := hr b hy; omega⟩
theorem Els.push {w : World} {B : Nat} {v u : Value} {vals : List Value} {acc : List (List UInt8)} {x : List UInt8} (h : Els w B v vals acc) (hu : Sl w (fun k => k < B ∨ v.ownBlock = some k) 1 u x.length (BVs x)) : Els w B v (vals ++ [u]) (acc ++ [x]) := by
  refine ⟨by simp [h.1], fun i hi => ?_⟩
  rw [List.length_append, List.length_singleton] at hi
  by_cases hl : i < acc.length
  · obtain ⟨u0, hu0, h3⟩ := h.2 i hl
    refine ⟨u0, by rw [List.getElem?_append_left (by rw [h.1]; exact hl)]; exact hu0, ?_⟩
    rw [List.getElem_append_left hl]
    exact h3
  · have he : i = acc.length := by omega
    subst he
    refine ⟨u, by rw [List.getElem?_append_right (by rw [h.1]; omega), h.1]; simp, ?_⟩
    rw [List.getElem_append_right (by omega)]
    simpa using hu
theorem one_newv (w : World) (X : Nat → Prop) (t : TypeId) (u : Value) (hX : ¬ X w.heap.size) : Sl (w.alloc (.cells #[u] t)) X 1 (.slice (some ⟨w.heap.size, 0, none⟩) 1 1) 1 [u] :=
  ⟨_, _, rfl, rfl, Nat.le_refl _, by simp only [maxLen]; omega, fun _ => ⟨_, rfl, by simp, hX, fun j u' hu => cell_one_new w _ t j u' hu⟩⟩

/-- What a list's reading leaves. -/
def Listed (w : World) (X : Nat → Prop) (g : Nat) (r : List (List UInt8) × Cm.RS) (e : Ending) (w' : World) : Prop :=
  ∃ v, e = .returned v ∧ Ls w' (fun k => k < w.heap.size) v r.1 ∧ w.grownBy w' (some g) ∧ CR w' X g r.2

/-- One round: a part was read and put behind the others. -/
theorem list_round {W wr w1 w2 : World} {X : Nat → Prop} {g : Nat} {v u v2 : Value} {vals : List Value} {acc : List (List UInt8)} {x : List UInt8} {s1 : Cm.RS} {t e : TypeId}
    (hg : W.grownBy wr (some g)) (hgl : g < W.heap.size) (hown : wr.ownsRow W.heap.size e 1 v acc.length vals) (hels : Els wr W.heap.size v vals acc)
    (hu : w1.ownsRow wr.heap.size t 1 u x.length (BVs x)) (hg1 : wr.grownBy w1 (some g)) (hc1 : CR w1 (fun k => X k ∨ W.heap.size ≤ k) g s1)
    (happ : Appended (w1.alloc (.cells #[u] e)) W.heap.size e 1 v (acc.length + 1) (vals ++ [u]) v2 w2) :
    w2.ownsRow W.heap.size e 1 v2 (acc ++ [x]).length (vals ++ [u]) ∧ Els w2 W.heap.size v2 (vals ++ [u]) (acc ++ [x]) ∧ W.grownBy w2 (some g) ∧ CR w2 (fun k => X k ∨ W.heap.size ≤ k) g s1 := by
  have hlt := hown.lt
  have h1 : Els w1 W.heap.size v (vals ++ [u]) (acc ++ [x]) := by
    refine (hels.grown hg1 (fun k hk => .inl (by injection hk with hk; omega))).push (Sl.of_own hu fun k hk _ hy => ?_)
    rcases hy with hy | hy
    · have := hg.size; omega
    · have := (hlt k hy).2; omega
  have h2 := h1.keep (w' := w1.alloc (.cells #[u] e)) (by simp) (fun b hb _ => Below.heap_alloc _ _ _ hb)
  have h3 := h2.grown happ.2.1 (fun k hk => .inr hk)
  have hsz := happ.2.1.size
  refine ⟨by rw [List.length_append]; exact happ.1, ?_, ?_, ?_⟩
  · refine ⟨h3.1, fun i hi => ?_⟩
    obtain ⟨u0, hu0, h5⟩ := h2.2 i hi
    refine ⟨u0, hu0, ?_⟩
    have h6 : Sl w2 (fun k => (k < W.heap.size ∨ v.ownBlock = some k) ∨ (w1.alloc (.cells #[u] e)).heap.size ≤ k) 1 u0 (acc ++ [x])[i].length (BVs (acc ++ [x])[i]) :=
      (h5.old (Nat.le_refl _)).grown happ.2.1 (fun k hk _ => .inl (.inr hk))
    refine h6.weaken fun b _ hy => ?_
    rcases hy with hy | hy
    · exact .inl (.inl hy)
    · rcases happ.2.2 with hr | hr
      · rw [hr] at hy; exact .inl (.inr hy)
      · rw [hr] at hy; injection hy with hy; exact .inr (by omega)
  · have k1 := hg.trans hg1
    have k2 := grown_below k1 ((Below.refl w1.heap.size w1).alloc (Nat.le_refl _) (.cells #[u] e))
    exact grown_step k2 happ.2.1 (.inr fun k hk => (hlt k hk).1)
  · refine (hc1.after ((Below.refl w1.heap.size w1).alloc (Nat.le_refl _) (.cells #[u] e))).grown happ.2.1 ?_ (fun k hk _ => .inr (hlt k hk).1)
    intro he
    have := (hlt g he.symm).1
    omega

end Go.Proofs.YtjoonpkgepkkhaaGreatDoor.Ci

/-
  Contracts of the document's own reader of layer 1: Read, Fail, Done, Num.
-/
namespace Go.Proofs.YtjoonpkgepkkhaaGreatDoor.Cj
open Go Go.RowKit Ck Ca Cb Ce Cf Cg Ch

/-- The document's reader's block. -/
abbrev DB (w : World) (g : Nat) (v : Value) (err : Int) : Prop := Blk w g 83 #[v, .int .i64 err]
/-- The document's reader in memory. -/
def RR (w : World) (X : Nat → Prop) (g : Nat) (s : Cm.RS) : Prop :=
  ∃ A n c, DB w g (.slice A n c) s.2 ∧ Sl w (fun k => k = g ∨ X k) 1 (.slice A n c) n (BVs s.1) ∧ Cm.Good s
theorem RR.weaken {w : World} {X Y : Nat → Prop} {g : Nat} {s : Cm.RS} (h : RR w X g s) (hk : ∀ b, b < w.heap.size → Y b → X b) : RR w Y g s := by
  obtain ⟨A, n, c, hb, hsl, hgd⟩ := h
  exact ⟨A, n, c, hb, hsl.weaken fun b hb hy => by
    rcases hy with hy | hy
    · exact .inl hy
    · exact .inr (hk b hb hy), hgd⟩
theorem RR.grown {w w' : World} {X : Nat → Prop} {g : Nat} {s : Cm.RS} {row : Option Nat} (h : RR w X g s) (hg : w.grownBy w' row) (hne : some g ≠ row) (hr : ∀ k, row = some k → k < w.heap.size → X k) : RR w' X g s := by
  obtain ⟨A, n, c, hb, hsl, hgd⟩ := h
  exact ⟨A, n, c, Blk.grown hb hg hne, hsl.grown hg fun k hk hlt => .inr (hr k hk hlt), hgd⟩
theorem RR.after {w w' : World} {X : Nat → Prop} {g : Nat} {s : Cm.RS} (h : RR w X g s) (hb : Below w.heap.size w w') : RR w' X g s :=
  h.grown (grown_of_below hb none) (by simp) (by simp)
theorem RR.old {w : World} {X : Nat → Prop} {g : Nat} {s : Cm.RS} (h : RR w X g s) {B : Nat} (hB : w.heap.size ≤ B) : RR w (fun k => X k ∨ B ≤ k) g s := by
  obtain ⟨A, n, c, hb, hsl, hgd⟩ := h
  refine ⟨A, n, c, hb, (hsl.old hB).weaken fun b _ hy => ?_, hgd⟩
  rcases hy with hy | hy | hy
  · exact .inl (.inl hy)
  · exact .inl (.inr hy)
  · exact .inr hy
theorem RR.lt {w : World} {X : Nat → Prop} {g : Nat} {s : Cm.RS} (h : RR w X g s) : g < w.heap.size := by
  obtain ⟨A, n, c, hb, _⟩ := h
  exact hb.lt

theorem rread_any (w : World) (X : Nat → Prop) (v : Value) (n : Nat) (b : List UInt8) (hv : Sl w X 1 v n (BVs b)) :
    Calls Tryz.prog 45 #[v] w fun e w' => e = .returned (P_ w.heap.size) ∧ RR w' X w.heap.size (b, 0) ∧ Below w.heap.size w w' := by
  have hnl : n = b.length := by obtain ⟨A, c, _, h, _⟩ := hv; rw [BVs_len] at h; omega
  subst hnl
  have hv' := hv
  obtain ⟨A, c, rfl, -⟩ := hv'
  go_enter Tryz.func45, Tryz.ntmps45
  go_wp2
  go_ret
  refine ⟨rfl, ⟨A, b.length, c, Blk.new _ _ _, ?_, fun h => absurd rfl h⟩, (Below.refl _ _).alloc (Nat.le_refl _) _⟩
  refine Sl.alloc (hv.weaken' fun ad hb hX hy => ?_) _
  rcases hy with hy | hy
  · omega
  · exact hX hy

theorem rfail_end {w : World} {g : Nat} {v : Value} {e0 e1 : Int} {X : Nat → Prop} (h : DB w g v e1) :
    w.grownBy ((w.setCell ⟨g, 1, none⟩ (.int .i64 e0)).setCell ⟨g, 0, none⟩ (.slice none 0 0)) (some g) ∧ RR ((w.setCell ⟨g, 1, none⟩ (.int .i64 e0)).setCell ⟨g, 0, none⟩ (.slice none 0 0)) X g ([], e0) := by
  have h1 := Blk.set_ h 1 (.int .i64 e0)
  have h2 := Blk.set_ h1 0 (.slice none 0 0)
  refine ⟨?_, none, 0, 0, h2, Sl.nil _ _ _, fun _ => rfl⟩
  have g1 := grown_setCell (World.grownBy.refl w (some g)) (p := ⟨g, 1, none⟩) (.inl rfl) (.int .i64 e0)
  exact grown_setCell g1 (p := ⟨g, 0, none⟩) (.inl rfl) (.slice none 0 0)
theorem rfail_end0 {w : World} {g : Nat} {v : Value} {e1 : Int} {X : Nat → Prop} (h : DB w g v e1) :
    w.grownBy (w.setCell ⟨g, 0, none⟩ (.slice none 0 0)) (some g) ∧ RR (w.setCell ⟨g, 0, none⟩ (.slice none 0 0)) X g ([], e1) := by
  have h2 := Blk.set_ h 0 (.slice none 0 0)
  refine ⟨?_, none, 0, 0, h2, Sl.nil _ _ _, fun _ => rfl⟩
  exact grown_setCell (World.grownBy.refl w (some g)) (p := ⟨g, 0, none⟩) (.inl rfl) (.slice none 0 0)

set_option maxHeartbeats 16000000 in
theorem rfail_any (w : World) (X : Nat → Prop) (g : Nat) (s : Cm.RS) (h : RR w X g s) (e0 : Int) :
    Calls Tryz.prog 87 #[P_ g, .int .i64 e0] w fun e w' => e = .returned (.tuple #[]) ∧ w.grownBy w' (some g) ∧ RR w' X g (Cm.failS s e0) := by
  have hcr := h
  obtain ⟨A, n, c, hb, hsl, hgd⟩ := h
  have h0 := hb.cell 0
  have h1 := hb.cell 1
  have f0 := hb.frozen 0
  have f1 := hb.frozen 1
  simp only [List.getElem?_toArray, List.getElem?_cons_zero, List.getElem?_cons_succ] at h0 h1
  by_cases hs : s.2 = 0
  · have hb0 := hb
    rw [hs] at hb0 h1
    by_cases he : e0 = 0
    · have hf : Cm.failS s e0 = s := by simp [Cm.failS, hs, he]
      rw [hf]
      subst he
      have hend : Blk (w.setCell ⟨g, 1, none⟩ (.int .i64 0)) g 83 #[.slice A n c, .int .i64 0] := Blk.set_ hb0 1 (.int .i64 0)
      have HE := Lib.hid hend
      have HS := Lib.hid hs
      clear hs hf hend
      go_enter Tryz.func87, Tryz.ntmps87
      go_wp2
      go_end0
      refine ⟨rfl, grown_setCell (World.grownBy.refl w (some g)) (p := ⟨g, 1, none⟩) (.inl rfl) (.int .i64 0), A, n, c, ?_, hsl.setCell (p := ⟨g, 1, none⟩) (fun _ => .inl rfl) (.int .i64 0), hgd⟩
      rw [HS.out]
      exact HE.out
    · have hf : Cm.failS s e0 = ([], e0) := by simp [Cm.failS, hs, he]
      rw [hf]
      have he1 : (e0 == 0) = false := by rw [beq_eq_false_iff_ne]; exact he
      have he2 : (e0 != 0) = true := by rw [bne, he1]; rfl
      have HS := Lib.hid hs
      have HE := Lib.hid he
      clear hs hf he
      go_enter Tryz.func87, Tryz.ntmps87
      go_wp2
      go_end0
      exact ⟨rfl, rfail_end hb0⟩
  · have hz : s.1 = [] := hgd hs
    have hf : Cm.failS s e0 = ([], s.2) := by simp [Cm.failS, hs, ← hz]
    rw [hf]
    have he1 : (s.2 == 0) = false := by rw [beq_eq_false_iff_ne]; exact hs
    have he2 : (s.2 != 0) = true := by rw [bne, he1]; rfl
    have HS := Lib.hid hs
    clear hs hf hz
    go_enter Tryz.func87, Tryz.ntmps87
    go_wp2
    go_end0
    exact ⟨rfl, rfail_end0 hb⟩

theorem rdone_any (w : World) (X : Nat → Prop) (g : Nat) (s : Cm.RS) (h : RR w X g s) :
    Calls Tryz.prog 136 #[P_ g] w fun e w' => e = .returned (.int .i64 (Cm.doneS s)) ∧ w = w' := by
  obtain ⟨A, m, c, hb, hsl, hgd⟩ := h
  have hm : m = s.1.length := by obtain ⟨A, c, _, h, _⟩ := hsl; rw [BVs_len] at h; omega
  subst hm
  have h0 := hb.cell 0
  have h1 := hb.cell 1
  simp only [List.getElem?_toArray, List.getElem?_cons_zero, List.getElem?_cons_succ] at h0 h1
  by_cases hs : s.2 = 0
  · rw [hs] at h1
    by_cases hz : s.1 = []
    · have hd : Cm.doneS s = 0 := by simp [Cm.doneS, hz, hs]
      rw [hd]
      rw [hz] at h0
      simp only [List.length_nil] at h0
      clear hs hd hz hsl hb
      go_enter Tryz.func136, Tryz.ntmps136
      go_wp2
      go_ret
      exact ⟨rfl, rfl⟩
    · have hd : Cm.doneS s = 12 := by simp [Cm.doneS, hz, hs]
      rw [hd]
      have hp : 0 < s.1.length := by
        rcases Nat.eq_zero_or_pos s.1.length with h0 | h0
        · exact absurd (List.eq_nil_of_length_eq_zero h0) hz
        · exact h0
      clear hs hd hz hb
      go_enter Tryz.func136, Tryz.ntmps136
      go_wp2
      go_ret
      exact ⟨rfl, rfl⟩
  · have hd : Cm.doneS s = s.2 := by simp [Cm.doneS, hs]
    rw [hd]
    have he1 : (s.2 == 0) = false := by rw [beq_eq_false_iff_ne]; exact hs
    clear hs hd hb
    go_enter Tryz.func136, Tryz.ntmps136
    go_wp2
    go_ret
    exact ⟨rfl, rfl⟩

end Go.Proofs.YtjoonpkgepkkhaaGreatDoor.Cj

/-
  Contract of the document's own reader of layer 1: Num.
-/
namespace Go.Proofs.YtjoonpkgepkkhaaGreatDoor.Cn
open Go Go.RowKit Ck Ca Cb Ce Cf Cg Ch Cj

theorem wrap_u64 (n : Nat) (hn : n < 18446744073709551616) : IntKind.u64.wrap (n : Int) = (n : Int) := by
  simp [IntKind.wrap, IntKind.bits, IntKind.signed]
  omega
theorem wrap_step (k acc x q : Nat) (hq : q = 128 ^ k) (hacc : acc < 128 ^ k) (hk : k ≤ 9) (h9 : k = 9 → x % 128 ≤ 1) :
    IntKind.u64.wrap ((acc : Int) + IntKind.u64.wrap ((x : Int) % 128 * (q : Int))) = ((acc + x % 128 * 128 ^ k : Nat) : Int) := by
  subst hq
  have hp := Cm.pow_le k hk
  have hb : x % 128 * 128 ^ k ≤ 9223372036854775808 := by
    by_cases hk9 : k = 9
    · have := h9 hk9
      have : x % 128 * 128 ^ k ≤ 1 * 128 ^ k := Nat.mul_le_mul_right _ this
      omega
    · have h8 : 128 ^ k ≤ 72057594037927936 := by
        have : k = 0 ∨ k = 1 ∨ k = 2 ∨ k = 3 ∨ k = 4 ∨ k = 5 ∨ k = 6 ∨ k = 7 ∨ k = 8 := by omega
        rcases this with rfl | rfl | rfl | rfl | rfl | rfl | rfl | rfl | rfl <;> decide
      have : x % 128 * 128 ^ k ≤ 127 * 128 ^ k := Nat.mul_le_mul_right _ (by omega)
      omega
  have e1 : ((x : Int) % 128 * ((128 ^ k : Nat) : Int)) = ((x % 128 * 128 ^ k : Nat) : Int) := by
    rw [Int.natCast_mul]; rfl
  rw [e1, wrap_u64 _ (by omega), ← Int.natCast_add, wrap_u64 _ (by omega)]
theorem wrap_by (k q : Nat) (hq : q = 128 ^ k) (hk : k < 9) : IntKind.u64.wrap ((q : Int) * 128) = ((128 ^ (k + 1) : Nat) : Int) := by
  subst hq
  have hp := Cm.pow_le (k + 1) (by omega)
  have e : (((128 ^ k : Nat) : Int) * 128) = ((128 ^ (k + 1) : Nat) : Int) := by
    rw [Nat.pow_succ, Int.natCast_mul]; rfl
  rw [e, wrap_u64 _ (by omega)]

theorem rrest_end {w : World} {X : Nat → Prop} {g : Nat} {A A' : Option Addr} {n c k : Nat} {xs : List UInt8} (hb : DB w g (.slice A n c) 0) (hsl : Sl w (fun j => j = g ∨ X j) 1 (.slice A n c) n (BVs xs)) (hk : k ≤ n) (hA : ∀ ad, A = some ad → k < n → A' = some (ad.add (k * 1))) :
    w.grownBy (w.setCell ⟨g, 0, none⟩ (.slice A' (n - k) (c - k))) (some g) ∧ RR (w.setCell ⟨g, 0, none⟩ (.slice A' (n - k) (c - k))) X g (xs.drop k, 0) := by
  have h1 := Blk.set_ hb 0 (.slice A' (n - k) (c - k))
  have g1 := grown_setCell (World.grownBy.refl w (some g)) (p := ⟨g, 0, none⟩) (.inl rfl) (.slice A' (n - k) (c - k))
  refine ⟨g1, A', n - k, c - k, h1, ?_, fun h => absurd rfl h⟩
  have h2 := (hsl.cut hk A' hA).setCell (p := ⟨g, 0, none⟩) (fun _ => .inl rfl) (.slice A' (n - k) (c - k))
  have h3 : (BVs xs).drop (k * 1) = BVs (xs.drop k) := by simp [BVs, List.map_drop]
  rw [h3] at h2
  exact h2
theorem rslice {w : World} {X : Nat → Prop} {g : Nat} {A : Option Addr} {n c k : Nat} {xs : List UInt8} (hb : DB w g (.slice A n c) 0) (hsl : Sl w (fun j => j = g ∨ X j) 1 (.slice A n c) n (BVs xs)) (hk : k ≤ n) (hc : n ≤ c) :
    ∃ A' N C, (∀ W : World, (Instr.slice 22 (.slice A n c) (some (.int .i64 (k : Int))) none none).run Tryz.prog W = .ok (.slice A' N C) W) ∧
      w.grownBy (w.setCell ⟨g, 0, none⟩ (.slice A' N C)) (some g) ∧ RR (w.setCell ⟨g, 0, none⟩ (.slice A' N C)) X g (xs.drop k, 0) := by
  obtain ⟨A', h1, h2⟩ := slice_from A n c k hk hc
  exact ⟨A', n - k, c - k, h1, rrest_end hb hsl hk h2⟩

/-- What a number's reading leaves. -/
def RNumed (w : World) (X : Nat → Prop) (g : Nat) (r : Nat × Cm.RS) (e : Ending) (w' : World) : Prop := e = .returned (.int .u64 (r.1 : Int)) ∧ w.grownBy w' (some g) ∧ RR w' X g r.2

set_option maxRecDepth 100000 in
set_option maxHeartbeats 16000000 in
theorem rnum_ok (w : World) (X : Nat → Prop) (g : Nat) (s : Cm.RS) (h : RR w X g s) (hs : s.2 = 0) (most : Nat) :
    Calls Tryz.prog 86 #[P_ g, .int .u64 most] w fun e w' => RNumed w X g (Cm.numS s most) e w' := by
  have hcr := h
  have hcr' := h
  obtain ⟨A, n, c, hb, hsl, hgd⟩ := h
  have hn : n = s.1.length := by obtain ⟨A, c, _, h, _⟩ := hsl; rw [BVs_len] at h; omega
  subst hn
  rw [hs] at hb
  have hbw := hb
  have hcond := err_cond (most := most) hs
  have h0 := hb.cell 0
  have h1 := hb.cell 1
  have f0 := hb.frozen 0
  simp only [List.getElem?_toArray, List.getElem?_cons_zero, List.getElem?_cons_succ] at h0 h1
  have HS := Lib.hid hs
  have HC := Lib.hid hcond
  clear hs hcond
  go_enter Tryz.func86, Tryz.ntmps86
  go_wp2
  go_loop [5, 6, 7] (fun a p i => ∃ k acc q : Nat, k ≤ s.1.length ∧ i = .int .i64 k ∧ a = .int .u64 acc ∧ p = .int .u64 q ∧ Hid (q = 128 ^ k) ∧ Hid (acc < 128 ^ k) ∧ k ≤ 9 ∧ Hid (Cm.pn s.1 0 0 = Cm.pn (s.1.drop k) k acc))
    (fun _ _ i => s.1.length - (intOf i).toNat)
  case atStart => exact ⟨0, 0, 1, Nat.zero_le _, rfl, rfl, rfl, rfl, (by decide : 0 < 128 ^ 0), by omega, by simp [Hid]⟩
  case round =>
    obtain ⟨k, acc, q, hk, rfl, rfl, rfl, hq, hacc, hk9, hpn⟩ := hrel
    have hq63 : q ≤ 9223372036854775808 := by have := Cm.pow_le k hk9; have := hq.out; omega
    by_cases hlt : k < s.1.length
    · obtain ⟨ad, rfl, hcell⟩ := Sl_at hsl hlt
      have hb := s.1[k].toNat_lt
      have hat := pn_at hlt acc
      generalize hx : s.1[k].toNat = x at *
      have HAT := Lib.hid hat
      clear hat
      have HX := Lib.hid hx
      clear hx
      have hc9 : 9 ≤ k → w.cell? ⟨ad.block, ad.off + 9, none⟩ = some (.int .u8 (x : Int)) := by
        intro h
        obtain rfl : k = 9 := by omega
        simpa [Addr.add] using hcell
      have HC9 := Lib.hid hc9
      clear hc9
      by_cases h9 : k = 9 ∧ 1 < x
      · have e := HAT.out
        rw [if_pos h9, ← hpn.out] at e
        have hf := HC.out
        rw [e] at hf
        have HF := Lib.hid hf
        have hk9a : 9 ≤ k := by omega
        have hx1 : 1 < x := h9.2
        have hcell9 := HC9.out hk9a
        clear h9 e hf
        go_wp2_with (go_at_call 87; refine (rfail_any _ X g s hcr 11).mono ?_; rintro e w1 ⟨rfl, hg1, hc1⟩; rw [failS_ok HS.out (by decide)] at hc1; have hc1' := hc1; obtain ⟨A1, n1, c1, hb1, -⟩ := hc1'; have h11 := hb1.cell 1; simp only [List.getElem?_toArray, List.getElem?_cons_zero, List.getElem?_cons_succ] at h11)
        go_ret
        exact ⟨by rw [HF.out]; rfl, hg1, by rw [HF.out]; exact hc1⟩
      · by_cases hbig : 128 ≤ x
        · have hkn : k < 9 := by omega
          have e := HAT.out
          rw [if_neg h9, if_pos hbig, ← hpn.out] at e
          have HE := Lib.hid e
          clear h9 e
          go_wp2
          go_round
          case rel => exact ⟨k + 1, acc + x % 128 * 128 ^ k, 128 ^ (k + 1), by omega, by go_num, by rw [wrap_step k acc x q hq.out hacc.out (by omega) (by omega)], by rw [wrap_by k q hq.out hkn], rfl, pow_step hacc.out, by omega, HE.out⟩
          case measure => simp [intOf]; omega
        · have hsm : x < 128 := by omega
          have e := HAT.out
          rw [if_neg h9, if_neg hbig, ← hpn.out] at e
          have hv := wrap_step k acc x q hq.out hacc.out hk9 (by omega)
          rw [Nat.mod_eq_of_lt hsm] at hv
          by_cases hz : x = 0 ∧ 0 < k
          · rw [if_pos hz] at e
            have hf := HC.out
            rw [e] at hf
            have hf2 : Cm.numS s most = (0, ([], 11)) := hf
            have HF := Lib.hid hf2
            have HV := Lib.hid hv
            have hz2 : 0 < k := hz.2
            have hzx := hz.1
            clear hz e hbig hv hf hf2 HAT HX hsm
            subst hzx
            by_cases hk8 : k < 9
            · clear h9
              go_wp2_with (go_at_call 87; refine (rfail_any _ X g s hcr 11).mono ?_; rintro e w1 ⟨rfl, hg1, hc1⟩; rw [failS_ok HS.out (by decide)] at hc1; have hc1' := hc1; obtain ⟨A1, n1, c1, hb1, -⟩ := hc1'; have h11 := hb1.cell 1; simp only [List.getElem?_toArray, List.getElem?_cons_zero, List.getElem?_cons_succ] at h11)
              go_ret
              exact ⟨by rw [HF.out]; rfl, hg1, by rw [HF.out]; exact hc1⟩
            · have hk9a : 9 ≤ k := by omega
              have hcell9 := HC9.out hk9a
              clear h9 hk8
              go_wp2_with (go_at_call 87; refine (rfail_any _ X g s hcr 11).mono ?_; rintro e w1 ⟨rfl, hg1, hc1⟩; rw [failS_ok HS.out (by decide)] at hc1; have hc1' := hc1; obtain ⟨A1, n1, c1, hb1, -⟩ := hc1'; have h11 := hb1.cell 1; simp only [List.getElem?_toArray, List.getElem?_cons_zero, List.getElem?_cons_succ] at h11)
              go_ret
              exact ⟨by rw [HF.out]; rfl, hg1, by rw [HF.out]; exact hc1⟩
          · rw [if_neg hz] at e
            have hnc : s.1.length ≤ c := by obtain ⟨A, c, hv, _, h, _⟩ := hsl; injection hv with _ _ e3; omega
            have hcm : c ≤ 9223372036854775807 := by obtain ⟨A, c, hv, _, _, h, _⟩ := hsl; injection hv with _ _ e3; simp only [maxLen] at h; omega
            obtain ⟨A', N, C, hsl1, hR⟩ := rslice hbw hsl (k := k + 1) (by omega) hnc
            have HR := Lib.hid hR
            have hv2 := wrap_step k acc x q hq.out hacc.out hk9 (by omega)
            rw [Nat.mod_eq_of_lt hsm] at hv2
            have hv3 : IntKind.u64.wrap ((acc : Int) + IntKind.u64.wrap ((x : Int) * (q : Int))) = ((acc + x * 128 ^ k : Nat) : Int) := by
              rw [← hv2, show (x : Int) % 128 = (x : Int) from by omega]
            have hf := HC.out
            rw [e] at hf
            generalize acc + x * 128 ^ k = v at *
            have HE := Lib.hid hf
            clear hR e hf hbig hv HAT HX hcr' hbw
            by_cases hk8 : k < 9
            · have hsl2 : ∀ W : World, (Instr.slice 22 (.slice (some ad) s.1.length c) (some (.int .i64 ((k : Int) + 1))) none none).run Tryz.prog W = .ok (.slice A' N C) W := fun W => hsl1 W
              clear h9 hsl1
              rcases (show 1 ≤ x ∨ (x = 0 ∧ k = 0) from by omega) with hx1 | ⟨hx0, hk0⟩
              · clear hz
                by_cases hm : most < v
                · have hf2 : Cm.numS s most = (0, ([], 11)) := by have := HE.out; rw [if_neg (by simp), if_pos hm] at this; exact this
                  have HF := Lib.hid hf2
                  clear hf2
                  go_wp2_with (go_at_call 87; refine (rfail_any _ X g s hcr 11).mono ?_; rintro e w1 ⟨rfl, hg1, hc1⟩; rw [failS_ok HS.out (by decide)] at hc1; have hc1' := hc1; obtain ⟨A1, n1, c1, hb1, -⟩ := hc1'; have h11 := hb1.cell 1; simp only [List.getElem?_toArray, List.getElem?_cons_zero, List.getElem?_cons_succ] at h11)
                  all_goals go_ret
                  all_goals exact ⟨by rw [HF.out]; rfl, hg1, by rw [HF.out]; exact hc1⟩
                · have hf2 : Cm.numS s most = (v, (s.1.drop (k + 1), 0)) := by have := HE.out; rw [if_neg (by simp), if_neg hm] at this; exact this
                  have HF := Lib.hid hf2
                  clear hf2
                  go_wp2
                  all_goals go_ret
                  all_goals exact ⟨by rw [HF.out]; rfl, HR.out.1, by rw [HF.out]; exact HR.out.2⟩
              · have hk0' : ¬ 0 < k := by omega
                have hx0' : x ≤ 0 := by omega
                clear hz hx0 hk0
                by_cases hm : most < v
                · have hf2 : Cm.numS s most = (0, ([], 11)) := by have := HE.out; rw [if_neg (by simp), if_pos hm] at this; exact this
                  have HF := Lib.hid hf2
                  clear hf2
                  go_wp2_with (go_at_call 87; refine (rfail_any _ X g s hcr 11).mono ?_; rintro e w1 ⟨rfl, hg1, hc1⟩; rw [failS_ok HS.out (by decide)] at hc1; have hc1' := hc1; obtain ⟨A1, n1, c1, hb1, -⟩ := hc1'; have h11 := hb1.cell 1; simp only [List.getElem?_toArray, List.getElem?_cons_zero, List.getElem?_cons_succ] at h11)
                  all_goals go_ret
                  all_goals exact ⟨by rw [HF.out]; rfl, hg1, by rw [HF.out]; exact hc1⟩
                · have hf2 : Cm.numS s most = (v, (s.1.drop (k + 1), 0)) := by have := HE.out; rw [if_neg (by simp), if_neg hm] at this; exact this
                  have HF := Lib.hid hf2
                  clear hf2
                  go_wp2
                  all_goals go_ret
                  all_goals exact ⟨by rw [HF.out]; rfl, HR.out.1, by rw [HF.out]; exact HR.out.2⟩
            · have hk9a : 9 ≤ k := by omega
              have hcell9 := HC9.out hk9a
              have hsl2 : ∀ W : World, (Instr.slice 22 (.slice (some ad) s.1.length c) (some (.int .i64 10)) none none).run Tryz.prog W = .ok (.slice A' N C) W := fun W => by
                have h := hsl1 W
                rw [show ((k + 1 : Nat) : Int) = 10 from by omega] at h
                exact h
              have hx1 : x ≤ 1 := by omega
              have hx2 : 1 ≤ x := by omega
              clear h9 hsl1 hk8 hz
              by_cases hm : most < v
              · have hf2 : Cm.numS s most = (0, ([], 11)) := by have := HE.out; rw [if_neg (by simp), if_pos hm] at this; exact this
                have HF := Lib.hid hf2
                clear hf2
                go_wp2_with (go_at_call 87; refine (rfail_any _ X g s hcr 11).mono ?_; rintro e w1 ⟨rfl, hg1, hc1⟩; rw [failS_ok HS.out (by decide)] at hc1; have hc1' := hc1; obtain ⟨A1, n1, c1, hb1, -⟩ := hc1'; have h11 := hb1.cell 1; simp only [List.getElem?_toArray, List.getElem?_cons_zero, List.getElem?_cons_succ] at h11)
                all_goals go_ret
                all_goals exact ⟨by rw [HF.out]; rfl, hg1, by rw [HF.out]; exact hc1⟩
              · have hf2 : Cm.numS s most = (v, (s.1.drop (k + 1), 0)) := by have := HE.out; rw [if_neg (by simp), if_neg hm] at this; exact this
                have HF := Lib.hid hf2
                clear hf2
                go_wp2
                all_goals go_ret
                all_goals exact ⟨by rw [HF.out]; rfl, HR.out.1, by rw [HF.out]; exact HR.out.2⟩
    · have hke : s.1.length ≤ k := by omega
      have e := hpn.out
      rw [List.drop_eq_nil_of_le hke] at e
      have hf := HC.out
      rw [e] at hf
      have hf2 : Cm.numS s most = (0, ([], 10)) := hf
      have HF := Lib.hid hf2
      have hkk : ((k : Int) == (s.1.length : Int)) = true := by rw [beq_iff_eq]; omega
      clear e hf hf2 
      go_wp2_with (go_at_call 87; refine (rfail_any _ X g s hcr 10).mono ?_; rintro e w1 ⟨rfl, hg1, hc1⟩; rw [failS_ok HS.out (by decide)] at hc1; have hc1' := hc1; obtain ⟨A1, n1, c1, hb1, -⟩ := hc1'; have h11 := hb1.cell 1; simp only [List.getElem?_toArray, List.getElem?_cons_zero, List.getElem?_cons_succ] at h11)
      go_ret
      exact ⟨by rw [HF.out]; rfl, hg1, by rw [HF.out]; exact hc1⟩

end Go.Proofs.YtjoonpkgepkkhaaGreatDoor.Cn

/-
  Contracts of the document's own reader of layer 1: Num, Take, Bytes, List.
-/
namespace Go.Proofs.YtjoonpkgepkkhaaGreatDoor.Co
open Go Go.RowKit Ck Ca Cb Ce Cf Cg Ch Ci Cj Cn

set_option maxHeartbeats 16000000 in
theorem rnum_err (w : World) (X : Nat → Prop) (g : Nat) (s : Cm.RS) (h : RR w X g s) (hs : s.2 ≠ 0) (most : Nat) :
    Calls Tryz.prog 86 #[P_ g, .int .u64 most] w fun e w' => RNumed w X g (Cm.numS s most) e w' := by
  have hcr := h
  obtain ⟨A, n, c, hb, hsl, hgd⟩ := h
  have hn : n = s.1.length := by obtain ⟨A, c, _, h, _⟩ := hsl; rw [BVs_len] at h; omega
  have hz := hgd hs
  rw [hz] at hn
  simp only [List.length_nil] at hn
  subst hn
  have hf : Cm.numS s most = (0, s) := by rw [Cm.numS, if_pos hs]
  have hff : Cm.failS s 10 = s := by rw [Cm.failS, if_pos hs]
  have h0 := hb.cell 0
  have h1 := hb.cell 1
  simp only [List.getElem?_toArray, List.getElem?_cons_zero, List.getElem?_cons_succ] at h0 h1
  have he2 : (s.2 != 0) = true := by rw [bne_iff_ne]; exact hs
  have HF := Lib.hid hf
  have HFF := Lib.hid hff
  clear hf hff hs hz
  go_enter Tryz.func86, Tryz.ntmps86
  go_wp2
  refine wp_loop_rounds 1 ?_
  rw [rounds_succ]
  go_wp2_with (go_at_call 87; refine (rfail_any _ X g s hcr 10).mono ?_; rintro e w1 ⟨rfl, hg1, hc1⟩; rw [HFF.out] at hc1; have hc1' := hc1; obtain ⟨A1, n1, c1, hb1, -⟩ := hc1'; have h11 := hb1.cell 1; simp only [List.getElem?_toArray, List.getElem?_cons_zero, List.getElem?_cons_succ] at h11)
  go_ret
  exact ⟨by rw [HF.out]; rfl, hg1, by rw [HF.out]; exact hc1⟩

theorem rnum_any (w : World) (X : Nat → Prop) (g : Nat) (s : Cm.RS) (h : RR w X g s) (most : Nat) :
    Calls Tryz.prog 86 #[P_ g, .int .u64 most] w fun e w' => RNumed w X g (Cm.numS s most) e w' := by
  by_cases hs : s.2 = 0
  · exact rnum_ok w X g s h hs most
  · exact rnum_err w X g s h hs most

/-- What a reading of bytes leaves. -/
def RTaken (w : World) (X : Nat → Prop) (g : Nat) (r : List UInt8 × Cm.RS) (e : Ending) (w' : World) : Prop :=
  ∃ v, e = .returned v ∧ w'.ownsRow w.heap.size 5 1 v r.1.length (BVs r.1) ∧ w.grownBy w' (some g) ∧ RR w' X g r.2
theorem RTaken.nil {w w' : World} {X : Nat → Prop} {g : Nat} {s : Cm.RS} (hg : w.grownBy w' (some g)) (hc : RR w' X g s) : RTaken w X g ([], s) (.returned (.slice none 0 0)) w' :=
  ⟨_, rfl, World.ownsRow_nil _ _ _ _, hg, hc⟩

set_option maxRecDepth 100000 in
set_option maxHeartbeats 16000000 in
theorem rtake_any (w : World) (X : Nat → Prop) (g : Nat) (s : Cm.RS) (h : RR w X g s) (n : Int) (hl : s.1.length ≤ 140737488355328) :
    Calls Tryz.prog 47 #[P_ g, .int .i64 n] w fun e w' => RTaken w X g (Cm.takeS s n) e w' := by
  have hcr := h
  obtain ⟨A, m, c, hb, hsl, hgd⟩ := h
  have hm : m = s.1.length := by obtain ⟨A, c, _, h, _⟩ := hsl; rw [BVs_len] at h; omega
  subst hm
  have hnc : s.1.length ≤ c := by obtain ⟨A, c, hv, _, h, _⟩ := hsl; injection hv with _ _ e3; omega
  have hcm : c ≤ 9223372036854775807 := by obtain ⟨A, c, hv, _, _, h, _⟩ := hsl; injection hv with _ _ e3; simp only [maxLen] at h; omega
  have h0 := hb.cell 0
  have h1 := hb.cell 1
  have f0 := hb.frozen 0
  simp only [List.getElem?_toArray, List.getElem?_cons_zero, List.getElem?_cons_succ] at h0 h1
  by_cases hs : s.2 = 0
  · have hb0 := hb
    rw [hs] at hb0 h1
    have HS := Lib.hid hs
    by_cases hn : n < 0
    · have hf : Cm.takeS s n = ([], Cm.failS s 1) := by rw [Cm.takeS, if_neg (by simp [hs]), if_pos hn, failS_ok hs (by decide)]
      rw [hf, failS_ok hs (by decide)]
      clear hs hf
      go_enter Tryz.func47, Tryz.ntmps47
      go_wp2_with (go_at_call 87; refine (rfail_any _ X g s hcr 1).mono ?_; rintro e w1 ⟨rfl, hg1, hc1⟩; rw [failS_ok HS.out (by decide)] at hc1; have hc1' := hc1; obtain ⟨A1, n1, c1, hb1, -⟩ := hc1'; have h11 := hb1.cell 1; simp only [List.getElem?_toArray, List.getElem?_cons_zero, List.getElem?_cons_succ] at h11)
      go_ret
      exact RTaken.nil hg1 hc1
    · obtain ⟨k, rfl⟩ := Int.eq_ofNat_of_zero_le (show 0 ≤ n by omega)
      clear hn
      by_cases hlt : s.1.length < k
      · have hf : Cm.takeS s k = ([], ([], 10)) := by rw [Cm.takeS, if_neg (by simp [hs]), if_neg (by omega), if_pos (by omega)]
        rw [hf]
        clear hs hf
        go_enter Tryz.func47, Tryz.ntmps47
        go_wp2_with (go_at_call 87; refine (rfail_any _ X g s hcr 10).mono ?_; rintro e w1 ⟨rfl, hg1, hc1⟩; rw [failS_ok HS.out (by decide)] at hc1; have hc1' := hc1; obtain ⟨A1, n1, c1, hb1, -⟩ := hc1'; have h11 := hb1.cell 1; simp only [List.getElem?_toArray, List.getElem?_cons_zero, List.getElem?_cons_succ] at h11)
        go_ret
        exact RTaken.nil hg1 hc1
      · have hk : k ≤ s.1.length := by omega
        have hf : Cm.takeS s k = (s.1.take k, (s.1.drop k, 0)) := by rw [Cm.takeS, if_neg (by simp [hs]), if_neg (by omega), if_neg (by omega), Int.toNat_natCast]
        rw [hf]
        obtain ⟨i0, hi0, hz0, hz1, hz2⟩ := info_parts info_u8
        obtain ⟨A', hsl1, hA'⟩ := slice_from A s.1.length c k hk hnc
        have hsl2 := slice_upto A s.1.length c k (by omega)
        have hup : Sl w (fun j => j = g ∨ X j) 1 (.slice A k c) k (BVs (s.1.take k)) := by
          have := hsl.upto hk
          rw [show (BVs s.1).take (k * 1) = BVs (s.1.take k) from by simp [BVs, List.map_take]] at this
          exact this
        have HA := Lib.hid hA'
        have hgl : g < w.heap.size := hb0.lt
        have hkl : (s.1.take k).length = k := by rw [List.length_take]; omega
        have HKL := Lib.hid hkl
        clear hs hf hA' hlt hkl
        go_enter Tryz.func47, Tryz.ntmps47
        go_wp2_with (at_builtin; refine wpList_append_sl _ rfl (.tmp 31) (.tmp 37) _ rfl w.heap.size 5 i0 _ 1 1 Tryz.underlying22 hi0 hz0 hz1 hz2 rfl (by omega) (.slice none 0 0) 0 [] rfl (World.ownsRow_nil _ _ _ _) _ _ k (BVs (s.1.take k)) rfl hup (BVs_one _) (by simp only [maxLen]; omega) (by omega) (Nat.le_refl _) ?_; intro v1 w1 happ; have hb1 : Below w.heap.size w w1 := below_of_grown happ.2.1 (by simp [Value.ownBlock]); have h00 := (hb1.cell (p := ⟨g, 0, none⟩) hgl).trans h0; have f00 := (hb1.frozen (p := ⟨g, 0, none⟩) hgl).trans f0)
        go_ret
        have R := rrest_end (X := X) (hb0.below hb1 hb0.lt) (hsl.after hb1) hk HA.out
        refine ⟨v1, rfl, ownsRow_setCell_below (a := ⟨g, 0, none⟩) ?_ hgl _, grown_step (grown_of_below hb1 (some g)) R.1 (.inl rfl), R.2⟩
        have := happ.1
        rw [HKL.out]
        simpa using this
  · have hf : Cm.takeS s n = ([], s) := by rw [Cm.takeS, if_pos hs]
    have hff : Cm.failS s 1 = s := by rw [Cm.failS, if_pos hs]
    rw [hf]
    have he1 : (s.2 == 0) = false := by rw [beq_eq_false_iff_ne]; exact hs
    have he2 : (s.2 != 0) = true := by rw [bne_iff_ne]; exact hs
    have HFF := Lib.hid hff
    clear hs hf hff
    by_cases hn : n < 0
    · go_enter Tryz.func47, Tryz.ntmps47
      go_wp2_with (go_at_call 87; refine (rfail_any _ X g s hcr 1).mono ?_; rintro e w1 ⟨rfl, hg1, hc1⟩; rw [HFF.out] at hc1; have hc1' := hc1; obtain ⟨A1, n1, c1, hb1, -⟩ := hc1'; have h11 := hb1.cell 1; simp only [List.getElem?_toArray, List.getElem?_cons_zero, List.getElem?_cons_succ] at h11)
      go_ret
      exact RTaken.nil hg1 hc1
    · go_enter Tryz.func47, Tryz.ntmps47
      go_wp2
      go_ret
      exact RTaken.nil (World.grownBy.refl _ _) hcr

set_option maxRecDepth 100000 in
set_option maxHeartbeats 16000000 in
theorem rbytes_any (w : World) (X : Nat → Prop) (g : Nat) (s : Cm.RS) (h : RR w X g s) (most : Int) (hlo : -9223372036854775808 ≤ most) (hhi : most ≤ 9223372036854775807) (hl : s.1.length ≤ 140737488355328) :
    Calls Tryz.prog 46 #[P_ g, .int .i64 most] w fun e w' => RTaken w X g (Cm.bytesS s most) e w' := by
  have hl2 := Cm.numS_len s most.toNat
  have hle := Cm.numS_le s most.toNat
  by_cases hm : 0 ≤ most
  · obtain ⟨m, rfl⟩ := Int.eq_ofNat_of_zero_le hm
    rw [Int.toNat_natCast] at hle hl2
    have hbs : Cm.bytesS s m = Cm.takeS (Cm.numS s m).2 ((Cm.numS s m).1 : Int) := by rw [Cm.bytesS, Int.toNat_natCast]
    rw [hbs]
    clear hm hlo hbs
    go_enter Tryz.func46, Tryz.ntmps46
    go_wp2_with (first
      | (go_at_call 86; refine (rnum_any _ X g s h m).mono ?_; rintro e w1 ⟨rfl, hg1, hc1⟩)
      | (go_at_call 47; refine (rtake_any _ X g _ hc1 ((Cm.numS s m).1 : Int) (by omega)).mono ?_; rintro e w2 ⟨v2, rfl, hown2, hg2, hc2⟩))
    go_ret
    exact ⟨v2, rfl, own_base hown2 hg1.size, hg1.trans hg2, hc2⟩
  · have hz : most.toNat = 0 := by omega
    have hbs : Cm.bytesS s most = Cm.takeS (Cm.numS s 0).2 ((Cm.numS s 0).1 : Int) := by rw [Cm.bytesS, hz]
    rw [hbs]
    rw [hz] at hle hl2
    have hm2 : most < 0 := by omega
    clear hz hm hbs
    go_enter Tryz.func46, Tryz.ntmps46
    go_wp2_with (first
      | (go_at_call 86; refine (rnum_any _ X g s h 0).mono ?_; rintro e w1 ⟨rfl, hg1, hc1⟩)
      | (go_at_call 47; refine (rtake_any _ X g _ hc1 ((Cm.numS s 0).1 : Int) (by omega)).mono ?_; rintro e w2 ⟨v2, rfl, hown2, hg2, hc2⟩))
    go_ret
    exact ⟨v2, rfl, own_base hown2 hg1.size, hg1.trans hg2, hc2⟩

end Go.Proofs.YtjoonpkgepkkhaaGreatDoor.Co

/-
  Contracts of the document's frames, for layer 4.
-/
namespace Go.Proofs.YtjoonpkgepkkhaaGreatDoor.Vs
open Go Go.RowKit Ck Kw Ga Wc Wf Wa Wb Wd Vr
attribute [local go_sem ↓] Go.wp_at_zero Go.wp_at_succ
set_option linter.unusedVariables false

theorem rframe_long (w : World) (A : Option Addr) (n c : Nat) (hn : 524288 < n) : Calls Tryz.prog 9 #[.slice A n c] w fun e w' => e = .returned (.tuple #[.slice none 0 0, .int .i64 3]) ∧ w = w' := by
  go_enter Tryz.func9, Tryz.ntmps9
  go_wp2
  go_ret2
  exact ⟨rfl, rfl⟩

set_option maxRecDepth 100000 in
set_option maxHeartbeats 16000000 in
theorem rframe_any (w : World) (X : Nat → Prop) (A : Option Addr) (c : Nat) (x : List UInt8) (h : Sl w X 1 (.slice A x.length c) x.length (BVs x)) (hx : x.length ≤ 524288) :
    Calls Tryz.prog 9 #[.slice A x.length c] w fun e w' => ∃ A' c', e = .returned (.tuple #[.slice A' (frame x).length c', .int .i64 0]) ∧ w'.ownsRow w.heap.size 5 1 (.slice A' (frame x).length c') (frame x).length (BVs (frame x)) ∧ Below w.heap.size w w' := by
  obtain ⟨i0, hi0, hz0, hz1, hz2⟩ := info_parts info_u8
  have hl : (Cm.encB x).length ≤ 524298 := by have := (Cm.enc_len x.length).1; rw [Cm.encB_len]; omega
  have HX := Lib.hid hx
  have HS := Lib.hid h
  have hx1 : ¬ (524288 : Int) < (x.length : Int) := by omega
  have hsl := sum_lt (Cm.encB x)
  clear hx h
  go_enter Tryz.func9, Tryz.ntmps9
  go_wp2_with fail
  refine (Cd.rputbytes_any X X _ _ 0 x.length [] x _ (Sl.nil _ _ _) HS.out (by omega) (by have := HX.out; omega)).mono ?_
  rintro e w1 ⟨v1, rfl, ho1, hb1⟩
  obtain ⟨A1, c1, rfl⟩ := own_shape ho1
  rw [List.nil_append] at ho1
  have HO := Lib.hid ho1
  have HB := Lib.hid hb1
  clear ho1 hb1
  rw [List.nil_append]
  go_wp2_with fail
  refine (rsum_any _ (fun _ => False) A1 c1 (Cm.encB x) (Sl.of_own HO.out (fun _ _ _ h => h))).mono ?_
  rintro e w2 ⟨rfl, rfl⟩
  obtain ⟨s, hs⟩ : ∃ s, s = sum (Cm.encB x) := ⟨_, rfl⟩
  rw [← hs] at hsl ⊢
  have HSM := Lib.hid hs
  clear hs
  go_wp2_with (at_builtin; refine wpList_append_sh _ rfl (.tmp 13) (.tmp 25) _ rfl w.heap.size 5 i0 _ 1 1 Tryz.underlying22 hi0 hz0 hz1 hz2 rfl (by omega) _ _ _ rfl (HO.out.alloc _) (fun k => k < w1.heap.size) _ 4 (BVs (le4 s)) rfl (Sl_lit w1 _ _ (le4 s) (le4_cells _ hsl) rfl (by omega) (by omega)) (BVs_one _) (by simp only [maxLen]; omega) (by omega) (by have := HB.out.size; simp; omega) ?_; intro A3 c3 w3 happ)
  go_ret2
  have hf : (frame x).length = (Cm.encB x).length + 4 := by simp [frame, le4_len]
  rw [hf]
  refine ⟨A3, c3, rfl, ?_, ?_⟩
  · have := happ.1
    rw [← BVs_app, HSM.out] at this
    exact this
  · exact (HB.out.alloc HB.out.size _).grown happ.2.1 (by have := HB.out.size; simp; omega) (fun g hg => (HO.out.lt g hg).1)

end Go.Proofs.YtjoonpkgepkkhaaGreatDoor.Vs

/-
  Contract of the document's Unframe, for layer 4.
-/
namespace Go.Proofs.YtjoonpkgepkkhaaGreatDoor.Vt
open Go Go.RowKit Ck Kw Ga Wc Wf Wa Wb Wd Vr Vs Cf Cj
attribute [local go_sem ↓] Go.wp_at_zero Go.wp_at_succ
set_option linter.unusedVariables false

/-- No frame: no record. -/
def NoRec (w : World) (e : Ending) (w' : World) : Prop := e = .returned (.tuple #[.slice none 0 0, .int .i64 0, .bool false]) ∧ Below w.heap.size w w'

set_option maxRecDepth 100000 in
set_option maxHeartbeats 16000000 in
theorem runframe_err (w : World) (X : Nat → Prop) (A : Option Addr) (c : Nat) (b : Bs) (h : Sl w X 1 (.slice A b.length c) b.length (BVs b)) (hb : b.length ≤ 140737488355328) (he : (Cm.bytesS (b, 0) 524288).2.2 ≠ 0) :
    Calls Tryz.prog 11 #[.slice A b.length c] w (NoRec w) := by
  have HR := Lib.hid (rread_any w X _ b.length b h)
  have HE := Lib.hid he
  clear h he
  go_enter Tryz.func11, Tryz.ntmps11
  go_wp2_with fail
  refine HR.out.mono ?_
  rintro e w1 ⟨rfl, hr1, hb1⟩
  have HB1 := Lib.hid hb1
  have HBY := Lib.hid (Co.rbytes_any w1 X w.heap.size (b, 0) hr1 524288 (by omega) (by omega) hb)
  clear hr1 hb1
  go_wp2_with fail
  refine HBY.out.mono ?_
  rintro e w2 ⟨v, rfl, ho, hg, A2, n2, c2, hd2, hs2, hgd⟩
  have d0 := hd2.cell 0
  have d1 := hd2.cell 1
  simp only [List.getElem?_toArray, List.getElem?_cons_zero, List.getElem?_cons_succ] at d0 d1
  have hne : ((Cm.bytesS (b, 0) 524288).2.2 == 0) = false := by rw [beq_eq_false_iff_ne]; exact HE.out
  have HG := Lib.hid hg
  obtain ⟨ee, hee⟩ : ∃ ee, ee = (Cm.bytesS (b, 0) 524288).2.2 := ⟨_, rfl⟩
  rw [← hee] at d1 hne
  clear hd2 hs2 hgd ho hg hee HBY
  go_wp2_with fail
  go_ret3
  exact ⟨rfl, HB1.out.grown HG.out HB1.out.size (fun k hk => by injection hk with hk; omega)⟩

theorem rsum_at (w : World) (X : Nat → Prop) (A : Option Addr) (c n : Nat) (l : Bs) (hn : l.length = n) (h : Sl w X 1 (.slice A n c) n (BVs l)) :
    Calls Tryz.prog 14 #[.slice A n c] w fun e w' => e = .returned (.int .u32 (sum l : Int)) ∧ w = w' := by
  subst hn
  exact rsum_any w X A c l h
theorem bytesS_good {b : Bs} (h : (Cm.bytesS (b, 0) 524288).2.2 = 0) : ∃ x rest, Cm.bytesS (b, 0) 524288 = (x, (rest, 0)) ∧ rest.length ≤ b.length := by
  have h1 := Cm.bytesS_len (b, 0) 524288
  generalize Cm.bytesS (b, 0) 524288 = q at h h1 ⊢
  obtain ⟨x, rest, e⟩ := q
  simp only at h h1
  subst h
  exact ⟨x, rest, rfl, h1⟩

set_option maxRecDepth 100000 in
set_option maxHeartbeats 16000000 in
theorem runframe_short (w : World) (X : Nat → Prop) (A : Option Addr) (c : Nat) (b x rest : Bs) (h : Sl w X 1 (.slice A b.length c) b.length (BVs b)) (hb : b.length ≤ 140737488355328) (he : Cm.bytesS (b, 0) 524288 = (x, (rest, 0))) (hrl : rest.length ≤ b.length) (h4 : rest.length < 4) :
    Calls Tryz.prog 11 #[.slice A b.length c] w (NoRec w) := by
  have HR := Lib.hid (rread_any w X _ b.length b h)
  have HE := Lib.hid he
  have HTK : Hid (Cm.takeS (rest, 0) 4 = ([], ([], 10))) := Lib.hid (by rw [Cm.takeS, if_neg (by simp), if_neg (by omega), if_pos (by show (rest.length : Int) < 4; omega)])
  clear h he
  go_enter Tryz.func11, Tryz.ntmps11
  go_wp2_with fail
  refine HR.out.mono ?_
  rintro e w1 ⟨rfl, hr1, hb1⟩
  have HB1 := Lib.hid hb1
  have HBY := Lib.hid (Co.rbytes_any w1 X w.heap.size (b, 0) hr1 524288 (by omega) (by omega) hb)
  rw [HE.out] at HBY
  clear hr1 hb1
  go_wp2_with fail
  refine HBY.out.mono ?_
  rintro e w2 ⟨v, rfl, ho, hg, hr2⟩
  have HTA := Lib.hid (Co.rtake_any w2 X w.heap.size (rest, 0) hr2 4 (by simp only; omega))
  rw [HTK.out] at HTA
  obtain ⟨A2, n2, c2, hd2, hs2, hgd⟩ := hr2
  have hn2 : n2 = rest.length := by obtain ⟨A, c, _, h, _⟩ := hs2; rw [BVs_len] at h; simp only at h; omega
  have d0 := hd2.cell 0
  have d1 := hd2.cell 1
  simp only [List.getElem?_toArray, List.getElem?_cons_zero, List.getElem?_cons_succ] at d0 d1
  have HG := Lib.hid hg
  clear hd2 hs2 hgd ho hg HBY
  go_wp2_with fail
  refine HTA.out.mono ?_
  rintro e w3 ⟨v4, rfl, -, hg3, A3, n3, c3, hd3, -, -⟩
  have e1 := hd3.cell 1
  simp only [List.getElem?_toArray, List.getElem?_cons_zero, List.getElem?_cons_succ] at e1
  have HG3 := Lib.hid hg3
  clear hd3 hg3 HTA
  go_wp2_with fail
  go_ret3
  exact ⟨rfl, (HB1.out.grown HG.out HB1.out.size (fun k hk => by injection hk with hk; omega)).grown HG3.out (by have := HB1.out.size; have := HG.out.size; omega) (fun k hk => by injection hk with hk; omega)⟩

/-- The number that four bytes are. -/
def n4 (a b c d : UInt8) : Nat := a.toNat + 256 * b.toNat + 65536 * c.toNat + 16777216 * d.toNat
theorem n4_bits (a b c d : UInt8) : bits .or .u32 (bits .or .u32 (bits .or .u32 (a.toNat : Int) ((b.toNat : Int) * 256)) ((c.toNat : Int) * 65536)) ((d.toNat : Int) * 16777216) = (n4 a b c d : Int) := by
  have ha := a.toNat_lt
  have hb := b.toNat_lt
  have hc := c.toNat_lt
  have hd := d.toNat_lt
  have o1 : a.toNat ||| b.toNat * 256 = a.toNat + 256 * b.toNat := by
    have := Nat.shiftLeft_add_eq_or_of_lt (i := 8) (b := a.toNat) (by omega) b.toNat
    rw [Nat.shiftLeft_eq] at this
    rw [Nat.or_comm, ← this]; omega
  have o2 : (a.toNat + 256 * b.toNat) ||| c.toNat * 65536 = a.toNat + 256 * b.toNat + 65536 * c.toNat := by
    have := Nat.shiftLeft_add_eq_or_of_lt (i := 16) (b := a.toNat + 256 * b.toNat) (by omega) c.toNat
    rw [Nat.shiftLeft_eq] at this
    rw [Nat.or_comm, ← this]; omega
  have o3 : (a.toNat + 256 * b.toNat + 65536 * c.toNat) ||| d.toNat * 16777216 = n4 a b c d := by
    have := Nat.shiftLeft_add_eq_or_of_lt (i := 24) (b := a.toNat + 256 * b.toNat + 65536 * c.toNat) (by omega) d.toNat
    rw [Nat.shiftLeft_eq] at this
    rw [Nat.or_comm, ← this]; unfold n4; omega
  rw [show (b.toNat : Int) * 256 = ((b.toNat * 256 : Nat) : Int) by omega, u32_or_nat _ _ (by omega) (by omega), o1]
  rw [show (c.toNat : Int) * 65536 = ((c.toNat * 65536 : Nat) : Int) by omega, u32_or_nat _ _ (by omega) (by omega), o2]
  rw [show (d.toNat : Int) * 16777216 = ((d.toNat * 16777216 : Nat) : Int) by omega, u32_or_nat _ _ (by omega) (by omega), o3]
theorem own_four {w : World} {base : Nat} {v : Value} {a b c d : UInt8} (h : w.ownsRow base 5 1 v 4 (BVs [a, b, c, d])) : ∃ g cap, v = .slice (some ⟨g, 0, none⟩) 4 cap ∧ w.cell? ⟨g, 0, none⟩ = some (.int .u8 (a.toNat : Int)) ∧ w.cell? ⟨g, 1, none⟩ = some (.int .u8 (b.toNat : Int)) ∧ w.cell? ⟨g, 2, none⟩ = some (.int .u8 (c.toNat : Int)) ∧ w.cell? ⟨g, 3, none⟩ = some (.int .u8 (d.toNat : Int)) := by
  rcases h.2 with ⟨_, h0⟩ | ⟨g, cap, cur, rfl, hb, hg, hnc, hcm, hsz, ht⟩
  · omega
  · have cell : ∀ (j : Nat) (x : Value), (BVs [a, b, c, d])[j]? = some x → w.cell? ⟨g, j, none⟩ = some x := fun j x hx => by
      have hj : j < 4 * 1 := by have := (List.getElem?_eq_some_iff.1 hx).1; simpa [BVs] using this
      rw [← ht, List.getElem?_take, if_pos hj] at hx
      rw [cell_of_row w g j cur _ (0, 0) hg]
      simpa using hx
    exact ⟨g, cap, rfl, cell 0 _ rfl, cell 1 _ rfl, cell 2 _ rfl, cell 3 _ rfl⟩

set_option maxRecDepth 100000 in
set_option maxHeartbeats 16000000 in
theorem runframe_four (w : World) (X : Nat → Prop) (A : Option Addr) (c : Nat) (b x rest t : Bs) (s0 s1 s2 s3 : UInt8) (h : Sl w X 1 (.slice A b.length c) b.length (BVs b)) (hb : b.length ≤ 140737488355328) (he : Cm.bytesS (b, 0) 524288 = (x, (rest, 0))) (hrl : rest.length ≤ b.length) (h4 : rest = s0 :: s1 :: s2 :: s3 :: t) :
    Calls Tryz.prog 11 #[.slice A b.length c] w fun e w' => (sum (b.take (b.length - rest.length)) = n4 s0 s1 s2 s3 ∧ ∃ A' c', e = .returned (.tuple #[.slice A' x.length c', .int .i64 ((b.length - rest.length + 4 : Nat) : Int), .bool true]) ∧ w'.ownsRow w.heap.size 5 1 (.slice A' x.length c') x.length (BVs x) ∧ Below w.heap.size w w') ∨ (sum (b.take (b.length - rest.length)) ≠ n4 s0 s1 s2 s3 ∧ NoRec w e w') := by
  have HR := Lib.hid (rread_any w X _ b.length b h)
  have HE := Lib.hid he
  have HTK : Hid (Cm.takeS (rest, 0) 4 = ([s0, s1, s2, s3], (t, 0))) := Lib.hid (by rw [Cm.takeS, if_neg (by simp), if_neg (by omega), if_neg (by rw [h4]; simp only [List.length_cons]; omega), h4]; rfl)
  obtain ⟨en, hen⟩ : ∃ en, en = b.length - rest.length := ⟨_, rfl⟩
  have hc : b.length ≤ c := by obtain ⟨A0, c0, hv, _, hc, _⟩ := h; injection hv with _ _ e; omega
  have hut := fun W => Ga.slice_upto A b.length c en (by omega) W
  have sut : Sl w X 1 (.slice A (b.take en).length c) (b.take en).length (BVs (b.take en)) := by
    rw [List.length_take, Nat.min_eq_left (by omega), show BVs (b.take en) = (BVs b).take (en * 1) by simp [BVs]]
    exact h.upto (by omega)
  rw [List.length_take, Nat.min_eq_left (show en ≤ b.length by omega)] at sut
  have HTL : Hid ((b.take en).length = en) := Lib.hid (by rw [List.length_take]; omega)
  have HST := Lib.hid sut
  have hws : IntKind.i64.wrap ((b.length : Int) - (rest.length : Int)) = (en : Int) := by rw [wrap64 (by omega) (by omega)]; omega
  have hw4 : IntKind.i64.wrap ((en : Int) + 4) = (en : Int) + 4 := wrap64 (by omega) (by omega)
  have HEN := Lib.hid hen
  have hrb : rest.length ≤ 140737488355328 := by omega
  rw [← hen]
  clear h he sut hen hc h4
  go_enter Tryz.func11, Tryz.ntmps11
  go_wp2_with fail
  refine HR.out.mono ?_
  rintro e w1 ⟨rfl, hr1, hb1⟩
  have HB1 := Lib.hid hb1
  have HLT := Lib.hid hr1.lt
  have HBY := Lib.hid (Co.rbytes_any w1 X w.heap.size (b, 0) hr1 524288 (by omega) (by omega) hb)
  rw [HE.out] at HBY
  clear hr1 hb1
  go_wp2_with fail
  refine HBY.out.mono ?_
  rintro e w2 ⟨v, rfl, ho, hg, hr2⟩
  obtain ⟨Ax, cx, rfl⟩ := own_shape ho
  simp only at ho
  have HO := Lib.hid ho
  have HTA := Lib.hid (Co.rtake_any w2 X w.heap.size (rest, 0) hr2 4 (by simp only; omega))
  rw [HTK.out] at HTA
  obtain ⟨A2, n2, c2, hd2, hs2, hgd⟩ := hr2
  have hn2 : n2 = rest.length := by obtain ⟨A, c, _, h, _⟩ := hs2; rw [BVs_len] at h; simp only at h; omega
  subst hn2
  have d0 := hd2.cell 0
  have d1 := hd2.cell 1
  simp only [List.getElem?_toArray, List.getElem?_cons_zero, List.getElem?_cons_succ] at d0 d1
  have HG := Lib.hid hg
  clear hd2 hs2 hgd ho hg HBY
  go_wp2_with fail
  refine HTA.out.mono ?_
  rintro e w3 ⟨v4, rfl, ho4, hg3, A3, n3, c3, hd3, -, -⟩
  have e1 := hd3.cell 1
  simp only [List.getElem?_toArray, List.getElem?_cons_zero, List.getElem?_cons_succ] at e1
  obtain ⟨g4, cap4, rfl, q0, q1, q2, q3⟩ := own_four ho4
  have HG3 := Lib.hid hg3
  clear hd3 hg3 HTA ho4
  have HB3 : Hid (Below w.heap.size w w3) := Lib.hid ((HB1.out.grown HG.out HB1.out.size (fun k hk => by injection hk with hk; omega)).grown HG3.out (by have := HB1.out.size; have := HG.out.size; omega) (fun k hk => by injection hk with hk; omega))
  obtain ⟨su, hsu⟩ : ∃ su, su = sum (b.take en) := ⟨_, rfl⟩
  have HSQ : Hid (∀ n, Calls Tryz.prog 14 #[.slice A en c] (w3.drewN n) fun e w'' => e = .returned (.int .u32 (su : Int)) ∧ ∃ m, w'' = w3.drewN m) := Lib.hid fun n => Calls.quiet_of_same ((rsum_at _ X A c en (b.take en) HTL.out ((HST.out.after HB3.out).drewN n)).mono fun _ _ h => ⟨by rw [hsu]; exact h.1, h.2.symm⟩)
  have HSU := Lib.hid hsu
  have b0 := s0.toNat_lt
  have b1 := s1.toNat_lt
  have b2 := s2.toNat_lt
  have b3 := s3.toNat_lt
  have m0 : (s0.toNat : Int) % 4294967296 = (s0.toNat : Int) := by omega
  have m1 : (s1.toNat : Int) % 4294967296 = (s1.toNat : Int) := by omega
  have m2 : (s2.toNat : Int) % 4294967296 = (s2.toNat : Int) := by omega
  have m3 : (s3.toNat : Int) % 4294967296 = (s3.toNat : Int) := by omega
  have k1 : (s1.toNat : Int) * 256 % 4294967296 = (s1.toNat : Int) * 256 := by omega
  have k2 : (s2.toNat : Int) * 65536 % 4294967296 = (s2.toNat : Int) * 65536 := by omega
  have k3 : (s3.toNat : Int) * 16777216 % 4294967296 = (s3.toNat : Int) * 16777216 := by omega
  have hnb := n4_bits s0 s1 s2 s3
  clear hsu b0 b1 b2 b3
  go_wp2_with fail
  go_quiet ((go_at_call 14; exact HSQ.out _))
  by_cases hq : su = n4 s0 s1 s2 s3
  · have hq1 : ((su : Int) == (n4 s0 s1 s2 s3 : Int)) = true := by rw [hq]; exact beq_self_eq_true _
    go_wp2_with fail
    go_ret3
    have h2 : w2.heap.size ≤ w3.heap.size := HG3.out.size
    have ho3 := own_ch HO.out (Ch.of_grown (S := fun k => k = w.heap.size) HG3.out (fun k hk _ => by injection hk with hk; exact hk.symm)) (fun k hk e => by have := (HO.out.lt k hk).1; have := HLT.out; omega)
    have hbd := below_drewN (Below.refl w3.heap.size w3) nq
    exact .inl ⟨by rw [← HSU.out, hq], Ax, cx, rfl, own_base (own_below ho3 hbd) HB1.out.size, HB3.out.trans (hbd.mono HB3.out.size)⟩
  · have hq1 : ((su : Int) == (n4 s0 s1 s2 s3 : Int)) = false := by rw [beq_eq_false_iff_ne]; omega
    go_wp2_with fail
    go_ret3
    have hbd := below_drewN (Below.refl w3.heap.size w3) nq
    exact .inr ⟨by rw [← HSU.out]; exact hq, rfl, HB3.out.trans (hbd.mono HB3.out.size)⟩

end Go.Proofs.YtjoonpkgepkkhaaGreatDoor.Vt

/-
  Contract of the document's Unframe, whole.
-/
namespace Go.Proofs.YtjoonpkgepkkhaaGreatDoor.Vu
open Go Go.RowKit Ck Kw Ga Wc Wf Wa Wb Wd Vr Vs Vt
set_option linter.unusedVariables false

theorem n4_le4 {s : Nat} (h : s < 4294967296) : n4 (UInt8.ofNat (s % 256)) (UInt8.ofNat (s / 256 % 256)) (UInt8.ofNat (s / 65536 % 256)) (UInt8.ofNat (s / 16777216 % 256)) = s := by
  unfold n4
  rw [Cm.toNat_ofNat (by omega), Cm.toNat_ofNat (by omega), Cm.toNat_ofNat (by omega), Cm.toNat_ofNat (by omega)]
  omega
theorem le4_n4 (a b c d : UInt8) : le4 (n4 a b c d) = [a, b, c, d] := by
  have ha := a.toNat_lt
  have hb := b.toNat_lt
  have hc := c.toNat_lt
  have hd := d.toNat_lt
  have e1 : n4 a b c d % 256 = a.toNat := by unfold n4; omega
  have e2 : n4 a b c d / 256 % 256 = b.toNat := by unfold n4; omega
  have e3 : n4 a b c d / 65536 % 256 = c.toNat := by unfold n4; omega
  have e4 : n4 a b c d / 16777216 % 256 = d.toNat := by unfold n4; omega
  simp only [le4, e1, e2, e3, e4, UInt8.ofNat_toNat]
theorem bytes_len {b x r : Bs} {m : Nat} (h : Cm.bytesS (b, 0) (m : Int) = (x, (r, 0))) : x.length ≤ m := by
  have h1 : (Cm.bytesS (b, 0) (m : Int)).2.2 = 0 := by rw [h]
  obtain ⟨_, h2, h3, h4⟩ := Cm.takeS_ok h1
  have h5 : x = ((Cm.numS (b, 0) ((m : Int)).toNat).2.1).take ((Cm.numS (b, 0) ((m : Int)).toNat).1 : Int).toNat := by
    have := congrArg Prod.fst h
    unfold Cm.bytesS at this
    rw [h4] at this
    exact this.symm
  have h6 := Cm.numS_le (b, 0) ((m : Int)).toNat
  rw [Int.toNat_natCast] at h5 h6
  rw [Int.toNat_natCast] at h5
  rw [h5, List.length_take]
  omega

theorem runframe_yes (w : World) (X : Nat → Prop) (A : Option Addr) (c : Nat) (b x r : Bs) (h : Sl w X 1 (.slice A b.length c) b.length (BVs b)) (hb : b.length ≤ 140737488355328) (hf : Fr b x r) :
    Calls Tryz.prog 11 #[.slice A b.length c] w fun e w' => Unframed w x e w' := by
  obtain ⟨hbe, hx⟩ := hf
  have hS := sum_lt (Cm.encB x)
  obtain ⟨s, hs⟩ : ∃ s, s = sum (Cm.encB x) := ⟨_, rfl⟩
  have he : b = Cm.encB x ++ (le4 s ++ r) := by rw [hbe, frame, List.append_assoc, hs]
  have hby : Cm.bytesS (b, 0) 524288 = (x, (le4 s ++ r, 0)) := by rw [he]; exact Cm.bytesS_enc (by omega) (by omega) _
  have hlen : b.length = (Cm.encB x).length + (le4 s ++ r).length := by rw [he, List.length_append]
  have hfl : (frame x).length = (Cm.encB x).length + 4 := by simp [frame, le4_len]
  rw [← hs] at hS
  refine (runframe_four w X A c b x (le4 s ++ r) r _ _ _ _ h hb hby (by omega) rfl).mono ?_
  have e1 : b.length - (le4 s ++ r).length = (Cm.encB x).length := by omega
  rw [e1, n4_le4 hS, show b.take (Cm.encB x).length = Cm.encB x by rw [he, List.take_left]]
  rintro e w' (⟨_, A', c', rfl, ho, hw⟩ | ⟨hne, _⟩)
  · exact ⟨A', c', by rw [hfl], ho, hw⟩
  · exact absurd hs.symm hne
theorem runframe_no (w : World) (X : Nat → Prop) (A : Option Addr) (c : Nat) (b : Bs) (h : Sl w X 1 (.slice A b.length c) b.length (BVs b)) (hb : b.length ≤ 140737488355328) (hf : ∀ x r, ¬ Fr b x r) :
    Calls Tryz.prog 11 #[.slice A b.length c] w (NoRec w) := by
  by_cases he : (Cm.bytesS (b, 0) 524288).2.2 = 0
  · obtain ⟨x, rest, h1, h2⟩ := Cm.bytesS_one he
    have hlen : b.length = (Cm.encB x).length + rest.length := by rw [h2, List.length_append]
    by_cases h4 : rest.length < 4
    · exact runframe_short w X A c b x rest h hb h1 (by omega) h4
    · match rest, h4 with
      | s0 :: s1 :: s2 :: s3 :: t, _ =>
        refine (runframe_four w X A c b x _ t s0 s1 s2 s3 h hb h1 (by omega) rfl).mono ?_
        rintro e w' (⟨hq, _⟩ | ⟨_, hn⟩)
        · exfalso
          have e1 : b.length - (s0 :: s1 :: s2 :: s3 :: t).length = (Cm.encB x).length := by omega
          rw [e1, show b.take (Cm.encB x).length = Cm.encB x by rw [h2, List.take_left]] at hq
          refine hf x t ⟨?_, bytes_len (m := 524288) h1⟩
          rw [frame, hq, le4_n4, h2, List.append_assoc]
          rfl
        · exact hn
      | [], h => simp at h
      | [_], h => simp at h
      | [_, _], h => simp at h
      | [_, _, _], h => simp at h
  · exact runframe_err w X A c b h hb he

end Go.Proofs.YtjoonpkgepkkhaaGreatDoor.Vu

/-
  WalFrames: the walk.
-/
namespace Go.Proofs.YtjoonpkgepkkhaaGreatDoor.Yf
open Go Go.RowKit Ck Kw Ga Wc Wf Wa Wb Wd We Vr Vs Vt Vu
attribute [local go_sem ↓] Go.wp_at_zero Go.wp_at_succ
set_option linter.unusedVariables false

def frameS (b : Bs) : Bs × Nat := if b.length ≤ 524288 then (frame b, 0) else ([], 3)
/-- What Frame answers. -/
def FrameP (w : World) (r : Bs × Nat) (e : Ending) (w' : World) : Prop :=
  ∃ A c, e = .returned (.tuple #[.slice A r.1.length c, .int .i64 (r.2 : Int)]) ∧ w'.ownsRow w.heap.size 5 1 (.slice A r.1.length c) r.1.length (BVs r.1) ∧ Below w.heap.size w w'
theorem frame_p (w : World) (X : Nat → Prop) (A : Option Addr) (c : Nat) (b : Bs) (h : Sl w X 1 (.slice A b.length c) b.length (BVs b)) : Calls Tryz.prog 8 #[.slice A b.length c] w (FrameP w (frameS b)) := by
  unfold frameS
  by_cases hb : b.length ≤ 524288
  · rw [if_pos hb]
    exact frame_any w X A c b h hb
  · rw [if_neg hb]
    refine (frame_long w A b.length c (by omega)).mono ?_
    rintro e w' ⟨rfl, rfl⟩
    exact ⟨none, 0, rfl, World.ownsRow_nil _ _ _ _, Below.refl _ _⟩
theorem rframe_p (w : World) (X : Nat → Prop) (A : Option Addr) (c : Nat) (b : Bs) (h : Sl w X 1 (.slice A b.length c) b.length (BVs b)) : Calls Tryz.prog 9 #[.slice A b.length c] w (FrameP w (frameS b)) := by
  unfold frameS
  by_cases hb : b.length ≤ 524288
  · rw [if_pos hb]
    exact rframe_any w X A c b h hb
  · rw [if_neg hb]
    refine (rframe_long w A b.length c (by omega)).mono ?_
    rintro e w' ⟨rfl, rfl⟩
    exact ⟨none, 0, rfl, World.ownsRow_nil _ _ _ _, Below.refl _ _⟩
/-- What Unframe answers: with a record, or with none. -/
def UnP (w : World) (r : Bs × Nat × Bool) (e : Ending) (w' : World) : Prop :=
  ∃ A c, e = .returned (.tuple #[.slice A r.1.length c, .int .i64 (r.2.1 : Int), .bool r.2.2]) ∧ w'.ownsRow w.heap.size 5 1 (.slice A r.1.length c) r.1.length (BVs r.1) ∧ Below w.heap.size w w'
theorem un_p (b : Bs) (hb : b.length ≤ 140737488355328) : ∃ r : Bs × Nat × Bool, (∀ (w : World) (X : Nat → Prop) (A : Option Addr) (c : Nat), Sl w X 1 (.slice A b.length c) b.length (BVs b) → Calls Tryz.prog 10 #[.slice A b.length c] w (UnP w r)) ∧
    (∀ (w : World) (X : Nat → Prop) (A : Option Addr) (c : Nat), Sl w X 1 (.slice A b.length c) b.length (BVs b) → Calls Tryz.prog 11 #[.slice A b.length c] w (UnP w r)) := by
  by_cases hf : ∃ x r, Fr b x r
  · obtain ⟨x, r, hf⟩ := hf
    exact ⟨(x, (frame x).length, true), fun w X A c h => unframe_yes w X A c b x r h hb hf, fun w X A c h => runframe_yes w X A c b x r h hb hf⟩
  · have hf : ∀ x r, ¬ Fr b x r := fun x r h => hf ⟨x, r, h⟩
    refine ⟨([], 0, false), fun w X A c h => (unframe_no w X A c b h hb hf).mono ?_, fun w X A c h => (runframe_no w X A c b h hb hf).mono ?_⟩
    · rintro e w' ⟨rfl, hb⟩
      exact ⟨none, 0, rfl, World.ownsRow_nil _ _ _ _, hb⟩
    · rintro e w' ⟨rfl, hb⟩
      exact ⟨none, 0, rfl, World.ownsRow_nil _ _ _ _, hb⟩

set_option maxRecDepth 100000 in
set_option maxHeartbeats 16000000 in
theorem frames_law (w : World) (X Y : Nat → Prop) (A B : Option Addr) (c d : Nat) (b x : Bs) (hT : Tab w) (h : Sl w X 1 (.slice A b.length c) b.length (BVs b)) (k : Sl w Y 1 (.slice B x.length d) x.length (BVs x)) (hx : x.length ≤ 140737488355328) :
    Calls Tryz.prog 3 #[.slice A b.length c, .slice B x.length d] w fun e w' => e = .returned (.bool true) ∧ Below w.heap.size w w' := by
  obtain ⟨⟨u, n, is⟩, hu1, hu2⟩ := un_p x hx
  have HT := Lib.hid hT
  have H := Lib.hid h
  have K := Lib.hid k
  have HU1 := Lib.hid hu1
  have HU2 := Lib.hid hu2
  obtain ⟨⟨fb, fc⟩, hfr⟩ : ∃ r, r = frameS b := ⟨_, rfl⟩
  have HF1 := Lib.hid (frame_p w X A c b h)
  rw [← hfr] at HF1
  have HF2 : Hid (∀ W, Below w.heap.size w W → Calls Tryz.prog 9 #[.slice A b.length c] W (FrameP W (fb, fc))) := Lib.hid fun W hb => by rw [hfr]; exact rframe_p W X A c b (h.after hb)
  clear hT h k hu1 hu2 hfr hx
  go_enter Tryz.func3, Tryz.ntmps3
  go_wp2_with fail
  refine HF1.out.mono ?_
  rintro e w1 ⟨A1, c1, rfl, ho1, hb1⟩
  have HO1 := Lib.hid ho1
  have HB1 := Lib.hid hb1
  have HF2 := Lib.hid (HF2.out w1 hb1)
  clear ho1 hb1 HF1
  go_wp2_with fail
  refine HF2.out.mono ?_
  rintro e w2 ⟨A2, c2, rfl, ho2, hb2⟩
  have HO2 := Lib.hid ho2
  have HB12 := Lib.hid hb2
  have HB2 := Lib.hid (HB1.out.trans (hb2.mono HB1.out.size))
  have HU1 := Lib.hid (HU1.out w2 Y B d (K.out.after HB2.out))
  clear ho2 hb2 HF2
  go_wp2_with fail
  refine HU1.out.mono ?_
  rintro e w3 ⟨A3, c3, rfl, ho3, hb3⟩
  have HO3 := Lib.hid ho3
  have HB23 := Lib.hid hb3
  have HB3 := Lib.hid (HB2.out.trans (hb3.mono HB2.out.size))
  have HU2 := Lib.hid (HU2.out w3 Y B d (K.out.after HB3.out))
  clear ho3 hb3 HU1
  go_wp2_with fail
  refine HU2.out.mono ?_
  rintro e w4 ⟨A4, c4, rfl, ho4, hb4⟩
  have HO4 := Lib.hid ho4
  have HB34 := Lib.hid hb4
  have HB4 := Lib.hid (HB3.out.trans (hb4.mono HB3.out.size))
  have HBG := Lib.hid (Vd.begun_any w4 (HT.out.after HB4.out))
  clear ho4 hb4 HU2
  go_wp2_with fail
  refine HBG.out.mono ?_
  rintro e w5 ⟨rfl, hb5⟩
  have HB45 := Lib.hid hb5
  have HB5 := Lib.hid (HB4.out.trans (hb5.mono HB4.out.size))
  have HS1 := Lib.hid (sum_any w5 X A c b (H.out.after HB5.out))
  have HS2 := Lib.hid (rsum_any w5 X A c b (H.out.after HB5.out))
  have q1 : Sl w5 (fun _ => False) 1 (.slice A1 fb.length c1) fb.length (BVs fb) := Sl.of_own (own_below (own_below (own_below (own_below HO1.out HB12.out) HB23.out) HB34.out) HB45.out) (fun _ _ _ h => h)
  have q2 : Sl w5 (fun _ => False) 1 (.slice A2 fb.length c2) fb.length (BVs fb) := Sl.of_own (own_below (own_below (own_below HO2.out HB23.out) HB34.out) HB45.out) (fun _ _ _ h => h)
  have q3 : Sl w5 (fun _ => False) 1 (.slice A3 u.length c3) u.length (BVs u) := Sl.of_own (own_below (own_below HO3.out HB34.out) HB45.out) (fun _ _ _ h => h)
  have q4 : Sl w5 (fun _ => False) 1 (.slice A4 u.length c4) u.length (BVs u) := Sl.of_own (own_below HO4.out HB45.out) (fun _ _ _ h => h)
  have HE1 := Lib.hid (equal_any w5 _ _ _ _ _ _ fb fb q1 q2)
  have HE2 := Lib.hid (equal_any w5 _ _ _ _ _ _ u u q3 q4)
  have e1 : (fb == fb) = true := beq_self_eq_true _
  have e2 : (u == u) = true := beq_self_eq_true _
  rw [e1] at HE1
  rw [e2] at HE2
  obtain ⟨su, hsu⟩ : ∃ su, su = sum b := ⟨_, rfl⟩
  rw [← hsu] at HS1 HS2
  clear hb5 HBG q1 q2 q3 q4 e1 e2 hsu
  dsimp only
  go_wp2_with fail
  refine HS1.out.mono ?_
  rintro e w6 ⟨rfl, rfl⟩
  go_wp2_with fail
  refine HS2.out.mono ?_
  rintro e w6 ⟨rfl, rfl⟩
  go_wp2_with fail
  refine HE1.out.mono ?_
  rintro e w6 ⟨rfl, rfl⟩
  go_wp2_with fail
  refine HE2.out.mono ?_
  rintro e w6 ⟨rfl, rfl⟩
  go_wp2_with fail
  go_ret
  exact ⟨by simp, HB5.out⟩

end Go.Proofs.YtjoonpkgepkkhaaGreatDoor.Yf

/-
  WalFrames: for every pair of byte strings the law answers true and the arguments read as they did: sums, frames, and the record with which any bytes begin are those of the document.
  No condition but what the row lists: the tables that the program's text lays.
-/
namespace Go.Proofs.YtjoonpkgepkkhaaGreatDoor.L4Frames
open Go Go.RowKit Go.ChangeShapes Go.WideShapes Go.ChangeAt Ck Kp
set_option linter.unusedVariables false

theorem own : ownKnob Tryz.prog.godebug = none := by kernel_rfl
theorem laidOut : laidOutB Tryz.prog = true := by kernel_rfl
theorem readable : (Tryz.f3.params.toList.all fun t => Tryz.prog.readableRec t && decide (t < Tryz.prog.types.size)) = true := by kernel_rfl
/-- What the row lists. -/
def laid : List (String × DataW Unit) := Rows.walFramesRow.laid
theorem tab_of {W : World} (h : laidMetH Tryz.prog laid W) : We.Tab W := by
  rw [MakeChecks.laidMetH_plain _ _ _ (by kernel_rfl)] at h
  exact Lib.tabIs_of_head (t := 215) (e := 123) (n := 20) We.tab_g (by kernel_rfl) (by kernel_rfl) (by kernel_rfl) (by kernel_rfl) (by kernel_rfl) (laidMet.tail (laidMet.tail h))
theorem door_met (os : Os) (args : Array Value) : laidMetH Tryz.prog laid ((World.doorLaid Tryz.prog 400 os).forCall (fun _ _ => 0) ⟨#[], args, []⟩).memory :=
  laidMetH_of_parts3 (fuel := 8) (laidMet_of_run' 8 (by kernel_rfl) (by kernel_rfl)) (by kernel_rfl) (by kernel_rfl)

set_option maxRecDepth 100000 in
theorem contract (H : Type) (enc : TypeId × Value → H) (W : World) (base : Nat) (args : Array Value) (ds gs : List (DataW H)) (before : List MemPlace)
    (hval : ∀ (j : Nat) t v, Tryz.f3.params[j]? = some t → args[j]? = some v → Value.okWide Tryz.prog W .any base t v)
    (hW : DataW.Whole enc Tryz.prog Tryz.f3.params.toList Rows.walFramesSpec.vars false W args.toList ds gs before)
    (hz : (DataW.weightsEach Tryz.prog (Tryz.f3.params.toList ++ Rows.walFramesSpec.plain.varTypes Tryz.prog) (ds ++ gs)).all (· ≤ reachBytes) = true) (hL : laidMetH Tryz.prog laid W) :
    Calls Tryz.prog 3 args W fun e W' => ∃ v, e = .returned v ∧ Rows.walFramesSpec.post enc Tryz.prog Tryz.f3 false true false false W args v W' := by
  have hW' := hW
  obtain ⟨p, q, hA0, hV, rfl, hfz, hnd⟩ := hW
  have hA : DataW.TrodAll enc Tryz.prog W 0 (fun _ => true) true Tryz.f3.params.toList args.toList ds p := hA0
  rw [Tryz.params3] at hA hval hz
  obtain ⟨v0, v1, d0, d1, p0, p1, rfl, rfl, rfl, h0, h1⟩ := trodAll_two hA
  obtain ⟨rfl, rfl⟩ := trodVars_none hV
  obtain ⟨A0, n0, c0, rfl⟩ := okWide_slice Tryz.underlying22 (hval 0 22 v0 rfl rfl)
  obtain ⟨f0, hf0⟩ := h0
  obtain ⟨b, hb0, hl0⟩ := open_bytesW hf0
  have hn0 : n0 = b.length := by obtain ⟨A, c, hv, _⟩ := hb0; exact (Value.slice.inj hv).2.1
  subst hn0
  obtain ⟨A1, n1, c1, rfl⟩ := okWide_slice Tryz.underlying22 (hval 1 22 v1 rfl rfl)
  obtain ⟨f1, hf1⟩ := h1
  obtain ⟨x, hb1, hl1⟩ := open_bytesW hf1
  have hr1 := hl1 _ (reach_of hz (j := 1) rfl rfl)
  have hn1 : n1 = x.length := by obtain ⟨A, c, hv, _⟩ := hb1; exact (Value.slice.inj hv).2.1
  subst hn1
  simp only [List.append_nil] at hW'
  refine (Yf.frames_law W _ _ A0 A1 c0 c1 b x (tab_of hL) hb0 hb1 (by omega)).mono fun e W' ⟨he, hg⟩ => ⟨_, he, ?_⟩
  exact law_post laidOut readable rfl rfl Tryz.underlying4 hW' rfl rfl rfl hg

set_option maxRecDepth 100000 in
theorem lifted (os : Os) (started : os.Started) (H : Type) (enc : TypeId × Value → H) :
    ReturnsInHanded {} Tryz.checked os 3 .any (fun w args => (Rows.walFramesSpec.pre enc Tryz.prog Tryz.f3 [] false w args ∧ laidMetH Tryz.prog laid w) ∧ sizedMet enc Tryz.prog Tryz.f3 (OpenSpec.ofChange Rows.walFramesSpec) false w args)
      (Rows.walFramesSpec.post enc Tryz.prog Tryz.f3 false true false false) := by
  refine returnsInHanded_of_change_and (C := Tryz.checked) (X := fun w _ => laidMetH Tryz.prog laid w) (fun _ _ _ hh h => h.of_heap hh) own started (by kernel_rfl) Tryz.func3
    (ChangeSpec.witness_shaped (enc := enc) (C := Tryz.checked) (os := os) (X := fun w _ => laidMetH Tryz.prog laid w) false (World.doorLaid Tryz.prog 400 os) #[.slice none 0 0, .slice none 0 0] 8 rfl (World.shaped_of_RefB (by kernel_rfl) (by kernel_rfl)) (by kernel_rfl) (by kernel_rfl) (by kernel_rfl) (door_met os _)) ?_
  intro W base args ds gs before hval hW _ hz hL _
  exact contract H enc W base args ds gs before hval hW hz hL

theorem row_holds : Rows.WalFramesSaid :=
  OpenClaim.holds_of_wide 3 Tryz.f3 rfl rfl rfl rfl rfl rfl rfl ⟨rfl, rfl, rfl, rfl, rfl⟩ rfl rfl rfl rfl rfl (by kernel_rfl) Tryz.func3 (by kernel_rfl)
    (of_decide_eq_true (by kernel_rfl)) (by unfold Func.isWrapper; first | (rw [if_pos (by decide +kernel)]; kernel_rfl) | (rw [if_neg (by decide +kernel)]; exact ⟨rfl, rfl⟩))
    (fun os started H enc _ => lifted os started H enc)

theorem proved : Rows.WalFramesCardSaid :=
  Claim7.holds_tied_plain_at .later [] [.data, .data, .data, .sentinel, .sentinel] true (true, "0fec2a51443b1fef6fd5493d02ca5677c791d6a1991a9bcdb9d0b11b211f3f4e") true
    row_holds (fun _ h => by cases h) (by kernel_rfl) (fun _ h => by cases h) walFrames_row_tie rfl ⟨rfl, rfl⟩ (by kernel_rfl) rfl
    (fun f fn hf hfn => by
      obtain rfl : f = 3 := Option.some.inj ((show Tryz.prog.funcNamed "bulla/bullalaw04.WalFrames" = some 3 by kernel_rfl).symm.trans hf) |>.symm
      obtain rfl : fn = Tryz.f3 := (Option.some.inj (Tryz.func3.symm.trans hfn)).symm
      exact ⟨by kernel_rfl, fun j t ht => by
        rw [Tryz.params3] at ht
        have hm : t ∈ [22, 22] := by simpa using Array.mem_of_getElem? ht
        have hall : ([22, 22].all fun u => !Tryz.prog.wantsStandIn u) = true := by kernel_rfl
        exact (show Tryz.prog.wantsStandIn t = false by simpa using List.all_eq_true.1 hall t hm)⟩)
    (by kernel_rfl)

end Go.Proofs.YtjoonpkgepkkhaaGreatDoor.L4Frames

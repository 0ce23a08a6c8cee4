/-
  Layer 9 (block): the contract of bullalaw09.live.
-/
import Derived.Test.YtobphijbhghgmaaGreatP19
import Derived.Deep.RegionHeld3
namespace Go.Proofs.YtobphijbhghgmaaGreat.Zo
set_option linter.unusedSimpArgs false
open Go Go.RowKit Ck Kw Ga Kf Pm Pe Qb Tm Tn Tq Ik Aa Ja Jm Jb Jn Ma Za Zb Ze Zt Zc Zg Zh Zi Zj Zk Zl Zm Zn
open Im (num isIn add sum)
attribute [local go_sem ↓] Go.wp_at_zero Go.wp_at_succ
set_option linter.unusedVariables false
set_option maxRecDepth 100000

theorem hs_lit (W : World) (X : Nat → Prop) (l : List H) {cs : Array Value} {n : Nat} (hc : cs = (flatH l).toArray) (hn : n = l.length) (h1 : n ≤ 1000) (hX : ¬ X W.heap.size) : Sl (W.alloc (.cells cs 24)) X 5 (.slice (some ⟨W.heap.size, 0, none⟩) n n) l.length (flatH l) := by
  subst hc
  subst hn
  refine ⟨_, _, rfl, by rw [flatH, flat_len HC_len], Nat.le_refl _, by simp only [maxLen]; omega, fun _ => ⟨_, rfl, by simp, hX, fun j u hu => ?_⟩⟩
  have ha : (⟨W.heap.size, 0, none⟩ : Addr).add j = ⟨W.heap.size, j, none⟩ := by unfold Addr.add; split <;> simp_all
  rw [ha]
  have hb : Blk (W.alloc (.cells (flatH l).toArray 24)) W.heap.size 24 (flatH l).toArray := Blk.new W _ _
  rw [hb.cell j]
  simpa using hu
theorem new_low {w w1 : World} {k : Nat} (h : New w w1 k) : w.heap.size ≤ k ∧ k < w1.heap.size := h

set_option maxHeartbeats 16000000 in
theorem live_any (w : World) : Calls Tryz.prog 7 #[] w fun e w' => e = .returned (.bool true) ∧ Below w.heap.size w w' := by
  have HGN := Lib.hid fun (W : World) (S : Nat → Prop) (p : Nat) (k : Tb W S p []) => genesis_any W S p [] k
  rw [gen_h0] at HGN
  have HEX := Lib.hid fun (W : World) (S : Nat → Prop) (p t : Nat) (k : TS W S p t (genT []) St.zero) => exec_nil W S p t (genT []) St.zero h0 k
  unfold ExecD at HEX
  rw [exec_h1, exec_s1] at HEX
  have HCH := Lib.hid fun (W : World) (S : Nat → Prop) (p : Nat) (A : Option Addr) (c : Nat) (k : Tb W S p (execT (genT []) St.zero h0 [])) (hl : Sl W (fun _ => False) 5 (.slice A 2 c) 2 (flatH [h0, h1])) => chain_any W S (fun _ => False) p _ A c [h0, h1] k hl (by simp)
  have HCI := Lib.hid fun (W : World) (S : Nat → Prop) (p : Nat) (A : Option Addr) (c : Nat) (k : Tb W S p (execT (genT []) St.zero h0 [])) (hl : Sl W (fun _ => False) 5 (.slice A 2 c) 2 (flatH [h1, h0])) => chain_any W S (fun _ => False) p _ A c [h1, h0] k hl (by simp)
  rw [chain_h0] at HCH
  rw [chain_h1] at HCI
  have hq : ∀ W : World, (binOp .neq 24 (.agg #[.int .i64 0, .int .i64 0, .int .i64 0, .int .i64 1, .int .i64 2]) (.agg #[.int .i64 0, .int .i64 0, .int .i64 0, .int .i64 1, .int .i64 2])).run Tryz.prog W = .ok (.bool false) W := fun W => run_neq_hdr W h0 h0
  have hgh := guard_hdr
  generalize genT [] = T1 at *
  generalize execT T1 St.zero h0 [] = T2 at *
  simp only [HV, HC, h0, h1, List.length_cons, List.length_nil] at HGN HEX HCH HCI
  go_enter Tryz.func7, Tryz.ntmps7
  go_wp2_with fail
  refine (Ib.newtable_any w).mono ?_
  rintro e w1 ⟨p, rfl, ht1, hb1⟩
  have HB1 := Lib.hid hb1
  have HT1 := Lib.hid ht1
  clear ht1 hb1
  go_wp2_with fail
  refine (HGN.out w1 _ p HT1.out).mono ?_
  rintro e w2 ⟨rfl, ht2, hc2⟩
  have hb2 : Below w.heap.size w w2 := HB1.out.trans (hc2.below (fun k hk h => by have := (new_low h).1; omega) HB1.out.size)
  have HB2 := Lib.hid hb2
  have HT2 := Lib.hid (Tb.tight ht2)
  have hlow2 : ∀ k, Up (New w w1) w1 w2 k → w.heap.size ≤ k := fun k hk => by
    have := HB1.out.size
    rcases hk with hk | hk
    · exact (new_low hk).1
    · have := hk.1; omega
  have HLO2 := Lib.hid hlow2
  clear ht2 hc2 hb2 hlow2 HGN
  have hg3 : Blk (w2.alloc (.cells #[.int .i64 0, .int .i64 0, .int .i64 0, .int .i64 1, .int .i64 2] 24)) w2.heap.size 24 #[.int .i64 0, .int .i64 0, .int .i64 0, .int .i64 1, .int .i64 2] := Blk.new w2 _ _
  have hb3 := op_below w2 (.cells #[.int .i64 0, .int .i64 0, .int .i64 0, .int .i64 1, .int .i64 2] 24)
  have hz3 : (w2.alloc (.cells #[.int .i64 0, .int .i64 0, .int .i64 0, .int .i64 1, .int .i64 2] 24)).heap.size = w2.heap.size + 1 := by simp
  have HG3 := Lib.hid hg3
  have HB3 := Lib.hid (HB2.out.trans (hb3.mono HB2.out.size))
  have HT3 := Lib.hid (Tb.after HT2.out hb3)
  have HZ3 := Lib.hid hz3
  clear hg3 hb3 hz3
  go_wp2_with fail
  generalize w2.alloc (.cells #[.int .i64 0, .int .i64 0, .int .i64 0, .int .i64 1, .int .i64 2] 24) = w3 at *
  refine (Ab.new_any w3).mono ?_
  rintro e w4 ⟨t, rfl, hz4, hb4⟩
  have HTS := Lib.hid (ts_new HT3.out hb4 hz4)
  have HB4 := Lib.hid (HB3.out.trans (hb4.mono HB3.out.size))
  have HG4 := Lib.hid (HG3.out.below hb4 HG3.out.lt)
  clear hz4 hb4
  obtain ⟨⟨a0, a1, a2, a3, a4⟩, -⟩ := Blk.cells5 HG4.out
  go_wp2_with fail
  refine (HEX.out w4 _ p t HTS.out).mono ?_
  rintro e w5 ⟨vp, va, rfl, hnil, hts5, hc5⟩
  obtain ⟨rfl, rfl⟩ := hnil trivial
  have hs2 := HB2.out.size
  have hb5 : Below w.heap.size w w5 := HB4.out.trans (hc5.below (fun k hk h => by
    have := HZ3.out
    rcases h with h | h
    · have := HLO2.out k h.1.1; omega
    · have := h.1; omega) HB4.out.size)
  have hg5 := HG4.out.ch hc5 (fun h => by
    have := HZ3.out
    rcases h with h | h
    · have := h.1.2; omega
    · have := h.1; omega)
  have HB5 := Lib.hid hb5
  have HG5 := Lib.hid hg5
  have HT5 := Lib.hid (Zh.TS.tb hts5)
  clear hnil hts5 hc5 hb5 hg5 HEX HTS HG4 HG3 a0 a1 a2 a3 a4
  have hg6 := HG5.out.alloc (.cells #[.int .i64 1, .int .i64 4, .int .i64 3, .int .i64 1, .int .i64 2] 24)
  have hh6 : Blk (w5.alloc (.cells #[.int .i64 1, .int .i64 4, .int .i64 3, .int .i64 1, .int .i64 2] 24)) w5.heap.size 24 #[.int .i64 1, .int .i64 4, .int .i64 3, .int .i64 1, .int .i64 2] := Blk.new w5 _ _
  have hb6 := op_below w5 (.cells #[.int .i64 1, .int .i64 4, .int .i64 3, .int .i64 1, .int .i64 2] 24)
  have HG6 := Lib.hid hg6
  have HH6 := Lib.hid hh6
  have HB6 := Lib.hid (HB5.out.trans (hb6.mono HB5.out.size))
  have HT6 := Lib.hid (Tb.after HT5.out hb6)
  obtain ⟨⟨a0, a1, a2, a3, a4⟩, -⟩ := Blk.cells5 hg6
  obtain ⟨⟨b0, b1, b2, b3, b4⟩, -⟩ := Blk.cells5 hh6
  clear hg6 hh6 hb6 HG5 hs2
  have hz6 : (w5.alloc (.cells #[.int .i64 1, .int .i64 4, .int .i64 3, .int .i64 1, .int .i64 2] 24)).heap.size = w5.heap.size + 1 := by simp
  have hl7 := hs_lit (w5.alloc (.cells #[.int .i64 1, .int .i64 4, .int .i64 3, .int .i64 1, .int .i64 2] 24)) (fun _ => False) [h0, h1] (cs := #[.int .i64 0, .int .i64 0, .int .i64 0, .int .i64 1, .int .i64 2, .int .i64 1, .int .i64 4, .int .i64 3, .int .i64 1, .int .i64 2]) (n := 2) rfl rfl (by omega) (fun h => h)
  rw [hz6] at hl7
  have hb7 := op_below (w5.alloc (.cells #[.int .i64 1, .int .i64 4, .int .i64 3, .int .i64 1, .int .i64 2] 24)) (.cells #[.int .i64 0, .int .i64 0, .int .i64 0, .int .i64 1, .int .i64 2, .int .i64 1, .int .i64 4, .int .i64 3, .int .i64 1, .int .i64 2] 24)
  have HL7 := Lib.hid hl7
  have HB7 := Lib.hid (HB6.out.trans (hb7.mono HB6.out.size))
  have HT7 := Lib.hid (Tb.after HT6.out hb7)
  have HG7 := Lib.hid (HG6.out.below hb7 HG6.out.lt)
  have HH7 := Lib.hid (HH6.out.below hb7 HH6.out.lt)
  clear hz6 hl7 hb7
  go_wp2_with fail
  generalize (w5.alloc (.cells #[.int .i64 1, .int .i64 4, .int .i64 3, .int .i64 1, .int .i64 2] 24)).alloc (.cells #[.int .i64 0, .int .i64 0, .int .i64 0, .int .i64 1, .int .i64 2, .int .i64 1, .int .i64 4, .int .i64 3, .int .i64 1, .int .i64 2] 24) = w7 at *
  refine (HCH.out w7 _ p _ _ HT7.out HL7.out).mono ?_
  rintro e w8 ⟨rfl, hb8⟩
  have HB8 := Lib.hid (HB7.out.trans (hb8.mono HB7.out.size))
  have HT8 := Lib.hid (Tb.after HT7.out hb8)
  have hg8 := HG7.out.below hb8 HG7.out.lt
  have hh8 := HH7.out.below hb8 HH7.out.lt
  clear a0 a1 a2 a3 a4 b0 b1 b2 b3 b4 hb8 HCH HG6 HH6 HB6 HT6
  obtain ⟨⟨a0, a1, a2, a3, a4⟩, -⟩ := Blk.cells5 hg8
  obtain ⟨⟨b0, b1, b2, b3, b4⟩, -⟩ := Blk.cells5 hh8
  clear hg8 hh8
  have HL9 := Lib.hid (hs_lit w8 (fun _ => False) [h1, h0] (cs := #[.int .i64 1, .int .i64 4, .int .i64 3, .int .i64 1, .int .i64 2, .int .i64 0, .int .i64 0, .int .i64 0, .int .i64 1, .int .i64 2]) (n := 2) rfl rfl (by omega) (fun h => h))
  have hb9 := op_below w8 (.cells #[.int .i64 1, .int .i64 4, .int .i64 3, .int .i64 1, .int .i64 2, .int .i64 0, .int .i64 0, .int .i64 0, .int .i64 1, .int .i64 2] 24)
  have HB9 := Lib.hid (HB8.out.trans (hb9.mono HB8.out.size))
  have HT9 := Lib.hid (Tb.after HT8.out hb9)
  clear hb9
  go_wp2_with fail
  generalize w8.alloc (.cells #[.int .i64 1, .int .i64 4, .int .i64 3, .int .i64 1, .int .i64 2, .int .i64 0, .int .i64 0, .int .i64 0, .int .i64 1, .int .i64 2] 24) = w9 at *
  refine (HCI.out w9 _ p _ _ HT9.out HL9.out).mono ?_
  rintro e w10 ⟨rfl, hb10⟩
  have HB10 := Lib.hid (HB9.out.trans (hb10.mono HB9.out.size))
  clear hb10
  go_wp2_with fail
  go_ret
  exact ⟨rfl, HB10.out⟩
end Go.Proofs.YtobphijbhghgmaaGreat.Zo

/-
  Layer 9 (block): the walk of the statement BlockPast.
-/
namespace Go.Proofs.YtobphijbhghgmaaGreat.Yl
set_option linter.unusedSimpArgs false
open Go Go.RowKit Ck Kw Ga Kf Pm Pz Pe Qb Qg Tm Tn Tq Ik Ja Jm Jb Jc Je Ma Za Zb Zt Zc Zg Zh Zl Zm Zn Zo Ya Yr Ys Ye
open Im (num isIn add sum)
attribute [local go_sem ↓] Go.wp_at_zero Go.wp_at_succ
set_option linter.unusedVariables false
set_option maxRecDepth 100000

theorem lb_of {w w' : World} {X Y : Nat → Prop} {v : Value} {vals : List Value} {ls : List (List Sd)} {base : Nat} (ho : w.ownsRow base 52 1 v ls.length vals) (hv : VB w X vals ls) (b : Below w.heap.size w w') (hY : ∀ k, Y k → X k ∧ w.heap.size ≤ k) : LB w' Y v ls := by
  have h : LB w Y v ls := ⟨vals, Sl.of_own ho (fun k h1 h2 h => by have := (hY k h).2; omega), fun i hi => by
    obtain ⟨A, c, h3, h4⟩ := hv.2 i hi
    exact ⟨A, c, h3, h4.weaken (fun k hk hy => (hY k hy).1)⟩⟩
  exact h.after b
theorem hdr_last {W : World} {base g n c : Nat} {hs : List H} {h : H} (ho : W.ownsRow base 24 5 (.slice (some ⟨g, 0, none⟩) (n + 1) c) (n + 1) (flatH (hs.reverse ++ [h]))) (hn : hs.length = n) :
    W.cell? ⟨g, n * 5, none⟩ = some (.int .i64 h.seq) ∧ W.cell? ⟨g, n * 5 + 1, none⟩ = some (.int .i64 h.prev) ∧ W.cell? ⟨g, n * 5 + 2, none⟩ = some (.int .i64 h.batch) ∧ W.cell? ⟨g, n * 5 + 3, none⟩ = some (.int .i64 h.root) ∧ W.cell? ⟨g, n * 5 + 4, none⟩ = some (.int .i64 h.state) := by
  have hsl : hs.reverse.length = n := by rw [List.length_reverse, hn]
  have cc : ∀ j u, j < 5 → ((HC h).toList)[j]? = some u → W.cell? ⟨g, n * 5 + j, none⟩ = some u := fun j u hj hu => by
    rw [World.ownsRow.cellAt ho (n * 5 + j) (by omega)]
    unfold flatH
    rw [← hsl, flat_get HC_len (hs.reverse ++ [h]) hs.reverse.length (by simp) j hj]
    simpa using hu
  exact ⟨cc 0 _ (by omega) rfl, cc 1 _ (by omega) rfl, cc 2 _ (by omega) rfl, cc 3 _ (by omega) rfl, cc 4 _ (by omega) rfl⟩
set_option maxHeartbeats 16000000 in
theorem blockpast_any (w : World) (A0 A1 : Option Addr) (c0 c1 : Nat) (la lb : List (List Sd)) (ha : LB w (fun k => w.heap.size ≤ k) (.slice A0 la.length c0) la) (hb : LB w (fun k => w.heap.size ≤ k) (.slice A1 lb.length c1) lb)
    (hla : ∀ b ∈ la, b.length ≤ 140737488355328 ∧ ∀ x ∈ b, x.q.o.recs.length ≤ 140737488355328) (hlb : ∀ b ∈ lb, b.length ≤ 140737488355328 ∧ ∀ x ∈ b, x.q.o.recs.length ≤ 140737488355328) (hna : la.length ≤ 140737488355328) (hnb : lb.length ≤ 140737488355328) :
    Calls Tryz.prog 5 #[.slice A0 la.length c0, .slice A1 lb.length c1] w fun e w' => e = .returned (.bool true) ∧ Below w.heap.size w w' := by
  have HA := Lib.hid ha
  have HB := Lib.hid hb
  have HLA := Lib.hid hla
  have HLB := Lib.hid hlb
  clear ha hb hla hlb
  go_enter Tryz.func5, Tryz.ntmps5
  go_wp2_with fail
  refine (live_any w).mono ?_
  rintro e w1 ⟨rfl, hb1⟩
  have HB1 := Lib.hid hb1
  clear hb1
  have HSA := Lib.hid (sound_any w1 (fun k => w.heap.size ≤ k) A0 c0 la (HA.out.after HB1.out) (fun k hk => Nat.le_trans HB1.out.size hk) HLA.out hna)
  have HSB : Hid (∀ W, Below w.heap.size w W → Calls Tryz.prog 18 #[.slice A1 lb.length c1] W (Sounded W (fun k => w.heap.size ≤ k) lb)) := Lib.hid fun W hb => sound_any W (fun k => w.heap.size ≤ k) A1 c1 lb (HB.out.after hb) (fun k hk => Nat.le_trans hb.size hk) HLB.out hnb
  have HOA := Lib.hid (fun b (hb : b ∈ soundL la) => (⟨(sound_ok b hb).1, HLA.out b (sound_ok b hb).2⟩ : bcheck b = 0 ∧ _))
  have HOB := Lib.hid (fun b (hb : b ∈ soundL lb) => (⟨(sound_ok b hb).1, HLB.out b (sound_ok b hb).2⟩ : bcheck b = 0 ∧ _))
  have hsa := sound_len la
  have hsb := sound_len lb
  unfold Sounded at HSA HSB
  generalize soundL la = sa at *
  generalize soundL lb = sb at *
  go_wp2_with fail
  refine HSA.out.mono ?_
  rintro e w2 ⟨v2, vals2, rfl, ho2, hv2, hb2⟩
  obtain ⟨A2, c2, rfl⟩ := own_shape ho2
  have HB2 := Lib.hid (HB1.out.trans (hb2.mono HB1.out.size))
  have HS2 := Lib.hid (And.intro ho2 hv2)
  clear ho2 hv2 hb2 HSA
  go_wp2_with fail
  refine (HSB.out w2 HB2.out).mono ?_
  rintro e w3 ⟨v3, vals3, rfl, ho3, hv3, hb3⟩
  obtain ⟨A3, c3, rfl⟩ := own_shape ho3
  have HB3 := Lib.hid (HB2.out.trans (hb3.mono HB2.out.size))
  have HS3 := Lib.hid (And.intro ho3 hv3)
  have hs3 := HB3.out.size
  have HLa := Lib.hid (lb_of HS2.out.1 HS2.out.2 hb3 (Y := fun k => w3.heap.size ≤ k) (fun k hk => ⟨Nat.le_trans HB3.out.size hk, Nat.le_trans hb3.size hk⟩))
  have HLb := Lib.hid (lb_of HS3.out.1 HS3.out.2 (Below.refl _ w3) (Y := fun k => w3.heap.size ≤ k) (fun k hk => ⟨Nat.le_trans HB3.out.size hk, hk⟩))
  clear ho3 hv3 hb3 HSB HS2 HS3
  go_wp2_with fail
  refine (Ib.newtable_any w3).mono ?_
  rintro e w4 ⟨p, rfl, ht4, hb4⟩
  have HB4 := Lib.hid (HB3.out.trans (hb4.mono HB3.out.size))
  have HLa4 := Lib.hid (HLa.out.after hb4)
  have HLb4 := Lib.hid (HLb.out.after hb4)
  have HS34 := Lib.hid hb4.size
  have HRA := Lib.hid (runs_any w4 (New w3 w4) w3.heap.size p [] _ sa ht4 (fun k hk => hk.1) hb4.size HLa4.out (fun b hb => (HOA.out b hb).1) (fun b hb => (HOA.out b hb).2.2) hsa (by simp))
  unfold Ran at HRA
  clear ht4 hb4 HLa HLb
  go_wp2_with fail
  refine HRA.out.mono ?_
  rintro e w5 ⟨vo, L1, s1, h1, hs1, K1, S1, rfl, hrp1, hc1, hL1, hK1, ho5, ht5, hS5, hv5, hch5⟩
  have hS5' : ∀ k, S1 k → w3.heap.size ≤ k := fun k hk => by
    have := HS34.out
    rcases hS5 k hk with q | q
    · exact q.1.1
    · omega
  have hb5 := hch5.below (B := w.heap.size) (fun k hk hs => by have := hs.1.1; omega) HB4.out.size
  have HLa5 := Lib.hid (HLa4.out.ch hch5 (fun k _ hk => hk.1.1))
  have HLb5 := Lib.hid (HLb4.out.ch hch5 (fun k _ hk => hk.1.1))
  have HB5 := Lib.hid (HB4.out.trans hb5)
  have hL1l : L1.length ≤ 1600 := by rw [hL1, List.length_append]; simp only [List.length_nil]; omega
  have hs45 := hch5.size
  have HRB := Lib.hid (runs_any w5 S1 w3.heap.size p L1 _ sb ht5 hS5' (Nat.le_trans HS34.out hs45) HLb5.out (fun b hb => (HOB.out b hb).1) (fun b hb => (HOB.out b hb).2.2) hsb (by omega))
  unfold Ran at HRB
  obtain ⟨go, co, rfl⟩ := ownsRow_succ ho5
  have HQ5 := Lib.hid (And.intro ho5 (And.intro hv5 hS5'))
  have HP1 := Lib.hid (And.intro hrp1 (And.intro hc1 hL1l))
  clear ho5 hv5 hS5 hS5' hch5 hb5 ht5 hrp1 hc1 hL1 hK1 HRA HB1 HB2 HLa4 HLb4 hL1l
  go_wp2_with fail
  refine HRB.out.mono ?_
  rintro e w6 ⟨vq, L2, s2, h2, hs2, K2, S2, rfl, hrp2, hc2, hL2, hK2, ho6, ht6, hS6, hv6, hch6⟩
  have hb6 := hch6.below (B := w.heap.size) (fun k hk hs => by have := HQ5.out.2.2 k hs.1; omega) HB5.out.size
  have HB6 := Lib.hid (HB5.out.trans hb6)
  have HLa6 := Lib.hid (HLa5.out.ch hch6 (fun k _ hk => HQ5.out.2.2 k hk.1))
  have HLb6 := Lib.hid (HLb5.out.ch hch6 (fun k _ hk => HQ5.out.2.2 k hk.1))
  have hp6 := own_ch HQ5.out.1 hch6 (fun q hq hf => HQ5.out.2.1 q hq hf.1)
  obtain ⟨gq, cq, rfl⟩ := ownsRow_succ ho6
  have HPP : Hid (Zu.RP L2 sa.reverse s1 h1 hs1) := Lib.hid (by rw [hL2]; exact HP1.out.1.grown K2)
  have hn1 : hs1.length = sa.length := by rw [HP1.out.1.seq.2, List.length_reverse]
  have hn2 : hs2.length = sb.length := by rw [hrp2.seq.2, List.length_reverse]
  have HCH1 := Lib.hid fun (W : World) (b : Below w6.heap.size w6 W) => chain_any W S2 (fun _ => False) p L2 (some ⟨go, 0, none⟩) co (hs1.reverse ++ [h1]) (Tb.after ht6 b) (by have := Sl.of_own (X := fun _ => False) (own_below hp6 b) (fun _ _ _ h => h); simpa [hn1] using this) (by simp; omega)
  have HCH2 := Lib.hid fun (W : World) (b : Below w6.heap.size w6 W) => chain_any W S2 (fun _ => False) p L2 (some ⟨gq, 0, none⟩) cq (hs2.reverse ++ [h2]) (Tb.after ht6 b) (by have := Sl.of_own (X := fun _ => False) (own_below ho6 b) (fun _ _ _ h => h); simpa [hn2] using this) (by simp; omega)
  rw [HPP.out.chain HP1.out.2.1] at HCH1
  rw [hrp2.chain hc2] at HCH2
  have e1 : (hs1.reverse ++ [h1]).length = sa.length + 1 := by simp [hn1]
  have e2 : (hs2.reverse ++ [h2]).length = sb.length + 1 := by simp [hn2]
  rw [e1] at HCH1
  rw [e2] at HCH2
  have HDEC : Hid (decide (h1 = h2) = decide (sa = sb)) := Lib.hid (by
    have := Zu.RP.iff HPP.out hrp2
    rw [List.reverse_inj] at this
    exact decide_eq_decide.2 this)
  have HP6 := Lib.hid (And.intro hp6 (And.intro ho6 (And.intro hn1 hn2)))
  clear hp6 ho6 hrp2 hc2 hL2 hK2 ht6 hS6 hv6 hch6 hb6 e1 e2 hn1 hn2 HRB HQ5 HP1 HPP HLa5 HLb5 HB5
  go_wp2_with fail
  refine (HCH1.out w6 (Below.refl _ _)).mono ?_
  rintro e w7 ⟨rfl, hb7⟩
  have HB7 := Lib.hid hb7
  clear hb7
  go_wp2_with fail
  refine (HCH2.out w7 HB7.out).mono ?_
  rintro e w8 ⟨rfl, hb8⟩
  have hb68 := HB7.out.trans (hb8.mono HB7.out.size)
  have HB68 := Lib.hid hb68
  have hp8 := own_below HP6.out.1 hb68
  have hq8 := own_below HP6.out.2.1 hb68
  obtain ⟨x0, x1, x2, x3, x4⟩ := hdr_last hp8 HP6.out.2.2.1
  obtain ⟨y0, y1, y2, y3, y4⟩ := hdr_last hq8 HP6.out.2.2.2
  have HEF := Lib.hid (equalfuncs_any w8.drew _ _ A2 A3 c2 c3 sa.length sb.length sa sb rfl rfl (HLa6.out.after (below_drewN hb68 1)) (HLb6.out.after (below_drewN hb68 1)) (fun b hb => (HOA.out b hb).2) (by omega))
  have hqq := fun (W : World) => run_eql_hdr W h1 h2
  rw [HDEC.out] at hqq
  have hgh := guard_hdr
  unfold HV HC at hqq
  generalize decide (sa = sb) = dd at *
  have hdd : (dd == dd) = true := beq_self_eq_true dd
  clear hb8 hb68 hp8 hq8 HCH1 HCH2
  have hw1 : IntKind.i64.wrap (((sa.length + 1 : Nat) : Int) - 1) = (sa.length : Int) := by rw [Ga.wrap64] <;> omega
  have hw2 : IntKind.i64.wrap (((sb.length + 1 : Nat) : Int) - 1) = (sb.length : Int) := by rw [Ga.wrap64] <;> omega
  have hw5 : IntKind.i64.wrap (sa.length : Int) = (sa.length : Int) := by rw [Ga.wrap64] <;> omega
  have hw6 : IntKind.i64.wrap (sb.length : Int) = (sb.length : Int) := by rw [Ga.wrap64] <;> omega
  have hi1 : (0 : Int) ≤ (sa.length : Int) := by omega
  have hi2 : (sa.length : Int) < (sa.length : Int) + 1 := by omega
  have hi3 : (0 : Int) ≤ (sb.length : Int) := by omega
  have hi4 : (sb.length : Int) < (sb.length : Int) + 1 := by omega
  have hi5 : (sa.length : Int) < ((sa.length + 1 : Nat) : Int) := by omega
  have hi6 : (sb.length : Int) < ((sb.length + 1 : Nat) : Int) := by omega
  have hw3 : IntKind.i64.wrap ((sa.length : Int) + 1 - 1) = (sa.length : Int) := by rw [Ga.wrap64] <;> omega
  have hw4 : IntKind.i64.wrap ((sb.length : Int) + 1 - 1) = (sb.length : Int) := by rw [Ga.wrap64] <;> omega
  go_wp2_with fail
  go_region_held3 (fun w' => w'.cell? ⟨go, sa.length * 5, none⟩ = some (.int .i64 h1.seq) ∧ w'.cell? ⟨go, sa.length * 5 + 1, none⟩ = some (.int .i64 h1.prev) ∧ w'.cell? ⟨go, sa.length * 5 + 2, none⟩ = some (.int .i64 h1.batch) ∧ w'.cell? ⟨go, sa.length * 5 + 3, none⟩ = some (.int .i64 h1.root) ∧ w'.cell? ⟨go, sa.length * 5 + 4, none⟩ = some (.int .i64 h1.state) ∧ w'.cell? ⟨gq, sb.length * 5, none⟩ = some (.int .i64 h2.seq) ∧ w'.cell? ⟨gq, sb.length * 5 + 1, none⟩ = some (.int .i64 h2.prev) ∧ w'.cell? ⟨gq, sb.length * 5 + 2, none⟩ = some (.int .i64 h2.batch) ∧ w'.cell? ⟨gq, sb.length * 5 + 3, none⟩ = some (.int .i64 h2.root) ∧ w'.cell? ⟨gq, sb.length * 5 + 4, none⟩ = some (.int .i64 h2.state)) (first | exact ⟨x0, x1, x2, x3, x4, y0, y1, y2, y3, y4⟩ | exact ⟨z0, z1, z2, z3, z4, u0, u1, u2, u3, u4⟩)
    (first
      | (go_at_call 21; refine HEF.out.mono ?_; rintro e w9 ⟨rfl, hb9⟩; have hb9' := HB68.out.trans ((Ga.below_of_drew hb9).mono HB68.out.size); obtain ⟨z0, z1, z2, z3, z4⟩ := hdr_last (own_below HP6.out.1 hb9') HP6.out.2.2.1; obtain ⟨u0, u1, u2, u3, u4⟩ := hdr_last (own_below HP6.out.2.1 hb9') HP6.out.2.2.2))
  all_goals
    go_wp2_with fail
    go_ret
    exact ⟨rfl, HB6.out.trans (hb9'.mono HB6.out.size)⟩
end Go.Proofs.YtobphijbhghgmaaGreat.Yl

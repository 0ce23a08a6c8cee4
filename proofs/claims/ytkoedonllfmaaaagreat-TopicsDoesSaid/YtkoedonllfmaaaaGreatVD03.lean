/-
  Layer 6 (op): the contracts of fieldsOf, holdMore, isLong and areRecords; an operation in memory.
-/
import Derived.Test.YtkoedonllfmaaaaGreatVD02
import Derived.Outline
import Derived.Maps.RangeWalk
import Derived.Sort.KeysCollected
namespace Go.Proofs.YtkoedonllfmaaaaGreat.Pe
set_option linter.unusedSimpArgs false
open Go Go.RowKit Ck Kw Pm Pa
set_option linter.unusedVariables false

/-- The fields that a kind has, as a value. -/
def FV (k : Int) : Value := .agg #[.bool (hasT k), .bool (hasG k), .bool (hasO k), .bool (hasR k)]
theorem size_fields : (Tryz.prog.info? 141).map (·.size) = some 4 := by kernel_rfl
set_option maxRecDepth 100000 in
set_option maxHeartbeats 2000000 in
theorem fields_any (k : Int) (w : World) :
    Calls Tryz.prog 78 #[.int .i64 k] w fun e w' => e = .returned (.tuple #[FV k, .bool (known k)]) ∧ Below w.heap.size w w' := by
  by_cases hk : known k = true
  · rcases kind_cases hk with rfl | rfl | rfl | rfl | rfl
    · clear hk
      go_enter Tryz.func78, Tryz.ntmps78
      go_wp2
      refine bodyPost_ret (results_row_tmp rfl _ _ w.heap.size 141 #[.bool false, .bool false, .bool false, .bool false] (0, 0) _ rfl ?_ Tryz.underlying141 rfl size_fields) rfl ?_
      · exact heap_alloc_new w _
      · exact ⟨rfl, (Below.refl _ w).alloc (Nat.le_refl _) _⟩
    · clear hk
      go_enter Tryz.func78, Tryz.ntmps78
      go_wp2
      refine bodyPost_ret (results_row_tmp rfl _ _ w.heap.size 141 #[.bool true, .bool false, .bool false, .bool false] (0, 0) _ rfl ?_ Tryz.underlying141 rfl size_fields) rfl ?_
      · exact heap_alloc_new w _
      · exact ⟨rfl, (Below.refl _ w).alloc (Nat.le_refl _) _⟩
    · clear hk
      go_enter Tryz.func78, Tryz.ntmps78
      go_wp2
      refine bodyPost_ret (results_row_tmp rfl _ _ w.heap.size 141 #[.bool true, .bool false, .bool false, .bool true] (0, 0) _ rfl ?_ Tryz.underlying141 rfl size_fields) rfl ?_
      · exact heap_alloc_new w _
      · exact ⟨rfl, (Below.refl _ w).alloc (Nat.le_refl _) _⟩
    · clear hk
      go_enter Tryz.func78, Tryz.ntmps78
      go_wp2
      refine bodyPost_ret (results_row_tmp rfl _ _ w.heap.size 141 #[.bool true, .bool true, .bool true, .bool false] (0, 0) _ rfl ?_ Tryz.underlying141 rfl size_fields) rfl ?_
      · exact heap_alloc_new w _
      · exact ⟨rfl, (Below.refl _ w).alloc (Nat.le_refl _) _⟩
    · clear hk
      go_enter Tryz.func78, Tryz.ntmps78
      go_wp2
      refine bodyPost_ret (results_row_tmp rfl _ _ w.heap.size 141 #[.bool true, .bool false, .bool true, .bool false] (0, 0) _ rfl ?_ Tryz.underlying141 rfl size_fields) rfl ?_
      · exact heap_alloc_new w _
      · exact ⟨rfl, (Below.refl _ w).alloc (Nat.le_refl _) _⟩
  · have hn := Bool.eq_false_iff.2 hk
    have hv := kind_none hn
    have e0 : (k == 0) = false := beq_eq_false_iff_ne.2 hv.1
    have e1 : (k == 1) = false := beq_eq_false_iff_ne.2 hv.2.1
    have e2 : (k == 2) = false := beq_eq_false_iff_ne.2 hv.2.2.1
    have e3 : (k == 3) = false := beq_eq_false_iff_ne.2 hv.2.2.2.1
    have e4 : (k == 4) = false := beq_eq_false_iff_ne.2 hv.2.2.2.2
    have hF : FV k = .agg #[.bool false, .bool false, .bool false, .bool false] := by simp [FV, hasT, hasG, hasO, hasR, e1, e2, e3, e4]
    rw [hn, hF]
    clear hk hn hv hF
    go_enter Tryz.func78, Tryz.ntmps78
    go_wp2
    refine bodyPost_ret (results_row_tmp rfl _ _ w.heap.size 141 #[.bool false, .bool false, .bool false, .bool false] (0, 0) _ rfl ?_ Tryz.underlying141 rfl size_fields) rfl ?_
    · exact heap_alloc_new w _
    · exact ⟨rfl, (Below.refl _ w).alloc (Nat.le_refl _) _⟩

/-- An operation as a value: its records lie at A. -/
def OV (o : O) (A : Option Addr) (c : Nat) : Value := .agg #[.int .i64 o.kind, .string ⟨o.topic.toArray⟩, .string ⟨o.group.toArray⟩, .int .i64 o.off, .slice A o.recs.length c]
/-- The value v is the operation o, its records in no block of X. -/
def OI (w : World) (X : Nat → Prop) (v : Value) (o : O) : Prop := ∃ A c, v = OV o A c ∧ Ls w X (.slice A o.recs.length c) o.recs
section
variable {w w' : World} {X Y : Nat → Prop} {v : Value} {o : O}
theorem OI.keep (h : OI w X v o) (hs : w.heap.size ≤ w'.heap.size) (hk : ∀ b, b < w.heap.size → ¬ X b → w'.heap[b]? = w.heap[b]?) : OI w' X v o := by
  obtain ⟨A, c, hv, hl⟩ := h
  exact ⟨A, c, hv, hl.keep hs hk⟩
theorem OI.weaken (h : OI w X v o) (hk : ∀ b, b < w.heap.size → Y b → X b) : OI w Y v o := by
  obtain ⟨A, c, hv, hl⟩ := h
  exact ⟨A, c, hv, hl.weaken hk⟩
theorem OI.after (h : OI w X v o) (hb : Below w.heap.size w w') : OI w' X v o := by
  obtain ⟨A, c, hv, hl⟩ := h
  exact ⟨A, c, hv, hl.after hb⟩
theorem OI.ch {S : Nat → Prop} (h : OI w X v o) (c : Ch S w w') (hd : ∀ k, k < w.heap.size → S k → X k) : OI w' X v o := by
  obtain ⟨A, c', hv, hl⟩ := h
  exact ⟨A, c', hv, hl.ch c hd⟩
end
theorem long_any (A : Option Addr) (n c : Nat) (w : World) :
    Calls Tryz.prog 108 #[.slice A n c] w fun e w' => e = .returned (.bool (decide (64 < n))) ∧ w = w' := by
  go_enter Tryz.func108, Tryz.ntmps108
  go_wp2
  go_ret
  exact ⟨by simp; omega, rfl⟩

/-- Where the first long record stands. -/
def ixLong : List Tx → Nat → Int
  | [], _ => -1
  | x :: l, i => if 64 < x.length then (i : Int) else ixLong l (i + 1)
theorem ix_at {l : List Tx} {k : Nat} (h : k < l.length) : ixLong (l.drop k) k = if 64 < l[k].length then (k : Int) else ixLong (l.drop (k + 1)) (k + 1) := by
  rw [List.drop_eq_getElem_cons h]
  rfl
theorem ix_all : ∀ (l : List Tx) (i : Nat), decide (0 ≤ ixLong l i) = !(l.all fun x => decide (x.length ≤ 64))
  | [], i => rfl
  | x :: l, i => by
    rw [ixLong, List.all_cons]
    by_cases h : 64 < x.length
    · rw [if_pos h]
      have : decide (x.length ≤ 64) = false := decide_eq_false (by omega)
      simp [this]
    · rw [if_neg h, ix_all l]
      have : decide (x.length ≤ 64) = true := decide_eq_true (by omega)
      simp [this]

set_option maxHeartbeats 1000000 in
theorem index_any (w : World) (X : Nat → Prop) (A : Option Addr) (c : Nat) (ls : List Tx) (ha : Ls w X (.slice A ls.length c) ls) (hl : ls.length ≤ 140737488355328) :
    Calls Tryz.prog 126 #[.slice A ls.length c, .func (.func 108) #[] #[]] w fun e w' => e = .returned (.int .i64 (ixLong ls 0)) ∧ w = w' := by
  have HA := Lib.hid ha
  clear ha
  go_enter Tryz.func126, Tryz.ntmps126
  go_wp2
  go_loop [8] (fun i => ∃ k : Nat, k ≤ ls.length ∧ i = .int .i64 k ∧ ixLong (ls.drop k) k = ixLong ls 0) (fun i => ls.length - (intOf i).toNat)
  case atStart => exact ⟨0, Nat.zero_le _, rfl, rfl⟩
  case round =>
    obtain ⟨k, hk, rfl, hix⟩ := hrel
    by_cases hlt : k < ls.length
    · obtain ⟨ad, B, d, rfl, hcell, -⟩ := HA.out.at_ hlt
      rw [ix_at hlt] at hix
      by_cases h64 : 64 < ls[k].length
      · rw [if_pos h64] at hix
        have hd : decide (64 < ls[k].length) = true := decide_eq_true h64
        have HIX := Lib.hid hix
        clear hix h64
        go_wp2_with (go_at_call 108; refine (long_any _ _ _ _).mono ?_; rintro e w1 ⟨rfl, rfl⟩)
        go_ret
        exact ⟨by rw [← HIX.out]; rfl, rfl⟩
      · rw [if_neg h64] at hix
        have hd : decide (64 < ls[k].length) = false := decide_eq_false h64
        have HIX := Lib.hid hix
        clear hix h64
        go_wp2_with (go_at_call 108; refine (long_any _ _ _ _).mono ?_; rintro e w1 ⟨rfl, rfl⟩)
        go_round
        case rel => exact ⟨k + 1, by omega, by go_num, HIX.out⟩
        case measure => simp [intOf]; omega
    · have hz : ls.drop k = [] := List.drop_eq_nil_iff.2 (by omega)
      rw [hz] at hix
      have HIX := Lib.hid hix
      clear hix hz
      go_wp2
      go_ret
      exact ⟨by rw [← HIX.out]; rfl, rfl⟩

theorem contains_any (w : World) (X : Nat → Prop) (A : Option Addr) (c : Nat) (ls : List Tx) (ha : Ls w X (.slice A ls.length c) ls) (hl : ls.length ≤ 140737488355328) :
    Calls Tryz.prog 107 #[.slice A ls.length c, .func (.func 108) #[] #[]] w fun e w' => e = .returned (.bool (!(ls.all fun x => decide (x.length ≤ 64)))) ∧ w = w' := by
  have HC := Lib.hid (index_any w X A c ls ha hl)
  rw [← ix_all ls 0]
  clear ha
  go_enter Tryz.func107, Tryz.ntmps107
  go_wp2_with (go_at_call 126; refine HC.out.mono ?_; rintro e w1 ⟨rfl, rfl⟩)
  go_ret
  exact ⟨rfl, rfl⟩

theorem arerecs_any (w : World) (X : Nat → Prop) (A : Option Addr) (c : Nat) (ls : List Tx) (ha : Ls w X (.slice A ls.length c) ls) (hl : ls.length ≤ 140737488355328) :
    Calls Tryz.prog 81 #[.slice A ls.length c] w fun e w' => e = .returned (.bool (areRecs ls)) ∧ w = w' := by
  have HC := Lib.hid (contains_any w X A c ls ha hl)
  clear ha
  unfold areRecs
  generalize (ls.all fun x => decide (x.length ≤ 64)) = q at *
  by_cases h0 : 0 < ls.length
  · have d0 : decide (0 < (ls.length : Int)) = true := decide_eq_true (by omega)
    have d0' : decide (0 < ls.length) = true := decide_eq_true h0
    by_cases h4 : ls.length ≤ 4
    · have d4 : decide ((ls.length : Int) ≤ 4) = true := decide_eq_true (by omega)
      have d4' : decide (ls.length ≤ 4) = true := decide_eq_true h4
      rw [d0', d4']
      clear d0' d4' d0 d4
      go_enter Tryz.func81, Tryz.ntmps81
      go_wp2_with (go_at_call 107; refine HC.out.mono ?_; rintro e w1 ⟨rfl, rfl⟩)
      go_ret
      exact ⟨by simp, rfl⟩
    · have d4 : decide ((ls.length : Int) ≤ 4) = false := decide_eq_false (by omega)
      have h4' : 4 < ls.length := by omega
      have d4' : decide (ls.length ≤ 4) = false := decide_eq_false h4
      rw [d0', d4']
      clear d0' d4' d0 d4
      go_enter Tryz.func81, Tryz.ntmps81
      go_wp2
      go_ret
      exact ⟨rfl, rfl⟩
  · have d0 : decide (0 < (ls.length : Int)) = false := decide_eq_false (by omega)
    have d0' : decide (0 < ls.length) = false := decide_eq_false h0
    rw [d0']
    clear d0' d0
    go_enter Tryz.func81, Tryz.ntmps81
    go_wp2
    go_ret
    exact ⟨rfl, rfl⟩

end Go.Proofs.YtkoedonllfmaaaaGreat.Pe

/-
  Layer 6 (op): opening operations and results under the form's own reach.
-/
namespace Go.Proofs.YtkoedonllfmaaaaGreat.Py
set_option linter.unusedSimpArgs false
open Go Go.RowKit Go.ChangeShapes Go.WideShapes Go.ChangeAt Go.Deep Ck Kp Pm Pe
set_option linter.unusedVariables false

section
variable {H : Type} {enc : TypeId × Value → H}
theorem cells_rec : Tryz.prog.cellsOf 55 = 1 := by kernel_rfl
theorem bytes_rec : Tryz.prog.bytesOf 55 = 24 := by kernel_rfl
theorem cells_op : Tryz.prog.cellsOf 38 = 5 := by kernel_rfl
theorem cells_int : Tryz.prog.cellsOf 3 = 1 := by kernel_rfl
theorem cells_i64 : Tryz.prog.cellsOf 2 = 1 := by kernel_rfl
theorem cells_str : Tryz.prog.cellsOf 9 = 1 := by kernel_rfl
theorem cells_recs : Tryz.prog.cellsOf 36 = 1 := by kernel_rfl

theorem open_recW {w : World} {fuel : Nat} {base : Nat} {v : Value} {x : DataW H × List MemPlace} (h : DataW.trod enc Tryz.prog w base (fun _ => true) true fuel 55 [v] = some x) :
    ∃ b : List UInt8, Sl w (fun k => w.heap.size ≤ k) 1 v b.length (BVs b) ∧ ∀ R, (∀ n ∈ x.1.weights Tryz.prog 55, n ≤ R) → b.length ≤ R := by
  rcases open_ints Tryz.underlying55 Tryz.underlying5 cells_u8 h with ⟨hcs, rfl⟩ | ⟨a, len, cap, zs, hcs, _, hl, hm, hz, rfl, hc, hw⟩
  · obtain rfl : v = .slice none 0 0 := by simpa using hcs
    exact ⟨[], Sl.nil _ _ _, fun R _ => Nat.zero_le _⟩
  · obtain rfl : v = .slice (some a) len cap := by simpa using hcs
    simp only [if_true] at hz
    have hbl : ((zs.take len).map fun z => UInt8.ofNat z.toNat).length = len := by simp only [List.length_map, List.length_take]; omega
    refine ⟨(zs.take len).map fun z => UInt8.ofNat z.toNat, ?_, fun R hR => ?_⟩
    · refine ⟨some a, cap, by rw [hbl], by rw [BVs_len]; omega, by omega, hm, fun hn => ?_⟩
      rw [hbl] at hn
      have h0 := hc 0 (by omega)
      refine ⟨a, rfl, by have := World.block_lt_of_cell? w _ h0; rw [add_block] at this; exact this, by have := World.block_lt_of_cell? w _ h0; rw [add_block] at this; omega, fun j u hu => ?_⟩
      have hj : j < (BVs ((zs.take len).map fun z => UInt8.ofNat z.toNat)).length := (List.getElem?_eq_some_iff.1 hu).1
      rw [BVs_len, hbl] at hj
      rw [hc j (by omega), ← hu]
      have hjz : j < zs.length := by omega
      simp only [BVs, BV, List.map_map, List.getElem?_map, List.getElem?_take, if_pos hj, List.getElem?_eq_getElem hjz, Option.map_some, Function.comp, List.getD_eq_getElem?_getD, Option.getD_some]
      rw [ofNat_int (hw _ (List.getElem_mem hjz))]
    · have := hR _ (by simp only [DataW.weights, Tryz.underlying55]; exact List.mem_cons_self)
      rw [bytes_u8] at this
      rw [hbl]
      simp only [lits, List.length_map, List.length_take] at this
      omega

theorem open_recsW {w : World} {fuel : Nat} {base : Nat} {v : Value} {x : DataW H × List MemPlace} (h : DataW.trod enc Tryz.prog w base (fun _ => true) true fuel 36 [v] = some x) :
    ∃ ls : List (List UInt8), Ls w (fun k => w.heap.size ≤ k) v ls ∧ ∀ R, (∀ n ∈ x.1.weights Tryz.prog 36, n ≤ R) → ls.length * 24 ≤ R ∧ ∀ l ∈ ls, l.length ≤ R := by
  rcases open_slice1 Tryz.underlying36 cells_rec h with ⟨hcs, rfl⟩ | ⟨a, len, cap, m, n, V, D, Pl, hcs, _, hl, hm, hmm, rfl, hx⟩
  · obtain rfl : v = .slice none 0 0 := by simpa using hcs
    exact ⟨[], ⟨[], Sl.nil _ _ _, fun i hi => absurd hi (by simp)⟩, fun R _ => by simp⟩
  · obtain rfl : v = .slice (some a) len cap := by simpa using hcs
    simp only [if_true] at hmm
    have each : ∀ r, ∃ b : List UInt8, r < len → w.cell? (a.add r) = some (V r) ∧ Sl w (fun k => w.heap.size ≤ k) 1 (V r) b.length (BVs b) ∧ ∀ R, (∀ n ∈ (D r).weights Tryz.prog 55, n ≤ R) → b.length ≤ R := by
      intro r
      by_cases hr : r < len
      · obtain ⟨hc, ht⟩ := hx r (by omega)
        obtain ⟨b, hb1, hb2⟩ := open_recW ht
        exact ⟨b, fun _ => ⟨hc, hb1, hb2⟩⟩
      · exact ⟨[], fun h => absurd h hr⟩
    obtain ⟨f, hf⟩ := Classical.axiomOfChoice each
    refine ⟨(List.range len).map f, ⟨(List.range len).map V, ?_, fun i hi => ?_⟩, fun R hR => ⟨?_, fun l hl2 => ?_⟩⟩
    · refine ⟨some a, cap, by simp, by simp, by simpa using hl, hm, fun hn => ?_⟩
      have hn' : 0 < len := by simpa using hn
      have h0 := (hf 0 hn').1
      refine ⟨a, rfl, by have := World.block_lt_of_cell? w _ h0; rw [add_block] at this; exact this, by have := World.block_lt_of_cell? w _ h0; rw [add_block] at this; omega, fun j u hu => ?_⟩
      have hj : j < ((List.range len).map V).length := (List.getElem?_eq_some_iff.1 hu).1
      simp only [List.length_map, List.length_range] at hj
      rw [(hf j hj).1, ← hu]
      simp [hj]
    · have hi' : i < len := by simpa using hi
      refine ⟨V i, by simp [hi'], ?_⟩
      simpa using (hf i hi').2.1
    · have := hR _ (by simp only [DataW.weights, Tryz.underlying36]; exact List.mem_cons_self)
      rw [bytes_rec] at this
      simp only [List.length_map, List.length_range] at this ⊢
      omega
    · obtain ⟨r, hr, rfl⟩ := List.mem_map.1 hl2
      have hr' : r < len := by simpa using hr
      refine (hf r hr').2.2 R (fun n hn => hR n ?_)
      simp only [DataW.weights, Tryz.underlying36, List.mem_cons, List.mem_append]
      exact .inr (.inl (all_mem hn (List.mem_map.2 ⟨r, hr, rfl⟩)))


theorem one_str {w : World} {base : Nat} {sp : Nat → Bool} {held : Bool} {n : Nat} {cs : List Value} {xs : List (DataW H × List MemPlace)} {j : Nat} (hj : j < xs.length)
    (h : DataW.trod enc Tryz.prog w base sp held n 9 cs = xs[j]?) : ∃ s : Tx, cs = [.string ⟨s.toArray⟩] ∧ ∀ R, (∀ n ∈ xs[j].1.weights Tryz.prog 9, n ≤ R) → s.length ≤ R := by
  rw [List.getElem?_eq_getElem hj] at h
  obtain ⟨s, h1, h2, _⟩ := DataW.trod_string Tryz.underlying9 h
  refine ⟨s.data.toList, by rw [h1], fun R hR => ?_⟩
  rw [h2] at hR
  exact hR _ (by simp [DataW.weights])

/-- How far an operation goes. -/
def far (o : O) (R : Nat) : Prop := o.topic.length ≤ R ∧ o.group.length ≤ R ∧ o.recs.length * 24 ≤ R ∧ ∀ l ∈ o.recs, l.length ≤ R
def wfO (o : O) : Prop := (-9223372036854775808 ≤ o.kind ∧ o.kind ≤ 9223372036854775807) ∧ (-9223372036854775808 ≤ o.off ∧ o.off ≤ 9223372036854775807)

set_option maxRecDepth 100000 in
theorem open_op {w : World} {base : Nat} {fuel : Nat} {cs : List Value} {x : DataW H × List MemPlace} (h : DataW.trod enc Tryz.prog w base (fun _ => true) true fuel 38 cs = some x) :
    ∃ (o : O) (A : Option Addr) (c : Nat), cs = [.int .i64 o.kind, .string ⟨o.topic.toArray⟩, .string ⟨o.group.toArray⟩, .int .i64 o.off, .slice A o.recs.length c] ∧ Ls w (fun k => w.heap.size ≤ k) (.slice A o.recs.length c) o.recs
      ∧ wfO o ∧ ∀ R, (∀ n ∈ x.1.weights Tryz.prog 38, n ≤ R) → far o R := by
  obtain ⟨xs, n', _, hx, hl, hxl, hf⟩ := DataW.trod_struct Tryz.underlying38 h
  rw [cells_op] at hl
  have hxl' : xs.length = 5 := hxl
  match cs, hl with
  | [v0, v1, v2, v3, v4], _ =>
    have f0 : DataW.trod enc Tryz.prog w base (fun _ => true) true n' 3 (([v0, v1, v2, v3, v4].drop 0).take (Tryz.prog.cellsOf 3)) = xs[0]? := hf 0 _ rfl
    have f1 : DataW.trod enc Tryz.prog w base (fun _ => true) true n' 9 (([v0, v1, v2, v3, v4].drop 1).take (Tryz.prog.cellsOf 9)) = xs[1]? := hf 1 _ rfl
    have f2 : DataW.trod enc Tryz.prog w base (fun _ => true) true n' 9 (([v0, v1, v2, v3, v4].drop 2).take (Tryz.prog.cellsOf 9)) = xs[2]? := hf 2 _ rfl
    have f3 : DataW.trod enc Tryz.prog w base (fun _ => true) true n' 2 (([v0, v1, v2, v3, v4].drop 3).take (Tryz.prog.cellsOf 2)) = xs[3]? := hf 3 _ rfl
    have f4 : DataW.trod enc Tryz.prog w base (fun _ => true) true n' 36 (([v0, v1, v2, v3, v4].drop 4).take (Tryz.prog.cellsOf 36)) = xs[4]? := hf 4 _ rfl
    rw [cells_int] at f0
    rw [cells_i64] at f3
    rw [cells_str] at f1 f2
    rw [cells_recs] at f4
    simp only [List.drop_zero, List.drop_succ_cons, List.take_succ_cons, List.take_zero] at f0 f1 f2 f3 f4
    obtain ⟨z0, e0, w0⟩ := one_int Tryz.underlying3 (by omega) f0
    obtain ⟨s1, e1, r1⟩ := one_str (by omega) f1
    obtain ⟨s2, e2, r2⟩ := one_str (by omega) f2
    obtain ⟨z3, e3, w3⟩ := one_int Tryz.underlying2 (by omega) f3
    rw [List.getElem?_eq_getElem (by omega)] at f4
    obtain ⟨ls, hb, r4⟩ := open_recsW f4
    have b0 : -9223372036854775808 ≤ z0 ∧ z0 ≤ 9223372036854775807 := by simpa [Lit.wf, IntKind.min, IntKind.max, IntKind.signed, IntKind.bits] using w0
    have b3 : -9223372036854775808 ≤ z3 ∧ z3 ≤ 9223372036854775807 := by simpa [Lit.wf, IntKind.min, IntKind.max, IntKind.signed, IntKind.bits] using w3
    simp only [List.cons.injEq, and_true] at e0 e1 e2 e3
    obtain ⟨B, c, hv⟩ : ∃ B c, v4 = .slice B ls.length c := by
      obtain ⟨vals, ⟨B, c, hv, _⟩, _⟩ := id hb
      exact ⟨B, c, hv⟩
    refine ⟨⟨z0, s1, s2, z3, ls⟩, B, c, by rw [e0, e1, e2, e3, hv], by rw [← hv]; exact hb, ⟨b0, b3⟩, fun R hR => ?_⟩
    have hm : ∀ (j : Nat) (t : TypeId) (hj : j < xs.length), [3, 9, 9, 2, 36][j]? = some t → ∀ n ∈ xs[j].1.weights Tryz.prog t, n ≤ R := fun j t hj ht n hn => by
      refine hR n ?_
      rw [hx]
      simp only [DataW.weights, Tryz.underlying38]
      exact DataW.weights_mem_each (ts := [3, 9, 9, 2, 36]) ht (by simp [List.getElem?_eq_getElem hj]) n hn
    have q := r4 R (hm 4 _ (by omega) rfl)
    exact ⟨r1 R (hm 1 _ (by omega) rfl), r2 R (hm 2 _ (by omega) rfl), q.1, q.2⟩

end

end Go.Proofs.YtkoedonllfmaaaaGreat.Py

/-
  Generic: maps by strings: of pointers (each reads as its block's number), of numbers.
-/
namespace Go.Proofs.YtkoedonllfmaaaaGreat.Km
set_option linter.unusedSimpArgs false
open Go Go.RowKit Go.Maps Ck Kw
set_option linter.unusedVariables false

/-- How a slice reads: its place, its length and its capacity. -/
def slElem (v : Value) : Option (DataW Unit × List MemPlace) :=
  match v with
  | .slice none n c => some (.agg [.nil, .lit (.int .i64 (n : Int)), .lit (.int .i64 (c : Int))], [])
  | .slice (some ⟨g, 0, none⟩) n c => some (.agg [.lit (.int .i64 (g : Int)), .lit (.int .i64 (n : Int)), .lit (.int .i64 (c : Int))], [])
  | _ => none
theorem strKey (x : List UInt8) : WideAt.IsKeyLit (.string x) := trivial
theorem strKey_ne {s t : List UInt8} (h : s ≠ t) : (Lit.string s) ≠ Lit.string t := fun e => h (by injection e)
/-- How a pointer to a block reads: that block's number. -/
def ptrElem (v : Value) : Option (DataW Unit × List MemPlace) :=
  match v with
  | .pointer none => some (.nil, [])
  | .pointer (some ⟨g, 0, none⟩) => some (.lit (.int .i64 (g : Int)), [])
  | _ => none
theorem ptrElem_mk (g : Nat) : ptrElem (.pointer (some ⟨g, 0, none⟩)) = some (.lit (.int .i64 (g : Int)), []) := rfl
theorem ptrElem_nil : ptrElem (.pointer none) = some (.nil, []) := rfl
/-- Any pointer that reads. -/
def PV (o : Option Nat) : Value := .pointer (o.map fun g => ⟨g, 0, none⟩)
theorem ptrElem_inv {v : Value} {z : DataW Unit × List MemPlace} (h : ptrElem v = some z) : ∃ o, v = PV o ∧ z = ((match o with | none => .nil | some g => .lit (.int .i64 ((g : Nat) : Int))), []) := by
  unfold ptrElem at h
  split at h
  · injection h with h
    exact ⟨none, rfl, h.symm⟩
  · rename_i g
    injection h with h
    exact ⟨some g, rfl, h.symm⟩
  · cases h
theorem ptrElem_at {v : Value} {g : Nat} {ps : List MemPlace} (h : ptrElem v = some (.lit (.int .i64 (g : Int)), ps)) : v = .pointer (some ⟨g, 0, none⟩) := by
  obtain ⟨o, rfl, hz⟩ := ptrElem_inv h
  have h1 := congrArg Prod.fst hz
  cases o with
  | none => simp at h1
  | some k =>
    simp at h1
    have : k = g := by omega
    subst this
    rfl
/-- How a number reads. -/
def inElem (v : Value) : Option (DataW Unit × List MemPlace) :=
  match v with
  | .int .i64 z => some (.lit (.int .i64 z), [])
  | _ => none
theorem inElem_mk (z : Int) : inElem (.int .i64 z) = some (.lit (.int .i64 z), []) := rfl
theorem inElem_at {v : Value} {z : Int} {ps : List MemPlace} (h : inElem v = some (.lit (.int .i64 z), ps)) : v = .int .i64 z := by
  unfold inElem at h
  split at h <;> simp at h
  rw [h.1]
theorem law_str : Maps.Keyed Tryz.prog 9 := Maps.string_keyed Tryz.underlying9
theorem key_str (s : List UInt8) (h : s.length ≤ maxLen) : keyOf Tryz.prog 9 (.string ⟨s.toArray⟩) = some (.string s) := by
  have := _root_.Go.WideMaps.keyOf_string_mk (P := Tryz.prog) Tryz.underlying9 (s := ⟨s.toArray⟩) (show s.toArray.size ≤ maxLen by simpa using h)
  simpa using this
theorem has_atKey {H : Type} {D : DataW H} {kl : Lit} (h : Maps.has D kl = false) (zd : DataW H) : D.atKey kl zd = zd := by
  cases D <;> first | rfl | skip
  rename_i es
  simp only [Maps.has] at h
  simp only [DataW.atKey]
  cases hf : es.find? (fun e => e.1.sameKey kl) with
  | none => simp
  | some x =>
    have h1 := List.find?_some hf
    have h2 := List.mem_of_find?_eq_some hf
    rw [List.any_eq_false] at h
    exact absurd h1 (h x h2)
theorem sameKey_str (a b : List UInt8) : (Lit.string a).sameKey (.string b) = (a == b) := by simp [Lit.sameKey]
theorem pv_at {c : Option Nat} {y : DataW Unit × List MemPlace} {g : Nat} (h : ptrElem (PV c) = some y) (hy : y.1 = .lit (.int .i64 (g : Int))) : c = some g := by
  cases c with
  | none =>
    have h' : ptrElem (.pointer none) = some y := h
    rw [ptrElem_nil] at h'
    injection h' with h'
    rw [← h'] at hy
    cases hy
  | some k =>
    have h' : ptrElem (.pointer (some ⟨k, 0, none⟩)) = some y := h
    rw [ptrElem_mk] at h'
    injection h' with h'
    rw [← h'] at hy
    simp at hy
    have : k = g := by omega
    rw [this]

section
variable {w : World} {m n : Nat} {D : DataW Unit} {R : Value → Option (DataW Unit × List MemPlace)}
/-- The keys of a map of which the names are told. -/
theorem names_perm (h : w.ownsMap Tryz.prog 9 R m n D) {ns : List (List UInt8)} (hn : ns.Nodup) (hT : ∀ s, Maps.has D (.string s) = true ↔ s ∈ ns) : ns.Perm (strKeys D) := by
  obtain ⟨es, hD, hpw, _⟩ := h.entries law_str
  obtain ⟨es', hD', hko⟩ := h.keysOf
  obtain rfl : es = es' := by rw [hD] at hD'; simpa using hD'
  subst hD
  refine perm_strKeys hpw (fun p hp => by obtain ⟨v, hv⟩ := hko p hp; obtain ⟨x, _, hx, _⟩ := Maps.keyOf_str Tryz.underlying9 hv; exact ⟨x, hx⟩) hn (fun x => (hT x).symm)
theorem size_names (h : w.ownsMap Tryz.prog 9 R m n D) {ns : List (List UInt8)} (hn : ns.Nodup) (hT : ∀ s, Maps.has D (.string s) = true ↔ s ∈ ns) : Maps.size D = ns.length := by
  have hp := (names_perm h hn hT).length_eq
  obtain ⟨es, rfl, _⟩ := h.entries law_str
  rw [hp]
  show es.length = (es.map _).length
  rw [List.length_map]
theorem own_tight (h : w.ownsMap Tryz.prog 9 R m n D) : w.ownsMap Tryz.prog 9 R m (Maps.size D) D := by
  obtain ⟨es, clock, hb, F, hs, rfl⟩ := h
  exact ⟨es, clock, hb, F, by simp [Maps.size, length_sorted], rfl⟩
end
/-- A key more. -/
theorem has_put {D : DataW Unit} (hD : Maps.IsMap D) (t s : List UInt8) (d : DataW Unit) : Maps.has (D.put (.string t) d) (.string s) = (t == s || Maps.has D (.string s)) := by
  by_cases e : s = t
  · subst e
    rw [Maps.has_put_same hD (strKey s)]
    simp
  · rw [Maps.has_put_other (strKey_ne e)]
    have : (t == s) = false := by rw [beq_eq_false_iff_ne]; exact fun h => e h.symm
    rw [this, Bool.false_or]
theorem at_put_same {D : DataW Unit} (hD : Maps.IsMap D) (s : List UInt8) (d zd : DataW Unit) : (D.put (.string s) d).atKey (.string s) zd = d := Maps.atKey_put_same hD (strKey s) d zd
theorem at_put_other {D : DataW Unit} {s t : List UInt8} (h : s ≠ t) (d zd : DataW Unit) : (D.put (.string t) d).atKey (.string s) zd = D.atKey (.string s) zd := Maps.atKey_put_other (strKey_ne h) d zd
end Go.Proofs.YtkoedonllfmaaaaGreat.Km

/-
  Generic: rows of elements of several cells, laid out flat.
-/
namespace Go.Proofs.YtkoedonllfmaaaaGreat.Kf
set_option linter.unusedSimpArgs false
open Go Go.RowKit Ck Kw
set_option linter.unusedVariables false

section
variable {α : Type} {m : Nat} {F : α → List Value} (hF : ∀ x, (F x).length = m)
include hF
theorem flat_len (l : List α) : (l.flatMap F).length = l.length * m := by
  induction l with
  | nil => simp
  | cons x l ih => rw [List.flatMap_cons, List.length_append, ih, List.length_cons, hF, Nat.succ_mul]; omega
theorem flat_get (l : List α) (i : Nat) (hi : i < l.length) (j : Nat) (hj : j < m) : (l.flatMap F)[i * m + j]? = (F l[i])[j]? := by
  induction l generalizing i with
  | nil => exact absurd hi (by simp)
  | cons x l ih =>
    have hx := hF x
    rw [List.flatMap_cons]
    cases i with
    | zero => rw [List.getElem?_append_left (by omega)]; simp
    | succ i =>
      rw [List.getElem?_append_right (by rw [hx, Nat.succ_mul]; omega), hx, show (i + 1) * m + j - m = i * m + j from by rw [Nat.succ_mul]; omega]
      exact ih i (by simpa using hi)
/-- One cell of one element is turned. -/
theorem flat_set (l : List α) (i : Nat) (hi : i < l.length) (x : α) (j : Nat) (hj : j < m) (u : Value) (hx : F x = (F l[i]).set j u) : (l.flatMap F).set (i * m + j) u = (l.set i x).flatMap F := by
  induction l generalizing i with
  | nil => exact absurd hi (by simp)
  | cons y l ih =>
    have hy := hF y
    cases i with
    | zero =>
      simp only [List.flatMap_cons, List.set_cons_zero, Nat.zero_mul, Nat.zero_add]
      rw [List.set_append_left _ _ (by omega), hx]
      rfl
    | succ i =>
      simp only [List.flatMap_cons, List.set_cons_succ]
      rw [List.set_append_right _ _ (by rw [Nat.succ_mul]; omega), hy, show (i + 1) * m + j - m = i * m + j from by rw [Nat.succ_mul]; omega]
      rw [ih i (by simpa using hi) hx]
end

theorem add_zero' {ad : Addr} (h : ad = ⟨ad.block, 0, none⟩) (i : Nat) : ad.add i = ⟨ad.block, i, none⟩ := by
  obtain ⟨g, o, s⟩ := ad
  injection h with _ h1 h2
  subst h1; subst h2
  unfold Addr.add
  split <;> simp_all
end Go.Proofs.YtkoedonllfmaaaaGreat.Kf

/-
  Layer 6 (op), plain mathematics of what an operation that may be holds (as in Pk, for the layers that stand on op).
-/
namespace Go.Proofs.YtkoedonllfmaaaaGreat.Pz
set_option linter.unusedSimpArgs false
open Pm
set_option linter.unusedVariables false

theorem dec_width4 (l : Tx) : (dec l).2 ≤ 4 := by
  unfold dec Go.Lib.decodeN
  repeat' split
  all_goals simp
theorem rn_len : ∀ (j : Nat) (l : Tx), rn j l ≠ 0 → l.length ≤ 4 * j
  | 0, l, h => by
    unfold rn at h
    split at h
    · rename_i hl; subst hl; simp
    · exact absurd rfl h
  | j + 1, l, h => by
    unfold rn at h
    split at h
    · rename_i hl; subst hl; simp
    · split at h
      · exact absurd rfl h
      · have h1 := rn_len j _ h
        have h2 := dec_width4 l
        rw [List.length_drop] at h1
        omega
theorem name_len {l : Tx} (h : name l = true) : l.length ≤ 64 ∧ l ≠ [] := by
  have h1 : 0 < runes l := of_decide_eq_true h
  refine ⟨rn_len 16 l (by unfold runes at h1; omega), fun e => ?_⟩
  subst e
  exact absurd h1 (by decide)
theorem recs_len {l : List Tx} (h : areRecs l = true) : 1 ≤ l.length ∧ l.length ≤ 4 ∧ ∀ x ∈ l, x.length ≤ 64 := by
  simp only [areRecs, Bool.and_eq_true, decide_eq_true_eq, List.all_eq_true] at h
  exact ⟨h.1.1, h.1.2, h.2⟩
theorem encP_small : ∀ (l : List Tx), (∀ x ∈ l, x.length ≤ 64) → (Cm.encP l).length ≤ 74 * l.length
  | [], _ => by simp [Cm.encP]
  | x :: l, h => by
    have h1 := encP_small l (fun y hy => h y (List.mem_cons_of_mem _ hy))
    have h2 := h x List.mem_cons_self
    have h3 := Cm.enc_len x.length
    simp only [Cm.encP, List.length_append, Cm.encB_len, List.length_cons]
    omega
/-- What an operation that may be holds. -/
theorem check_lens {o : O} (h : check o = 0) : (hasT o.kind = true → o.topic.length ≤ 64) ∧ (hasG o.kind = true → o.group.length ≤ 64) ∧ (hasO o.kind = true → 0 ≤ o.off ∧ o.off ≤ 9007199254740992) ∧
    (hasR o.kind = true → 1 ≤ o.recs.length ∧ o.recs.length ≤ 4 ∧ (∀ x ∈ o.recs, x.length ≤ 64) ∧ (Cm.encP o.recs).length ≤ 296) := by
  obtain ⟨h1, h2, h3, h4, h5⟩ := check_ok h
  refine ⟨fun hT => ?_, fun hG => ?_, fun hO => ?_, fun hR => ?_⟩
  · refine (name_len (l := o.topic) ?_).1
    cases hn : name o.topic with
    | true => rfl
    | false => simp [badName, hT, hn] at h3
  · refine (name_len (l := o.group) ?_).1
    cases hn : name o.group with
    | true => rfl
    | false => simp [badName, hG, hn] at h3
  · simp only [badOff, hO, Bool.true_and, Bool.or_eq_false_iff, decide_eq_false_iff_not] at h5
    omega
  · have hr : areRecs o.recs = true := by
      cases hn : areRecs o.recs with
      | true => rfl
      | false => simp [badRecs, hR, hn] at h4
    obtain ⟨a, b, c⟩ := recs_len hr
    have := encP_small o.recs c
    exact ⟨a, b, c, by omega⟩

end Go.Proofs.YtkoedonllfmaaaaGreat.Pz

/-
  The plain mathematics of layer 7 (topics): the machine, its stB, what is read of stB. No program is named here.
-/
namespace Go.Proofs.YtkoedonllfmaaaaGreat.Tm
set_option linter.unusedSimpArgs false
open Cm Pm Pz
set_option linter.unusedVariables false

/-- A group and its offset. -/
structure Gp where
  n : Tx
  pos : Int
deriving DecidableEq
/-- A topic. -/
structure Tp where
  n : Tx
  base : Int
  recs : List Tx
  gs : List Gp
deriving DecidableEq
/-- What a client was answered last. -/
structure An where
  time : Int
  err : Int
  off : Int
deriving DecidableEq
/-- The machine: topics, rising by names, and eight clients' answers. -/
structure St where
  L : List Tp
  last : List An
deriving DecidableEq
def An.zero : An := ⟨0, 0, 0⟩
def St.zero : St := ⟨[], List.replicate 8 An.zero⟩
def Tp.next (t : Tp) : Int := t.base + (t.recs.length : Int)

def findT (L : List Tp) (s : Tx) : Option Tp := L.find? fun t => decide (t.n = s)
def updT (L : List Tp) (s : Tx) (g : Tp → Tp) : List Tp := L.map fun t => if t.n = s then g t else t
def insT (x : Tp) : List Tp → List Tp
  | [] => [x]
  | t :: L => if t.n < x.n then t :: insT x L else x :: t :: L
/-- A group's offset is noted. -/
def insG (n : Tx) (k : Int) : List Gp → List Gp
  | [] => [⟨n, k⟩]
  | g :: L => if g.n < n then g :: insG n k L else if g.n = n then ⟨n, k⟩ :: L else ⟨n, k⟩ :: g :: L
def pos (gs : List Gp) (n : Tx) : Option Int := (gs.find? fun g => decide (g.n = n)).map (·.pos)
/-- Where records are put. -/
def placed (n : Tx) : Int → List Tx → List (Tx × Int × Tx)
  | _, [] => []
  | k, r :: rs => (n, k, r) :: placed n (k + 1) rs

def maxNum : Int := 9007199254740992
/-- The result of an operation, the places of its records, the topics behind it. -/
def doesS (L : List Tp) (o : O) : (Int × Int) × List (Tx × Int × Tx) × List Tp :=
  if check o ≠ 0 then ((check o, 0), [], L)
  else if o.kind = 0 then ((0, 0), [], L)
  else if o.kind = 1 then
    if (findT L o.topic).isSome then ((5, 0), [], L)
    else if 8 ≤ L.length then ((6, 0), [], L)
    else ((0, 0), [], insT ⟨o.topic, 0, [], []⟩ L)
  else match findT L o.topic with
    | none => ((4, 0), [], L)
    | some x =>
      if o.kind = 2 then
        if 64 < x.recs.length + o.recs.length ∨ maxNum - (o.recs.length : Int) < x.next then ((71, 0), [], L)
        else ((0, x.next), placed o.topic x.next o.recs, updT L o.topic fun t => { t with recs := t.recs ++ o.recs })
      else if o.kind = 3 then
        if o.off < (pos x.gs o.group).getD 0 ∨ x.next < o.off then ((72, 0), [], L)
        else if pos x.gs o.group = none ∧ 8 ≤ x.gs.length then ((6, 0), [], L)
        else ((0, o.off), [], updT L o.topic fun t => { t with gs := insG o.group o.off t.gs })
      else
        if o.off < x.base ∨ x.next < o.off then ((72, 0), [], L)
        else ((0, o.off), [], updT L o.topic fun t => { t with base := o.off, recs := t.recs.drop (o.off - t.base).toNat })
/-- May a client's request be at all? -/
def badArg (client time : Int) : Bool := decide (client < 0) || decide (8 ≤ client) || decide (time < 1) || decide (maxNum < time)
def appS (s : St) (client time : Int) (o : O) : (Int × Int) × List (Tx × Int × Tx) × Bool × St :=
  if badArg client time then ((1, 0), [], false, s)
  else
    let a := s.last.getD client.toNat An.zero
    if time = a.time then ((a.err, a.off), [], false, s)
    else if time < a.time then ((7, 0), [], false, s)
    else
      let d := doesS s.L o
      (d.1, d.2.1, true, ⟨d.2.2, s.last.set client.toNat ⟨time, d.1.1, d.1.2⟩⟩)

/-- Bytes. -/
def gpB (g : Gp) : Tx := encB g.n ++ enc g.pos.toNat
def tpB (t : Tp) : Tx := encB t.n ++ (enc t.base.toNat ++ (encL t.recs ++ (enc t.gs.length ++ t.gs.flatMap gpB)))
def anB (a : An) : Tx := enc a.time.toNat ++ (enc a.err.toNat ++ enc a.off.toNat)
def stB (s : St) : Tx := enc s.L.length ++ (s.L.flatMap tpB ++ s.last.flatMap anB)

def okGs (next : Int) : Tx → List Gp → Bool
  | _, [] => true
  | last, g :: gs => name g.n && decide (last < g.n) && decide (g.pos ≤ next) && okGs next g.n gs
def okT (t : Tp) : Bool := name t.n && decide (t.next ≤ maxNum) && okGs t.next [] t.gs
def okTs : Tx → List Tp → Bool
  | _, [] => true
  | last, t :: L => okT t && decide (last < t.n) && okTs t.n L
def told (e : Int) : Bool := e == 0 || e == 4 || e == 5 || e == 6 || e == 71 || e == 72 || e == 60 || e == 61 || e == 62
def okA (a : An) : Bool := told a.err && (a.err == 0 || a.off == 0) && (decide (0 < a.time) || (a.err == 0 && a.off == 0))
def okS (s : St) : Bool := okTs [] s.L && s.last.all okA
/-- What may be written down. -/
structure FitG (g : Gp) : Prop where
  n : g.n.length ≤ 64
  pos : 0 ≤ g.pos ∧ g.pos ≤ maxNum
structure FitT (t : Tp) : Prop where
  n : t.n.length ≤ 64
  base : 0 ≤ t.base
  next : t.next ≤ maxNum
  few : t.recs.length ≤ 64
  each : ∀ r ∈ t.recs, r.length ≤ 64
  groups : t.gs.length ≤ 8
  g : ∀ g ∈ t.gs, FitG g
structure FitA (a : An) : Prop where
  time : 0 ≤ a.time ∧ a.time ≤ maxNum
  err : 0 ≤ a.err ∧ a.err ≤ 1024
  off : 0 ≤ a.off ∧ a.off ≤ maxNum
structure Fit (s : St) : Prop where
  few : s.L.length ≤ 8
  t : ∀ t ∈ s.L, FitT t
  eight : s.last.length = 8
  a : ∀ a ∈ s.last, FitA a

theorem encP_flat : ∀ l : List Tx, encP l = l.flatMap encB
  | [] => rfl
  | x :: l => by rw [encP, encP_flat l]; rfl
end Go.Proofs.YtkoedonllfmaaaaGreat.Tm

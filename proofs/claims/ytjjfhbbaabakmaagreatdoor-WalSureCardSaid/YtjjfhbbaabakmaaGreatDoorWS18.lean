/-
  Layer 4: the iterator that a log's All hands on.
-/
import Derived.Test.YtjjfhbbaabakmaaGreatDoorWS17
import Derived.Test.YtjjfhbbaabakmaaGreatDoorWS10
import Derived.Test.YtjjfhbbaabakmaaGreatDoorWS11
import Derived.Test.YtjjfhbbaabakmaaGreatDoorWS02
namespace Go.Proofs.YtjjfhbbaabakmaaGreatDoor.Ug
set_option linter.unusedSimpArgs false
open Go Go.RowKit Go.Shelf Ck Kw Ga Dm Kr Ue Wl Wj Wk Uf
attribute [local go_sem ↓] Go.wp_at_zero Go.wp_at_succ
attribute [local go_sem] Oper.semAt_some
set_option linter.unusedVariables false
set_option maxRecDepth 100000

/-- The numbers and records of segments, one behind the other. -/
def allOf : List Sg → List (Nat × Tx)
  | [] => []
  | s :: l => offs s.first s.recs ++ allOf l
theorem allOf_app : ∀ (l m : List Sg), allOf (l ++ m) = allOf l ++ allOf m
  | [], m => rfl
  | s :: l, m => by rw [List.cons_append, allOf, allOf, allOf_app l m, List.append_assoc]
theorem take_split {l : List Sg} {i : Nat} (h : i < l.length) : l = l.take i ++ (l[i] :: l.drop (i + 1)) := by
  rw [← List.drop_eq_getElem_cons h, List.take_append_drop]
theorem allOf_at {l : List Sg} {i j : Nat} (h : i < l.length) (hj : j < l[i].recs.length) : (allOf l)[(allOf (l.take i)).length + j]? = some ((offs l[i].first l[i].recs)[j]'(by rw [offs_len]; exact hj)) := by
  have e := congrArg allOf (take_split h)
  rw [allOf_app, allOf] at e
  rw [e, List.getElem?_append_right (by omega), Nat.add_sub_cancel_left, List.getElem?_append_left (by rw [offs_len]; exact hj), List.getElem?_eq_getElem]
theorem allOf_step {l : List Sg} {i : Nat} (h : i < l.length) : (allOf (l.take (i + 1))).length = (allOf (l.take i)).length + l[i].recs.length := by
  rw [List.take_add_one, List.getElem?_eq_getElem h, Option.toList, allOf_app, allOf, allOf, List.append_nil, List.length_append, offs_len]
theorem allOf_le {l : List Sg} (i : Nat) : (allOf (l.take i)).length ≤ (allOf l).length := by
  have e := congrArg (fun m => (allOf m).length) (List.take_append_drop i l)
  simp only [allOf_app, List.length_append] at e
  omega
/-- Marks for blocks that collect calls. -/
def marks (Ds : List Nat) : List Deferred := Ds.map fun D => { target := .collected D, args := #[] }
/-- Blocks that have collected no call. -/
def Shutable (w : World) (B : Nat) (Ds : List Nat) : Prop := Ds.Nodup ∧ ∀ D ∈ Ds, B < D ∧ w.heap[D]? = some (.deferred (some []))
theorem Shutable.ch {w w' : World} {B : Nat} {Ds : List Nat} {X : Nat → Prop} (h : Shutable w B Ds) (c : Ch X w w') (hx : ∀ D ∈ Ds, ¬ X D) : Shutable w' B Ds :=
  ⟨h.1, fun D hD => ⟨(h.2 D hD).1, (c.block D (Array.getElem?_eq_some_iff.1 (h.2 D hD).2).1 (hx D hD)).trans (h.2 D hD).2⟩⟩
theorem Shutable.lt {w : World} {B : Nat} {Ds : List Nat} (h : Shutable w B Ds) : ∀ D ∈ Ds, D < w.heap.size := fun D hD => (Array.getElem?_eq_some_iff.1 (h.2 D hD).2).1
theorem Shutable.cons {w : World} {B : Nat} {Ds : List Nat} {D : Nat} (h : Shutable w B Ds) (hB : B < D) (hd : w.heap[D]? = some (.deferred (some []))) (hn : D ∉ Ds) : Shutable w B (D :: Ds) :=
  ⟨List.nodup_cons.2 ⟨hn, h.1⟩, fun E hE => by
    rcases List.mem_cons.1 hE with rfl | hE
    · exact ⟨hB, hd⟩
    · exact h.2 E hE⟩
theorem seg_at {w : World} {T : Nat → Prop} {A : Option Addr} {cap : Nat} {segs : List Sg} {rv : List Value} (h : Segs w T (.slice A segs.length cap) segs rv) {i : Nat} (hi : i < segs.length) : ∃ gb Ai ci, A = some ⟨gb, 0, none⟩ ∧ gb < w.heap.size ∧ T gb ∧
    w.cell? ⟨gb, i * 4, none⟩ = some (.int .i64 (segs[i].num : Int)) ∧ w.cell? ⟨gb, i * 4 + 1, none⟩ = some (.int .i64 (segs[i].first : Int)) ∧ w.cell? ⟨gb, i * 4 + 2, none⟩ = some (.int .i64 (segs[i].size : Int)) ∧ w.cell? ⟨gb, i * 4 + 3, none⟩ = some (.slice Ai segs[i].recs.length ci) ∧ Rcs w T (.slice Ai segs[i].recs.length ci) segs[i].recs := by
  obtain ⟨gb, c', hv, hT, hl, -, hat⟩ := h.at_ (by omega)
  obtain ⟨rfl, -, -⟩ := Value.slice.inj hv
  obtain ⟨u, hu, c0, c1, c2, c3, -, hr⟩ := hat i hi
  obtain ⟨Ai, ci, rfl⟩ := hr.shape
  exact ⟨gb, Ai, ci, rfl, hl, hT, c0, c1, c2, c3, hr⟩
/-- The frame of All's closure behind its first statements. -/
def actL (l Bn B0 : Nat) (A : Option Addr) (n cap : Nat) (k : Int) (Ds : List Nat) (u4 u10 u11 u12 u13 u14 u22 : Value) : Act :=
  { tmps := #[.func (.yield l) #[] #[], .pointer (some ⟨Bn, 0, none⟩), .pointer (some ⟨B0, 0, none⟩), undef, u4, undef, undef, .slice A n cap, .int .i64 (n : Int), .int .i64 k, u10, u11, u12, u13, u14, undef, undef, undef, undef, undef, undef, undef, u22], defers := marks Ds }
/-- The frame of a round of the range over a segment's records. -/
def actR (l Bn B0 : Nat) (A : Option Addr) (n cap : Nat) (k : Int) (u4 u10 u11 u12 u13 u14 u22 : Value) (args : Array Value) : Act :=
  match args with
  | ⟨[x, y]⟩ => { tmps := #[.func (.yield l) #[] #[], .pointer (some ⟨Bn, 0, none⟩), .pointer (some ⟨B0, 0, none⟩), undef, u4, x, y, .slice A n cap, .int .i64 (n : Int), .int .i64 k, u10, u11, u12, u13, u14, x, y, undef, undef, undef, undef, undef, u22], defers := [] }
  | _ => { tmps := #[], defers := [] }
theorem two_of {args : Array Value} (h : args.size = 2) : ∃ x y, args = #[x, y] := by
  obtain ⟨l⟩ := args
  match l, h with
  | [x, y], _ => exact ⟨x, y, rfl⟩

set_option maxHeartbeats 8000000 in
theorem lall_seq (n : Nat) (hn : 4 ≤ n) (S T : Nat → Prop) (w : World) (Bn : Nat) (A : Option Addr) (cap : Nat) (segs : List Sg) (rv : List Value) (hB : Blk w Bn 62 #[.slice A segs.length cap]) (hBS : ¬ S Bn) (h : Segs w T (.slice A segs.length cap) segs rv)
    (hT : ∀ k, T k → ¬ S k) (hSl : ∀ k, S k → k < w.heap.size + 2) (hlen : segs.length ≤ 549755813888) (hfew : ∀ s ∈ segs, s.recs.length ≤ 4194304) (hxl : ∀ s ∈ segs, ∀ x ∈ s.recs, x.length ≤ 549755813888) :
    SeqB Fence.wide n Tryz.prog 47 #[.pointer (some ⟨Bn, 0, none⟩)] Rt2 S (allOf segs) w := by
  intro l J Jx W hW hsz hJ hJx hY h0
  have HJ := Lib.hid hJ
  have HJX := Lib.hid hJx
  have HY : Hid (∀ (k : Nat) (p : Nat × Tx) (args : Array Value) (W1 : World), (allOf segs)[k]? = some p → J k W1 → Ch (fun q => S q ∨ W.heap.size ≤ q) W W1 → Rt2 W.heap.size p args W1 → YieldAt Fence.wide (n - 1) Tryz.prog l args W1 fun e W' =>
      (e = .returned (.bool true) ∧ J (k + 1) W' ∧ Ch S W1 W') ∨ (e = .returned (.bool false) ∧ Jx (k + 1) W' ∧ Ch S W1 W')) := Lib.hid fun k p args W1 hp hj hc hr => by
    obtain ⟨hk, rfl⟩ := List.getElem?_eq_some_iff.1 hp
    exact hY k hk args W1 hj hc hr
  have HB := Lib.hid (And.intro hB (And.intro hBS (And.intro h (And.intro hT (And.intro hSl hW)))))
  have hbl := hB.lt
  have HG := Lib.hid (And.intro hfew hxl)
  have HBW : Hid (∀ wr, Ch (fun q => S q ∨ W.heap.size ≤ q) W wr → Segs wr (fun k => T k ∧ k < w.heap.size) (.slice A segs.length cap) segs rv) := Lib.hid fun wr hc =>
    (h.bound.ch (Ch.of_below (S := fun _ => False) hW (Nat.le_refl _)) (fun _ _ h => h)).ch hc (fun k hk hX => by
      rcases hX with hX | hX
      · exact hT k hk.1 hX
      · have := hk.2; omega)
  have hb1 := op_below W (.cells #[.func (.yield l) #[] #[]] 85)
  have hk1 : Blk (W.alloc (.cells #[.func (.yield l) #[] #[]] 85)) W.heap.size 85 #[.func (.yield l) #[] #[]] := Blk.new W _ _
  have hB1 := (hB.below hW hbl).below hb1 (by omega)
  have cB := hB1.cell 0
  simp only [List.getElem?_toArray, List.getElem?_cons_zero] at cB
  have hj1 := hJ 0 W _ h0 (Nat.le_refl _) (Ch.of_below (S := fun q => W.heap.size ≤ q) hb1 (Nat.le_refl _))
  have HST := Lib.hid (And.intro hj1 (And.intro hk1 (Ch.of_below (S := fun q => S q ∨ W.heap.size ≤ q) hb1 (Nat.le_refl _))))
  clear hJ hJx hY hB hBS h hT hfew hxl hb1 hk1 hB1 hj1 h0
  refine callsIn_of_wp_marks Tryz.func47 rfl trivial ?_ rfl
  simp only [Tryz.ntmps47, List.size_toArray, List.length_cons, List.length_nil, Nat.reduceAdd, Nat.reduceSub, Array.replicate_succ, Array.replicate_zero, List.push_toArray, List.append_toArray, List.nil_append, List.cons_append]
  refine wpIn_wide.2 ?_
  go_wp2_with fail
  generalize W.alloc (.cells #[.func (.yield l) #[] #[]] 85) = W1 at *
  refine wp_loop (fun a wr => ∃ (k : Nat) (Ds : List Nat) (u4 u10 u11 u12 u13 u14 u22 : Value), k ≤ segs.length ∧ a = actL l Bn W.heap.size A segs.length cap (k : Int) Ds u4 u10 u11 u12 u13 u14 u22 ∧
      J (allOf (segs.take k)).length wr ∧ Blk wr W.heap.size 85 #[.func (.yield l) #[] #[]] ∧ Ch (fun q => S q ∨ W.heap.size ≤ q) W wr ∧ Shutable wr W.heap.size Ds)
    (fun a _ => segs.length - (intOf (a.tmps.getD 9 undef)).toNat) ?_ ?_
  · exact ⟨0, [], _, _, _, _, _, _, _, Nat.zero_le _, rfl, HST.out.1, HST.out.2.1, HST.out.2.2, by simp [Shutable]⟩
  · clear HST cB
    rintro a wr ⟨k, Ds, u4, u10, u11, u12, u13, u14, u22, hk, rfl, hj, hbk, hc, hsh⟩
    unfold actL
    have hszw := hc.size
    by_cases hlt : k < segs.length
    · obtain ⟨gb, Ai, ci, rfl, hgb, hTg, c0, c1, c2, c3, hrc⟩ := seg_at (HBW.out _ hc) hlt
      have hat := fun j hj => allOf_at (l := segs) (j := j) hlt hj
      have hks := allOf_step hlt
      have hfew := HG.out.1 _ (List.getElem_mem hlt)
      have hxl := HG.out.2 _ (List.getElem_mem hlt)
      have hfirst := ((HBW.out _ hc).good _ (List.getElem_mem hlt)).first
      have hkl := allOf_le (l := segs) (k + 1)
      rw [hks] at hkl
      generalize segs[k] = s at *
      generalize (allOf (segs.take k)).length = K at *
      have HAT := Lib.hid (And.intro hat hks)
      have HKL := Lib.hid hkl
      have HFX := Lib.hid (And.intro hfew hxl)
      have HFI := Lib.hid hfirst
      have hrl := hfew
      have h0k : (0 : Int) ≤ (k : Int) := by omega
      have hkn : (k : Int) < (segs.length : Int) := by omega
      have hb2 := op_below wr (.cells #[.int .i64 (s.num : Int), .int .i64 (s.first : Int), .int .i64 (s.size : Int), .slice Ai s.recs.length ci] 76)
      have hz2 : (wr.alloc (.cells #[.int .i64 (s.num : Int), .int .i64 (s.first : Int), .int .i64 (s.size : Int), .slice Ai s.recs.length ci] 76)).heap.size ≤ wr.heap.size + 1 ∧ wr.heap.size + 1 ≤ (wr.alloc (.cells #[.int .i64 (s.num : Int), .int .i64 (s.first : Int), .int .i64 (s.size : Int), .slice Ai s.recs.length ci] 76)).heap.size := by simp
      have HJ2 := Lib.hid (And.intro hj (And.intro hbk (And.intro hc (And.intro hsh hrc))))
      have HB2 := Lib.hid hb2
      clear hat hks hkl hfew hxl hj hbk hc hsh hrc hfirst hb2
      go_wp2_with fail
      generalize wr.alloc (.cells #[.int .i64 (s.num : Int), .int .i64 (s.first : Int), .int .i64 (s.size : Int), .slice Ai s.recs.length ci] 76) = w2 at *
      have HAR := Lib.hid (all_ret w2 s (.slice Ai s.recs.length ci))
      unfold SgV at HAR
      refine HAR.out.mono ?_
      rintro e w3 ⟨rfl, rfl⟩
      have hb3 := op_below w2 (.cells #[.int .i64 (s.num : Int), .int .i64 (s.first : Int), .int .i64 (s.size : Int), .slice Ai s.recs.length ci] 76)
      have hz3 : (w2.alloc (.cells #[.int .i64 (s.num : Int), .int .i64 (s.first : Int), .int .i64 (s.size : Int), .slice Ai s.recs.length ci] 76)).heap.size ≤ w2.heap.size + 1 ∧ w2.heap.size + 1 ≤ (w2.alloc (.cells #[.int .i64 (s.num : Int), .int .i64 (s.first : Int), .int .i64 (s.size : Int), .slice Ai s.recs.length ci] 76)).heap.size := by simp
      have hk3 : Blk (w2.alloc (.cells #[.int .i64 (s.num : Int), .int .i64 (s.first : Int), .int .i64 (s.size : Int), .slice Ai s.recs.length ci] 76)) w2.heap.size 76 (SgV s (.slice Ai s.recs.length ci)) := Blk.new w2 _ _
      generalize w2.alloc (.cells #[.int .i64 (s.num : Int), .int .i64 (s.first : Int), .int .i64 (s.size : Int), .slice Ai s.recs.length ci] 76) = w3 at *
      have hb23 : Below wr.heap.size wr w3 := HB2.out.trans (hb3.mono (by omega))
      have hWr := HJ2.out.2.2.1.size
      have hwW := HB.out.2.2.2.2.2.size
      have HSQ := Lib.hid (sall_seq (n - 1) (by omega) (fun q => S q ∨ Bk w3.heap.size q) (fun k => T k ∧ k < w.heap.size) w3 w2.heap.size s Ai ci hk3 (fun h => by
          rcases h with h | h
          · have := HB.out.2.2.2.2.1 _ h; omega
          · rcases h with h | h <;> omega) (HJ2.out.2.2.2.2.after hb23) (fun q hq h => by
          rcases h with h | h
          · exact HB.out.2.2.2.1 q hq.1 h
          · have := hq.2; rcases h with h | h <;> omega) HFI.out HFX.out.1 HFX.out.2)
      have hj3 : J (K + 0) w3 := HJ.out K wr w3 HJ2.out.1 (by omega) (Ch.of_below hb23 (by omega))
      have hbk3 := HJ2.out.2.1.below hb23 HJ2.out.2.1.lt
      have hc3 := HJ2.out.2.2.1.trans (Ch.of_below (S := fun q => S q ∨ W.heap.size ≤ q) hb23 (Nat.le_refl _)) (fun _ _ h => h)
      have hsh3 : Shutable w3 W.heap.size Ds := HJ2.out.2.2.2.1.ch (Ch.of_below (S := fun _ => False) hb23 (Nat.le_refl _)) (fun _ _ h => h)
      have hDl := HJ2.out.2.2.2.1.lt
      have HI3 := Lib.hid (And.intro hj3 (And.intro hbk3 (And.intro hc3 hsh3)))
      have HDL := Lib.hid hDl
      clear hb3 hk3 hb23 hj3 hbk3 hc3 hsh3 HAR HB2 hDl
      go_wp2_with fail
      refine (wpIn_wide (n := n)).1 ?_
      refine wpIn_rangeB rfl (by omega) (gf := 66) (lb := #[.pointer (some ⟨w2.heap.size, 0, none⟩)]) rfl trivial (enters_of Tryz.func66 (by kernel_rfl) rfl) (X := S) HSQ.out (fun q hq => by have := HB.out.2.2.2.2.1 q hq; omega)
        (fun B p args W ⟨_, _, hh, _⟩ => by rw [hh]; rfl) (fun p args Wa Wb hh c => by
          obtain ⟨A', cc, h1, h2⟩ := hh
          exact ⟨A', cc, h1, own_ch h2 c (fun q hq hb => by have := (h2.lt q hq).1; rcases hb with hb | hb <;> omega)⟩)
        (fun j Wk => J (K + j) Wk ∧ Blk Wk W.heap.size 85 #[.func (.yield l) #[] #[]] ∧ Ch (fun q => S q ∨ W.heap.size ≤ q) W Wk ∧ Shutable Wk W.heap.size Ds)
        (fun cc j Wk => cc = .ret ∧ Jx (K + j) Wk ∧ Ch (fun q => S q ∨ W.heap.size ≤ q) W Wk ∧ Shutable Wk W.heap.size Ds)
        (fun j Wa Wb hh hs c => ⟨HJ.out _ Wa Wb hh.1 (by omega) (c.mono (fun q _ hq => by show W.heap.size ≤ q; have h' : w3.heap.size ≤ q := hq; omega)), hh.2.1.ch c (fun hq => by have h' : w3.heap.size ≤ W.heap.size := hq; omega), hh.2.2.1.trans c (fun q _ hq => .inr (by have h' : w3.heap.size ≤ q := hq; omega)), hh.2.2.2.ch c (fun D hD hq => by have := HDL.out D hD; have h' : w3.heap.size ≤ D := hq; omega)⟩)
        (fun cc j Wa Wb hh hs c => ⟨hh.1, HJX.out _ Wa Wb hh.2.1 (by omega) (c.mono (fun q _ hq => by show W.heap.size ≤ q; have h' : w3.heap.size ≤ q := hq; omega)), hh.2.2.1.trans c (fun q _ hq => .inr (by have h' : w3.heap.size ≤ q := hq; omega)), hh.2.2.2.ch c (fun D hD hq => by have := HDL.out D hD; have h' : w3.heap.size ≤ D := hq; omega)⟩)
        ⟨HI3.out.1, HI3.out.2.1, HI3.out.2.2.1, HI3.out.2.2.2⟩ (actR l Bn W.heap.size (some ⟨gb, 0, none⟩) segs.length cap (k : Int) (.pointer (some ⟨wr.heap.size, 0, none⟩)) (.bool true) (.pointer (some ⟨gb, k * 4, none⟩)) (.agg #[.int .i64 (s.num : Int), .int .i64 (s.first : Int), .int .i64 (s.size : Int), .slice Ai s.recs.length ci]) (.agg #[.int .i64 (s.num : Int), .int .i64 (s.first : Int), .int .i64 (s.size : Int), .slice Ai s.recs.length ci]) (.func (.func 66) #[] #[.pointer (some ⟨w2.heap.size, 0, none⟩)]) u22) ?assign ?body ?done ?stop
      case assign =>
        intro l args W K hsz hK
        obtain ⟨x, y, rfl⟩ := two_of hsz
        gi_wp2_with fail
        exact hK
      case body =>
        intro l' j hj args Wk hlt' hcw hi hr
        obtain ⟨hJk, hbk, hcS, hsh⟩ := hi
        have hj' : j < s.recs.length := by rw [offs_len] at hj; exact hj
        have HYK := Lib.hid (HY.out (K + j) _ args Wk (HAT.out.1 j hj') hJk hcS (by
          obtain ⟨A', cc, h1, h2⟩ := hr
          exact ⟨A', cc, h1, own_base h2 (by omega)⟩))
        obtain ⟨Ay, cy, rfl, hy⟩ := hr
        have hyl := hy
        generalize (offs s.first s.recs)[j] = x at *
        obtain ⟨x0, x1⟩ := x
        simp only at HYK ⊢
        have cb := hbk.cell 0
        simp only [List.getElem?_toArray, List.getElem?_cons_zero] at cb
        obtain ⟨fn, tmps, assign, body, hyy, hRd⟩ := HYK.out
        have HRD := Lib.hid (round_in (l' := l') (round_deep (m' := n - 1 - 1 - 1) (round_mono hRd (R' := fun e W' => ∃ b : Bool, e = .returned (.bool b) ∧ (b = true → J (K + j + 1) W') ∧ (b = false → Jx (K + j + 1) W') ∧ Ch S Wk W') (fun e W' h => by rcases h with ⟨h1, h2, h3⟩ | ⟨h1, h2, h3⟩; exact ⟨true, h1, fun _ => h2, (fun h => by cases h), h3⟩; exact ⟨false, h1, (fun h => by cases h), fun _ => h2, h3⟩))))
        have HK := Lib.hid (And.intro hbk (And.intro hcS hsh))
        clear hJk hbk hcS hsh hy hyl hRd HYK hcw
        dsimp only [actR]
        gi_wp2_with fail
        refine ⟨fun h => (wide_some h).elim, HRD.out.mono ?_⟩
        rintro e W3 ⟨bb, rfl, hb1, hb2, hc3⟩
        have HC3 := Lib.hid (And.intro (hc3.mono (T := fun q => S q ∧ ¬ Bk w3.heap.size q) (fun q _ hs => ⟨hs, fun hb => by have := HB.out.2.2.2.2.1 q hs; rcases hb with hb | hb <;> omega⟩)) (And.intro (HK.out.1.ch hc3 (fun hs => by have := HB.out.2.2.2.2.1 _ hs; omega)) (And.intro (HK.out.2.1.trans (hc3.mono (T := fun q => S q ∨ W.heap.size ≤ q) (fun q _ hs => .inl hs)) (fun _ _ h => h)) (HK.out.2.2.ch hc3 (fun D hD hs => by have := HB.out.2.2.2.2.1 _ hs; have := (HK.out.2.2.2 D hD).1; omega)))))
        have HB1 := Lib.hid hb1
        have HB2 := Lib.hid hb2
        clear hc3 hb1 hb2 cb hyy
        cases bb with
        | true =>
          gi_wp2_with fail
          exact ⟨HC3.out.1, (by first | exact HB1.out rfl | exact HB1.out trivial), HC3.out.2⟩
        | false =>
          gi_wp2_with fail
          exact ⟨HC3.out.1, rfl, (by first | exact HB2.out rfl | exact HB2.out trivial), HC3.out.2.2⟩
      case done =>
        intro Wd hcw hi hd
        rw [offs_len] at hi
        obtain ⟨hj, hbk, hcS, hsh⟩ := hi
        have hn3 : w3.heap.size ∉ Ds := fun h => by have := HDL.out _ h; omega
        have HD := Lib.hid (And.intro hj (And.intro hbk (And.intro hcS (hsh.cons (by omega) hd hn3))))
        clear hj hbk hcS hsh hd hcw
        dsimp only
        go_wp2_with fail
        refine ⟨⟨k + 1, w3.heap.size :: Ds, _, _, _, _, _, _, _, by omega, by rw [Int.natCast_add]; rfl, by rw [HAT.out.2]; exact HD.out.1, HD.out.2.1, HD.out.2.2.1, HD.out.2.2.2⟩, ?_⟩
        simp [intOf]
        omega
      case stop =>
        rintro cc j Wd hj hcw ⟨rfl, hjx, hcS, hsh⟩ hd
        have hn3 : w3.heap.size ∉ Ds := fun h => by have := HDL.out _ h; omega
        rw [offs_len] at hj
        have HD := Lib.hid (And.intro hjx (And.intro hcS (hsh.cons (by omega) hd hn3)))
        clear hjx hcS hsh hd hcw
        refine wpIn_wide.2 ?_
        dsimp only
        go_wp2_with fail
        refine leaves_marks (by simp) (w3.heap.size :: Ds) Wd HD.out.2.2.1 (fun D hD => (HD.out.2.2.2 D hD).2) (fun w' c => ?_)
        have hup : ∀ q, q ∈ w3.heap.size :: Ds → W.heap.size ≤ q := fun q hq => by have := (HD.out.2.2.2 q hq).1; omega
        exact ⟨_, results_none rfl _ _ _, ⟨_, rfl⟩, HD.out.2.1.trans (c.mono (T := fun q => S q ∨ W.heap.size ≤ q) (fun q _ hq => .inr (hup q hq))) (fun _ _ h => h), .inr ⟨K + j, by have := HKL.out; omega, HJX.out _ Wd w' HD.out.1 HD.out.2.1.size (c.mono (fun q _ hq => hup q hq))⟩⟩
    · have hke : k = segs.length := by omega
      have HKE := Lib.hid hke
      have HC := Lib.hid (And.intro hj (And.intro hc hsh))
      have hltI : ¬ (k : Int) < (segs.length : Int) := by omega
      have hltI2 : (segs.length : Int) ≤ (k : Int) := by omega
      clear hc hj hbk hke hsh
      go_wp2_with fail
      refine leaves_marks (by simp) Ds wr HC.out.2.2.1 (fun D hD => (HC.out.2.2.2 D hD).2) (fun w' c => ?_)
      have hup : ∀ q, q ∈ Ds → W.heap.size ≤ q := fun q hq => by have := (HC.out.2.2.2 q hq).1; omega
      have hjl := HC.out.1
      rw [HKE.out, List.take_length] at hjl
      exact ⟨_, results_none rfl _ _ _, ⟨_, rfl⟩, HC.out.2.1.trans (c.mono (T := fun q => S q ∨ W.heap.size ≤ q) (fun q _ hq => .inr (hup q hq))) (fun _ _ h => h), .inl (HJ.out _ wr w' hjl HC.out.2.1.size (c.mono (fun q _ hq => hup q hq)))⟩
end Go.Proofs.YtjjfhbbaabakmaaGreatDoor.Ug

/-
  Layer 4: All of a log, and the law's kept.
-/
namespace Go.Proofs.YtjjfhbbaabakmaaGreatDoor.Uh
set_option linter.unusedSimpArgs false
open Go Go.RowKit Go.Shelf Ck Kw Ga Dm Kr Ue Wl Wj Wk Wr Wo Uf Ug
attribute [local go_sem ↓] Go.wp_at_zero Go.wp_at_succ
attribute [local go_sem] Oper.semAt_some
set_option linter.unusedVariables false
set_option maxRecDepth 100000

theorem results_bool1 {fn : Func} {p : Tmp} (h : fn.results = #[.cell p 4]) (tmps : Array Value) (w : World) (g : Nat) (b : Bool)
    (hp : tmps.getD p undef = .pointer (some ⟨g, 0, none⟩)) (hc : w.cell? ⟨g, 0, none⟩ = some (.bool b)) :
    (results fn tmps).run Tryz.prog w = .ok (.bool b) w := by
  have hp' : tmps[p]?.getD undef = .pointer (some ⟨g, 0, none⟩) := by simpa using hp
  have ha : (isAgg 4).run Tryz.prog w = .ok false w := by kernel_rfl
  simp [results, h, hp', asAddr, loadVar]
  go_simp
theorem cellsS_one {w : World} {T : Nat → Prop} : ∀ (l : List Sg) (r : List Value), r.length = l.length → (∀ u ∈ r, u.oneCell' = true) → ∀ x ∈ cellsS l r, x.oneCell' = true
  | [], [], _, _, x, hx => nomatch hx
  | s :: l, v :: r, h, hr, x, hx => by
    simp only [cellsS, List.mem_cons] at hx
    rcases hx with rfl | rfl | rfl | rfl | hx
    · rfl
    · rfl
    · rfl
    · exact hr _ (List.mem_cons_self ..)
    · exact cellsS_one (w := w) (T := T) l r (by simpa using h) (fun u hu => hr u (List.mem_cons_of_mem _ hu)) x hx
  | [], _ :: _, h, _, _, _ => by simp at h
  | _ :: _, [], h, _, _, _ => by simp at h
set_option maxHeartbeats 400000 in
theorem segsclone_any (X : Nat → Prop) (v : Value) (n : Nat) (xs : List Value) (w : World) (hv : Sl w X 4 v n xs) (h1 : ∀ u ∈ xs, u.oneCell' = true) (hn : n * 48 ≤ 140737488355328) :
    Calls Tryz.prog 46 #[v] w fun e w' => ∃ A c, e = .returned (.slice A n c) ∧ w'.ownsRow w.heap.size 76 4 (.slice A n c) n xs ∧ Below w.heap.size w w' := by
  obtain ⟨i0, hi0, hz0, hz1, hz2⟩ := info_parts info_segs
  have hv' := hv
  obtain ⟨A, c, rfl, hxl, -⟩ := hv'
  have heq := fun (W : World) => Lib.run_eql_slice_nil (P := Tryz.prog) W 62 76 A n c 0 0 Tryz.underlying62
  rcases A with _ | ad
  · obtain ⟨h0, rfl⟩ := hv.none_
    subst h0
    clear hv h1 hxl
    go_enter Tryz.func46, Tryz.ntmps46
    go_wp2
    go_ret
    exact ⟨_, _, rfl, World.ownsRow_nil _ _ _ _, Below.refl _ _⟩
  · have HX := Lib.hid hxl
    clear hxl
    go_enter Tryz.func46, Tryz.ntmps46
    go_wp2_with (at_builtin; refine wpList_append_sh _ rfl (.tmp 5) (.tmp 6) _ rfl w.heap.size 76 i0 _ 4 48 Tryz.underlying62 hi0 hz0 hz1 hz2 rfl (by omega) (.slice (some ⟨w.heap.size, 0, none⟩) 0 0) 0 [] rfl (World.ownsRow_made w #[] 0 (Nat.le_refl _) (by simp only [maxLen]; omega) rfl) X _ n xs rfl (hv.alloc _) h1 (by simp only [maxLen]; omega) (by omega) (by simp) ?_; intro A2 c2 w2 happ)
    go_ret
    obtain ⟨ho, hg, hr⟩ := happ
    rw [Nat.zero_add] at hr
    refine ⟨A2, c2, by simp, by simpa using ho, ?_⟩
    exact ((Below.refl _ _).alloc (Nat.le_refl _) _).grown hg (by simp) (by simp [Value.ownBlock])
theorem segs_cloned {w w' : World} {S : Nat → Prop} {v v' : Value} {segs : List Sg} {rv : List Value} (h : Segs w S v segs rv) (hb : Below w.heap.size w w') (ho : w'.ownsRow w.heap.size 76 4 v' segs.length (cellsS segs rv)) : Segs w' (Up S w w') v' segs rv :=
  ⟨h.len, own_base ho (Nat.zero_le _), fun k hk => .inr (ho.lt k hk), fun i hi => by obtain ⟨u, h1, h2⟩ := h.rcs i hi; exact ⟨u, h1, (h2.after hb).weaken (fun k hk => .inl hk)⟩, h.apart, h.good⟩
/-- What All leaves. -/
def AllL (w : World) (S : Nat → Prop) (segs : List Sg) (e : Ending) (w' : World) : Prop :=
  ∃ Bn A c rv, e = .returned (.func (.func 47) #[] #[.pointer (some ⟨Bn, 0, none⟩)]) ∧ Blk w' Bn 62 #[.slice A segs.length c] ∧ Segs w' (Up S w w') (.slice A segs.length c) segs rv ∧ w.heap.size ≤ Bn ∧ Below w.heap.size w w'
set_option maxHeartbeats 2000000 in
theorem all_log (w : World) (S : Nat → Prop) (g p : Nat) (name : Tx) (most : Nat) (segs : List Sg) (synced : Nat) (h : Lg w S g p name most segs synced) (hne : 0 < segs.length) (hlen : segs.length ≤ 549755813888) :
    Calls Tryz.prog 19 #[.pointer (some ⟨g, 0, none⟩)] w (AllL w S segs) := by
  have hb1 := op_below w (.cells #[.slice none 0 0] 62)
  have hk1 : Blk (w.alloc (.cells #[.slice none 0 0] 62)) w.heap.size 62 #[.slice none 0 0] := Blk.new w _ _
  have hs1 : (w.alloc (.cells #[.slice none 0 0] 62)).heap.size ≤ w.heap.size + 1 ∧ w.heap.size + 1 ≤ (w.alloc (.cells #[.slice none 0 0] 62)).heap.size := by simp
  have h1 := h.after hb1
  obtain ⟨gb, cap, hC, -, -⟩ := h1.cells hne
  have HM := Lib.hid (made_log _ g p gb cap name most segs synced hC)
  clear h1
  obtain ⟨v, rv, hg, hgS, hsg, -, -⟩ := h
  have hg := hg.below hb1 hg.lt
  have hsg := hsg.bound.ch (Ch.of_below (S := fun _ => False) hb1 (Nat.le_refl _)) (fun _ _ h => h)
  obtain ⟨A, c, rfl⟩ := own_shape hsg.row
  have d3 := hg.cell 3
  simp only [List.getElem?_toArray, List.getElem?_cons_zero, List.getElem?_cons_succ] at d3
  have hone := cellsS_one (w := w) (T := S) segs rv hsg.len (fun u hu => by
    obtain ⟨i, hi, rfl⟩ := List.getElem_of_mem hu
    obtain ⟨u', hu', hr⟩ := hsg.rcs i (by have := hsg.len; omega)
    obtain ⟨A', c', rfl⟩ := hr.shape
    rw [List.getElem?_eq_getElem hi] at hu'
    rw [Option.some.inj hu']
    rfl)
  have HCL := Lib.hid (segsclone_any (fun _ => False) (.slice A segs.length c) segs.length (cellsS segs rv) _ (Sl.of_own hsg.row (fun _ _ _ h => h)) hone (by omega))
  have HK1 := Lib.hid (And.intro hb1 (And.intro hk1 (And.intro hsg hs1)))
  have f0 := hk1.frozen 0
  clear hC hg hgS hsg hone hb1 hk1 hs1
  go_enter Tryz.func19, Tryz.ntmps19
  go_wp2_with fail
  generalize w.alloc (.cells #[.slice none 0 0] 62) = w1 at *
  refine HM.out.mono ?_
  rintro e w2 ⟨rfl, rfl⟩
  go_wp2_with fail
  refine HCL.out.mono ?_
  rintro e w3 ⟨A3, c3, rfl, ho3, hb3⟩
  have hs3 := hb3.size
  have hk3 := HK1.out.2.1.below hb3 HK1.out.2.1.lt
  have hsg3 := segs_cloned HK1.out.2.2.1 hb3 ho3
  have f3 := hk3.frozen 0
  have k3 := hk3.cell 0
  simp only [List.getElem?_toArray, List.getElem?_cons_zero] at k3
  have cs := (Ch.refl (fun k => k = w.heap.size) w3).setCell (p := ⟨w.heap.size, 0, none⟩) (fun _ => rfl) (.slice A3 segs.length c3)
  have hk4 := hk3.set_ 0 (.slice A3 segs.length c3)
  have hsg4 := hsg3.bound.ch cs (fun k hk e => by
    rcases hk.1 with h | h
    · have := h.2; omega
    · have := HK1.out.2.2.2; omega)
  have HF := Lib.hid (And.intro hk4 (And.intro hsg4 (And.intro cs (HK1.out.1.trans (hb3.mono HK1.out.1.size)))))
  clear hk3 hsg3 cs hk4 hsg4 ho3 hb3
  go_wp2_with fail
  go_ret
  have s4 := HF.out.2.2.1.size
  have s13 := HF.out.2.2.2.size
  refine ⟨_, A3, c3, rv, rfl, by have := HF.out.1; simpa using this, HF.out.2.1.weaken (fun k hk => ?_), Nat.le_refl _, HF.out.2.2.2.trans (HF.out.2.2.1.below (fun k hk h => by omega) s13)⟩
  rcases hk.1 with h | h
  · exact .inl h.1.1
  · exact .inr ⟨by have := HK1.out.2.2.2; omega, by omega⟩
set_option maxHeartbeats 8000000 in
/-- Each record is as it was had. -/
theorem kept_any (w : World) (T : Nat → Prop) (Bn : Nat) (A : Option Addr) (cap : Nat) (segs : List Sg) (rv : List Value) (m : Nat) (hB : Blk w Bn 62 #[.slice A segs.length cap]) (h : Segs w T (.slice A segs.length cap) segs rv)
    (hlen : segs.length ≤ 549755813888) (hfew : ∀ s ∈ segs, s.recs.length ≤ 4194304) (hxl : ∀ s ∈ segs, ∀ x ∈ s.recs, x.length ≤ 549755813888)
    (hH : ∀ W, Below w.heap.size w W → ∀ p ∈ allOf segs, ∃ V, (Instr.lookup 31 (.map (some m)) (.int .i64 (p.1 : Int)) false).run Tryz.prog W = .ok V W ∧ Sl W (fun _ => False) 1 V p.2.length (BVs p.2)) :
    Calls Tryz.prog 18 #[.func (.func 47) #[] #[.pointer (some ⟨Bn, 0, none⟩)], .map (some m)] w fun e w' => e = .returned (.bool true) ∧ Below w.heap.size w w' := by
  refine (callsIn_wide (n := 8)).1 ?_
  refine callsIn_of_wp_marks Tryz.func18 rfl trivial ?_ rfl
  simp only [Tryz.ntmps18, List.size_toArray, List.length_cons, List.length_nil, Nat.reduceAdd, Nat.reduceSub, Array.replicate_succ, Array.replicate_zero, List.push_toArray, List.append_toArray, List.nil_append, List.cons_append]
  have k0 : Blk ((w.alloc (.cells #[.map (some m)] 31)).alloc (.cells #[.bool false] 4)) w.heap.size 31 #[.map (some m)] := (Blk.new w _ _).alloc _
  have k1 : Blk ((w.alloc (.cells #[.map (some m)] 31)).alloc (.cells #[.bool false] 4)) (w.heap.size + 1) 4 #[.bool false] := Blk.new_at (by simp) rfl
  have hal : Below w.heap.size w ((w.alloc (.cells #[.map (some m)] 31)).alloc (.cells #[.bool false] 4)) := ((Below.refl _ w).alloc (Nat.le_refl _) _).alloc (by simp) _
  have hsz : ((w.alloc (.cells #[.map (some m)] 31)).alloc (.cells #[.bool false] 4)).heap.size ≤ w.heap.size + 2 ∧ w.heap.size + 2 ≤ ((w.alloc (.cells #[.map (some m)] 31)).alloc (.cells #[.bool false] 4)).heap.size := by simp
  have hB3 := hB.below hal hB.lt
  have hBn := hB.lt
  have h3 := h.bound.ch (Ch.of_below (S := fun _ => False) hal (Nat.le_refl _)) (fun _ _ h => h)
  refine wpIn_wide.2 ?_
  go_wp2_with fail
  generalize ((w.alloc (.cells #[.map (some m)] 31)).alloc (.cells #[.bool false] 4)) = w3 at k0 k1 hal hsz hB3 h3 ⊢
  have HSEQ := Lib.hid (lall_seq 7 (by omega) (fun q => False ∨ Bk w3.heap.size q) (fun k => T k ∧ k < w.heap.size) w3 Bn A cap segs rv hB3 (fun h => by rcases h with h | h; exact h; rcases h with h | h <;> omega) h3 (fun k hk h => by rcases h with h | h; exact h; have := hk.2; rcases h with h | h <;> omega) (fun k h => by rcases h with h | h; exact h.elim; rcases h with h | h <;> omega) hlen hfew hxl)
  have HK := Lib.hid (And.intro k0 k1)
  have HAL := Lib.hid hal
  have HH := Lib.hid hH
  clear k0 k1 hal hB3 hB h h3 hH
  refine (wpIn_wide (n := 8)).1 ?_
  refine wpIn_rangeB rfl (by omega) (gf := 47) (lb := #[.pointer (some ⟨Bn, 0, none⟩)]) rfl trivial (enters_of Tryz.func47 (by kernel_rfl) rfl) (X := fun _ => False) HSEQ.out (fun _ h => h.elim)
    (fun B p args W ⟨_, _, hh, _⟩ => by rw [hh]; rfl) (fun p args Wa Wb hh c => by
      obtain ⟨A', cc, h1, h2⟩ := hh
      exact ⟨A', cc, h1, own_ch h2 c (fun q hq hb => by have := (h2.lt q hq).1; rcases hb with hb | hb <;> omega)⟩)
    (fun _ _ => True) (fun _ _ _ => False) (fun k W W' hh _ c => trivial) (fun cc k W W' hh _ c => hh) trivial (fun args => match args with | ⟨[x, y]⟩ => { tmps := #[.func (.func 47) #[] #[.pointer (some ⟨Bn, 0, none⟩)], .map (some m), undef, .pointer (some ⟨w.heap.size, 0, none⟩), .pointer (some ⟨w.heap.size + 1, 0, none⟩), x, y, .func (.func 47) #[] #[.pointer (some ⟨Bn, 0, none⟩)], x, y, undef, undef, undef, undef, undef, undef], defers := [] } | _ => { tmps := #[], defers := [] }) ?assign ?body ?done ?stop
  case assign =>
    intro l args W K hsz hK
    obtain ⟨x, y, rfl⟩ := Ug.two_of hsz
    gi_wp2_with fail
    exact hK
  case body =>
    intro l' j hj args Wk hlt' hcw _ hr
    have hb : Below w.heap.size w Wk := HAL.out.trans (hcw.below (B := w.heap.size) (fun k hk h => by rcases h with h | h; exact h; omega) HAL.out.size)
    obtain ⟨V, hlook, hV⟩ := HH.out Wk hb _ (List.getElem_mem hj)
    obtain ⟨Ay, cy, rfl, hy⟩ := hr
    have HEQ := Lib.hid (Ga.equal_any Wk (fun _ => False) (fun _ => False) _ V _ _ (allOf segs)[j].2 (allOf segs)[j].2 (Sl.of_own hy (fun _ _ _ h => h)) hV)
    rw [beq_self_eq_true] at HEQ
    generalize (allOf segs)[j] = x at *
    obtain ⟨x0, x1⟩ := x
    simp only at HEQ hlook ⊢
    have hk0 := (HK.out.1.ch hcw (fun h => by rcases h with h | h; exact h; omega)).cell 0
    simp only [List.getElem?_toArray, List.getElem?_cons_zero] at hk0
    have HCW := Lib.hid hcw
    clear hcw hb hy hV
    gi_wp2_with fail
    refine ⟨trivial, CallsIn.inRound l' (callsIn_wide.2 (HEQ.out.mono ?_))⟩
    rintro e W4 ⟨rfl, rfl⟩
    gi_wp2_with fail
    exact ⟨Ch.refl _ _, trivial⟩
  case done =>
    intro W hcw _ hd
    have hk := HK.out.2.ch hcw (fun h => by rcases h with h | h; exact h; omega)
    have e0 := hk.frozen 0
    have c0 := hk.cell 0
    simp only [List.getElem?_toArray, List.getElem?_cons_zero] at c0
    have HK4 := Lib.hid hk
    have HCW := Lib.hid hcw
    have HD := Lib.hid hd
    clear hk hcw hd
    dsimp only
    go_wp2_with fail
    have hlt : w3.heap.size < W.heap.size := (Array.getElem?_eq_some_iff.1 HD.out).1
    have cs := (Ch.refl (fun k => k = w.heap.size + 1) W).setCell (p := ⟨w.heap.size + 1, 0, none⟩) (fun _ => rfl) (.bool true)
    refine ⟨by simp, .inl ⟨_, _, rfl, run_takeDeferred ((cs.block w3.heap.size hlt (by omega)).trans HD.out), ?_⟩⟩
    have hk5 := HK4.out.set_ 0 (.bool true)
    have hk6 := hk5.ch (ch_putObj _ w3.heap.size (.deferred none)) (by omega)
    have d0 := hk6.cell 0
    simp at d0
    refine ⟨_, results_bool1 rfl _ _ (w.heap.size + 1) true rfl d0, rfl, ?_⟩
    have c2 := ((HCW.out.mono (T := fun k => w.heap.size ≤ k) (fun k _ h => by rcases h with h | h; exact h.elim; omega)).trans (cs.mono (T := fun k => w.heap.size ≤ k) (fun k _ h => by omega)) (fun _ _ h => h)).trans ((ch_putObj _ w3.heap.size (.deferred none)).mono (T := fun k => w.heap.size ≤ k) (fun k _ h => by omega)) (fun _ _ h => h)
    exact HAL.out.trans (c2.below (fun k hk h => by omega) (by omega))
  case stop => intro cc k W hk hcw hf; exact hf.elim
end Go.Proofs.YtjjfhbbaabakmaaGreatDoor.Uh

import Derived.Test.YtcmknopgoiabbaaPa
import Derived.Test.YtcmknopgoiabbaaW4
import Derived.Lib.AppendZeros
import Derived.Lib.AppendZerosOnto
import Derived.Lib.BufferWrite
import Derived.Lib.UnsafeStr
import Derived.Lib.Strings
import Derived.Lib.Walk
import Derived.Laws.MakeOwn
import Derived.Outline
import Derived.Test.YtcmknopgoiabbaaW6
import Derived.Test.YtcmknopgoiabbaaGa
import Derived.Lib.MinMax
import Derived.Deep.RegionHeld3
import Derived.Test.YtcmknopgoiabbaaPy
/-
  Layer 6 (op): the contracts of slices.Grow, slices.Concat, strings.Clone.
-/
namespace Go.Proofs.Ytcmknopgoiabbaa.Pj
set_option linter.unusedSimpArgs false
open Go Go.RowKit Ck Kw Ca Cb Pm Pa
set_option linter.unusedVariables false

theorem flat_take {ls : List Tx} {k : Nat} (h : k < ls.length) : (ls.take (k + 1)).flatten = (ls.take k).flatten ++ ls[k] := by
  rw [List.take_succ_eq_append_getElem h, List.flatten_append]
  simp
theorem flat_le {ls : List Tx} (k : Nat) : (ls.take k).flatten.length ≤ ls.flatten.length := by
  have : ls.flatten = (ls.take k).flatten ++ (ls.drop k).flatten := by rw [← List.flatten_append, List.take_append_drop]
  rw [this, List.length_append]
  omega
set_option maxRecDepth 100000 in
set_option maxHeartbeats 2000000 in
theorem slclone_any (l : Tx) (w : World) (hlim : l.length ≤ 140737488355328) :
    Calls Try.prog 57 #[SV l] w fun e w' => e = .returned (SV l) ∧ Below w.heap.size w w' := by
  unfold SV
  have hsl := sv_size l
  generalize hs : ByteArray.mk l.toArray = s at *
  have hlim' : s.size ≤ 140737488355328 := by omega
  clear hs hsl hlim
  by_cases h0 : s.size = 0
  · have hs : s = ⟨#[]⟩ := by
      apply ByteArray.ext
      exact Array.eq_empty_of_size_eq_zero h0
    subst hs
    go_enter Try.func57, Try.ntmps57
    go_wp2
    go_ret
    exact ⟨rfl, Below.refl _ _⟩
  · obtain ⟨i0, hi, hz0, hz1, hz2⟩ := info_parts info_u8
    have hinfo : (Try.prog.info? 5).map (·.size) = some 1 := by rw [hi]; simp [hz1]
    have hco : Try.prog.cellsOf 5 = 1 := by simp [Program.cellsOf, hi, hz1]
    obtain ⟨M, hM⟩ : ∃ M, M = madeCells (Value.int .u8 0).cells (((s.size : Nat) : Int).toNat * i0.size) := ⟨_, rfl⟩
    have hMs : M.size = s.size := by rw [hM, size_madeCells, hz1]; simp
    have hmk : ∀ W : World, (Instr.makeSlice 39 (.int .i64 (s.size : Int)) (.int .i64 (s.size : Int))).run Try.prog W = .ok (.slice (some ⟨W.heap.size, 0, none⟩) s.size s.size) (W.alloc (.cells M 5)) := fun W => by
      have h := run_make (P := Try.prog) W 39 5 i0 (.int .u8 0) Try.underlying39 hi hz0 .i64 .i64 (s.size : Int) (s.size : Int) (by omega) (by omega) (by rw [hz2]; omega) (by omega)
      rw [← hM] at h
      simpa using h
    clear hM
    have hcp := Lib.run_copy_row_string (P := Try.prog) (w.alloc (.cells M 5)) 39 9 3 5 w.heap.size 0 s.size s.size s M 5 Try.underlying39 hinfo (heap_alloc_new w _) (Nat.le_refl _) (by omega)
    obtain ⟨Y, hY⟩ : ∃ Y, Y = (M.toList.take 0 ++ Lib.byteCells s.data.toList ++ M.toList.drop (0 + s.size)).toArray := ⟨_, rfl⟩
    rw [← hY] at hcp
    have hYl : Y.toList = Lib.byteCells s.data.toList := by
      rw [hY, List.toList_toArray, List.take_zero, List.nil_append, List.drop_of_length_le (by rw [Array.length_toList]; omega), List.append_nil]
    have hYs : Y.size = s.size := by rw [← Array.length_toList, hYl, Lib.byteCells_length, ← Lib.size_eq]
    have hgY : ((w.alloc (.cells M 5)).setRow w.heap.size Y).heap[w.heap.size]? = some (.cells Y 5 (0, 0)) := setRow_heap _ _ M _ 5 (0, 0) (heap_alloc_new w _)
    have hne : s.data.toList ≠ [] := fun e => h0 (by rw [Lib.size_eq, e]; rfl)
    have hUS := Lib.run_unsafeString_row (P := Try.prog) ((w.alloc (.cells M 5)).setRow w.heap.size Y) 123 3 9 5 Try.underlying123 hco w.heap.size Y.size (by unfold World.shape?; rw [hgY]) s.data.toList hne (by rw [← Lib.size_eq]; omega) (by rw [← Lib.size_eq]; omega)
      (fun j x hx => Lib.cells_of_row hgY Y.size j _ (by rw [List.take_of_length_le (by rw [Array.length_toList]; exact Nat.le_refl _), hYl]; simp [Lib.byteCells, hx]))
    rw [← Lib.size_eq] at hUS
    clear hY
    go_enter Try.func57, Try.ntmps57
    go_wp2
    go_ret
    have hb1 : Below w.heap.size w (w.alloc (.cells M 5)) := (Below.refl _ w).alloc (Nat.le_refl _) _
    have hb2 : Below w.heap.size (w.alloc (.cells M 5)) ((w.alloc (.cells M 5)).setRow w.heap.size Y) := ⟨rfl, rfl, rfl, by simp, fun k hk => setRow_other _ _ _ _ (by omega)⟩
    exact ⟨rfl, Lib.below_freeze (hb1.trans hb2) (p := ⟨w.heap.size, 0, none⟩) (Nat.le_refl _) _⟩

theorem sclone_any (l : Tx) (w : World) (hlim : l.length ≤ 140737488355328) :
    Calls Try.prog 38 #[SV l] w fun e w' => e = .returned (SV l) ∧ Below w.heap.size w w' := by
  have HC := Lib.hid (slclone_any l w hlim)
  unfold SV at HC ⊢
  go_enter Try.func38, Try.ntmps38
  go_wp2_with (go_at_call 57; refine HC.out.mono ?_; rintro e w1 ⟨rfl, hb⟩)
  go_ret
  exact ⟨rfl, hb⟩

end Go.Proofs.Ytcmknopgoiabbaa.Pj

/-
  Layer 6 (op): the contracts of Put and PutResult, the document's PutResult, and the walk of the statement OpBytes.
-/
namespace Go.Proofs.Ytcmknopgoiabbaa.Po
set_option linter.unusedSimpArgs false
open Go Go.RowKit Ck Kw Ca Cb Cd Ci Pm Pa Pe Pf Pg Ph Ppi Pj Kx Pk Pl Pn
attribute [local go_sem ↓] Go.wp_at_zero Go.wp_at_succ
set_option linter.unusedVariables false

theorem two_new {W : World} {X : Nat → Prop} {t : TypeId} {va vb : Value} {a b : Tx} (ha : Sl W X 1 va a.length (BVs a)) (hb : Sl W X 1 vb b.length (BVs b)) (hX : ¬ X W.heap.size) :
    Ls (W.alloc (.cells #[va, vb] t)) X (.slice (some ⟨W.heap.size, 0, none⟩) 2 2) [a, b] := by
  refine ⟨[va, vb], ⟨_, _, rfl, rfl, Nat.le_refl _, by simp only [maxLen]; omega, fun _ => ⟨_, rfl, by simp, hX, fun j u hu => ?_⟩⟩, fun i hi => ?_⟩
  · have h2 : (⟨W.heap.size, 0, none⟩ : Addr).add j = ⟨W.heap.size, j, none⟩ := by unfold Addr.add; split <;> simp_all
    rw [h2, Blk.cell (Blk.new W t _) j]
    simpa using hu
  · have hi2 : i = 0 ∨ i = 1 := by simp at hi; omega
    rcases hi2 with rfl | rfl
    · exact ⟨va, rfl, ha.alloc _⟩
    · exact ⟨vb, rfl, hb.alloc _⟩

theorem max_nat (e : Int) (he : e ≤ 9223372036854775807) : ∃ n : Nat, max e 0 = (n : Int) ∧ max 0 e = (n : Int) ∧ n ≤ 9223372036854775807 := by
  refine ⟨(max e 0).toNat, ?_, ?_, ?_⟩ <;> omega

set_option maxRecDepth 100000 in
set_option maxHeartbeats 1000000 in
theorem putres_any (Y : Nat → Prop) (vb : Value) (nb : Nat) (b : Tx) (e f : Int) (w : World) (hb : Sl w Y 1 vb nb (BVs b)) (hbl : b.length ≤ 140737488351232) (he : e ≤ 9223372036854775807) (hf : f ≤ 9223372036854775807) :
    Calls Try.prog 20 #[vb, .agg #[.int .i64 e, .int .i64 f]] w fun e' w' => Made w 5 (b ++ resB e f) e' w' := by
  have hnb : nb = b.length := by obtain ⟨_, _, _, h, _⟩ := hb; rw [BVs_len] at h; omega
  subst hnb
  obtain ⟨n, hn, -, hn63⟩ := max_nat e he
  obtain ⟨m, hm, -, hm63⟩ := max_nat f hf
  have HR : Hid (resB e f = Cm.enc n ++ Cm.enc m) := Lib.hid (by rw [resB, hn, hm, Int.toNat_natCast, Int.toNat_natCast])
  have hwn := wrap_u64' n (by omega)
  have hwm := wrap_u64' m (by omega)
  have ln := Cm.enc_len n
  have HN := Lib.hid hn63
  have HM := Lib.hid hm63
  have HSB := Lib.hid hb
  have HW0 : Hid (Below w.heap.size w (w.alloc (.cells #[.int .i64 e, .int .i64 f] 34))) := Lib.hid ((Below.refl _ w).alloc (Nat.le_refl _) _)
  have HK0 : Hid (Blk (w.alloc (.cells #[.int .i64 e, .int .i64 f] 34)) w.heap.size 34 #[.int .i64 e, .int .i64 f]) := Lib.hid (Blk.new _ _ _)
  clear hn63 hm63 he hf hb
  go_enter Try.func20, Try.ntmps20
  go_wp2_with fail
  refine (putnum_any Y vb b.length b n _ (HSB.out.after HW0.out) (by omega) (by have := HN.out; omega)).mono ?_
  rintro e1 w1 ⟨v1, rfl, hown1, hb1⟩
  have HO1 := Lib.hid hown1
  have HB1 := Lib.hid (HW0.out.trans (hb1.mono HW0.out.size))
  have hk1 := HK0.out.below hb1 HK0.out.lt
  have k0 := hk1.cell 0
  have k1 := hk1.cell 1
  simp only [List.getElem?_toArray, List.getElem?_cons_zero, List.getElem?_cons_succ] at k0 k1
  clear hown1 hb1 hk1
  go_wp2_with fail
  refine (putnum_any (fun _ => False) v1 _ (b ++ Cm.enc n) m _ (Sl.of_own HO1.out (fun _ _ _ h => h)) (by rw [List.length_append]; omega) (by have := HM.out; omega)).mono ?_
  rintro e2 w2 ⟨v2, rfl, hown2, hb2⟩
  have HO2 := Lib.hid hown2
  have HB2 := Lib.hid (HB1.out.trans (hb2.mono HB1.out.size))
  clear hown2 hb2
  go_wp2_with fail
  go_ret
  refine ⟨v2, rfl, ?_, HB2.out⟩
  rw [HR.out, ← List.append_assoc]
  exact own_base HO2.out HB1.out.size

end Go.Proofs.Ytcmknopgoiabbaa.Po

/-
  Layer 6 (op): bytes.HasPrefix; the walk of the statement OpApart.
-/
namespace Go.Proofs.Ytcmknopgoiabbaa.Qf
set_option linter.unusedSimpArgs false
open Go Go.RowKit Ck Kw Ca Cb Ci Pm Pa Pe Pf Pg Ph Ppi Pk Pl Pp Qs
set_option linter.unusedVariables false

def pre (k l : Tx) : Bool := decide (k <+: l)
theorem pre_take {k l : Tx} : pre k l = (l.take k.length == k) := by
  rw [Bool.eq_iff_iff]
  simp only [pre, decide_eq_true_eq, beq_iff_eq]
  exact ⟨fun h => (List.prefix_iff_eq_take.1 h).symm, fun h => List.prefix_iff_eq_take.2 h.symm⟩
/-- A row of new bytes, kept. -/
structure VB (w0 : World) (v : Value) (l : Tx) (W : World) : Prop where
  below : Below w0.heap.size w0 W
  row : Sl W (fun k => k < w0.heap.size) 1 v l.length (BVs l)
theorem VB.later {w0 W W' : World} {v : Value} {l : Tx} (h : VB w0 v l W) (b : Below W.heap.size W W') : VB w0 v l W' := ⟨h.below.trans (b.mono h.below.size), h.row.after b⟩

end Go.Proofs.Ytcmknopgoiabbaa.Qf

/-
  Layer 6 (op): slices.Clone at bytes; the walk of the statement OpBytes.
-/
namespace Go.Proofs.Ytcmknopgoiabbaa.Qa
set_option linter.unusedSimpArgs false
open Go Go.RowKit Ck Kw Ca Cb Cd Ci Pm Pa Pe Pf Pg Ph Ppi Pj Kx Pk Pl Pn Po Pp Qs Qf
attribute [local go_sem ↓] Go.wp_at_zero Go.wp_at_succ
set_option linter.unusedVariables false

theorem eq_same (w : World) (X Y : Nat → Prop) (va vb : Value) (n m : Nat) (l : List UInt8) (ha : Sl w X 1 va n (BVs l)) (hb : Sl w Y 1 vb m (BVs l)) :
    Calls Try.prog 9 #[va, vb] w fun e w' => e = .returned (.bool true) ∧ w = w' :=
  (equal_any w X Y va vb n m l l ha hb).mono fun e w' h => ⟨by rw [h.1, beq_self_eq_true], h.2⟩

/-- What stands there: the operation, the result, the bytes. -/
structure ST (w0 : World) (o : O) (A : Option Addr) (c : Nat) (e f : Int) (vb : Value) (b : Tx) (W : World) : Prop where
  below : Below w0.heap.size w0 W
  op : OB W w0.heap.size o A c
  res : Blk W (w0.heap.size + 1) 34 #[.int .i64 e, .int .i64 f]
  ls : Ls W (fun k => w0.heap.size ≤ k) (.slice A o.recs.length c) o.recs
  b : Sl W (fun k => w0.heap.size ≤ k) 1 vb b.length (BVs b)
section
variable {w0 W W' : World} {o : O} {A : Option Addr} {c : Nat} {e f : Int} {vb : Value} {b : Tx}
theorem ST.later (h : ST w0 o A c e f vb b W) (hb : Below W.heap.size W W') : ST w0 o A c e f vb b W' :=
  ⟨h.below.trans (hb.mono h.below.size), Blk.below h.op hb (Blk.lt h.op), h.res.below hb h.res.lt, h.ls.after hb, h.b.after hb⟩
theorem ST.drew (h : ST w0 o A c e f vb b W) : ST w0 o A c e f vb b W.drew := ⟨below_drewN h.below 1, h.op, h.res, h.ls, h.b⟩
theorem ST.oi (h : ST w0 o A c e f vb b W) : OI W (fun k => w0.heap.size ≤ k) (OV o A c) o := ⟨A, c, rfl, h.ls⟩
theorem vb_drew {v : Value} {l : Tx} (h : VB w0 v l W) : VB w0 v l W.drew := ⟨below_drewN h.below 1, h.row⟩
theorem ST.cells (h : ST w0 o A c e f vb b W) : W.cell? ⟨w0.heap.size, 0, none⟩ = some (.int .i64 o.kind) ∧ W.cell? ⟨w0.heap.size, 1, none⟩ = some (.string ⟨o.topic.toArray⟩) ∧ W.cell? ⟨w0.heap.size, 2, none⟩ = some (.string ⟨o.group.toArray⟩) ∧ W.cell? ⟨w0.heap.size, 3, none⟩ = some (.int .i64 o.off) ∧ W.cell? ⟨w0.heap.size, 4, none⟩ = some (.slice A o.recs.length c) ∧
    W.cell? ⟨w0.heap.size + 1, 0, none⟩ = some (.int .i64 e) ∧ W.cell? ⟨w0.heap.size + 1, 1, none⟩ = some (.int .i64 f) :=
  ⟨h.op.cells.1, h.op.cells.2.1, h.op.cells.2.2.1, h.op.cells.2.2.2.1, h.op.cells.2.2.2.2, h.res.cell 0, h.res.cell 1⟩
end
theorem st_start {w : World} {o : O} {A : Option Addr} {c : Nat} {e f : Int} {vb : Value} {b : Tx} (hls : Ls w (fun k => w.heap.size ≤ k) (.slice A o.recs.length c) o.recs) (hb : Sl w (fun k => w.heap.size ≤ k) 1 vb b.length (BVs b)) :
    ST w o A c e f vb b ((w.alloc (.cells (OC o A c) 29)).alloc (.cells #[.int .i64 e, .int .i64 f] 34)) := by
  have b1 : Below w.heap.size w (w.alloc (.cells (OC o A c) 29)) := (Below.refl _ w).alloc (Nat.le_refl _) _
  have b2 : Below w.heap.size w ((w.alloc (.cells (OC o A c) 29)).alloc (.cells #[.int .i64 e, .int .i64 f] 34)) := b1.alloc b1.size _
  exact ⟨b2, Blk.alloc (Blk.new w _ _) _, Blk.new_at (by simp) rfl, hls.after b2, hb.after b2⟩
theorem vb_made {w0 W W' : World} {v : Value} {l : Tx} (hB : Below w0.heap.size w0 W) (hown : W'.ownsRow W.heap.size 5 1 v l.length (BVs l)) (hb : Below W.heap.size W W') : VB w0 v l W' :=
  ⟨hB.trans (hb.mono hB.size), Sl.of_own hown (fun k h1 _ h2 => by have := hB.size; omega)⟩

end Go.Proofs.Ytcmknopgoiabbaa.Qa

/-
  Layer 6 (op): the walk of the statement OpBack.
-/
namespace Go.Proofs.Ytcmknopgoiabbaa.Qe
set_option linter.unusedSimpArgs false
open Go Go.RowKit Ck Kw Ca Cb Ce Cf Cg Ci Cn Kx Pm Pa Pe Pf Pg Ph Ppi Pk Pl Pp Py Qb Qc Qt Qs Qd
attribute [local go_sem ↓] Go.wp_at_zero Go.wp_at_succ
set_option linter.unusedVariables false

/-- What stands there: the operation and the bytes. -/
structure EB (w0 : World) (o : O) (A : Option Addr) (c : Nat) (vb : Value) (b : Tx) (W : World) : Prop where
  below : Below w0.heap.size w0 W
  op : OB W w0.heap.size o A c
  ls : Ls W (fun k => w0.heap.size ≤ k) (.slice A o.recs.length c) o.recs
  b : Sl W (fun k => w0.heap.size ≤ k) 1 vb b.length (BVs b)
variable {w0 W W' : World} {o : O} {A : Option Addr} {c : Nat} {vb : Value} {b : Tx}
theorem EB.later (h : EB w0 o A c vb b W) (hb : Below W.heap.size W W') : EB w0 o A c vb b W' :=
  ⟨h.below.trans (hb.mono h.below.size), Blk.below h.op hb (Blk.lt h.op), h.ls.after hb, h.b.after hb⟩
theorem EB.drew (h : EB w0 o A c vb b W) : EB w0 o A c vb b W.drew := h.later (below_drewN (Below.refl _ W) 1)
theorem EB.oi (h : EB w0 o A c vb b W) : OI W (fun k => w0.heap.size ≤ k) (OV o A c) o := ⟨A, c, rfl, h.ls⟩
theorem eb_start {w : World} {o : O} {A : Option Addr} {c : Nat} {vb : Value} {b : Tx} (hls : Ls w (fun k => w.heap.size ≤ k) (.slice A o.recs.length c) o.recs) (hb : Sl w (fun k => w.heap.size ≤ k) 1 vb b.length (BVs b)) :
    EB w o A c vb b (w.alloc (.cells (OC o A c) 29)) :=
  ⟨(Below.refl _ w).alloc (Nat.le_refl _) _, Blk.new _ _ _, hls.after ((Below.refl _ w).alloc (Nat.le_refl _) _), hb.after ((Below.refl _ w).alloc (Nat.le_refl _) _)⟩

end Go.Proofs.Ytcmknopgoiabbaa.Qe

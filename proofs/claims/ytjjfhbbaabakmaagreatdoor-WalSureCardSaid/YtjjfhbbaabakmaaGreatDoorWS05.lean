/-
  Contracts of layer 1's reader: Take, Bytes, Left, Done, Read.
-/
import Derived.Test.YtjjfhbbaabakmaaGreatDoorWSCg
import Derived.Test.YtjjfhbbaabakmaaGreatDoorWS04
import Derived.Test.YtjjfhbbaabakmaaGreatDoorWS03
import Derived.Lib.ItoaNum
import Derived.Lib.ParseIntB
import Derived.Test.YtjjfhbbaabakmaaGreatDoorWS01
import Derived.Test.YtjjfhbbaabakmaaGreatDoorWS02
import Derived.Test.YtjjfhbbaabakmaaGreatDoorRows
import Derived.Maps.OwnSet
import Derived.Maps.RangeWalk
namespace Go.Proofs.YtjjfhbbaabakmaaGreatDoor.Ch
set_option linter.unusedSimpArgs false
set_option linter.unusedVariables false
open Go Go.RowKit Ck Ca Cb Ce Cf Cg

/-- What a reading of bytes leaves. -/
def Taken (w : World) (X : Nat → Prop) (g : Nat) (r : List UInt8 × Cm.RS) (e : Ending) (w' : World) : Prop :=
  ∃ v, e = .returned v ∧ w'.ownsRow w.heap.size 5 1 v r.1.length (BVs r.1) ∧ w.grownBy w' (some g) ∧ CR w' X g r.2
theorem Taken.nil {w w' : World} {X : Nat → Prop} {g : Nat} {s : Cm.RS} (hg : w.grownBy w' (some g)) (hc : CR w' X g s) : Taken w X g ([], s) (.returned (.slice none 0 0)) w' :=
  ⟨_, rfl, World.ownsRow_nil _ _ _ _, hg, hc⟩
theorem done_any (w : World) (X : Nat → Prop) (g : Nat) (s : Cm.RS) (h : CR w X g s) :
    Calls Tryz.prog 91 #[P_ g] w fun e w' => e = .returned (.int .i64 (Cm.doneS s)) ∧ w = w' := by
  obtain ⟨A, m, c, hb, hsl, hgd⟩ := h
  have hm : m = s.1.length := by obtain ⟨A, c, _, h, _⟩ := hsl; rw [BVs_len] at h; omega
  subst hm
  by_cases hs : s.2 = 0
  · have hb0 := hb
    rw [hs] at hb0
    have h1 := hb0.cell 1
    simp only [List.getElem?_toArray, List.getElem?_cons_zero, List.getElem?_cons_succ] at h1
    by_cases hz : s.1 = []
    · have hd : Cm.doneS s = 0 := by simp [Cm.doneS, hz, hs]
      rw [hd]
      rw [hz] at h1
      simp only [List.length_nil] at h1
      clear hs hd hz hsl
      go_enter Tryz.func91, Tryz.ntmps91
      go_wp2_with (first
        | (go_at_call 115; refine (reads_ok _ g _ hb0).mono ?_; rintro e w1 ⟨rfl, rfl⟩)
        | (go_at_call 118; refine (err_blk _ g _ 0 hb0).mono ?_; rintro e w1 ⟨rfl, rfl⟩))
      go_ret
      exact ⟨rfl, rfl⟩
    · have hd : Cm.doneS s = 12 := by simp [Cm.doneS, hz, hs]
      rw [hd]
      have hp : 0 < s.1.length := by
        rcases Nat.eq_zero_or_pos s.1.length with h0 | h0
        · exact absurd (List.eq_nil_of_length_eq_zero h0) hz
        · exact h0
      clear hs hd hz
      go_enter Tryz.func91, Tryz.ntmps91
      go_wp2_with (go_at_call 115; refine (reads_ok _ g _ hb0).mono ?_; rintro e w1 ⟨rfl, rfl⟩)
      go_ret
      exact ⟨rfl, rfl⟩
  · have hd : Cm.doneS s = s.2 := by simp [Cm.doneS, hs]
    rw [hd]
    have HS := Lib.hid hs
    clear hs hd
    go_enter Tryz.func91, Tryz.ntmps91
    go_wp2_with (first
      | (go_at_call 115; refine (reads_no _ g _ _ hb HS.out).mono ?_; rintro e w1 ⟨rfl, rfl⟩)
      | (go_at_call 118; refine (err_blk _ g _ _ hb).mono ?_; rintro e w1 ⟨rfl, rfl⟩))
    go_ret
    exact ⟨rfl, rfl⟩

/-- A new reader. -/
theorem read_any (w : World) (X : Nat → Prop) (v : Value) (n : Nat) (b : List UInt8) (hv : Sl w X 1 v n (BVs b)) (hn : n ≤ 140737488355328) :
    Calls Tryz.prog 89 #[v] w fun e w' => ∃ g, e = .returned (P_ g) ∧ CR w' (fun k => k < w.heap.size) g (b, 0) ∧ w.heap.size ≤ g ∧ Below w.heap.size w w' := by
  have hnl : n = b.length := by obtain ⟨A, c, _, h, _⟩ := hv; rw [BVs_len] at h; omega
  subst hnl
  go_enter Tryz.func89, Tryz.ntmps89
  go_wp2_with (go_at_call 82; refine (roomy_any _ v b.length b 0 _ hv (by omega) (by omega)).mono ?_; rintro e w1 ⟨v1, rfl, hown1, hb1⟩; obtain ⟨A1, c1, rfl⟩ := own_shape hown1)
  go_ret
  refine ⟨w1.heap.size, rfl, ⟨A1, b.length, c1, Blk.new _ _ _, ?_, fun h => absurd rfl h⟩, hb1.size, hb1.alloc hb1.size _⟩
  refine (Sl.of_own' hown1 fun k hk hX => ?_).alloc _
  have := hown1.lt k hk
  rcases hX with hX | hX <;> omega

end Go.Proofs.YtjjfhbbaabakmaaGreatDoor.Ch

/-
  Contracts of layer 4's frames: the program's.
-/
namespace Go.Proofs.YtjjfhbbaabakmaaGreatDoor.Wb
set_option linter.unusedSimpArgs false
open Go Go.RowKit Ck Kw Ga Wc Wf Wa
attribute [local go_sem ↓] Go.wp_at_zero Go.wp_at_succ
set_option linter.unusedVariables false

theorem le4_cells (s : Nat) (h : s < 4294967296) : #[Value.int .u8 ((s : Int) % 256), .int .u8 ((s : Int) / 256 % 256), .int .u8 ((s : Int) / 65536 % 256), .int .u8 ((s : Int) / 16777216)] = (BVs (le4 s)).toArray := by
  simp only [le4, BVs, List.map_cons, List.map_nil]
  rw [BV_of (by omega), BV_of (by omega), BV_of (by omega), BV_of (by omega), show ((s / 16777216 % 256 : Nat) : Int) = (s : Int) / 16777216 by omega]
  congr

set_option maxHeartbeats 1000000 in
theorem sumform_any (w : World) (X : Nat → Prop) (A : Option Addr) (c : Nat) (l : List UInt8) (h : Sl w X 1 (.slice A l.length c) l.length (BVs l)) :
    Calls Tryz.prog 62 #[.slice A l.length c] w fun e w' => ∃ A', e = .returned (.slice A' 4 4) ∧ Sl w' (fun k => k < w.heap.size) 1 (.slice A' 4 4) 4 (BVs (le4 (sum l))) ∧ Below w.heap.size w w' := by
  have hs := sum_lt l
  go_enter Tryz.func62, Tryz.ntmps62
  go_wp2_with (go_at_call 84; refine (sum_any _ X A c l h).mono ?_; rintro e w1 ⟨rfl, rfl⟩)
  go_ret
  exact ⟨_, rfl, Sl_lit w _ _ (le4 (sum l)) (le4_cells _ hs) rfl (by omega) (by omega), (Below.refl _ _).alloc (Nat.le_refl _) _⟩

theorem frame_long (w : World) (A : Option Addr) (n c : Nat) (hn : 524288 < n) : Calls Tryz.prog 33 #[.slice A n c] w fun e w' => e = .returned (.tuple #[.slice none 0 0, .int .i64 3]) ∧ w = w' := by
  go_enter Tryz.func33, Tryz.ntmps33
  go_wp2
  go_ret2
  exact ⟨rfl, rfl⟩

set_option maxHeartbeats 1000000 in
theorem frame_any (w : World) (X : Nat → Prop) (A : Option Addr) (c : Nat) (x : List UInt8) (h : Sl w X 1 (.slice A x.length c) x.length (BVs x)) (hx : x.length ≤ 524288) :
    Calls Tryz.prog 33 #[.slice A x.length c] w fun e w' => ∃ A' c', e = .returned (.tuple #[.slice A' (frame x).length c', .int .i64 0]) ∧ w'.ownsRow w.heap.size 5 1 (.slice A' (frame x).length c') (frame x).length (BVs (frame x)) ∧ Below w.heap.size w w' := by
  obtain ⟨i0, hi0, hz0, hz1, hz2⟩ := info_parts info_u8
  have hl : (Cm.encB x).length ≤ 524298 := by have := (Cm.enc_len x.length).1; rw [Cm.encB_len]; omega
  have HX := Lib.hid hx
  have HS := Lib.hid h
  have hx1 : ¬ (524288 : Int) < (x.length : Int) := by omega
  clear hx h
  go_enter Tryz.func33, Tryz.ntmps33
  go_wp2_with fail
  refine (Cb.putbytes_any X _ _ 0 x.length [] x _ (Sl.nil _ _ _) HS.out (by omega) (by have := HX.out; omega)).mono ?_
  rintro e w1 ⟨v1, rfl, ho1, hb1⟩
  obtain ⟨A1, c1, rfl⟩ := own_shape ho1
  rw [List.nil_append] at ho1
  have HO := Lib.hid ho1
  have HB := Lib.hid hb1
  clear ho1 hb1
  rw [List.nil_append]
  go_wp2_with fail
  refine (sumform_any _ (fun _ => False) A1 c1 (Cm.encB x) (Sl.of_own HO.out (fun _ _ _ h => h))).mono ?_
  rintro e w2 ⟨A2, rfl, hs2, hb2⟩
  have HS2 := Lib.hid hs2
  have HB2 := Lib.hid hb2
  clear hs2 hb2
  go_wp2_with (at_builtin; refine wpList_append_sh _ rfl (.tmp 10) (.tmp 12) _ rfl w.heap.size 5 i0 _ 1 1 Tryz.underlying32 hi0 hz0 hz1 hz2 rfl (by omega) _ _ _ rfl (own_below HO.out HB2.out) (fun k => k < w1.heap.size) _ 4 (BVs (le4 (sum (Cm.encB x)))) rfl HS2.out (BVs_one _) (by simp only [maxLen]; omega) (by omega) (by have := HB.out.size; have := HB2.out.size; omega) ?_; intro A3 c3 w3 happ)
  go_ret2
  have hf : (frame x).length = (Cm.encB x).length + 4 := by simp [frame, le4_len]
  rw [hf]
  refine ⟨A3, c3, rfl, ?_, ?_⟩
  · have := happ.1
    rw [← BVs_app] at this
    exact this
  · exact (HB.out.trans (HB2.out.mono HB.out.size)).grown happ.2.1 (by have := HB.out.size; have := HB2.out.size; omega) (fun g hg => (HO.out.lt g hg).1)

end Go.Proofs.YtjjfhbbaabakmaaGreatDoor.Wb

/-
  Contracts of layer 4's frames: what bytes begin with; a head's number.
-/
namespace Go.Proofs.YtjjfhbbaabakmaaGreatDoor.Wd
set_option linter.unusedSimpArgs false
open Go Go.RowKit Ck Kw Ga Wc Wf Wa Wb
attribute [local go_sem ↓] Go.wp_at_zero Go.wp_at_succ
set_option linter.unusedVariables false

/-- The length with which bytes begin, where its form ends, where the record ends. -/
def nOf (b : Bs) : Nat := (Cm.numS (b, 0) 524288).1
def eOf (b : Bs) : Int := (Cm.numS (b, 0) 524288).2.2
def begOf (b : Bs) : Nat := (Cm.enc (nOf b)).length
def isOf (b : Bs) : Bool := decide (eOf b = 0) && decide (begOf b + nOf b + 4 ≤ b.length)
theorem nOf_le (b : Bs) : nOf b ≤ 524288 := Cm.numS_le _ _
theorem enc_max : (Cm.enc 524288).length = 3 := by rfl

set_option maxRecDepth 100000 in
set_option maxHeartbeats 1000000 in
theorem bounds_any (w : World) (X : Nat → Prop) (A : Option Addr) (c : Nat) (b : Bs) (h : Sl w X 1 (.slice A b.length c) b.length (BVs b)) (hb : b.length ≤ 140737488355328) :
    Calls Tryz.prog 114 #[.slice A b.length c] w fun e w' => e = .returned (.tuple #[.int .i64 (begOf b : Int), .int .i64 ((begOf b + nOf b : Nat) : Int), .bool (isOf b)]) ∧ Below w.heap.size w w' := by
  have hc : b.length ≤ c := by obtain ⟨A0, c0, hv, _, hc, _⟩ := h; injection hv with _ _ e; omega
  have hm : (min (b.length : Int) 3) = ((min b.length 3 : Nat) : Int) := by omega
  have hsl : ∀ W, (Instr.slice 32 (.slice A b.length c) none (some (.int .i64 (min (b.length : Int) 3))) none).run Tryz.prog W = .ok (.slice A (min b.length 3) c) W := fun W => by rw [hm]; exact slice_upto A b.length c _ (by omega) W
  have ht : b.take 3 = b.take (min b.length 3) := by
    rcases Nat.le_total b.length 3 with h1 | h1
    · rw [Nat.min_eq_left h1, List.take_of_length_le h1, List.take_of_length_le (Nat.le_refl _)]
    · rw [Nat.min_eq_right h1]
  have hs3 : Sl w X 1 (.slice A (min b.length 3) c) (min b.length 3) (BVs (b.take 3)) := by
    rw [ht, show BVs (b.take (min b.length 3)) = (BVs b).take (min b.length 3 * 1) by simp [BVs]]
    exact h.upto (by omega)
  obtain ⟨n1, n2⟩ := num_cut b
  have hn := nOf_le b
  have hbeg := Cm.enc_len (nOf b)
  have hbg : begOf b ≤ 10 := hbeg.1
  have HS3 := Lib.hid hs3
  have HN1 : Hid ((Cm.numS (b.take 3, 0) 524288).1 = nOf b) := Lib.hid n1
  have HN2 : Hid ((Cm.numS (b.take 3, 0) 524288).2.2 = 0 ↔ eOf b = 0) := Lib.hid n2
  clear hc hm ht hs3 n1 n2 h hbeg
  have H3 := Lib.hid enc_max
  go_enter Tryz.func114, Tryz.ntmps114
  go_wp2_with fail
  refine (Cb.numlen_any 524288 (by omega) _).mono ?_
  rintro e w1 ⟨rfl, hb1⟩
  rw [H3.out]
  have HB1 := Lib.hid hb1
  clear hb1
  go_wp2_with fail
  refine (Ch.read_any _ X _ (min b.length 3) (b.take 3) (HS3.out.after HB1.out) (by omega)).mono ?_
  rintro e w2 ⟨g, rfl, hr2, hg2, hb2⟩
  have HR2 := Lib.hid hr2
  have HG2 := Lib.hid hg2
  have HB2 := Lib.hid (HB1.out.trans (hb2.mono HB1.out.size))
  have HB12 := Lib.hid hb2
  clear hr2 hg2 hb2
  go_wp2_with fail
  refine (Cg.num_any _ _ g _ HR2.out 524288).mono ?_
  rintro e w3 ⟨rfl, hg3, hr3⟩
  rw [HN1.out]
  have hlt := HR2.out.lt
  have HB3 : Hid (Below w.heap.size w w3) := Lib.hid (HB2.out.grown hg3 HB2.out.size (fun k hk => by injection hk with hk; subst hk; have := HG2.out; have := HB1.out.size; omega))
  have HR3 := Lib.hid hr3
  clear hg3 hr3 hlt
  go_wp2_with fail
  refine (Cb.numlen_any (nOf b) (by omega) _).mono ?_
  rintro e w4 ⟨rfl, hb4⟩
  have HB4 := Lib.hid hb4
  clear hb4
  rw [show ((Cm.enc (nOf b)).length : Int) = (begOf b : Int) from rfl]
  obtain ⟨A3, n3, c3, hblk, _, _⟩ := HR3.out
  have HBK := Lib.hid (Blk.below hblk HB4.out (Blk.lt hblk))
  clear hblk
  by_cases he : eOf b = 0
  · have h0 : (Cm.numS (b.take 3, 0) 524288).2.2 = 0 := HN2.out.2 he
    have hi : isOf b = decide (begOf b + nOf b + 4 ≤ b.length) := by simp [isOf, he]
    rw [h0] at HBK
    clear h0
    by_cases hl : begOf b + nOf b + 4 ≤ b.length
    · have hi2 : isOf b = true := by rw [hi]; simpa using hl
      have HI := Lib.hid hi2
      have HD := Lib.hid (decide_eq_true (show (begOf b : Int) + (nOf b : Int) + 4 ≤ (b.length : Int) by omega))
      clear hi hi2 he
      go_wp2_with (go_at_call 118; refine (Ce.err_blk _ g _ 0 HBK.out).mono ?_; rintro e w5 ⟨rfl, rfl⟩)
      go_ret3
      exact ⟨by rw [HI.out, ← HD.out]; rfl, HB3.out.trans (HB4.out.mono HB3.out.size)⟩
    · have hi2 : isOf b = false := by rw [hi]; simpa using hl
      have HI := Lib.hid hi2
      have HD := Lib.hid (decide_eq_false (show ¬ (begOf b : Int) + (nOf b : Int) + 4 ≤ (b.length : Int) by omega))
      clear hi hi2 he
      go_wp2_with (go_at_call 118; refine (Ce.err_blk _ g _ 0 HBK.out).mono ?_; rintro e w5 ⟨rfl, rfl⟩)
      go_ret3
      exact ⟨by rw [HI.out, ← HD.out]; rfl, HB3.out.trans (HB4.out.mono HB3.out.size)⟩
  · have h0 : (Cm.numS (b.take 3, 0) 524288).2.2 ≠ 0 := fun h => he (HN2.out.1 h)
    have hi2 : isOf b = false := by simp [isOf, he]
    have HI := Lib.hid hi2
    generalize (Cm.numS (b.take 3, 0) 524288).2.2 = er at HBK h0
    have h1 : (er == 0) = false := by rw [beq_eq_false_iff_ne]; exact h0
    clear hi2 he h0
    go_wp2_with (go_at_call 118; refine (Ce.err_blk _ g _ er HBK.out).mono ?_; rintro e w5 ⟨rfl, rfl⟩)
    go_ret3
    exact ⟨by rw [HI.out]; rfl, HB3.out.trans (HB4.out.mono HB3.out.size)⟩

theorem BVs_mid (b : Bs) (l h : Nat) : BVs ((b.drop l).take (h - l)) = ((BVs b).drop (l * 1)).take ((h - l) * 1) := by simp [BVs]
/-- A cut from l up to h of a slice of bytes. -/
theorem cut_mid (w : World) (X : Nat → Prop) (A : Option Addr) (c l h : Nat) (b : Bs) (hs : Sl w X 1 (.slice A b.length c) b.length (BVs b)) (hl : l ≤ h) (hh : h ≤ b.length) :
    ∃ A', (∀ (W : World) (y z : Int), y = (l : Int) → z = (h : Int) → (Instr.slice 32 (.slice A b.length c) (some (.int .i64 y)) (some (.int .i64 z)) none).run Tryz.prog W = .ok (.slice A' (h - l) (c - l)) W) ∧ Sl w X 1 (.slice A' (h - l) (c - l)) (h - l) (BVs ((b.drop l).take (h - l))) := by
  have hc : b.length ≤ c := by obtain ⟨A0, c0, hv, _, hc, _⟩ := hs; injection hv with _ _ e; omega
  have he : ∀ W : World, (sizeOf (Tryz.prog.elem 32)).run Tryz.prog W = .ok 1 W := fun _ => by kernel_rfl
  refine ⟨if c = l then A else A.map (·.add (l * 1)), fun W y z hy hz => ?_, ?_⟩
  · subst hy; subst hz
    rw [run_slice_lh W 32 A b.length c (by kernel_rfl) .i64 .i64 l h (by omega) (by omega) (by omega), he]
    rfl
  · by_cases e : c = l
    · have e1 : h - l = 0 := by omega
      rw [e1, e]
      simp only [List.take_zero, BVs, List.map_nil, Nat.sub_self]
      exact ⟨_, _, rfl, rfl, Nat.le_refl _, Nat.zero_le _, fun h0 => absurd h0 (by omega)⟩
    · rw [if_neg e, BVs_mid]
      have h1 := (hs.cut (i := l) (by omega) (A.map (·.add (l * 1))) (fun ad hA _ => by rw [hA]; rfl))
      exact h1.upto (j := h - l) (by omega)

theorem sumform_at (w : World) (X : Nat → Prop) (A : Option Addr) (c n : Nat) (l : Bs) (hn : l.length = n) (h : Sl w X 1 (.slice A n c) n (BVs l)) :
    Calls Tryz.prog 62 #[.slice A n c] w fun e w' => ∃ A', e = .returned (.slice A' 4 4) ∧ Sl w' (fun k => k < w.heap.size) 1 (.slice A' 4 4) 4 (BVs (le4 (sum l))) ∧ Below w.heap.size w w' := by
  subst hn
  exact sumform_any w X A c l h
/-- What Unframe answers. -/
def Unframed (w : World) (x : Bs) (e : Ending) (w' : World) : Prop :=
  ∃ A c, e = .returned (.tuple #[.slice A x.length c, .int .i64 ((frame x).length : Int), .bool true]) ∧ w'.ownsRow w.heap.size 5 1 (.slice A x.length c) x.length (BVs x) ∧ Below w.heap.size w w'

theorem fr_parts {b x r : Bs} (h : Fr b x r) : nOf b = x.length ∧ eOf b = 0 ∧ begOf b + x.length + 4 = (frame x).length ∧ isOf b = true ∧ (b.drop (begOf b)).take x.length = x ∧ le4 (sum (b.take (begOf b + x.length))) = (b.drop (begOf b + x.length)).take 4 ∧ (frame x).length ≤ b.length := by
  have h0 := num_fr h
  have h1 : nOf b = x.length := by unfold nOf; rw [h0]
  have h2 : eOf b = 0 := by unfold eOf; rw [h0]
  have h3 : begOf b + x.length + 4 = (frame x).length := by unfold begOf; rw [h1, frame_len]
  obtain ⟨g1, g2, g3⟩ := fr_iff.1 ⟨x, r, h⟩
  have h4 : (frame x).length ≤ b.length := by rw [h.1, List.length_append]; omega
  refine ⟨h1, h2, h3, ?_, ?_, ?_, h4⟩
  · unfold isOf
    rw [h2, h1, h3]
    simp [h4]
  · have hb : begOf b = (Cm.enc x.length).length := by unfold begOf; rw [h1]
    rw [hb, h.1]
    unfold frame Cm.encB
    rw [List.append_assoc, List.append_assoc, List.drop_left, List.take_left]
  · have g3' : le4 (sum (b.take (begOf b + nOf b))) = (b.drop (begOf b + nOf b)).take 4 := g3
    rw [h1] at g3'
    exact g3'

set_option maxRecDepth 100000 in
set_option maxHeartbeats 2000000 in
theorem unframe_yes (w : World) (X : Nat → Prop) (A : Option Addr) (c : Nat) (b x r : Bs) (h : Sl w X 1 (.slice A b.length c) b.length (BVs b)) (hb : b.length ≤ 140737488355328) (hf : Fr b x r) :
    Calls Tryz.prog 88 #[.slice A b.length c] w fun e w' => Unframed w x e w' := by
  obtain ⟨p1, p2, p3, p4, p5, p6, p7⟩ := fr_parts hf
  have hx := hf.2
  obtain ⟨bg, hbg⟩ : ∃ bg, bg = begOf b := ⟨_, rfl⟩
  obtain ⟨en, hen⟩ : ∃ en, en = begOf b + nOf b := ⟨_, rfl⟩
  have hB := bounds_any w X A c b h hb
  have hc : b.length ≤ c := by obtain ⟨A0, c0, hv, _, hc, _⟩ := h; injection hv with _ _ e; omega
  rw [← hen, ← hbg, p4] at hB
  rw [← hbg] at p3 p5 p6
  rw [p1, ← hbg] at hen
  have hHB := Lib.hid hB
  have hut := fun W => slice_upto A b.length c en (by omega) W
  have sut : Sl w X 1 (.slice A (b.take en).length c) (b.take en).length (BVs (b.take en)) := by
    rw [List.length_take, Nat.min_eq_left (by omega), show BVs (b.take en) = (BVs b).take (en * 1) by simp [BVs]]
    exact h.upto (by omega)
  rw [List.length_take, Nat.min_eq_left (show en ≤ b.length by omega)] at sut
  obtain ⟨A1, r1, s1⟩ := cut_mid w X A c bg en b h (by omega) (by omega)
  obtain ⟨A2, r2, s2⟩ := cut_mid w X A c en (en + 4) b h (by omega) (by omega)
  have k1 := fun W => r1 W _ _ rfl rfl
  have k2 := fun W => r2 W en (en + 4) rfl (by omega)
  rw [show en - bg = x.length by omega, p5] at s1
  rw [show en + 4 - en = 4 by omega] at s2 k2
  rw [← hen] at p6
  rw [← p6] at s2
  have HP3 := Lib.hid (show (frame x).length = en + 4 by omega)
  have HE := Lib.hid (show en - bg = x.length by omega)
  have HS1 := Lib.hid s1
  have HS2 := Lib.hid s2
  have HST := Lib.hid sut
  have HTL : Hid ((b.take en).length = en) := Lib.hid (by rw [List.length_take]; omega)
  rw [HE.out] at k1
  have hxl : x.length ≤ 524288 := hx
  have he2 : en ≤ 524302 := by have := (Cm.enc_len (nOf b)).1; have : bg = (Cm.enc (nOf b)).length := hbg; omega
  have hw4 : IntKind.i64.wrap ((en : Int) + 4) = (en : Int) + 4 := wrap64 (by omega) (by omega)
  clear p1 p2 p3 p4 p5 p6 p7 hf hx hbg hen hB s1 s2 sut r1 r2 h
  go_enter Tryz.func88, Tryz.ntmps88
  go_wp2_with fail
  refine hHB.out.mono ?_
  rintro e w1 ⟨rfl, hb1⟩
  have HB1 := Lib.hid hb1
  clear hb1
  go_wp2_with fail
  go_region_held3 (fun _ => True) (trivial)
    (first
    | (go_at_call 62; refine (sumform_at _ X A c en (b.take en) HTL.out (HST.out.after HB1.out).drew).mono ?_; rintro e w2 ⟨A3, rfl, hs3, hb2⟩; have HS3 := Lib.hid hs3; have HB2 : Hid (Below w1.heap.size w1 w2) := Lib.hid (below_of_drew hb2); clear hs3 hb2)
    | (go_at_call 31; refine (equal_any _ _ _ _ _ 4 4 _ _ HS3.out ((HS2.out.after HB1.out).after HB2.out)).mono ?_; rintro e w' ⟨rfl, rfl⟩))
  have HB12 : Hid (Below w.heap.size w w2) := Lib.hid (HB1.out.trans (HB2.out.mono HB1.out.size))
  go_wp2_with fail
  refine (clone_sh X _ x.length x _ (HS1.out.after HB12.out) (by omega)).mono ?_
  rintro e w3 ⟨A4, c4, rfl, ho4, hb4⟩
  have HO4 := Lib.hid ho4
  have HB4 := Lib.hid hb4
  clear ho4 hb4
  go_wp2_with fail
  go_ret3
  exact ⟨A4, c4, by rw [HP3.out]; rfl, own_base HO4.out HB12.out.size, HB12.out.trans (HB4.out.mono HB12.out.size)⟩

set_option maxRecDepth 100000 in
set_option maxHeartbeats 2000000 in
theorem unframe_no (w : World) (X : Nat → Prop) (A : Option Addr) (c : Nat) (b : Bs) (h : Sl w X 1 (.slice A b.length c) b.length (BVs b)) (hb : b.length ≤ 140737488355328) (hf : ∀ x r, ¬ Fr b x r) :
    Calls Tryz.prog 88 #[.slice A b.length c] w fun e w' => e = .returned (.tuple #[.slice none 0 0, .int .i64 0, .bool false]) ∧ Below w.heap.size w w' := by
  have hnl := nOf_le b
  have hbl : begOf b ≤ 10 := (Cm.enc_len (nOf b)).1
  have hB := bounds_any w X A c b h hb
  obtain ⟨bg, hbg⟩ : ∃ bg, bg = begOf b := ⟨_, rfl⟩
  obtain ⟨en, hen⟩ : ∃ en, en = begOf b + nOf b := ⟨_, rfl⟩
  have hc : b.length ≤ c := by obtain ⟨A0, c0, hv, _, hc, _⟩ := h; injection hv with _ _ e; omega
  rw [← hen, ← hbg] at hB
  by_cases hi : isOf b = true
  · have hi2 := hi
    unfold isOf at hi2
    simp only [Bool.and_eq_true, decide_eq_true_eq] at hi2
    have hq : (le4 (sum (b.take en)) == (b.drop en).take 4) = false := by
      rw [beq_eq_false_iff_ne]
      intro e
      rw [hen] at e
      obtain ⟨x, r, hx⟩ := fr_iff.2 ⟨hi2.1, hi2.2, e⟩
      exact hf x r hx
    rw [hi] at hB
    have hHB := Lib.hid hB
    have hut := fun W => slice_upto A b.length c en (by omega) W
    have sut : Sl w X 1 (.slice A (b.take en).length c) (b.take en).length (BVs (b.take en)) := by
      rw [List.length_take, Nat.min_eq_left (by omega), show BVs (b.take en) = (BVs b).take (en * 1) by simp [BVs]]
      exact h.upto (by omega)
    rw [List.length_take, Nat.min_eq_left (show en ≤ b.length by omega)] at sut
    obtain ⟨A2, r2, s2⟩ := cut_mid w X A c en (en + 4) b h (by omega) (by omega)
    have k2 := fun W => r2 W en (en + 4) rfl (by omega)
    rw [show en + 4 - en = 4 by omega] at s2 k2
    have HS2 := Lib.hid s2
    have HST := Lib.hid sut
    have HTL : Hid ((b.take en).length = en) := Lib.hid (by rw [List.length_take]; omega)
    have HQ := Lib.hid hq
    have he2 : en ≤ 524302 := by omega
    have hw4 : IntKind.i64.wrap ((en : Int) + 4) = (en : Int) + 4 := wrap64 (by omega) (by omega)
    clear hbg hen hB s2 sut r2 h hi hi2 hq hnl hbl hf
    go_enter Tryz.func88, Tryz.ntmps88
    go_wp2_with fail
    refine hHB.out.mono ?_
    rintro e w1 ⟨rfl, hb1⟩
    have HB1 := Lib.hid hb1
    clear hb1
    go_wp2_with fail
    go_region_held3 (fun _ => True) (trivial)
      (first
      | (go_at_call 62; refine (sumform_at _ X A c en (b.take en) HTL.out (HST.out.after HB1.out).drew).mono ?_; rintro e w2 ⟨A3, rfl, hs3, hb2⟩; have HS3 := Lib.hid hs3; have HB2 : Hid (Below w1.heap.size w1 w2) := Lib.hid (below_of_drew hb2); clear hs3 hb2)
      | (go_at_call 31; refine (equal_any _ _ _ _ _ 4 4 _ _ HS3.out ((HS2.out.after HB1.out).after HB2.out)).mono ?_; rintro e w' ⟨rfl, rfl⟩; rw [HQ.out]))
    go_wp2_with fail
    go_ret3
    exact ⟨rfl, HB1.out.trans (HB2.out.mono HB1.out.size)⟩
  · have hi : isOf b = false := by simpa using hi
    rw [hi] at hB
    have hHB := Lib.hid hB
    clear hbg hen hB h hi hnl hbl hf
    go_enter Tryz.func88, Tryz.ntmps88
    go_wp2_with fail
    refine hHB.out.mono ?_
    rintro e w1 ⟨rfl, hb1⟩
    have HB1 := Lib.hid hb1
    clear hb1
    go_wp2_with fail
    go_quiet (fail)
    go_wp2_with fail
    go_ret3
    exact ⟨rfl, below_drewN HB1.out _⟩

end Go.Proofs.YtjjfhbbaabakmaaGreatDoor.Wd

/-
  Plain mathematics of layer 4 (wal): the names of a log's files.
-/
namespace Go.Proofs.YtjjfhbbaabakmaaGreatDoor.Wn
set_option linter.unusedSimpArgs false
set_option linter.unusedVariables false
open Go.Lib Wf

/-- A segment's name. -/
def nm (name : Bs) (k : Nat) : Bs := name ++ [46] ++ decDigits k
theorem parse_app (M : Nat) : ∀ (l : Bs) (acc : Nat) (c : UInt8), parseUintM M acc (l ++ [c]) = match parseUintM M acc l with | .ok a => parseUintM M a [c] | r => r
  | [], acc, c => rfl
  | d :: l, acc, c => by
    rw [List.cons_append]
    unfold parseUintM
    split
    · split
      · rfl
      · split
        · rfl
        · exact parse_app M l _ c
    · rfl
theorem u8_of {n : Nat} (h : n < 256) : (UInt8.ofNat n).toNat = n := Cm.toNat_ofNat h
theorem parse_dec : ∀ (n k : Nat), k ≤ n → k < 1000000000000000 → parseUintM 18446744073709551615 0 (decDigits k) = .ok k
  | n, k, hn, hk => by
    rw [decDigits]
    split
    · rename_i h
      simp only [parseUintM]
      rw [u8_of (by omega), if_pos ⟨by omega, by omega⟩, if_neg (by omega), if_neg (by omega)]
      congr 1
      omega
    · rename_i h
      cases n with
      | zero => omega
      | succ n =>
        rw [parse_app, parse_dec n (k / 10) (by omega) (by omega)]
        simp only [parseUintM]
        rw [u8_of (by omega), if_pos ⟨by omega, by omega⟩, if_neg (by omega), if_neg (by omega)]
        congr 1
        omega
theorem dec_ne : ∀ (n k : Nat), k ≤ n → ∃ c l, decDigits k = c :: l ∧ 48 ≤ c.toNat ∧ c.toNat ≤ 57
  | n, k, hn => by
    rw [decDigits]
    split
    · rename_i h
      exact ⟨_, [], rfl, by rw [u8_of (by omega)]; omega, by rw [u8_of (by omega)]; omega⟩
    · rename_i h
      cases n with
      | zero => omega
      | succ n =>
        obtain ⟨c, l, e, h1, h2⟩ := dec_ne n (k / 10) (by omega)
        rw [e]
        exact ⟨c, _, rfl, h1, h2⟩
theorem parse_int {k : Nat} (h : k < 1000000000000000) : parseIntB 64 (decDigits k) = .ok (k : Int) := by
  obtain ⟨c, l, e, h1, h2⟩ := dec_ne k k (Nat.le_refl _)
  have hp := parse_dec k k (Nat.le_refl _) h
  rw [e] at hp ⊢
  unfold parseIntB
  simp only
  rw [if_neg (by omega)]
  have : parseUintB 64 (c :: l) = .ok k := by
    unfold parseUintB
    rw [if_neg (by simp)]
    exact hp
  rw [this]
  simp only
  rw [if_neg (by omega), if_neg (by omega), if_neg (by omega)]
theorem dec_inj {a b : Nat} (ha : a < 1000000000000000) (hb : b < 1000000000000000) (h : decDigits a = decDigits b) : a = b := by
  have h1 := parse_dec a a (Nat.le_refl _) ha
  have h2 := parse_dec b b (Nat.le_refl _) hb
  rw [h, h2] at h1
  injection h1 with h1
  exact h1.symm
theorem nm_inj {name : Bs} {a b : Nat} (ha : a < 1000000000000000) (hb : b < 1000000000000000) (h : nm name a = nm name b) : a = b := by
  unfold nm at h
  exact dec_inj ha hb (List.append_cancel_left h)
theorem dec_len {k : Nat} : ∀ (n : Nat), k < 10 ^ (n + 1) → (decDigits k).length ≤ n + 1
  | 0, h => by rw [decDigits_one (by simpa using h)]; simp
  | n + 1, h => by
    rw [decDigits]
    split
    · simp
    · have hd : k / 10 < 10 ^ (n + 1) := by rw [Nat.pow_succ] at h; omega
      have := dec_len (k := k / 10) n hd
      simp only [List.length_append, List.length_cons, List.length_nil]
      omega
theorem nm_len {name : Bs} {k : Nat} (hk : k < 1000000000000000) : (nm name k).length ≤ name.length + 16 := by
  have := dec_len (k := k) 14 (by omega)
  unfold nm
  simp only [List.length_append, List.length_cons, List.length_nil]
  omega
theorem nm_ne (name : Bs) (k : Nat) : nm name k ≠ [] := by
  unfold nm
  intro h
  have := congrArg List.length h
  simp at this

end Go.Proofs.YtjjfhbbaabakmaaGreatDoor.Wn

/-
  Plain mathematics of layer 3 (disk): lists of files, what each call makes of them and answers.
-/
namespace Go.Proofs.YtjjfhbbaabakmaaGreatDoor.Dm
set_option linter.unusedSimpArgs false
set_option linter.unusedVariables false

abbrev Tx := List UInt8
/-- A file: its name, its bytes, how many of them are sure. -/
structure Fl where
  n : Tx
  b : Tx
  d : Nat

/-- The file of a name. -/
def find (L : List Fl) (s : Tx) : Option Fl := L.find? (fun f => f.n == s)
def isIn (L : List Fl) (s : Tx) : Bool := L.any (fun f => f.n == s)
/-- The file of that name, put otherwise. -/
def upd (L : List Fl) (s : Tx) (g : Fl → Fl) : List Fl := L.map (fun f => if f.n = s then g f else f)
def del (L : List Fl) (s : Tx) : List Fl := L.filter (fun f => !(f.n == s))
/-- A file more, where its name stands. -/
def ins (x : Fl) : List Fl → List Fl
  | [] => [x]
  | f :: L => if f.n < x.n then f :: ins x L else x :: f :: L
def used : List Fl → Nat
  | [] => 0
  | f :: L => f.b.length + used L
/-- What a crash leaves of a file. -/
def tear (k : Nat) (f : Fl) : Fl := { n := f.n, b := f.b.take (f.d + k % (f.b.length - f.d + 1)), d := f.d + k % (f.b.length - f.d + 1) }
def size (z : Int) : Nat := if z = -9223372036854775808 then 0 else z.natAbs

theorem find_some {L : List Fl} {s : Tx} {f : Fl} (h : find L s = some f) : f ∈ L ∧ f.n = s := by
  unfold find at h
  exact ⟨List.mem_of_find?_eq_some h, by simpa using List.find?_some h⟩
theorem find_none {L : List Fl} {s : Tx} (h : find L s = none) : ∀ f ∈ L, f.n ≠ s := by
  intro f hf e
  unfold find at h
  rw [List.find?_eq_none] at h
  exact h f hf (by simpa using e)
theorem isIn_iff {L : List Fl} {s : Tx} : isIn L s = true ↔ ∃ f ∈ L, f.n = s := by
  simp [isIn]
theorem isIn_find {L : List Fl} {s : Tx} : isIn L s = (find L s).isSome := by
  cases h : find L s with
  | none =>
    simp only [Option.isSome_none]
    cases hi : isIn L s with
    | false => rfl
    | true =>
      obtain ⟨f, hf, e⟩ := isIn_iff.1 hi
      exact absurd e (find_none h f hf)
  | some f =>
    simp only [Option.isSome_some]
    exact isIn_iff.2 ⟨f, (find_some h).1, (find_some h).2⟩
theorem used_map {L : List Fl} {g : Fl → Fl} (h : ∀ f ∈ L, (g f).b.length ≤ f.b.length) : used (L.map g) ≤ used L := by
  induction L with
  | nil => exact Nat.le_refl _
  | cons f L ih =>
    simp only [List.map_cons, used]
    have := h f (by simp)
    have := ih (fun x hx => h x (by simp [hx]))
    omega
theorem used_mem {L : List Fl} {f : Fl} (h : f ∈ L) : f.b.length ≤ used L := by
  induction L with
  | nil => cases h
  | cons g L ih =>
    simp only [used]
    rcases List.mem_cons.1 h with rfl | h
    · omega
    · have := ih h
      omega
/-- No two files have one name, and each name is one that may be. -/
structure GoodL (L : List Fl) (room : Nat) : Prop where
  nodup : (L.map (·.n)).Nodup
  few : L.length ≤ 64
  fits : used L ≤ room
  room : room ≤ 4194304
  name : ∀ f ∈ L, f.n.length ≤ 140737488355328
  done : ∀ f ∈ L, f.d ≤ f.b.length
theorem GoodL.len {L : List Fl} {room : Nat} (h : GoodL L room) {f : Fl} (hf : f ∈ L) : f.b.length ≤ 4194304 := by
  have := used_mem hf
  have := h.fits
  have := h.room
  omega
theorem nodup_eq {L : List Fl} (h : (L.map (·.n)).Nodup) {f g : Fl} (hf : f ∈ L) (hg : g ∈ L) (e : f.n = g.n) : f = g := by
  induction L with
  | nil => cases hf
  | cons x L ih =>
    rw [List.map_cons, List.nodup_cons] at h
    rcases List.mem_cons.1 hf with h1 | h1
    · rcases List.mem_cons.1 hg with h2 | h2
      · rw [h1, h2]
      · exact absurd (List.mem_map.2 ⟨g, h2, by rw [← e, h1]⟩) h.1
    · rcases List.mem_cons.1 hg with h2 | h2
      · exact absurd (List.mem_map.2 ⟨f, h1, by rw [e, h2]⟩) h.1
      · exact ih h.2 h1 h2
theorem find_of {L : List Fl} {f : Fl} (h : (L.map (·.n)).Nodup) (hf : f ∈ L) : find L f.n = some f := by
  cases e : find L f.n with
  | none => exact absurd rfl (find_none e f hf)
  | some g => exact congrArg some (nodup_eq h (find_some e).1 hf (find_some e).2)
theorem map_names {L : List Fl} {g : Fl → Fl} (h : ∀ f, (g f).n = f.n) : (L.map g).map (·.n) = L.map (·.n) := by
  rw [List.map_map]
  exact List.map_congr_left (fun f _ => h f)
theorem upd_names {L : List Fl} {s : Tx} {g : Fl → Fl} (h : ∀ f, (g f).n = f.n) : (upd L s g).map (·.n) = L.map (·.n) := by
  unfold upd
  refine map_names (fun f => ?_)
  split
  · exact h f
  · rfl

end Go.Proofs.YtjjfhbbaabakmaaGreatDoor.Dm

/-
  Words for memory, for layer 3 (disk): a file, the program's disk.
-/
namespace Go.Proofs.YtjjfhbbaabakmaaGreatDoor.Dw
set_option linter.unusedSimpArgs false
set_option linter.unusedVariables false
open Go Go.RowKit Ck Kw Dm

/-- How a pointer to a block reads: that block's number. -/
def ptrElem (v : Value) : Option (DataW Unit × List MemPlace) :=
  match v with
  | .pointer none => some (.nil, [])
  | .pointer (some ⟨g, 0, none⟩) => some (.lit (.int .i64 (g : Int)), [])
  | _ => none
theorem ptrElem_mk (g : Nat) : ptrElem (.pointer (some ⟨g, 0, none⟩)) = some (.lit (.int .i64 (g : Int)), []) := rfl
theorem ptrElem_nil : ptrElem (.pointer none) = some (.nil, []) := rfl
/-- Any pointer that reads. -/
def PV (o : Option Nat) : Value := .pointer (o.map fun g => ⟨g, 0, none⟩)
theorem ptrElem_inv {v : Value} {z : DataW Unit × List MemPlace} (h : ptrElem v = some z) : ∃ o, v = PV o ∧ z = ((match o with | none => .nil | some g => .lit (.int .i64 ((g : Nat) : Int))), []) := by
  unfold ptrElem at h
  split at h
  · injection h with h
    exact ⟨none, rfl, h.symm⟩
  · rename_i g
    injection h with h
    exact ⟨some g, rfl, h.symm⟩
  · cases h
theorem ptrElem_at {v : Value} {g : Nat} {ps : List MemPlace} (h : ptrElem v = some (.lit (.int .i64 (g : Int)), ps)) : v = .pointer (some ⟨g, 0, none⟩) := by
  obtain ⟨o, rfl, hz⟩ := ptrElem_inv h
  have h1 := congrArg Prod.fst hz
  cases o with
  | none => simp at h1
  | some k =>
    simp at h1
    have : k = g := by omega
    subst this
    rfl

/-- Block g is a file of these bytes, so many of them sure; all its blocks are in T. -/
def Fw (w : World) (T : Nat → Prop) (g : Nat) (b : Tx) (d : Nat) : Prop :=
  ∃ v, Blk w g 87 #[v, .int .i64 (d : Int)] ∧ w.ownsRow 0 5 1 v b.length (BVs b) ∧ T g ∧ (∀ k, v.ownBlock = some k → T k) ∧ b.length ≤ 4194304 ∧ d ≤ b.length
section
variable {w w' : World} {S T : Nat → Prop} {g d : Nat} {b : Tx}
theorem Fw.ch (h : Fw w T g b d) (c : Ch S w w') (hd : ∀ k, T k → S k → False) : Fw w' T g b d := by
  obtain ⟨v, h1, h2, h3, h4, h5, h6⟩ := h
  exact ⟨v, h1.ch c (fun hs => hd _ h3 hs), own_ch h2 c (fun k hk hs => hd _ (h4 k hk) hs), h3, h4, h5, h6⟩
theorem Fw.weaken (h : Fw w S g b d) (hd : ∀ k, S k → T k) : Fw w T g b d := by
  obtain ⟨v, h1, h2, h3, h4, h5, h6⟩ := h
  exact ⟨v, h1, h2, hd _ h3, fun k hk => hd _ (h4 k hk), h5, h6⟩
theorem Fw.drewN (h : Fw w T g b d) (n : Nat) : Fw (w.drewN n) T g b d := h
theorem Fw.lt (h : Fw w T g b d) : g < w.heap.size := by
  obtain ⟨v, h1, -⟩ := h
  exact h1.lt
end

/-- The map's datum tells where each file lies. -/
def TellsD (D : DataW Unit) (L : List Fl) (G : Tx → Nat) : Prop :=
  (∀ s : Tx, Maps.has D (.string s) = isIn L s) ∧ ∀ f ∈ L, ∀ zd, D.atKey (.string f.n) zd = .lit (.int .i64 (G f.n : Int))

/-- The files of L lie in blocks of S, each in blocks of its own; the map's block is m. -/
def Files (w : World) (S : Nat → Prop) (m : Nat) (L : List Fl) : Prop :=
  ∃ (D : DataW Unit) (G : Tx → Nat) (T : Tx → Nat → Prop), w.ownsMap Tryz.prog 9 ptrElem m 64 D ∧ TellsD D L G ∧ S m ∧ (∀ f ∈ L, Fw w (T f.n) (G f.n) f.b f.d) ∧ (∀ f ∈ L, ∀ k, T f.n k → S k ∧ k ≠ m ∧ k < w.heap.size) ∧ ∀ f ∈ L, ∀ h ∈ L, f.n ≠ h.n → ∀ k, T f.n k → T h.n k → False
/-- Block p is a disk of these files; all its blocks are in S. -/
def Dk (w : World) (S : Nat → Prop) (p : Nat) (L : List Fl) (room : Nat) (off : Bool) : Prop :=
  ∃ m, Blk w p 59 #[.map (some m), .int .i64 (room : Int), .bool off] ∧ S p ∧ Files w (fun k => S k ∧ k ≠ p) m L ∧ GoodL L room
section
variable {w w' : World} {S T : Nat → Prop} {p m room : Nat} {L : List Fl} {off : Bool}
theorem Files.ch (h : Files w S m L) (c : Ch T w w') (hd : ∀ k, S k → T k → False) : Files w' S m L := by
  obtain ⟨D, G, F, h1, h2, h3, h4, h5, h6⟩ := h
  exact ⟨D, G, F, map_ch h1 c (fun ht => hd _ h3 ht), h2, h3, fun f hf => (h4 f hf).ch c (fun k hk ht => hd _ (h5 f hf k hk).1 ht), fun f hf k hk => ⟨(h5 f hf k hk).1, (h5 f hf k hk).2.1, Nat.lt_of_lt_of_le (h5 f hf k hk).2.2 c.size⟩, h6⟩
theorem Files.weaken (h : Files w S m L) (hd : ∀ k, S k → T k) : Files w T m L := by
  obtain ⟨D, G, F, h1, h2, h3, h4, h5, h6⟩ := h
  exact ⟨D, G, F, h1, h2, hd _ h3, h4, fun f hf k hk => ⟨hd _ (h5 f hf k hk).1, (h5 f hf k hk).2⟩, h6⟩
theorem Dk.ch (h : Dk w S p L room off) (c : Ch T w w') (hd : ∀ k, S k → T k → False) : Dk w' S p L room off := by
  obtain ⟨m, h1, h2, h3, h4⟩ := h
  exact ⟨m, h1.ch c (fun ht => hd _ h2 ht), h2, h3.ch c (fun k hk ht => hd _ hk.1 ht), h4⟩
theorem Dk.weaken (h : Dk w S p L room off) (hd : ∀ k, S k → T k) : Dk w T p L room off := by
  obtain ⟨m, h1, h2, h3, h4⟩ := h
  exact ⟨m, h1, hd _ h2, h3.weaken (fun k hk => ⟨hd _ hk.1, hk.2⟩), h4⟩
theorem Dk.drewN (h : Dk w S p L room off) (n : Nat) : Dk (w.drewN n) S p L room off := h
theorem Dk.good (h : Dk w S p L room off) : GoodL L room := by
  obtain ⟨m, -, -, -, h4⟩ := h
  exact h4
theorem Dk.later (h : Dk w S p L room off) (b : Below w.heap.size w w') : Dk w' S p L room off :=
  h.ch (Ch.of_below (S := fun _ => False) b (Nat.le_refl _)) (fun _ _ h => h)
end

theorem law_str : Maps.Keyed Tryz.prog 9 := Maps.string_keyed Tryz.underlying9
theorem zero_ptr (w : World) : (zeroValue 81).run Tryz.prog w = .ok (.pointer none) w := by kernel_rfl
theorem key_str (s : Tx) (h : s.length ≤ maxLen) : keyOf Tryz.prog 9 (.string ⟨s.toArray⟩) = some (.string s) := by
  have := _root_.Go.WideMaps.keyOf_string_mk (P := Tryz.prog) Tryz.underlying9 (s := ⟨s.toArray⟩) (show s.toArray.size ≤ maxLen by simpa using h)
  simpa using this
theorem has_atKey {H : Type} {D : DataW H} {kl : Lit} (h : Maps.has D kl = false) (zd : DataW H) : D.atKey kl zd = zd := by
  cases D <;> first | rfl | skip
  rename_i es
  simp only [Maps.has] at h
  simp only [DataW.atKey]
  cases hf : es.find? (fun e => e.1.sameKey kl) with
  | none => simp
  | some x =>
    have h1 := List.find?_some hf
    have h2 := List.mem_of_find?_eq_some hf
    rw [List.any_eq_false] at h
    exact absurd h1 (h x h2)

end Go.Proofs.YtjjfhbbaabakmaaGreatDoor.Dw

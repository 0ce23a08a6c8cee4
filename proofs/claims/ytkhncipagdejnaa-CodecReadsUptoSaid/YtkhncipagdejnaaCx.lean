/-
  The walk of the statement CodecReads: one question to a reader, and to what it must be.
-/
import Derived.Test.YtkhncipagdejnaaCw
import Derived.Deep.RegionHeld3
namespace Go.Proofs.Ytkhncipagdejnaa.Cx
open Go Go.RowKit Ck Ca Cb Cc Cd Ce Cf Cg Ch Ci Cj Cn Co Cp Cq Cr Cu Cv

/-- Both readers in one state: the program's at g1, the document's at g2. -/
def Two (w : World) (g1 g2 : Nat) (s : Cm.RS) : Prop := CR w (fun k => k = g2) g1 s ∧ RR w (fun k => k = g1) g2 s
/-- What a question leaves: the answer that both are the same; both in one state again; nothing below B has turned. -/
def Asked (B : Nat) (w : World) (g1 g2 : Nat) (s : Cm.RS) (e : Ending) (w' : World) : Prop :=
  e = .returned (.bool true) ∧ Below B w w' ∧ ∃ s' : Cm.RS, Two w' g1 g2 s' ∧ s'.1.length ≤ s.1.length

theorem Two.alloc {w : World} {g1 g2 : Nat} {s : Cm.RS} (h : Two w g1 g2 s) (o : Obj) : Two (w.alloc o) g1 g2 s :=
  ⟨h.1.after ((Below.refl _ _).alloc (Nat.le_refl _) _), h.2.after ((Below.refl _ _).alloc (Nat.le_refl _) _)⟩
theorem Two.fst {w w1 : World} {g1 g2 : Nat} {s : Cm.RS} (h : Two w g1 g2 s) (hne : g1 ≠ g2) (hg : w.grownBy w1 (some g1)) : RR w1 (fun k => k = g1) g2 s :=
  h.2.grown hg (by simpa using fun e => hne e.symm) (fun k hk _ => by injection hk with hk; exact hk.symm)
theorem Two.snd {w1 w2 : World} {g1 g2 : Nat} {s : Cm.RS} (h : CR w1 (fun k => k = g2) g1 s) (hne : g1 ≠ g2) (hg : w1.grownBy w2 (some g2)) : CR w2 (fun k => k = g2) g1 s :=
  h.grown hg (by simpa using hne) (fun k hk _ => by injection hk with hk; exact hk.symm)
theorem below_two {B : Nat} {w w1 w2 : World} {g1 g2 : Nat} (h1 : w.grownBy w1 (some g1)) (h2 : w1.grownBy w2 (some g2)) (hB1 : B ≤ g1) (hB2 : B ≤ g2) (hB : B ≤ w.heap.size) : Below B w w2 :=
  ((Below.refl B w).grown h1 hB (fun k hk => by injection hk with hk; omega)).grown h2 (Nat.le_trans hB h1.size) (fun k hk => by injection hk with hk; omega)

theorem undrew {w w1 : World} {r : Option Nat} (h : w.drew.grownBy w1 r) : w.grownBy w1 r := ⟨h.os, h.tape, h.output, h.size, h.block⟩
/-- A cell of the question's own block, behind a call that writes one reader. -/
theorem ask_cell {w w1 : World} {a g k : Nat} {v : Value} (h : w.grownBy w1 (some g)) (hc : w.cell? ⟨a, k, none⟩ = some v) (hne : a ≠ g) : w1.cell? ⟨a, k, none⟩ = some v :=
  h.cell hc (by simpa using hne)

set_option maxRecDepth 100000 in
set_option maxHeartbeats 1600000 in
theorem asks_num (B : Nat) (w : World) (g1 g2 : Nat) (s : Cm.RS) (h : Two w g1 g2 s) (hne : g1 ≠ g2) (hB1 : B ≤ g1) (hB2 : B ≤ g2) (most : Nat) (n each e0 : Int) :
    Calls Try.prog 19 #[P_ g1, P_ g2, .agg #[.int .i64 0, .int .u64 most, .int .i64 n, .int .i64 each, .int .i64 e0]] w fun e w' => Asked B w g1 g2 s e w' := by
  have hlt1 := h.1.lt
  have hlt2 := h.2.lt
  have hlen := Cm.numS_len s most
  go_enter Try.func19, Try.ntmps19
  go_wp2_with fail
  have hT := h.alloc (.cells #[.int .i64 0, .int .u64 most, .int .i64 n, .int .i64 each, .int .i64 e0] 40)
  have hc1 : (w.alloc (.cells #[.int .i64 0, .int .u64 most, .int .i64 n, .int .i64 each, .int .i64 e0] 40)).cell? ⟨w.heap.size, 1, none⟩ = some (.int .u64 most) := (Blk.new w _ _).cell 1
  have hbel : Below B w (w.alloc (.cells #[.int .i64 0, .int .u64 most, .int .i64 n, .int .i64 each, .int .i64 e0] 40)) := (Below.refl _ _).alloc (by omega) _
  have hw1 : w.heap.size ≠ g1 := by omega
  have hw2 : w.heap.size ≠ g2 := by omega
  go_region_held3 (fun w' => w'.cell? ⟨w.heap.size, 1, none⟩ = some (.int .u64 most)) (first | assumption | go_keep)
    (first
      | (go_at_call 24; refine (num_any _ (fun k => k = g2) g1 s ?_ most).mono ?_; exact hT.1; rintro e w1 ⟨rfl, hg0, hcr1⟩; have hg1 := undrew hg0; have hk1 := ask_cell hg1 hc1 hw1)
      | (go_at_call 36; refine (rnum_any _ (fun k => k = g1) g2 s ?_ most).mono ?_; exact Two.fst hT hne hg1; rintro e w2 ⟨rfl, hg2, hcr2⟩; have hk2 := ask_cell hg2 hk1 hw2))
  go_wp2
  go_ret
  exact ⟨rfl, hbel.trans (below_two hg1 hg2 hB1 hB2 (Nat.le_trans (by omega) hbel.size)), _, ⟨Two.snd hcr1 hne hg2, hcr2⟩, hlen⟩

theorem own_far {w w1 : World} {base g : Nat} {e : TypeId} {size n : Nat} {v : Value} {xs : List Value} (h : w.ownsRow base e size v n xs) (hg : w.grownBy w1 (some g)) (hb : g < base) : w1.ownsRow base e size v n xs :=
  h.kept hg (by
    have := h.lt
    cases hv : v.ownBlock with
    | none => exact .inl rfl
    | some k =>
      right
      intro e
      injection e with e
      have := (this k hv).1
      omega)

set_option maxRecDepth 100000 in
set_option maxHeartbeats 1600000 in
theorem asks_take (B : Nat) (w : World) (g1 g2 : Nat) (s : Cm.RS) (h : Two w g1 g2 s) (hne : g1 ≠ g2) (hB1 : B ≤ g1) (hB2 : B ≤ g2) (hl : s.1.length ≤ 549755813888) (most : Nat) (n each e0 : Int) :
    Calls Try.prog 19 #[P_ g1, P_ g2, .agg #[.int .i64 1, .int .u64 most, .int .i64 n, .int .i64 each, .int .i64 e0]] w fun e w' => Asked B w g1 g2 s e w' := by
  have hlt1 := h.1.lt
  have hlt2 := h.2.lt
  have hlen := Cm.takeS_len s n
  go_enter Try.func19, Try.ntmps19
  go_wp2_with fail
  have hT := h.alloc (.cells #[.int .i64 1, .int .u64 most, .int .i64 n, .int .i64 each, .int .i64 e0] 40)
  have hc2 : (w.alloc (.cells #[.int .i64 1, .int .u64 most, .int .i64 n, .int .i64 each, .int .i64 e0] 40)).cell? ⟨w.heap.size, 2, none⟩ = some (.int .i64 n) := (Blk.new w _ _).cell 2
  have hbel : Below B w (w.alloc (.cells #[.int .i64 1, .int .u64 most, .int .i64 n, .int .i64 each, .int .i64 e0] 40)) := (Below.refl _ _).alloc (by omega) _
  have hw1 : w.heap.size ≠ g1 := by omega
  have hw2 : w.heap.size ≠ g2 := by omega
  have hws : (w.alloc (.cells #[.int .i64 1, .int .u64 most, .int .i64 n, .int .i64 each, .int .i64 e0] 40)).heap.size = w.heap.size + 1 := by simp
  have HWS := Lib.hid hws
  clear hws
  go_region_held3 (fun w' => w'.cell? ⟨w.heap.size, 2, none⟩ = some (.int .i64 n)) (first | assumption | go_keep)
    (first
      | (go_at_call 28; refine (take_any _ (fun k => k = g2) g1 s ?_ n hl).mono ?_; exact hT.1; rintro e w1 ⟨v1, rfl, hown1, hg0, hcr1⟩; have hg1 := undrew hg0; have hk1 := ask_cell hg1 hc2 hw1)
      | (go_at_call 37; refine (rtake_any _ (fun k => k = g1) g2 s ?_ n hl).mono ?_; exact Two.fst hT hne hg1; rintro e w2 ⟨v2, rfl, hown2, hg2, hcr2⟩; have hk2 := ask_cell hg2 hk1 hw2; have hown1' := own_far hown1 hg2 (by have := HWS.out; simp; omega))
      | (go_at_call 9; refine (equal_same _ (fun _ => False) (fun _ => False) v1 v2 _ _ _ (Sl.of_own hown1' (fun _ _ _ h => h)) (Sl.of_own hown2 (fun _ _ _ h => h))).mono ?_; rintro e w3 ⟨rfl, rfl⟩))
  go_wp2
  go_ret
  exact ⟨rfl, hbel.trans (below_two hg1 hg2 hB1 hB2 (Nat.le_trans (by omega) hbel.size)), _, ⟨Two.snd hcr1 hne hg2, hcr2⟩, hlen⟩

set_option maxRecDepth 100000 in
set_option maxHeartbeats 1600000 in
theorem asks_bytes (B : Nat) (w : World) (g1 g2 : Nat) (s : Cm.RS) (h : Two w g1 g2 s) (hne : g1 ≠ g2) (hB1 : B ≤ g1) (hB2 : B ≤ g2) (hl : s.1.length ≤ 549755813888) (most : Nat) (n each e0 : Int) (hlo : -9223372036854775808 ≤ n) (hhi : n ≤ 9223372036854775807) :
    Calls Try.prog 19 #[P_ g1, P_ g2, .agg #[.int .i64 2, .int .u64 most, .int .i64 n, .int .i64 each, .int .i64 e0]] w fun e w' => Asked B w g1 g2 s e w' := by
  have hlt1 := h.1.lt
  have hlt2 := h.2.lt
  have hlen := Cm.bytesS_len s n
  have HLO := Lib.hid hlo
  have HHI := Lib.hid hhi
  clear hlo hhi
  go_enter Try.func19, Try.ntmps19
  go_wp2_with fail
  have hT := h.alloc (.cells #[.int .i64 2, .int .u64 most, .int .i64 n, .int .i64 each, .int .i64 e0] 40)
  have hc2 : (w.alloc (.cells #[.int .i64 2, .int .u64 most, .int .i64 n, .int .i64 each, .int .i64 e0] 40)).cell? ⟨w.heap.size, 2, none⟩ = some (.int .i64 n) := (Blk.new w _ _).cell 2
  have hbel : Below B w (w.alloc (.cells #[.int .i64 2, .int .u64 most, .int .i64 n, .int .i64 each, .int .i64 e0] 40)) := (Below.refl _ _).alloc (by omega) _
  have hw1 : w.heap.size ≠ g1 := by omega
  have hw2 : w.heap.size ≠ g2 := by omega
  have hws : (w.alloc (.cells #[.int .i64 2, .int .u64 most, .int .i64 n, .int .i64 each, .int .i64 e0] 40)).heap.size = w.heap.size + 1 := by simp
  have HWS := Lib.hid hws
  clear hws
  go_region_held3 (fun w' => w'.cell? ⟨w.heap.size, 2, none⟩ = some (.int .i64 n)) (first | assumption | go_keep)
    (first
      | (go_at_call 29; refine (bytes_any _ (fun k => k = g2) g1 s ?_ n HLO.out HHI.out hl).mono ?_; exact hT.1; rintro e w1 ⟨v1, rfl, hown1, hg0, hcr1⟩; have hg1 := undrew hg0; have hk1 := ask_cell hg1 hc2 hw1)
      | (go_at_call 38; refine (rbytes_any _ (fun k => k = g1) g2 s ?_ n HLO.out HHI.out hl).mono ?_; exact Two.fst hT hne hg1; rintro e w2 ⟨v2, rfl, hown2, hg2, hcr2⟩; have hk2 := ask_cell hg2 hk1 hw2; have hown1' := own_far hown1 hg2 (by have := HWS.out; simp; omega))
      | (go_at_call 9; refine (equal_same _ (fun _ => False) (fun _ => False) v1 v2 _ _ _ (Sl.of_own hown1' (fun _ _ _ h => h)) (Sl.of_own hown2 (fun _ _ _ h => h))).mono ?_; rintro e w3 ⟨rfl, rfl⟩))
  go_wp2
  go_ret
  exact ⟨rfl, hbel.trans (below_two hg1 hg2 hB1 hB2 (Nat.le_trans (by omega) hbel.size)), _, ⟨Two.snd hcr1 hne hg2, hcr2⟩, hlen⟩

theorem listS_len' (s : Cm.RS) (k m : Int) : (Cm.listS s k m).2.1.length ≤ s.1.length := by
  have h : ∀ (n : Nat) (s : Cm.RS) (acc : List (List UInt8)), (Cm.listA m n s acc).2.1.length ≤ s.1.length := by
    intro n
    induction n with
    | zero => intro s acc; exact Nat.le_refl _
    | succ n ih =>
      intro s acc
      rw [Cm.listA]
      split
      · exact Cm.bytesS_len s m
      · exact Nat.le_trans (ih _ _) (Cm.bytesS_len s m)
  exact Nat.le_trans (h _ _ _) (Cm.numS_len _ _)
theorem listS_parts (s : Cm.RS) (k m : Int) : (Cm.listS s k m).1.length ≤ s.1.length := by
  have h : ∀ (n : Nat) (s : Cm.RS) (acc : List (List UInt8)), (Cm.listA m n s acc).1.length ≤ acc.length + s.1.length := by
    intro n
    induction n with
    | zero => intro s acc; simp [Cm.listA]
    | succ n ih =>
      intro s acc
      rw [Cm.listA]
      split
      · simp
      · rename_i hb
        have hb' : (Cm.bytesS s m).2.2 = 0 := by simpa using hb
        have h1 := Cm.bytesS_ok hb'
        have h2 := ih (Cm.bytesS s m).2 (acc ++ [(Cm.bytesS s m).1])
        simp only [List.length_append, List.length_singleton] at h2
        omega
  have h1 := h (Cm.numS s k.toNat).1 (Cm.numS s k.toNat).2 []
  have h2 := Cm.numS_len s k.toNat
  simp only [List.length_nil] at h1
  rw [Cm.listS]
  omega

set_option maxRecDepth 100000 in
set_option maxHeartbeats 1600000 in
theorem asks_list (B : Nat) (w : World) (g1 g2 : Nat) (s : Cm.RS) (h : Two w g1 g2 s) (hne : g1 ≠ g2) (hB1 : B ≤ g1) (hB2 : B ≤ g2) (hl : s.1.length ≤ 549755813888) (most : Nat) (n each e0 : Int) (hlo : -9223372036854775808 ≤ n) (hhi : n ≤ 9223372036854775807) (hlo2 : -9223372036854775808 ≤ each) (hhi2 : each ≤ 9223372036854775807) :
    Calls Try.prog 19 #[P_ g1, P_ g2, .agg #[.int .i64 3, .int .u64 most, .int .i64 n, .int .i64 each, .int .i64 e0]] w fun e w' => Asked B w g1 g2 s e w' := by
  have hlt1 := h.1.lt
  have hlt2 := h.2.lt
  have hlen := listS_len' s n each
  have HLO := Lib.hid hlo
  have HHI := Lib.hid hhi
  have HLO2 := Lib.hid hlo2
  have HHI2 := Lib.hid hhi2
  have hpl : (Cm.listS s n each).1.length ≤ 549755813888 := Nat.le_trans (listS_parts s n each) hl
  clear hlo hhi hlo2 hhi2
  go_enter Try.func19, Try.ntmps19
  go_wp2_with fail
  have hT := h.alloc (.cells #[.int .i64 3, .int .u64 most, .int .i64 n, .int .i64 each, .int .i64 e0] 40)
  have hc2 : (w.alloc (.cells #[.int .i64 3, .int .u64 most, .int .i64 n, .int .i64 each, .int .i64 e0] 40)).cell? ⟨w.heap.size, 2, none⟩ = some (.int .i64 n) := (Blk.new w _ _).cell 2
  have hc3 : (w.alloc (.cells #[.int .i64 3, .int .u64 most, .int .i64 n, .int .i64 each, .int .i64 e0] 40)).cell? ⟨w.heap.size, 3, none⟩ = some (.int .i64 each) := (Blk.new w _ _).cell 3
  have hbel : Below B w (w.alloc (.cells #[.int .i64 3, .int .u64 most, .int .i64 n, .int .i64 each, .int .i64 e0] 40)) := (Below.refl _ _).alloc (by omega) _
  have hw1 : w.heap.size ≠ g1 := by omega
  have hw2 : w.heap.size ≠ g2 := by omega
  have hws : (w.alloc (.cells #[.int .i64 3, .int .u64 most, .int .i64 n, .int .i64 each, .int .i64 e0] 40)).heap.size = w.heap.size + 1 := by simp
  have HWS := Lib.hid hws
  clear hws
  go_region_held3 (fun w' => w'.cell? ⟨w.heap.size, 2, none⟩ = some (.int .i64 n) ∧ w'.cell? ⟨w.heap.size, 3, none⟩ = some (.int .i64 each)) (first | exact ⟨by assumption, by assumption⟩ | exact ⟨hk22, hk23⟩ | go_keep)
    (first
      | (go_at_call 26; refine (list_any _ (fun k => k = g2) g1 s ?_ n each HLO.out HHI.out HLO2.out HHI2.out hl).mono ?_; exact hT.1; rintro e w1 ⟨v1, rfl, hls1, hg0, hcr1⟩; have hg1 := undrew hg0; have hk12 := ask_cell hg1 hc2 hw1; have hk13 := ask_cell hg1 hc3 hw1)
      | (go_at_call 39; refine (rlist_any _ (fun k => k = g1) g2 s ?_ n each HHI.out HLO2.out HHI2.out hl).mono ?_; exact Two.fst hT hne hg1; rintro e w2 ⟨v2, rfl, hls2, hg2, hcr2⟩; have hk22 := ask_cell hg2 hk12 hw2; have hk23 := ask_cell hg2 hk13 hw2; have hls1' := hls1.grown hg2 (fun k hk _ => by injection hk with hk; have := HWS.out; simp; omega); obtain ⟨A1, c1, rfl⟩ := Ls.shape hls1'; obtain ⟨A2, c2, rfl⟩ := Ls.shape hls2)
      | (go_at_call 25; refine (same_any _ _ A1 A2 c1 c2 _ _ _ hls1' hls2 hpl).mono ?_; rintro e w3 ⟨rfl, nd, rfl⟩))
  have hdd : decide ((Cm.listS s n each).1 = (Cm.listS s n each).1) = true := by simp
  go_wp2
  go_ret
  exact ⟨by first | rfl | (rw [hdd]; rfl) | simp, below_drewN (hbel.trans (below_two hg1 hg2 hB1 hB2 (Nat.le_trans (by omega) hbel.size))) _, _, ⟨CR.drewN (Two.snd hcr1 hne hg2) _, hcr2⟩, hlen⟩

set_option maxRecDepth 100000 in
set_option maxHeartbeats 1600000 in
theorem asks_fail (B : Nat) (w : World) (g1 g2 : Nat) (s : Cm.RS) (h : Two w g1 g2 s) (hne : g1 ≠ g2) (hB1 : B ≤ g1) (hB2 : B ≤ g2) (most : Nat) (d n each e0 : Int) (h0 : d ≠ 0) (h1 : d ≠ 1) (h2 : d ≠ 2) (h3 : d ≠ 3) :
    Calls Try.prog 19 #[P_ g1, P_ g2, .agg #[.int .i64 d, .int .u64 most, .int .i64 n, .int .i64 each, .int .i64 e0]] w fun e w' => Asked B w g1 g2 s e w' := by
  have hlt1 := h.1.lt
  have hlt2 := h.2.lt
  have hlen : (Cm.failS s e0).1.length ≤ s.1.length := by
    unfold Cm.failS
    split
    · exact Nat.le_refl _
    · split
      · exact Nat.zero_le _
      · exact Nat.le_refl _
  have q0 : (d == 0) = false := by rw [beq_eq_false_iff_ne]; exact h0
  have q1 : (d == 1) = false := by rw [beq_eq_false_iff_ne]; exact h1
  have q2 : (d == 2) = false := by rw [beq_eq_false_iff_ne]; exact h2
  have q3 : (d == 3) = false := by rw [beq_eq_false_iff_ne]; exact h3
  clear h0 h1 h2 h3
  go_enter Try.func19, Try.ntmps19
  have hT := h.alloc (.cells #[.int .i64 d, .int .u64 most, .int .i64 n, .int .i64 each, .int .i64 e0] 40)
  have hc4 : (w.alloc (.cells #[.int .i64 d, .int .u64 most, .int .i64 n, .int .i64 each, .int .i64 e0] 40)).cell? ⟨w.heap.size, 4, none⟩ = some (.int .i64 e0) := (Blk.new w _ _).cell 4
  have hbel : Below B w (w.alloc (.cells #[.int .i64 d, .int .u64 most, .int .i64 n, .int .i64 each, .int .i64 e0] 40)) := (Below.refl _ _).alloc (by omega) _
  have hw1 : w.heap.size ≠ g1 := by omega
  have hw2 : w.heap.size ≠ g2 := by omega
  have hws : (w.alloc (.cells #[.int .i64 d, .int .u64 most, .int .i64 n, .int .i64 each, .int .i64 e0] 40)).heap.size = w.heap.size + 1 := by simp
  have HWS := Lib.hid hws
  clear hws
  have hT1 := Lib.hid hT
  clear hT
  go_wp2_with fail
  refine (fail_any _ (fun k => k = g2) g1 s hT1.out.1 e0).mono ?_
  rintro e w1 ⟨rfl, hg1, hcr1⟩
  have hk1 := ask_cell hg1 hc4 hw1
  go_wp2_with fail
  refine (rfail_any _ (fun k => k = g1) g2 s (Two.fst hT1.out hne hg1) e0).mono ?_
  rintro e w2 ⟨rfl, hg2, hcr2⟩
  go_wp2_with fail
  go_ret
  exact ⟨rfl, hbel.trans (below_two hg1 hg2 hB1 hB2 (Nat.le_trans (by omega) hbel.size)), _, ⟨Two.snd hcr1 hne hg2, hcr2⟩, hlen⟩

theorem asks_any (B : Nat) (w : World) (g1 g2 : Nat) (s : Cm.RS) (h : Two w g1 g2 s) (hne : g1 ≠ g2) (hB1 : B ≤ g1) (hB2 : B ≤ g2) (hl : s.1.length ≤ 549755813888) (most : Nat) (d n each e0 : Int) (hlo : -9223372036854775808 ≤ n) (hhi : n ≤ 9223372036854775807) (hlo2 : -9223372036854775808 ≤ each) (hhi2 : each ≤ 9223372036854775807) :
    Calls Try.prog 19 #[P_ g1, P_ g2, .agg #[.int .i64 d, .int .u64 most, .int .i64 n, .int .i64 each, .int .i64 e0]] w fun e w' => Asked B w g1 g2 s e w' := by
  by_cases h0 : d = 0
  · subst h0; exact asks_num B w g1 g2 s h hne hB1 hB2 most n each e0
  by_cases h1 : d = 1
  · subst h1; exact asks_take B w g1 g2 s h hne hB1 hB2 hl most n each e0
  by_cases h2 : d = 2
  · subst h2; exact asks_bytes B w g1 g2 s h hne hB1 hB2 hl most n each e0 hlo hhi
  by_cases h3 : d = 3
  · subst h3; exact asks_list B w g1 g2 s h hne hB1 hB2 hl most n each e0 hlo hhi hlo2 hhi2
  exact asks_fail B w g1 g2 s h hne hB1 hB2 most d n each e0 h0 h1 h2 h3

end Go.Proofs.Ytkhncipagdejnaa.Cx

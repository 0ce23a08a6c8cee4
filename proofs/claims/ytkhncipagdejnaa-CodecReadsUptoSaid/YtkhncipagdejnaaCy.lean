/-
  The walk of the statement CodecReads: whatever is asked of any bytes.
-/
import Derived.Test.YtkhncipagdejnaaCz
namespace Go.Proofs.Ytkhncipagdejnaa.Cy
open Go Go.RowKit Ck Ca Cb Cc Cd Ce Cf Cg Ch Ci Cj Cn Co Cp Cq Cr Cu Cv Cx Cz

/-- A question. -/
structure Q where
  d : Int
  most : Nat
  n : Int
  each : Int
  e : Int
def Q.vals (q : Q) : List Value := [.int .i64 q.d, .int .u64 (q.most : Int), .int .i64 q.n, .int .i64 q.each, .int .i64 q.e]
def Q.ok (q : Q) : Prop := q.most < 18446744073709551616 ∧ -9223372036854775808 ≤ q.n ∧ q.n ≤ 9223372036854775807 ∧ -9223372036854775808 ≤ q.each ∧ q.each ≤ 9223372036854775807
/-- A slice of questions: the cells of each. -/
def Qs (w : World) (v : Value) (qs : List Q) : Prop :=
  ∃ A c, v = .slice A qs.length c ∧ qs.length ≤ c ∧ c ≤ maxLen ∧ (∀ q ∈ qs, q.ok) ∧ (0 < qs.length → ∃ ad, A = some ad ∧ ad.block < w.heap.size ∧ ∀ i (h : i < qs.length) j u, qs[i].vals[j]? = some u → w.cell? (ad.add (i * 5 + j)) = some u)
theorem Qs.after {w w' : World} {v : Value} {qs : List Q} (h : Qs w v qs) (hb : Below w.heap.size w w') : Qs w' v qs := by
  obtain ⟨A, c, h1, h2, h3, h4, h5⟩ := h
  refine ⟨A, c, h1, h2, h3, h4, fun hn => ?_⟩
  obtain ⟨ad, a1, a2, a3⟩ := h5 hn
  exact ⟨ad, a1, Nat.lt_of_lt_of_le a2 hb.size, fun i hi j u hu => (hb.cell (p := ad.add (i * 5 + j)) (by rw [add_block]; exact a2)).trans (a3 i hi j u hu)⟩

theorem RR.shape {w : World} {X : Nat → Prop} {g : Nat} {s : Cm.RS} (h : RR w X g s) : ∃ A c, w.cell? ⟨g, 0, none⟩ = some (.slice A s.1.length c) ∧ w.cell? ⟨g, 1, none⟩ = some (.int .i64 s.2) := by
  obtain ⟨A, n, c, hb, hsl, _⟩ := h
  have hn : n = s.1.length := by obtain ⟨A, c, _, h, _⟩ := hsl; rw [BVs_len] at h; omega
  subst hn
  exact ⟨A, c, hb.cell 0, hb.cell 1⟩

set_option maxRecDepth 100000 in
set_option maxHeartbeats 1600000 in
theorem reads_any (w : World) (A : Option Addr) (c : Nat) (b : List UInt8) (B : Option Addr) (d : Nat) (qs : List Q) (hv : Sl w (fun k => w.heap.size ≤ k) 1 (.slice A b.length c) b.length (BVs b)) (hbl : b.length ≤ 1073741824) (hq : Qs w (.slice B qs.length d) qs) (hql : qs.length ≤ 1073741824) :
    Calls Try.prog 4 #[.slice A b.length c, .slice B qs.length d] w fun e w' => e = .returned (.bool true) ∧ Below w.heap.size w w' := by
  go_enter Try.func4, Try.ntmps4
  go_wp2_with fail
  refine (live_any _).mono ?_
  rintro e w1 ⟨rfl, hb1⟩
  have V1 := (hv.after hb1)
  go_wp2_with fail
  refine (read_any _ _ _ b.length b V1 (by omega)).mono ?_
  rintro e w2 ⟨g1, rfl, hcr2, hg1, hb2⟩
  have B2 : Below w.heap.size w w2 := hb1.trans (hb2.mono hb1.size)
  go_wp2_with fail
  refine (rread_any _ (fun k => w.heap.size ≤ k) _ b.length b (hv.after B2)).mono ?_
  rintro e w3 ⟨rfl, hrr3, hb3⟩
  have B3 : Below w.heap.size w w3 := B2.trans (hb3.mono B2.size)
  have hlt2 := hcr2.lt
  have hT : Two w3 g1 w2.heap.size (b, 0) := ⟨((hcr2.old (Nat.le_refl _)).after hb3).weaken (fun k _ h => .inr (by omega)), hrr3.weaken (fun k _ h => by have := hb1.size; omega)⟩
  have hne : g1 ≠ w2.heap.size := by omega
  have hB1 : w.heap.size ≤ g1 := Nat.le_trans hb1.size hg1
  have hB2 : w.heap.size ≤ w2.heap.size := B2.size
  generalize w2.heap.size = g2 at *
  clear hcr2 hrr3 hb3 hb2 V1
  go_wp2_with fail
  go_loopw [17] (fun i wr => ∃ (k : Nat) (s : Cm.RS), k ≤ qs.length ∧ i = .int .i64 k ∧ Two wr g1 g2 s ∧ s.1.length ≤ b.length ∧ Below w.heap.size w wr)
    (fun i _ => qs.length - (intOf i).toNat)
  case atStart => exact ⟨0, _, Nat.zero_le _, rfl, hT, Nat.le_refl _, B3⟩
  case round =>
    obtain ⟨k, s, hk, rfl, hTr, hsl, hbr⟩ := hrel
    by_cases hlt : k < qs.length
    · obtain ⟨A', c', hv', _, _, hok, hx⟩ := hq.after hbr
      injection hv' with e1 e2 e3
      subst e1
      obtain ⟨ad, rfl, hab, hcell⟩ := hx (by omega)
      have hok := hok qs[k] (List.getElem_mem hlt)
      have hc := hcell k hlt
      generalize hqk : qs[k] = q at *
      have cj : ∀ j, 0 < j → ad.add (k * 5 + j) = ⟨(ad.add (k * 5)).block, (ad.add (k * 5)).off + j, none⟩ := by
        intro j hj
        rw [← Ck.add_add]
        generalize ad.add (k * 5) = ak
        unfold Addr.add
        rw [if_neg (by omega)]
      have c0 := hc 0 _ rfl
      have c1 := hc 1 _ rfl
      have c2 := hc 2 _ rfl
      have c3 := hc 3 _ rfl
      have c4 := hc 4 _ rfl
      rw [Nat.add_zero] at c0
      rw [cj 1 (by omega)] at c1
      rw [cj 2 (by omega)] at c2
      rw [cj 3 (by omega)] at c3
      rw [cj 4 (by omega)] at c4
      have HOK := Lib.hid hok
      clear hc hcell hx hqk e2 e3 cj hok
      go_wp2_with (refine wpList_store_row rfl 40 _ _ rfl wr.heap.size #[.int .i64 q.d, .int .u64 (q.most : Int), .int .i64 q.n, .int .i64 q.each, .int .i64 q.e] rfl rfl 40 #[.int .i64 0, .int .u64 0, .int .i64 0, .int .i64 0, .int .i64 0] (Blk.new_at rfl rfl) (by kernel_rfl) rfl rfl ?_)
      have hT0 := hTr.alloc (.cells #[.int .i64 q.d, .int .u64 (q.most : Int), .int .i64 q.n, .int .i64 q.each, .int .i64 q.e] 40)
      have hbl0 : Blk (wr.alloc (.cells #[.int .i64 q.d, .int .u64 (q.most : Int), .int .i64 q.n, .int .i64 q.each, .int .i64 q.e] 40)) wr.heap.size 40 #[.int .i64 q.d, .int .u64 (q.most : Int), .int .i64 q.n, .int .i64 q.each, .int .i64 q.e] := Blk.new _ _ _
      have B0 : Below w.heap.size w (wr.alloc (.cells #[.int .i64 q.d, .int .u64 (q.most : Int), .int .i64 q.n, .int .i64 q.each, .int .i64 q.e] 40)) := hbr.alloc hbr.size _
      generalize wr.alloc (.cells #[.int .i64 q.d, .int .u64 (q.most : Int), .int .i64 q.n, .int .i64 q.each, .int .i64 q.e] 40) = W0 at *
      generalize wr.heap.size = ga at *
      clear c0 c1 c2 c3 c4 hTr hbr
      have hsl2 : s.1.length ≤ 549755813888 := by omega
      refine wp_region_any (by kernel_rfl) ?_
      refine head3 (n := 28) (i0 := 21) (i1 := 22) (i2 := 23) (v0 := P_ g1) (v1 := P_ g2) (v2 := .agg #[.int .i64 q.d, .int .u64 (q.most : Int), .int .i64 q.n, .int .i64 q.each, .int .i64 q.e]) rfl rfl rfl rfl rfl rfl (by omega) (by omega) (by omega) (by kernel_rfl) (by kernel_rfl) (by kernel_rfl) (by kernel_rfl) (by kernel_rfl) (by kernel_rfl) (by kernel_rfl) ?_ ?_ ?_ ?_
      · rintro b' (rfl | rfl | rfl | rfl) <;> exact Y_move rfl rfl rfl
      · rintro b' (rfl | rfl | rfl | rfl) <;> exact Y_move rfl rfl rfl
      · rintro b' (rfl | rfl | rfl | rfl) <;> exact Y_load rfl rfl rfl (show W0.heap[ga]? = _ from hbl0) Try.underlying40 rfl (by kernel_rfl)
      refine any_step (n := 27) (is := [3]) (by kernel_rfl) (by simp) fun i hi => ?_
      simp only [List.mem_cons, List.not_mem_nil, or_false] at hi
      subst hi
      refine op_of_call (f := 19) (args := #[P_ g1, P_ g2, .agg #[.int .i64 q.d, .int .u64 (q.most : Int), .int .i64 q.n, .int .i64 q.each, .int .i64 q.e]]) (j := 24) rfl rfl rfl ?_ ?_
      · simp only [Act.put]
        go_simp
      refine (asks_any w.heap.size _ g1 g2 s ?_ hne hB1 hB2 hsl2 q.most q.d q.n q.each q.e HOK.out.2.1 HOK.out.2.2.1 HOK.out.2.2.2.1 HOK.out.2.2.2.2).mono ?_
      · exact hT0
      rintro e w4 ⟨rfl, hba, s', hT4, hl4⟩
      obtain ⟨v4, hb4⟩ := CR.shape hT4.1
      obtain ⟨A5, c5, x0, x1⟩ := RR.shape hT4.2
      refine ⟨_, rfl, ?_⟩
      have hba' : Below w.heap.size W0 w4 := ⟨hba.os, hba.tape, hba.output, hba.size, hba.block⟩
      refine any_quiet4 (by kernel_rfl) (by kernel_rfl) ?_
      simp only [Act.put, List.setIfInBounds_toArray, List.set_cons_succ, List.set_cons_zero]
      repeat (first
        | go_big_quiet_step (first
            | (go_at_call 20; exact quiet_left (err_blk _ g1 v4 _ (by exact hb4)))
            | (go_at_call 21; exact quiet_left (left_any _ (fun k => k = g2) g1 s' (by exact hT4.1)))
            | (go_at_call 22; exact quiet_left (done_any _ (fun k => k = g2) g1 s' (by exact hT4.1)))
            | (go_at_call 23; exact quiet_left (rdone_any _ (fun k => k = g1) g2 s' (by exact hT4.2)))))
      refine wpQuiet_nil ?_
      intro _ hw'
      obtain ⟨nq, hw''⟩ := hw'
      subst hw''
      go_wp2_with fail
      go_roundw
      case rel => exact ⟨k + 1, s', by omega, by go_num, hT4, by omega, below_drewN (B0.trans (hba'.mono (Nat.le_refl _))) nq⟩
      case measure => simp [intOf]; omega
    · have hke : qs.length ≤ k := by omega
      go_wp2_with fail
      refine (done_any _ _ g1 s hTr.1).mono ?_
      rintro e w4 ⟨rfl, rfl⟩
      go_wp2_with fail
      refine (rdone_any _ _ g2 s hTr.2).mono ?_
      rintro e w4 ⟨rfl, rfl⟩
      go_wp2_with fail
      go_ret
      exact ⟨rfl, hbr⟩

end Go.Proofs.Ytkhncipagdejnaa.Cy

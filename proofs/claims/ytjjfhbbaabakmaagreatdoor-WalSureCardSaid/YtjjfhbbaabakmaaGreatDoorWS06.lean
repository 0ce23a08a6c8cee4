/-
  Contracts of the program's file: sync, cut, tear, clone.
-/
import Derived.Test.YtjjfhbbaabakmaaGreatDoorWS02
import Derived.Test.YtjjfhbbaabakmaaGreatDoorWS05
import Derived.Sort.KeysCollected
namespace Go.Proofs.YtjjfhbbaabakmaaGreatDoor.Da
set_option linter.unusedSimpArgs false
open Go Go.RowKit Ck Kw Ga Dm Dw
attribute [local go_sem ↓] Go.wp_at_zero Go.wp_at_succ
set_option linter.unusedVariables false

theorem fsync_any (w : World) (T : Nat → Prop) (g d : Nat) (b : Tx) (h : Fw w T g b d) :
    Calls Tryz.prog 51 #[.pointer (some ⟨g, 0, none⟩)] w fun e w' => e = .returned (.tuple #[]) ∧ Fw w' T g b b.length ∧ Ch T w w' := by
  obtain ⟨v, h1, h2, h3, h4, h5, h6⟩ := h
  obtain ⟨A, c, rfl⟩ := own_shape h2
  have c0 : w.cell? ⟨g, 0, none⟩ = some (.slice A b.length c) := h1.cell 0
  have c1 : w.cell? ⟨g, 1, none⟩ = some (.int .i64 (d : Int)) := h1.cell 1
  have f1 : w.frozen? ⟨g, 1, none⟩ = false := h1.frozen 1
  have HH := Lib.hid (And.intro h1 (And.intro h2 (And.intro h3 (And.intro h4 h5))))
  have hff := own_far h2 h1 (by decide)
  have HF := Lib.hid hff
  clear h1 h2 h3 h4 h5 h6 hff
  go_enter Tryz.func51, Tryz.ntmps51
  go_wp2
  go_end0
  obtain ⟨h1, h2, h3, h4, h5⟩ := HH.out
  refine ⟨rfl, ⟨_, (h1.set_ 1 _), ?_, h3, h4, h5, Nat.le_refl _⟩, (Ch.refl T w).setCell (fun _ => h3) _⟩
  exact own_ch h2 ((Ch.refl (fun k => k = g) w).setCell (fun _ => rfl) _) (fun k hk e => HF.out (by rw [hk, e]))

theorem BVs_take (b : List UInt8) (k : Nat) : BVs (b.take k) = (BVs b).take (k * 1) := by simp [BVs]
theorem BVs_drop (b : List UInt8) (k : Nat) : BVs (b.drop k) = (BVs b).drop (k * 1) := by simp [BVs]
theorem min_int (x y : Nat) : min (x : Int) (y : Int) = ((min x y : Nat) : Int) := by omega

set_option maxHeartbeats 400000 in
theorem fcut_any (w : World) (T : Nat → Prop) (g d : Nat) (b : Tx) (k : Nat) (hk : k ≤ b.length) (h : Fw w T g b d) :
    Calls Tryz.prog 65 #[.pointer (some ⟨g, 0, none⟩), .int .i64 (k : Int)] w fun e w' => e = .returned (.tuple #[]) ∧ Fw w' (Up T w w') g (b.take k) (min d k) ∧ Ch T w w' := by
  obtain ⟨v, h1, h2, h3, h4, h5, h6⟩ := h
  obtain ⟨A, c, rfl⟩ := own_shape h2
  have c0 : w.cell? ⟨g, 0, none⟩ = some (.slice A b.length c) := h1.cell 0
  have hsl : Sl w (fun _ => False) 1 (.slice A b.length c) b.length (BVs b) := Sl.of_own h2 (fun _ _ _ h => h)
  have hcc : b.length ≤ c := by
    obtain ⟨A0, c0, hv, _, hc, _⟩ := hsl
    injection hv with _ _ e
    omega
  have hs := fun W => slice_upto A b.length c k (by omega) W
  have hut : Sl w (fun _ => False) 1 (.slice A k c) k (BVs (b.take k)) := by rw [BVs_take]; exact hsl.upto hk
  have HU := Lib.hid hut
  have HH := Lib.hid (And.intro h1 (And.intro h2 (And.intro h3 (And.intro h4 (And.intro h5 h6)))))
  clear h1 h2 h3 h4 h5 h6 hsl hcc hut
  go_enter Tryz.func65, Tryz.ntmps65
  go_wp2_with (go_at_call 37; refine (clone_sh (fun _ => False) _ k (b.take k) _ HU.out (by have := HH.out.2.2.2.2.1; omega)).mono ?_; rintro e w2 ⟨A2, c2, rfl, ho2, hb2⟩; have k1 := HH.out.1.below hb2 HH.out.1.lt; have c2' := k1.cell 0; have c1 := k1.cell 1; have f0 := k1.frozen 0; have f1 := k1.frozen 1; simp only [List.getElem?_toArray, List.getElem?_cons_zero, List.getElem?_cons_succ] at c1 c2')
  rw [min_int]
  go_end0
  obtain ⟨h1, h2, h3, h4, h5, h6⟩ := HH.out
  have hlen : (b.take k).length = k := by rw [List.length_take]; omega
  have hg2 := own_far ho2 k1 (by decide)
  have ho3 : w2.ownsRow 0 5 1 (.slice A2 k c2) (b.take k).length (BVs (b.take k)) := by
    have := own_base (b' := 0) ho2 (Nat.zero_le _)
    rw [hlen] at this ⊢
    exact this
  rw [hlen] at ho2 hg2
  have hc : Ch (fun k => k = g) w2 ((w2.setCell ⟨g, 0, none⟩ (.slice A2 k c2)).setCell ⟨g, 1, none⟩ (.int .i64 ((min d k : Nat) : Int))) := ((Ch.refl (fun k => k = g) w2).setCell (p := ⟨g, 0, none⟩) (fun _ => rfl) _).setCell (p := ⟨g, 1, none⟩) (fun _ => rfl) _
  have hsz := hb2.size
  refine ⟨rfl, ⟨_, (k1.set_ 0 _).set_ 1 _, own_ch ho3 hc (fun j hj e => hg2 (by rw [hj, e])), .inl h3, fun j hj => .inr ?_, by omega, by omega⟩, ((Ch.of_below hb2 (Nat.le_refl _)).setCell (fun _ => h3) _).setCell (fun _ => h3) _⟩
  have := ho2.lt j hj
  exact ⟨by omega, Nat.lt_of_lt_of_le this.2 hc.size⟩

theorem tear_nat (k d n : Nat) (h : d ≤ n) : (d : Int) + Int.tmod (k : Int) (((n : Int) - (d : Int)) + 1) = ((d + k % (n - d + 1) : Nat) : Int) := by
  have e : ((n : Int) - (d : Int)) + 1 = ((n - d + 1 : Nat) : Int) := by omega
  rw [e]
  rw [Int.tmod_eq_emod_of_nonneg (by omega), ← Int.natCast_emod, ← Int.natCast_add]

set_option maxHeartbeats 4000000 in
theorem ftear_any (w : World) (T : Nat → Prop) (g d : Nat) (b : Tx) (k : Nat) (h : Fw w T g b d) :
    Calls Tryz.prog 43 #[.pointer (some ⟨g, 0, none⟩), .int .i64 (k : Int)] w fun e w' => e = .returned (.tuple #[]) ∧ Fw w' (Up T w w') g (b.take (d + k % (b.length - d + 1))) (d + k % (b.length - d + 1)) ∧ Ch T w w' := by
  have HF := Lib.hid h
  obtain ⟨v, h1, h2, h3, h4, h5, h6⟩ := h
  obtain ⟨A, c, rfl⟩ := own_shape h2
  have c0 : w.cell? ⟨g, 0, none⟩ = some (.slice A b.length c) := h1.cell 0
  have c1 : w.cell? ⟨g, 1, none⟩ = some (.int .i64 (d : Int)) := h1.cell 1
  have hm := Nat.mod_lt k (show 0 < b.length - d + 1 by omega)
  have hle : d + k % (b.length - d + 1) ≤ b.length := by omega
  have e3 := tear_nat k d b.length h6
  obtain ⟨z, hz⟩ : ∃ z, z = Int.tmod (k : Int) (((b.length : Int) - (d : Int)) + 1) := ⟨_, rfl⟩
  rw [← hz] at e3
  have hz0 : 0 ≤ z := by omega
  have hz1 : z ≤ 4194304 := by omega
  have HZ := Lib.hid hz
  have HE := Lib.hid e3
  have HL := Lib.hid hle
  have HH := Lib.hid (And.intro h1 (And.intro h2 (And.intro h3 h4)))
  clear h1 h2 h3 h4 hm hle e3 hz
  go_enter Tryz.func43, Tryz.ntmps43
  go_wp2_with fail
  go_quiet (fail)
  go_wp2_with fail
  generalize hy : ((b.length : Int) - (d : Int)) = y at *
  have hy0 : 0 ≤ y := by omega
  have hy1 : y ≤ 4194304 := by omega
  clear hy
  have hne1 : ((y + 1) == 0) = false := by rw [beq_eq_false_iff_ne]; omega
  have hne2 : ¬ (y + 1 = 0) := by omega
  have hzz := HZ.out.symm
  have HD := Lib.hid (show Fw (w.drewN nq).drew T g b d from HF.out)
  have hw1 : IntKind.i64.wrap (y + 1) = y + 1 := wrap64 (by omega) (by omega)
  have hw2 : IntKind.i64.wrap ((d : Int) + z) = (d : Int) + z := wrap64 (by omega) (by omega)
  go_region_with (go_at_call 65; rw [HE.out]; refine (fcut_any _ T g d b _ HL.out HD.out).mono ?_; rintro e w2 ⟨rfl, hF2, hC2⟩)
  all_goals
    go_wp2_with (go_at_call 51; refine (fsync_any _ _ g _ _ hF2).mono ?_; rintro e w3 ⟨rfl, hF3, hC3⟩)
    go_end0
    have hlen : (b.take (d + k % (b.length - d + 1))).length = d + k % (b.length - d + 1) := by rw [List.length_take]; have := HL.out; omega
    rw [hlen] at hF3
    have hC2 := ch_of_drewN hC2
    exact ⟨rfl, hF3.weaken (fun k hk => up_mono (a := w) (b := w2) hC3.size hk), ch_two hC2 hC3⟩

end Go.Proofs.YtjjfhbbaabakmaaGreatDoor.Da

/-
  Contract of the program's file: put.
-/
namespace Go.Proofs.YtjjfhbbaabakmaaGreatDoor.Db
set_option linter.unusedSimpArgs false
open Go Go.RowKit Ck Kw Ga Dm Dw Da
attribute [local go_sem ↓] Go.wp_at_zero Go.wp_at_succ
set_option linter.unusedVariables false

/-- Bytes written over others from k on. -/
def wr (b : Tx) (k : Nat) (x : Tx) : Tx := b.take k ++ x ++ b.drop (k + x.length)
theorem wr_len (b : Tx) (k : Nat) (x : Tx) (hk : k ≤ b.length) : (wr b k x).length = max b.length (k + x.length) := by
  simp only [wr, List.length_append, List.length_take, List.length_drop]
  omega
theorem wr_parts (b x : Tx) (k j : Nat) (hj : j = min x.length (b.length - k)) (hk : k ≤ b.length) : (b.take k ++ x.take j ++ b.drop (k + j)) ++ x.drop j = wr b k x := by
  unfold wr
  by_cases h : x.length ≤ b.length - k
  · have e : j = x.length := by omega
    subst e
    simp
  · have e1 : b.drop (k + j) = [] := List.drop_eq_nil_of_le (by omega)
    have e2 : b.drop (k + x.length) = [] := List.drop_eq_nil_of_le (by omega)
    rw [e1, e2]
    simp only [List.append_nil, List.append_assoc, List.take_append_drop]
theorem over_len (b x : Tx) (k j : Nat) (hj : j = min x.length (b.length - k)) (hk : k ≤ b.length) : (b.take k ++ x.take j ++ b.drop (k + j)).length = b.length := by
  simp only [List.length_append, List.length_take, List.length_drop]
  omega

theorem cur_over {α : Type} (cur : List α) (n k j : Nat) (y : List α) (hy : y.length = j) (hkj : k + j ≤ n) (hn : n ≤ cur.length) :
    (cur.take k ++ y ++ cur.drop (k + j)).take n = (cur.take n).take k ++ y ++ (cur.take n).drop (k + j) := by
  have h1 : (cur.take k).length = k := by rw [List.length_take]; omega
  rw [List.take_take, Nat.min_eq_left (by omega), List.drop_take]
  rw [List.take_append, List.take_of_length_le (by simp only [List.length_append, h1, hy]; omega)]
  congr 2
  simp only [List.length_append, h1, hy]

/-- copy into a row of one's own, from k on. -/
theorem run_copy_own (w : World) (X : Nat → Prop) (A B : Option Addr) (c d k : Nat) (b x : Tx) (ho : w.ownsRow 0 5 1 (.slice A b.length c) b.length (BVs b)) (hk : k ≤ b.length)
    (hx : Sl w X 1 (.slice B x.length d) x.length (BVs x)) (A' : Option Addr) (hA : ∀ ad, A = some ad → k < b.length → A' = some (ad.add (k * 1))) (ty : TypeId) :
    ∃ w', (Builtin.copy_ #[32, 32] ty #[.slice A' (b.length - k) (c - k), .slice B x.length d]).run Tryz.prog w = .ok (.int .i64 ((min x.length (b.length - k) : Nat) : Int)) w' ∧
      w'.ownsRow 0 5 1 (.slice A b.length c) b.length (BVs (b.take k ++ x.take (min x.length (b.length - k)) ++ b.drop (k + min x.length (b.length - k)))) ∧ Ch (fun q => (Value.slice A b.length c).ownBlock = some q) w w' := by
  obtain ⟨j, hj⟩ : ∃ j, j = min x.length (b.length - k) := ⟨_, rfl⟩
  rw [← hj]
  have hs : (Tryz.prog.info? 5).map (·.size) = some 1 := by kernel_rfl
  by_cases h0 : j = 0
  · refine ⟨w, ?_, ?_, Ch.refl _ _⟩
    · rw [run_copy_none (P := Tryz.prog) w 32 32 ty 5 A' B (b.length - k) (c - k) x.length d Tryz.underlying32 hs (by show min x.length (b.length - k) = 0; omega), h0]
      rfl
    · rw [h0]
      simpa using ho
  · obtain ⟨Ax, cx, hv, hl, hc, hm, hcell⟩ := hx
    injection hv with e1 _ e3
    subst e1; subst e3
    obtain ⟨ad, rfl, hb, hX, hcells⟩ := hcell (by omega)
    rcases ho.2 with ⟨hn, h1⟩ | ⟨g, cap, cur, hv, hg, hr, h1, h2, h3, h4⟩
    · omega
    · injection hv with e1 _ e3
      subst e1; subst e3
      have ha : (⟨g, 0, none⟩ : Addr).add (k * 1) = ⟨g, k, none⟩ := by unfold Addr.add; split <;> simp_all
      rw [hA _ rfl (by omega), ha]
      have hlen : (BVs (x.take j)).length = j := by rw [BVs_len, List.length_take]; omega
      have hsz : cur.toList.length = c * 1 := by simpa using h3
      have hrun := run_copy_row (P := Tryz.prog) w 32 32 ty 5 g k (b.length - k) (c - k) ad x.length d cur 5 (BVs (x.take j)) Tryz.underlying32 hs hr (by rw [hlen]; exact hj) (fun i u hu => hcells i u (by
        rw [BVs_take] at hu
        rw [List.getElem?_take] at hu
        split at hu
        · exact hu
        · cases hu)) (by rw [hlen]; have : cur.size = c * 1 := h3; omega) (BVs_one _)
      rw [hlen] at hrun
      refine ⟨w.setRow g (cur.toList.take k ++ BVs (x.take j) ++ cur.toList.drop (k + j)).toArray, hrun, ?_, ⟨rfl, rfl, rfl, by simp [World.setRow], fun q hq hne => setRow_other w g q _ (fun e => hne (by rw [e]; rfl))⟩⟩
      refine ⟨by rw [BVs_len, over_len b x k j hj hk]; omega, .inr ⟨g, c, _, rfl, hg, setRow_heap w g _ _ _ _ hr, h1, h2, ?_, ?_⟩⟩
      · simp only [List.size_toArray, List.length_append, List.length_take, List.length_drop, hlen]
        omega
      · show (cur.toList.take k ++ BVs (x.take j) ++ cur.toList.drop (k + j)).take (b.length * 1) = _
        rw [Nat.mul_one, cur_over cur.toList b.length k j _ hlen (by omega) (by omega)]
        rw [Nat.mul_one] at h4
        rw [h4]
        simp [BVs]

theorem fput_end {w w1 w4 : World} {T : Nat → Prop} {g d k j n : Nat} {b x : Tx} {v v4 : Value} (h1 : Blk w g 87 #[v, .int .i64 (d : Int)]) (h2 : w.ownsRow 0 5 1 v b.length (BVs b)) (h3 : T g) (h4 : ∀ k, v.ownBlock = some k → T k) (h6 : d ≤ b.length)
    (hc1 : Ch (fun q => v.ownBlock = some q) w w1) (hff : v.ownBlock ≠ some g) (q4 : Blk w4 g 87 #[v, .int .i64 (d : Int)]) (happ : Appended w1 0 5 1 v n (BVs (b.take k ++ x.take j ++ b.drop (k + j)) ++ BVs (x.drop j)) v4 w4)
    (hn : n = (wr b k x).length) (hfin : (b.take k ++ x.take j ++ b.drop (k + j)) ++ x.drop j = wr b k x) (hwl : (wr b k x).length = max b.length (k + x.length)) (hr : k + x.length ≤ 4194304) (h5 : b.length ≤ 4194304) :
    Fw ((w4.setCell ⟨g, 0, none⟩ v4).setCell ⟨g, 1, none⟩ (.int .i64 (min (d : Int) (k : Int)))) (Up T w ((w4.setCell ⟨g, 0, none⟩ v4).setCell ⟨g, 1, none⟩ (.int .i64 (min (d : Int) (k : Int))))) g (wr b k x) (min d k) ∧
      Ch T w ((w4.setCell ⟨g, 0, none⟩ v4).setCell ⟨g, 1, none⟩ (.int .i64 (min (d : Int) (k : Int)))) := by
  rw [min_int]
  obtain ⟨ho, hg, hv⟩ := happ
  rw [hn, ← BVs_app, hfin] at ho
  have hs1 := hc1.size
  have hs4 := hg.size
  have hgl := h1.lt
  have hc2 : Ch (fun k => k = g) w4 ((w4.setCell ⟨g, 0, none⟩ v4).setCell ⟨g, 1, none⟩ (.int .i64 ((min d k : Nat) : Int))) := ((Ch.refl (fun k => k = g) w4).setCell (p := ⟨g, 0, none⟩) (fun _ => rfl) _).setCell (p := ⟨g, 1, none⟩) (fun _ => rfl) _
  have hs5 := hc2.size
  have hvg : ∀ q, v4.ownBlock = some q → q ≠ g := fun q hq e => by
    rcases hv with hv | hv
    · exact hff (by rw [← hv, hq, e])
    · rw [hv] at hq
      injection hq with hq
      omega
  refine ⟨⟨v4, (q4.set_ 0 _).set_ 1 _, own_ch ho hc2 (fun q hq e => hvg q hq e), .inl h3, fun q hq => ?_, by omega, by rw [hwl]; omega⟩, ?_⟩
  · have hlt := (ho.lt q hq).2
    rcases hv with hv | hv
    · exact .inl (h4 q (by rw [← hv, hq]))
    · rw [hv] at hq
      injection hq with hq
      exact .inr ⟨by omega, by omega⟩
  · have hc4 : Ch T w w4 := (hc1.mono (T := T) (fun q _ hq => h4 q hq)).trans (Ch.of_grown (S := T) hg (fun q hq _ => h4 q hq)) (fun _ _ h => h)
    exact (hc4.setCell (fun _ => h3) _).setCell (fun _ => h3) _

set_option maxRecDepth 100000 in
set_option maxHeartbeats 4000000 in
theorem fput_any (w : World) (T X : Nat → Prop) (g d k : Nat) (b x : Tx) (B : Option Addr) (c : Nat) (hk : k ≤ b.length) (h : Fw w T g b d) (hx : Sl w X 1 (.slice B x.length c) x.length (BVs x)) (hX : ∀ k, T k → X k) (hr : k + x.length ≤ 4194304) :
    Calls Tryz.prog 68 #[.pointer (some ⟨g, 0, none⟩), .int .i64 (k : Int), .slice B x.length c] w fun e w' => e = .returned (.tuple #[]) ∧ Fw w' (Up T w w') g (wr b k x) (min d k) ∧ Ch T w w' := by
  obtain ⟨v, h1, h2, h3, h4, h5, h6⟩ := h
  obtain ⟨A, c0, rfl⟩ := own_shape h2
  have p0 : w.cell? ⟨g, 0, none⟩ = some (.slice A b.length c0) := h1.cell 0
  have hcc : b.length ≤ c0 := by
    obtain ⟨A0, _, hv, _, hc, _⟩ := Sl.of_own (X := fun _ => False) h2 (fun _ _ _ h => h)
    injection hv with _ _ e
    omega
  have hxc : x.length ≤ c := by
    obtain ⟨A0, _, hv, _, hc, _⟩ := hx
    injection hv with _ _ e
    omega
  obtain ⟨A', hs1, hA'⟩ := slice_from A b.length c0 k hk hcc
  obtain ⟨w1, hrun, ho1, hc1⟩ := run_copy_own w X A B c0 c k b x h2 hk hx A' hA' 3
  obtain ⟨j, hj⟩ : ∃ j, j = min x.length (b.length - k) := ⟨_, rfl⟩
  rw [← hj] at hrun ho1
  have hjx : j ≤ x.length := by omega
  obtain ⟨B', hs2, hB'⟩ := slice_from B x.length c j hjx hxc
  have hown1 : ∀ q, (Value.slice A b.length c0).ownBlock = some q → q < w.heap.size := fun q hq => (h2.lt q hq).2
  have hx1 : Sl w1 X 1 (.slice B' (x.length - j) (c - j)) (x.length - j) (BVs (x.drop j)) := by
    rw [BVs_drop]
    exact (hx.ch hc1 (fun q _ hq => hX q (h4 q hq))).cut hjx B' hB'
  have hff := own_far h2 h1 (by decide)
  have q1 : Blk w1 g 87 #[.slice A b.length c0, .int .i64 (d : Int)] := h1.ch hc1 (fun e => hff e)
  obtain ⟨i0, hi0, hz0, hz1, hz2⟩ := info_parts info_u8
  have HX1 := Lib.hid hx1
  have HO1 := Lib.hid ho1
  have HQ1 := Lib.hid q1
  have HC1 := Lib.hid hc1
  have HF := Lib.hid hff
  have HH := Lib.hid (And.intro h1 (And.intro h2 (And.intro h3 h4)))
  have HJ := Lib.hid hj
  have HXX := Lib.hid (And.intro hx hX)
  have c1 : w1.cell? ⟨g, 0, none⟩ = some (.slice A b.length c0) := q1.cell 0
  have hov := over_len b x k j hj hk
  have hfin := wr_parts b x k j hj hk
  have hwl := wr_len b k x hk
  have HV := Lib.hid (And.intro hov (And.intro hfin hwl))
  have hj0 : (j : Int) ≤ (x.length : Int) := by omega
  clear hx hX h1 h2 h3 h4 hA' hc1 ho1 hj hB' hown1 hx1 hff q1 hov hfin hwl
  go_enter Tryz.func68, Tryz.ntmps68
  go_wp2_with fail
  go_region_law ((refine step_append_sh (by rfl) (.tmp 19) (.tmp 22) _ (by rfl) 0 5 i0 _ 1 1 Tryz.underlying32 hi0 hz0 hz1 hz2 rfl (by omega) (.slice A b.length c0) b.length _ (by rfl) (show w1.drew.ownsRow 0 _ 1 _ b.length _ from HO1.out) X _ (x.length - j) (BVs (x.drop j)) (by rfl) (show Sl w1.drew X _ _ _ _ from HX1.out) (BVs_one _) (by simp only [maxLen]; omega) (by omega) (Nat.zero_le _) ?_; intro A4 c4 w4 happ; have happ := appended_drew happ; have q4 := HQ1.out.grown happ.2.1 (Ne.symm HF.out); have g0 := q4.cell 0; have g1 := q4.cell 1; have f0 := q4.frozen 0; have f1 := q4.frozen 1; simp only [List.getElem?_toArray, List.getElem?_cons_zero, List.getElem?_cons_succ] at g0 g1; have HQ4 := Lib.hid q4; have HAP := Lib.hid happ; clear q4 happ))
  all_goals
    go_wp2
    go_end0
    exact ⟨rfl, fput_end HH.out.1 HH.out.2.1 HH.out.2.2.1 HH.out.2.2.2 h6 HC1.out HF.out HQ4.out HAP.out (by have := HV.out.2.2; have := HJ.out; omega) HV.out.2.1 HV.out.2.2 hr h5⟩

end Go.Proofs.YtjjfhbbaabakmaaGreatDoor.Db

/-
  Contracts of the program's disk: made, ready, find, New, Off, Restart.
-/
namespace Go.Proofs.YtjjfhbbaabakmaaGreatDoor.Dc
set_option linter.unusedSimpArgs false
open Go Go.RowKit Ck Kw Ga Dm Dw Da Db
attribute [local go_sem ↓] Go.wp_at_zero Go.wp_at_succ
set_option linter.unusedVariables false

/-- A disk, laid open. -/
structure Parts (w : World) (S : Nat → Prop) (p m : Nat) (L : List Fl) (room : Nat) (off : Bool) (D : DataW Unit) (G : Tx → Nat) (T : Tx → Nat → Prop) : Prop where
  blk : Blk w p 59 #[.map (some m), .int .i64 (room : Int), .bool off]
  sp : S p
  own : w.ownsMap Tryz.prog 9 ptrElem m 64 D
  tells : TellsD D L G
  sm : S m ∧ m ≠ p
  file : ∀ f ∈ L, Fw w (T f.n) (G f.n) f.b f.d
  sub : ∀ f ∈ L, ∀ k, T f.n k → S k ∧ k ≠ p ∧ k ≠ m ∧ k < w.heap.size
  apart : ∀ f ∈ L, ∀ h ∈ L, f.n ≠ h.n → ∀ k, T f.n k → T h.n k → False
  good : GoodL L room
section
variable {w w' : World} {S X : Nat → Prop} {p m room : Nat} {L : List Fl} {off : Bool} {D : DataW Unit} {G : Tx → Nat} {T : Tx → Nat → Prop}
theorem Parts.shut (h : Parts w S p m L room off D G T) : Dk w S p L room off :=
  ⟨m, h.blk, h.sp, ⟨D, G, T, h.own, h.tells, h.sm, h.file, fun f hf k hk => ⟨⟨(h.sub f hf k hk).1, (h.sub f hf k hk).2.1⟩, (h.sub f hf k hk).2.2⟩, h.apart⟩, h.good⟩
theorem _root_.Go.Proofs.YtjjfhbbaabakmaaGreatDoor.Dw.Dk.opened (h : Dk w S p L room off) : ∃ m D G T, Parts w S p m L room off D G T := by
  obtain ⟨m, h1, h2, ⟨D, G, T, h3, h4, h5, h6, h7, h8⟩, h9⟩ := h
  exact ⟨m, D, G, T, h1, h2, h3, h4, h5, h6, fun f hf k hk => ⟨(h7 f hf k hk).1.1, (h7 f hf k hk).1.2, (h7 f hf k hk).2⟩, h8, h9⟩
theorem Parts.ch (h : Parts w S p m L room off D G T) (c : Ch X w w') (hd : ∀ k, S k → X k → False) : Parts w' S p m L room off D G T :=
  ⟨h.blk.ch c (fun ht => hd _ h.sp ht), h.sp, map_ch h.own c (fun ht => hd _ h.sm.1 ht), h.tells, h.sm, fun f hf => (h.file f hf).ch c (fun k hk ht => hd _ (h.sub f hf k hk).1 ht), fun f hf k hk => ⟨(h.sub f hf k hk).1, (h.sub f hf k hk).2.1, (h.sub f hf k hk).2.2.1, Nat.lt_of_lt_of_le (h.sub f hf k hk).2.2.2 c.size⟩, h.apart, h.good⟩
theorem Parts.later (h : Parts w S p m L room off D G T) (b : Below w.heap.size w w') : Parts w' S p m L room off D G T :=
  h.ch (Ch.of_below (S := fun _ => False) b (Nat.le_refl _)) (fun _ _ h => h)
theorem Parts.drewN (h : Parts w S p m L room off D G T) (n : Nat) : Parts (w.drewN n) S p m L room off D G T := ⟨h.1, h.2, h.3, h.4, h.5, h.6, h.7, h.8, h.9⟩
theorem Parts.set_off (h : Parts w S p m L room off D G T) (off' : Bool) : Parts (w.setCell ⟨p, 2, none⟩ (.bool off')) S p m L room off' D G T :=
  have c : Ch (fun k => k = p) w (w.setCell ⟨p, 2, none⟩ (.bool off')) := (Ch.refl (fun k => k = p) w).setCell (p := ⟨p, 2, none⟩) (fun _ => rfl) _
  ⟨h.blk.set_ 2 _, h.sp, map_ch h.own c h.sm.2, h.tells, h.sm, fun f hf => (h.file f hf).ch c (fun k hk e => (h.sub f hf k hk).2.1 e), fun f hf k hk => ⟨(h.sub f hf k hk).1, (h.sub f hf k hk).2.1, (h.sub f hf k hk).2.2.1, Nat.lt_of_lt_of_le (h.sub f hf k hk).2.2.2 c.size⟩, h.apart, h.good⟩
end

/-- A disk that no call made. -/
def Un (w : World) (v : Value) : Prop := v = .pointer none ∨ ∃ p, v = .pointer (some ⟨p, 0, none⟩) ∧ Blk w p 59 #[.map none, .int .i64 0, .bool false]
theorem Un.later {w w' : World} {v : Value} (h : Un w v) (b : Below w.heap.size w w') : Un w' v := by
  rcases h with h | ⟨p, h, hb⟩
  · exact .inl h
  · exact .inr ⟨p, h, hb.below b hb.lt⟩

theorem made_on (w : World) (S : Nat → Prop) (p : Nat) (L : List Fl) (room : Nat) (off : Bool) (h : Dk w S p L room off) :
    Calls Tryz.prog 45 #[.pointer (some ⟨p, 0, none⟩)] w fun e w' => e = .returned (.bool true) ∧ w = w' := by
  obtain ⟨m, h1, -⟩ := h
  have c0 : w.cell? ⟨p, 0, none⟩ = some (.map (some m)) := h1.cell 0
  have hq := fun W => run_neq_map_nil (P := Tryz.prog) W 57 9 81 (some m) Tryz.underlying57
  clear h1
  go_enter Tryz.func45, Tryz.ntmps45
  go_wp2
  go_ret
  exact ⟨rfl, rfl⟩

theorem ready_on (w : World) (S : Nat → Prop) (p : Nat) (L : List Fl) (room : Nat) (off : Bool) (h : Dk w S p L room off) :
    Calls Tryz.prog 42 #[.pointer (some ⟨p, 0, none⟩)] w fun e w' => e = .returned (.int .i64 (if off then 32 else 0)) ∧ w = w' := by
  have H := Lib.hid h
  obtain ⟨m, h1, -⟩ := h
  have c2 : w.cell? ⟨p, 2, none⟩ = some (.bool off) := h1.cell 2
  clear h1
  cases off
  all_goals
    go_enter Tryz.func42, Tryz.ntmps42
    go_wp2_with (go_at_call 45; refine (made_on _ _ _ _ _ _ H.out).mono ?_; rintro e w' ⟨rfl, rfl⟩)
    go_ret
    exact ⟨rfl, rfl⟩

/-- The map's look-up. -/
theorem run_look {w : World} {m : Nat} {D : DataW Unit} {L : List Fl} {G : Tx → Nat} (h : w.ownsMap Tryz.prog 9 ptrElem m 64 D) (hT : TellsD D L G) (s : Tx) (hs : s.length ≤ 140737488355328) :
    (Instr.lookup 57 (.map (some m)) (.string ⟨s.toArray⟩) true).run Tryz.prog w = .ok (.tuple #[PV (if isIn L s then some (G s) else none), .bool (isIn L s)]) w := by
  obtain ⟨v, ps, hrun, hv⟩ := h.look_ok law_str Tryz.underlying57 (zero_ptr w) (zd := .nil) (zp := []) ptrElem_nil (key_str s (by simp only [maxLen]; omega))
  rw [hT.1 s] at hrun
  rw [hrun]
  by_cases hi : isIn L s = true
  · obtain ⟨f, hf, rfl⟩ := isIn_iff.1 hi
    rw [hT.2 f hf] at hv
    rw [ptrElem_at hv, if_pos hi]
    rfl
  · have hi' : isIn L s = false := by simpa using hi
    rw [has_atKey (by rw [hT.1 s]; exact hi')] at hv
    obtain ⟨o, rfl, hz⟩ := ptrElem_inv hv
    cases o with
    | none => rw [if_neg hi]
    | some g =>
      have h1 := congrArg Prod.fst hz
      cases h1

theorem find_off (w : World) (S : Nat → Prop) (p : Nat) (L : List Fl) (room : Nat) (s : ByteArray) (h : Dk w S p L room true) :
    Calls Tryz.prog 49 #[.pointer (some ⟨p, 0, none⟩), .string s] w fun e w' => e = .returned (.tuple #[.pointer none, .int .i64 32]) ∧ w = w' := by
  have H := Lib.hid h
  clear h
  go_enter Tryz.func49, Tryz.ntmps49
  go_wp2_with (go_at_call 42; refine (ready_on _ _ _ _ _ _ H.out).mono ?_; rintro e w' ⟨rfl, rfl⟩)
  go_ret2
  exact ⟨rfl, rfl⟩
theorem find_on (w : World) (S : Nat → Prop) (p m : Nat) (L : List Fl) (room : Nat) (D : DataW Unit) (G : Tx → Nat) (T : Tx → Nat → Prop) (s : Tx) (hs : s.length ≤ 140737488355328) (h : Parts w S p m L room false D G T) :
    Calls Tryz.prog 49 #[.pointer (some ⟨p, 0, none⟩), .string ⟨s.toArray⟩] w fun e w' => e = .returned (.tuple #[PV (if isIn L s then some (G s) else none), .int .i64 (if isIn L s then 0 else 4)]) ∧ w = w' := by
  have H := Lib.hid h.shut
  have c0 : w.cell? ⟨p, 0, none⟩ = some (.map (some m)) := h.blk.cell 0
  have e2 := run_look h.own h.tells s hs
  clear h
  by_cases hi : isIn L s = true
  · rw [hi] at e2 ⊢
    rw [if_pos rfl] at e2 ⊢
    rw [if_pos rfl]
    unfold PV at e2 ⊢
    simp only [Option.map_some] at e2 ⊢
    clear hi
    go_enter Tryz.func49, Tryz.ntmps49
    go_wp2_with (go_at_call 42; refine (ready_on _ _ _ _ _ _ H.out).mono ?_; rintro e w' ⟨rfl, rfl⟩)
    go_ret2
    exact ⟨rfl, rfl⟩
  · have hi : isIn L s = false := by simpa using hi
    rw [hi] at e2 ⊢
    rw [if_neg (by simp)] at e2 ⊢
    rw [if_neg (by simp)]
    unfold PV at e2 ⊢
    simp only [Option.map_none] at e2 ⊢
    clear hi
    go_enter Tryz.func49, Tryz.ntmps49
    go_wp2_with (go_at_call 42; refine (ready_on _ _ _ _ _ _ H.out).mono ?_; rintro e w' ⟨rfl, rfl⟩)
    go_ret2
    exact ⟨rfl, rfl⟩

theorem restart_on (w : World) (S : Nat → Prop) (p : Nat) (L : List Fl) (room : Nat) (off : Bool) (h : Dk w S p L room off) :
    Calls Tryz.prog 17 #[.pointer (some ⟨p, 0, none⟩)] w fun e w' => e = .returned (.int .i64 (if off then 0 else 1)) ∧ Dk w' S p L room false ∧ Ch S w w' := by
  have H := Lib.hid h
  obtain ⟨m, h1, -⟩ := h
  have c2 : w.cell? ⟨p, 2, none⟩ = some (.bool off) := h1.cell 2
  have f2 := h1.frozen 2
  clear h1
  cases off
  · go_enter Tryz.func17, Tryz.ntmps17
    go_wp2_with (go_at_call 45; refine (made_on _ _ _ _ _ _ H.out).mono ?_; rintro e w' ⟨rfl, rfl⟩)
    go_ret
    exact ⟨rfl, H.out, Ch.refl _ _⟩
  · go_enter Tryz.func17, Tryz.ntmps17
    go_wp2_with (go_at_call 45; refine (made_on _ _ _ _ _ _ H.out).mono ?_; rintro e w' ⟨rfl, rfl⟩)
    go_ret
    obtain ⟨m, D, G, T, hP⟩ := H.out.opened
    exact ⟨rfl, (hP.set_off false).shut, (Ch.refl S w).setCell (fun _ => hP.sp) _⟩

theorem dk_none {W : World} {S : Nat → Prop} {p m room : Nat} (hb : Blk W p 59 #[.map (some m), .int .i64 (room : Int), .bool false]) (ho : W.ownsMap Tryz.prog 9 ptrElem m 64 (.map [])) (hp : S p) (hm : S m) (hne : m ≠ p) (hr : room ≤ 4194304) : Dk W S p [] room false :=
  Parts.shut (m := m) (D := .map []) (G := fun _ => 0) (T := fun _ _ => False) ⟨hb, hp, ho, ⟨fun _ => rfl, (fun f hf => (nomatch hf))⟩, ⟨hm, hne⟩, (fun f hf => (nomatch hf)), (fun f hf => (nomatch hf)), (fun f hf => (nomatch hf)), ⟨by simp, by simp, by simp [used], hr, (fun f hf => (nomatch hf)), (fun f hf => (nomatch hf))⟩⟩
theorem new_ok (w : World) (room : Nat) (h : room ≤ 4194304) : Calls Tryz.prog 5 #[.int .i64 (room : Int)] w fun e w' => ∃ p, e = .returned (.tuple #[.pointer (some ⟨p, 0, none⟩), .int .i64 0]) ∧ Dk w' (New w w') p [] room false ∧ Below w.heap.size w w' := by
  have hmm := @run_makeMap Tryz.prog
  have h0 : ¬ (room : Int) < 0 := by omega
  have h1 : ¬ 4194304 < (room : Int) := by omega
  go_enter Tryz.func5, Tryz.ntmps5
  go_wp2
  go_ret2
  refine ⟨_, rfl, ?_, ?_⟩
  · exact dk_none (m := w.heap.size) (Blk.new_at (by simp) rfl) (((World.ownsMap_made w _ _ _).alloc _).mono (by omega)) ⟨by simp, by simp⟩ ⟨Nat.le_refl _, by simp; omega⟩ (by simp) h
  · exact ((Below.refl _ w).alloc (Nat.le_refl _) _).alloc (by simp) _

end Go.Proofs.YtjjfhbbaabakmaaGreatDoor.Dc

/-
  Contracts of the program's disk: Used, Room.
-/
namespace Go.Proofs.YtjjfhbbaabakmaaGreatDoor.Dd
set_option linter.unusedSimpArgs false
open Go Go.RowKit Go.Maps Ck Kw Ga Dm Dw Da Db Dc
attribute [local go_sem ↓] Go.wp_at_zero Go.wp_at_succ
set_option linter.unusedVariables false

theorem used_filter_all (L : List Fl) (P : Fl → Bool) (h : ∀ f ∈ L, P f = true) : used (L.filter P) = used L := by rw [List.filter_eq_self.2 h]
theorem used_none (L : List Fl) (P : Fl → Bool) (h : ∀ f ∈ L, P f = false) : used (L.filter P) = 0 := by
  rw [List.filter_eq_nil_iff.2 (fun f hf => by rw [h f hf]; simp)]
  rfl
theorem used_strike {L : List Fl} (hn : (L.map (·.n)).Nodup) {f : Fl} (hf : f ∈ L) (P : Tx → Bool) (hp : P f.n = true) :
    used (L.filter (fun h => P h.n)) = f.b.length + used (L.filter (fun h => P h.n && !(h.n == f.n))) := by
  induction L with
  | nil => cases hf
  | cons x L ih =>
    rw [List.map_cons, List.nodup_cons] at hn
    by_cases hx : x.n = f.n
    · have hxf : x = f := by
        rcases List.mem_cons.1 hf with h | h
        · exact h.symm
        · exact absurd (List.mem_map.2 ⟨f, h, hx.symm⟩) hn.1
      subst hxf
      have hrest : ∀ h ∈ L, (h.n == x.n) = false := fun h hh => by
        rw [beq_eq_false_iff_ne]
        intro e
        exact hn.1 (List.mem_map.2 ⟨h, hh, e⟩)
      have e1 : L.filter (fun h => P h.n && !(h.n == x.n)) = L.filter (fun h => P h.n) := List.filter_congr (fun h hh => by rw [hrest h hh]; simp)
      rw [List.filter_cons_of_pos (by exact hp), List.filter_cons_of_neg (by simp), e1]
      rfl
    · have hf' : f ∈ L := by
        rcases List.mem_cons.1 hf with h | h
        · exact absurd (by rw [h]) hx
        · exact h
      have := ih hn.2 hf'
      have hxb : (x.n == f.n) = false := by rw [beq_eq_false_iff_ne]; exact hx
      by_cases hpx : P x.n = true
      · rw [List.filter_cons_of_pos (by exact hpx), List.filter_cons_of_pos (by simp [hpx, hxb])]
        simp only [used]
        omega
      · rw [List.filter_cons_of_neg (by exact hpx), List.filter_cons_of_neg (by simp [hpx])]
        exact this

theorem sameKey_str (a b : Tx) : (Lit.string a).sameKey (.string b) = (a == b) := by simp [Lit.sameKey]
theorem pv_at {c : Option Nat} {y : DataW Unit × List MemPlace} {g : Nat} (h : ptrElem (PV c) = some y) (hy : y.1 = .lit (.int .i64 (g : Int))) : c = some g := by
  cases c with
  | none =>
    have h' : ptrElem (.pointer none) = some y := h
    rw [ptrElem_nil] at h'
    injection h' with h'
    rw [← h'] at hy
    cases hy
  | some k =>
    have h' : ptrElem (.pointer (some ⟨k, 0, none⟩)) = some y := h
    rw [ptrElem_mk] at h'
    injection h' with h'
    rw [← h'] at hy
    simp at hy
    have : k = g := by omega
    rw [this]

/-- The next step of a loop over a disk's files. -/
theorem wpList_next_files (w : World) {ops : Array Oper} {rest : List Oper} {o : Oper} {a : Act} {Q : Exit → Act → World → Prop} (hg : o.guard = none) (it : Operand) (hop : o.op = Op.next it false)
    (b r n : Nat) (D : DataW Unit) (left : Lit → Bool) (cnt : Nat) (L : List Fl) (G : Tx → Nat) (hT : TellsD D L G)
    (hit : a.eval it = .pointer (some ⟨r, 0, none⟩)) (h : w.ranges Tryz.prog 9 ptrElem b r n D left cnt)
    (hDone : (∀ s : Tx, left (.string s) = false) → wpList Tryz.prog ops Q rest (a.put o.dst (.tuple #[.bool false])) w)
    (hMore : ∀ (f : Fl) (w' : World) (cnt' : Nat), f ∈ L → left (.string f.n) = true → w'.ranges Tryz.prog 9 ptrElem b r n D (fun z => left z && !z.sameKey (.string f.n)) cnt' → cnt' < cnt →
      w.grownBy w' (some r) → w'.heap.size = w.heap.size → (Instr.entry (.pointer (some ⟨r, 0, none⟩))).run Tryz.prog w' = .ok (.tuple #[.string ⟨f.n.toArray⟩, .pointer (some ⟨G f.n, 0, none⟩)]) w' → wpList Tryz.prog ops Q rest (a.put o.dst (.tuple #[.bool true, .string ⟨f.n.toArray⟩, .pointer (some ⟨G f.n, 0, none⟩)])) w') :
    wpList Tryz.prog ops Q (o :: rest) a w := by
  refine wpList_next_ranges w hg it hop 9 law_str ptrElem encStr PV (fun key kl hk => by obtain ⟨x, hx, _⟩ := Maps.keyOf_str Tryz.underlying9 hk; exact ⟨x, hx⟩) (fun v y hv => by obtain ⟨c, hc, _⟩ := ptrElem_inv hv; exact ⟨c, hc⟩) b r n D left cnt hit h (fun _ h0 => hDone (fun s => h0 _)) ?_
  intro x c kl y w' cnt' hkey hlk hv hat hrg hlt hgr hsz hen
  obtain ⟨x', ex, rfl, _⟩ := Maps.keyOf_str Tryz.underlying9 hkey
  obtain rfl : x = x' := encStr_inj ex
  have hin : isIn L x = true := by rw [← hT.1 x]; exact has_true_of_atKey hat
  obtain ⟨f, hf, rfl⟩ := isIn_iff.1 hin
  have hy : y.1 = .lit (.int .i64 (G f.n : Int)) := by rw [← hat .nil]; exact hT.2 f hf _
  obtain rfl := pv_at hv hy
  exact hMore f w' cnt' hf hlk hrg hlt hgr hsz hen

set_option maxRecDepth 100000 in
set_option maxHeartbeats 1000000 in
theorem used_on (w : World) (S : Nat → Prop) (p : Nat) (L : List Fl) (room : Nat) (off : Bool) (h : Dk w S p L room off) :
    Calls Tryz.prog 20 #[.pointer (some ⟨p, 0, none⟩)] w fun e w' => e = .returned (.int .i64 (used L : Int)) ∧ Below w.heap.size w w' := by
  have HM := Lib.hid (made_on w S p L room off h)
  obtain ⟨m, D, G, T, hP⟩ := h.opened
  have c0 : w.cell? ⟨p, 0, none⟩ = some (.map (some m)) := hP.blk.cell 0
  have hfit := hP.good.fits
  have hroom := hP.good.room
  have hin : ∀ f ∈ L, Maps.has D (.string f.n) = true := fun f hf => by rw [hP.tells.1]; exact isIn_iff.2 ⟨f, hf, rfl⟩
  have hstart := used_filter_all L (fun f => Maps.has D (.string f.n)) hin
  have HP := Lib.hid hP
  have HS := Lib.hid hstart
  clear h hP hin hstart
  go_enter Tryz.func20, Tryz.ntmps20
  go_wp2_with (first
    | (go_at_call 45; refine HM.out.mono ?_; rintro e w' ⟨rfl, rfl⟩)
    | (at_range; refine wpList_range_own _ rfl _ 57 rfl 9 81 law_str Tryz.underlying57 _ m 64 D rfl HP.out.own ?_; intro w0 hrg0 hg0 hs0))
  have hb0 : Below w.heap.size w w0 := below_of_grown hg0 (fun k hk => by cases hk)
  clear hg0 hs0
  go_frame
  go_loopw [3] (fun i wr => ∃ (left : Lit → Bool) (cnt acc : Nat), i = .int .i64 (acc : Int) ∧ acc + used (L.filter (fun f => left (.string f.n))) = used L ∧ wr.ranges Tryz.prog 9 ptrElem m w.heap.size 64 D left cnt ∧ Below w.heap.size w wr)
    (fun _ wr => wr.rangeLeft m w.heap.size)
  case atStart => exact ⟨_, _, 0, rfl, by rw [HS.out]; omega, hrg0, hb0⟩
  case round =>
    obtain ⟨left, cnt, acc, rfl, hacc, hrg, hbw⟩ := hrel
    go_wp2_with (at_next; refine wpList_next_files _ rfl _ rfl m w.heap.size 64 D left cnt L G HP.out.tells rfl hrg ?_ ?_)
    · intro h0
      have he : acc = used L := by rw [used_none L _ (fun f _ => h0 f.n)] at hacc; omega
      subst he
      clear hacc hrg
      go_wp2
      go_ret
      exact ⟨rfl, hbw⟩
    · intro f w1 cnt1 hf hl hrg1 hlt hg1 hs1 hen
      have hb1 : Below w.heap.size w w1 := hbw.grown hg1 hbw.size (fun g hg => by cases hg; exact Nat.le_refl _)
      have hst := used_strike HP.out.good.nodup hf (fun s => left (.string s)) hl
      obtain ⟨v, k1, ho, -⟩ := (HP.out.later hb1).file f hf
      obtain ⟨A, c, rfl⟩ := own_shape ho
      have d0 : w1.cell? ⟨G f.n, 0, none⟩ = some (.slice A f.b.length c) := k1.cell 0
      have hacc' : acc + f.b.length + used (L.filter (fun h => left (.string h.n) && !(h.n == f.n))) = used L := by
        have : used (L.filter (fun h => left (.string h.n))) = _ := hst
        omega
      have HA := Lib.hid hacc'
      have hbd : acc + f.b.length ≤ 4194304 := by omega
      have HR := Lib.hid hrg1
      have HRO := Lib.hid hrg
      clear hst k1 ho hacc hacc' hg1 hs1 hl hrg1 hrg
      go_wp2
      go_roundw
      case rel => exact ⟨_, cnt1, acc + f.b.length, by go_num, by simp only [sameKey_str]; exact HA.out, HR.out, hb1⟩
      case measure => rw [HR.out.left_eq, HRO.out.left_eq]; exact hlt

set_option maxHeartbeats 1000000 in
theorem room_on (w : World) (S : Nat → Prop) (p : Nat) (L : List Fl) (room : Nat) (off : Bool) (h : Dk w S p L room off) :
    Calls Tryz.prog 67 #[.pointer (some ⟨p, 0, none⟩)] w fun e w' => e = .returned (.int .i64 ((room : Int) - (used L : Int))) ∧ Below w.heap.size w w' := by
  have HM := Lib.hid (made_on w S p L room off h)
  have HU := Lib.hid (used_on w.drew S p L room off (h.drewN 1))
  obtain ⟨m, D, G, T, hP⟩ := h.opened
  have c1 : w.cell? ⟨p, 1, none⟩ = some (.int .i64 (room : Int)) := hP.blk.cell 1
  have hfit := hP.good.fits
  have hroom := hP.good.room
  have HP := Lib.hid hP
  clear h hP
  have hw1 : IntKind.i64.wrap ((room : Int) - (used L : Int)) = (room : Int) - (used L : Int) := wrap64 (by omega) (by omega)
  go_enter Tryz.func67, Tryz.ntmps67
  go_wp2_with (go_at_call 45; refine HM.out.mono ?_; rintro e w' ⟨rfl, rfl⟩)
  go_region_held3 (fun w' => w'.cell? ⟨p, 1, none⟩ = some (.int .i64 (room : Int))) (first | exact c1 | exact j1)
    (first
    | (go_at_call 20; refine HU.out.mono ?_; rintro e w1 ⟨rfl, hb1⟩; have j1 : w1.cell? ⟨p, 1, none⟩ = some (.int .i64 (room : Int)) := (HP.out.later (below_of_drew hb1)).blk.cell 1))
  all_goals
    go_wp2
    go_ret
    exact ⟨rfl, below_of_drew hb1⟩

end Go.Proofs.YtjjfhbbaabakmaaGreatDoor.Dd

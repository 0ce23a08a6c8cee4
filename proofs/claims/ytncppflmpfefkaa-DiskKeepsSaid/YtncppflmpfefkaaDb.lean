/-
  Contract of the program's file: put.
-/
import Derived.Test.YtncppflmpfefkaaDa
namespace Go.Proofs.Ytncppflmpfefkaa.Db
open Go Go.RowKit Ck Kw Ga Dm Dw Da
attribute [local go_sem ↓] Go.wp_at_zero Go.wp_at_succ
set_option linter.unusedVariables false

/-- Bytes written over others from k on. -/
def wr (b : Tx) (k : Nat) (x : Tx) : Tx := b.take k ++ x ++ b.drop (k + x.length)
theorem wr_len (b : Tx) (k : Nat) (x : Tx) (hk : k ≤ b.length) : (wr b k x).length = max b.length (k + x.length) := by
  simp only [wr, List.length_append, List.length_take, List.length_drop]
  omega
theorem wr_parts (b x : Tx) (k j : Nat) (hj : j = min x.length (b.length - k)) (hk : k ≤ b.length) : (b.take k ++ x.take j ++ b.drop (k + j)) ++ x.drop j = wr b k x := by
  unfold wr
  by_cases h : x.length ≤ b.length - k
  · have e : j = x.length := by omega
    subst e
    simp
  · have e1 : b.drop (k + j) = [] := List.drop_eq_nil_of_le (by omega)
    have e2 : b.drop (k + x.length) = [] := List.drop_eq_nil_of_le (by omega)
    rw [e1, e2]
    simp only [List.append_nil, List.append_assoc, List.take_append_drop]
theorem over_len (b x : Tx) (k j : Nat) (hj : j = min x.length (b.length - k)) (hk : k ≤ b.length) : (b.take k ++ x.take j ++ b.drop (k + j)).length = b.length := by
  simp only [List.length_append, List.length_take, List.length_drop]
  omega

theorem cur_over {α : Type} (cur : List α) (n k j : Nat) (y : List α) (hy : y.length = j) (hkj : k + j ≤ n) (hn : n ≤ cur.length) :
    (cur.take k ++ y ++ cur.drop (k + j)).take n = (cur.take n).take k ++ y ++ (cur.take n).drop (k + j) := by
  have h1 : (cur.take k).length = k := by rw [List.length_take]; omega
  rw [List.take_take, Nat.min_eq_left (by omega), List.drop_take]
  rw [List.take_append, List.take_of_length_le (by simp only [List.length_append, h1, hy]; omega)]
  congr 2
  simp only [List.length_append, h1, hy]

/-- copy into a row of one's own, from k on. -/
theorem run_copy_own (w : World) (X : Nat → Prop) (A B : Option Addr) (c d k : Nat) (b x : Tx) (ho : w.ownsRow 0 5 1 (.slice A b.length c) b.length (BVs b)) (hk : k ≤ b.length)
    (hx : Sl w X 1 (.slice B x.length d) x.length (BVs x)) (A' : Option Addr) (hA : ∀ ad, A = some ad → k < b.length → A' = some (ad.add (k * 1))) (ty : TypeId) :
    ∃ w', (Builtin.copy_ #[31, 31] ty #[.slice A' (b.length - k) (c - k), .slice B x.length d]).run Try.prog w = .ok (.int .i64 ((min x.length (b.length - k) : Nat) : Int)) w' ∧
      w'.ownsRow 0 5 1 (.slice A b.length c) b.length (BVs (b.take k ++ x.take (min x.length (b.length - k)) ++ b.drop (k + min x.length (b.length - k)))) ∧ Ch (fun q => (Value.slice A b.length c).ownBlock = some q) w w' := by
  obtain ⟨j, hj⟩ : ∃ j, j = min x.length (b.length - k) := ⟨_, rfl⟩
  rw [← hj]
  have hs : (Try.prog.info? 5).map (·.size) = some 1 := by kernel_rfl
  by_cases h0 : j = 0
  · refine ⟨w, ?_, ?_, Ch.refl _ _⟩
    · rw [run_copy_none (P := Try.prog) w 31 31 ty 5 A' B (b.length - k) (c - k) x.length d Try.underlying31 hs (by show min x.length (b.length - k) = 0; omega), h0]
      rfl
    · rw [h0]
      simpa using ho
  · obtain ⟨Ax, cx, hv, hl, hc, hm, hcell⟩ := hx
    injection hv with e1 _ e3
    subst e1; subst e3
    obtain ⟨ad, rfl, hb, hX, hcells⟩ := hcell (by omega)
    rcases ho.2 with ⟨hn, h1⟩ | ⟨g, cap, cur, hv, hg, hr, h1, h2, h3, h4⟩
    · omega
    · injection hv with e1 _ e3
      subst e1; subst e3
      have ha : (⟨g, 0, none⟩ : Addr).add (k * 1) = ⟨g, k, none⟩ := by unfold Addr.add; split <;> simp_all
      rw [hA _ rfl (by omega), ha]
      have hlen : (BVs (x.take j)).length = j := by rw [BVs_len, List.length_take]; omega
      have hsz : cur.toList.length = c * 1 := by simpa using h3
      have hrun := run_copy_row (P := Try.prog) w 31 31 ty 5 g k (b.length - k) (c - k) ad x.length d cur 5 (BVs (x.take j)) Try.underlying31 hs hr (by rw [hlen]; exact hj) (fun i u hu => hcells i u (by
        rw [BVs_take] at hu
        rw [List.getElem?_take] at hu
        split at hu
        · exact hu
        · cases hu)) (by rw [hlen]; have : cur.size = c * 1 := h3; omega) (BVs_one _)
      rw [hlen] at hrun
      refine ⟨w.setRow g (cur.toList.take k ++ BVs (x.take j) ++ cur.toList.drop (k + j)).toArray, hrun, ?_, ⟨rfl, rfl, rfl, by simp [World.setRow], fun q hq hne => setRow_other w g q _ (fun e => hne (by rw [e]; rfl))⟩⟩
      refine ⟨by rw [BVs_len, over_len b x k j hj hk]; omega, .inr ⟨g, c, _, rfl, hg, setRow_heap w g _ _ _ _ hr, h1, h2, ?_, ?_⟩⟩
      · simp only [List.size_toArray, List.length_append, List.length_take, List.length_drop, hlen]
        omega
      · show (cur.toList.take k ++ BVs (x.take j) ++ cur.toList.drop (k + j)).take (b.length * 1) = _
        rw [Nat.mul_one, cur_over cur.toList b.length k j _ hlen (by omega) (by omega)]
        rw [Nat.mul_one] at h4
        rw [h4]
        simp [BVs]

theorem fput_end {w w1 w4 : World} {T : Nat → Prop} {g d k j n : Nat} {b x : Tx} {v v4 : Value} (h1 : Blk w g 73 #[v, .int .i64 (d : Int)]) (h2 : w.ownsRow 0 5 1 v b.length (BVs b)) (h3 : T g) (h4 : ∀ k, v.ownBlock = some k → T k) (h6 : d ≤ b.length)
    (hc1 : Ch (fun q => v.ownBlock = some q) w w1) (hff : v.ownBlock ≠ some g) (q4 : Blk w4 g 73 #[v, .int .i64 (d : Int)]) (happ : Appended w1 0 5 1 v n (BVs (b.take k ++ x.take j ++ b.drop (k + j)) ++ BVs (x.drop j)) v4 w4)
    (hn : n = (wr b k x).length) (hfin : (b.take k ++ x.take j ++ b.drop (k + j)) ++ x.drop j = wr b k x) (hwl : (wr b k x).length = max b.length (k + x.length)) (hr : k + x.length ≤ 4194304) (h5 : b.length ≤ 4194304) :
    Fw ((w4.setCell ⟨g, 0, none⟩ v4).setCell ⟨g, 1, none⟩ (.int .i64 (min (d : Int) (k : Int)))) (Up T w ((w4.setCell ⟨g, 0, none⟩ v4).setCell ⟨g, 1, none⟩ (.int .i64 (min (d : Int) (k : Int))))) g (wr b k x) (min d k) ∧
      Ch T w ((w4.setCell ⟨g, 0, none⟩ v4).setCell ⟨g, 1, none⟩ (.int .i64 (min (d : Int) (k : Int)))) := by
  rw [min_int]
  obtain ⟨ho, hg, hv⟩ := happ
  rw [hn, ← BVs_app, hfin] at ho
  have hs1 := hc1.size
  have hs4 := hg.size
  have hgl := h1.lt
  have hc2 : Ch (fun k => k = g) w4 ((w4.setCell ⟨g, 0, none⟩ v4).setCell ⟨g, 1, none⟩ (.int .i64 ((min d k : Nat) : Int))) := ((Ch.refl (fun k => k = g) w4).setCell (p := ⟨g, 0, none⟩) (fun _ => rfl) _).setCell (p := ⟨g, 1, none⟩) (fun _ => rfl) _
  have hs5 := hc2.size
  have hvg : ∀ q, v4.ownBlock = some q → q ≠ g := fun q hq e => by
    rcases hv with hv | hv
    · exact hff (by rw [← hv, hq, e])
    · rw [hv] at hq
      injection hq with hq
      omega
  refine ⟨⟨v4, (q4.set_ 0 _).set_ 1 _, own_ch ho hc2 (fun q hq e => hvg q hq e), .inl h3, fun q hq => ?_, by omega, by rw [hwl]; omega⟩, ?_⟩
  · have hlt := (ho.lt q hq).2
    rcases hv with hv | hv
    · exact .inl (h4 q (by rw [← hv, hq]))
    · rw [hv] at hq
      injection hq with hq
      exact .inr ⟨by omega, by omega⟩
  · have hc4 : Ch T w w4 := (hc1.mono (T := T) (fun q _ hq => h4 q hq)).trans (Ch.of_grown (S := T) hg (fun q hq _ => h4 q hq)) (fun _ _ h => h)
    exact (hc4.setCell (fun _ => h3) _).setCell (fun _ => h3) _

set_option maxRecDepth 100000 in
set_option maxHeartbeats 4000000 in
theorem fput_any (w : World) (T X : Nat → Prop) (g d k : Nat) (b x : Tx) (B : Option Addr) (c : Nat) (hk : k ≤ b.length) (h : Fw w T g b d) (hx : Sl w X 1 (.slice B x.length c) x.length (BVs x)) (hX : ∀ k, T k → X k) (hr : k + x.length ≤ 4194304) :
    Calls Try.prog 60 #[.pointer (some ⟨g, 0, none⟩), .int .i64 (k : Int), .slice B x.length c] w fun e w' => e = .returned (.tuple #[]) ∧ Fw w' (Up T w w') g (wr b k x) (min d k) ∧ Ch T w w' := by
  obtain ⟨v, h1, h2, h3, h4, h5, h6⟩ := h
  obtain ⟨A, c0, rfl⟩ := own_shape h2
  have p0 : w.cell? ⟨g, 0, none⟩ = some (.slice A b.length c0) := h1.cell 0
  have hcc : b.length ≤ c0 := by
    obtain ⟨A0, _, hv, _, hc, _⟩ := Sl.of_own (X := fun _ => False) h2 (fun _ _ _ h => h)
    injection hv with _ _ e
    omega
  have hxc : x.length ≤ c := by
    obtain ⟨A0, _, hv, _, hc, _⟩ := hx
    injection hv with _ _ e
    omega
  obtain ⟨A', hs1, hA'⟩ := slice_from A b.length c0 k hk hcc
  obtain ⟨w1, hrun, ho1, hc1⟩ := run_copy_own w X A B c0 c k b x h2 hk hx A' hA' 3
  obtain ⟨j, hj⟩ : ∃ j, j = min x.length (b.length - k) := ⟨_, rfl⟩
  rw [← hj] at hrun ho1
  have hjx : j ≤ x.length := by omega
  obtain ⟨B', hs2, hB'⟩ := slice_from B x.length c j hjx hxc
  have hown1 : ∀ q, (Value.slice A b.length c0).ownBlock = some q → q < w.heap.size := fun q hq => (h2.lt q hq).2
  have hx1 : Sl w1 X 1 (.slice B' (x.length - j) (c - j)) (x.length - j) (BVs (x.drop j)) := by
    rw [BVs_drop]
    exact (hx.ch hc1 (fun q _ hq => hX q (h4 q hq))).cut hjx B' hB'
  have hff := own_far h2 h1 (by decide)
  have q1 : Blk w1 g 73 #[.slice A b.length c0, .int .i64 (d : Int)] := h1.ch hc1 (fun e => hff e)
  obtain ⟨i0, hi0, hz0, hz1, hz2⟩ := info_parts info_u8
  have HX1 := Lib.hid hx1
  have HO1 := Lib.hid ho1
  have HQ1 := Lib.hid q1
  have HC1 := Lib.hid hc1
  have HF := Lib.hid hff
  have HH := Lib.hid (And.intro h1 (And.intro h2 (And.intro h3 h4)))
  have HJ := Lib.hid hj
  have HXX := Lib.hid (And.intro hx hX)
  have c1 : w1.cell? ⟨g, 0, none⟩ = some (.slice A b.length c0) := q1.cell 0
  have hov := over_len b x k j hj hk
  have hfin := wr_parts b x k j hj hk
  have hwl := wr_len b k x hk
  have HV := Lib.hid (And.intro hov (And.intro hfin hwl))
  have hj0 : (j : Int) ≤ (x.length : Int) := by omega
  clear hx hX h1 h2 h3 h4 hA' hc1 ho1 hj hB' hown1 hx1 hff q1 hov hfin hwl
  go_enter Try.func60, Try.ntmps60
  go_wp2_with fail
  go_region_law ((refine step_append_sh (by rfl) (.tmp 19) (.tmp 22) _ (by rfl) 0 5 i0 _ 1 1 Try.underlying31 hi0 hz0 hz1 hz2 rfl (by omega) (.slice A b.length c0) b.length _ (by rfl) (show w1.drew.ownsRow 0 _ 1 _ b.length _ from HO1.out) X _ (x.length - j) (BVs (x.drop j)) (by rfl) (show Sl w1.drew X _ _ _ _ from HX1.out) (BVs_one _) (by simp only [maxLen]; omega) (by omega) (Nat.zero_le _) ?_; intro A4 c4 w4 happ; have happ := appended_drew happ; have q4 := HQ1.out.grown happ.2.1 (Ne.symm HF.out); have g0 := q4.cell 0; have g1 := q4.cell 1; have f0 := q4.frozen 0; have f1 := q4.frozen 1; simp only [List.getElem?_toArray, List.getElem?_cons_zero, List.getElem?_cons_succ] at g0 g1; have HQ4 := Lib.hid q4; have HAP := Lib.hid happ; clear q4 happ))
  all_goals
    go_wp2
    go_end0
    exact ⟨rfl, fput_end HH.out.1 HH.out.2.1 HH.out.2.2.1 HH.out.2.2.2 h6 HC1.out HF.out HQ4.out HAP.out (by have := HV.out.2.2; have := HJ.out; omega) HV.out.2.1 HV.out.2.2 hr h5⟩

end Go.Proofs.Ytncppflmpfefkaa.Db

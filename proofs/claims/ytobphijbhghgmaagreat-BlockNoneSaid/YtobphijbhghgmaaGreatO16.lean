/-
  Layer 9 (block): the contract of Chain.
-/
import Derived.Test.YtobphijbhghgmaaGreatO15
import Derived.Laws.StructEq
import Derived.Outline
import Derived.Test.YtobphijbhghgmaaGreatO12
namespace Go.Proofs.YtobphijbhghgmaaGreat.Zm
set_option linter.unusedSimpArgs false
open Go Go.RowKit Ck Kw Ga Kf Pm Pe Qb Tm Tn Tq Ik Aa Ja Jm Jb Jn Ma Za Zb Ze Zt Zc Zg Zh Zi Zj Zk Zl
open Im (num isIn add sum)
attribute [local go_sem ↓] Go.wp_at_zero Go.wp_at_succ
set_option linter.unusedVariables false
set_option maxRecDepth 100000

theorem HC_len (h : H) : (HC h).toList.length = 5 := rfl
def flatH (l : List H) : List Value := l.flatMap fun h => (HC h).toList
def At5 (w : World) (ad : Addr) (h : H) : Prop :=
  w.cell? ad = some (.int .i64 h.seq) ∧ w.cell? ⟨ad.block, ad.off + 1, none⟩ = some (.int .i64 h.prev) ∧ w.cell? ⟨ad.block, ad.off + 2, none⟩ = some (.int .i64 h.batch) ∧ w.cell? ⟨ad.block, ad.off + 3, none⟩ = some (.int .i64 h.root) ∧ w.cell? ⟨ad.block, ad.off + 4, none⟩ = some (.int .i64 h.state)
theorem hs_at {w : World} {X : Nat → Prop} {A : Option Addr} {n c i : Nat} {l : List H} (h : Sl w X 5 (.slice A n c) l.length (flatH l)) (hi : i < l.length) : ∃ ad, A = some ad ∧ At5 w (ad.add (i * 5)) l[i] := by
  obtain ⟨A', c', hv, hl, hc, hm, hx⟩ := h
  obtain ⟨e1, _, _⟩ := Value.slice.inj hv
  subst e1
  obtain ⟨ad, hA, hb, hX, hcell⟩ := hx (by omega)
  refine ⟨ad, hA, ?_⟩
  have hg : ∀ j, j < 5 → (flatH l)[i * 5 + j]? = ((HC l[i]).toList)[j]? := fun j hj => flat_get HC_len l i hi j hj
  have hof : ∀ j u, j < 5 → ((HC l[i]).toList)[j]? = some u → w.cell? ((ad.add (i * 5)).add j) = some u := fun j u hj hu => by
    rw [Ck.add_add]
    exact hcell _ _ (by rw [hg j hj]; exact hu)
  generalize ad.add (i * 5) = a at hof ⊢
  have ha : ∀ j, 0 < j → a.add j = ⟨a.block, a.off + j, none⟩ := fun j hj => by unfold Addr.add; rw [if_neg (by omega)]
  have h0 : a.add 0 = a := by unfold Addr.add; rw [if_pos rfl]
  refine ⟨?_, ?_, ?_, ?_, ?_⟩
  · have := hof 0 _ (by omega) rfl; rwa [h0] at this
  · have := hof 1 _ (by omega) rfl; rwa [ha _ (by omega)] at this
  · have := hof 2 _ (by omega) rfl; rwa [ha _ (by omega)] at this
  · have := hof 3 _ (by omega) rfl; rwa [ha _ (by omega)] at this
  · have := hof 4 _ (by omega) rfl; rwa [ha _ (by omega)] at this
theorem getD_of {l : List H} {i : Nat} (hi : i < l.length) : l.getD i H.zero = l[i] := by simp [List.getD, hi]
theorem range_all {f : Nat → Bool} {i : Nat} (h : (List.range i).all f = true) (k : f i = true) : (List.range (i + 1)).all f = true := by
  rw [List.range_succ, List.all_append, h]; simp [k]
theorem range_no {f : Nat → Bool} {i n : Nat} (hi : i < n) (k : f i = false) : (List.range n).all f = false := by
  rw [List.all_eq_false]
  exact ⟨i, List.mem_range.2 hi, by simp [k]⟩
theorem chk_zero {L : List Tx} {l : List H} (hi : 0 < l.length) : chk L l 0 = (hcheck l[0] == 0) := by
  unfold chk
  rw [getD_of hi]
  simp
theorem chk_succ {L : List Tx} {l : List H} {j : Nat} (hi : j + 1 < l.length) : chk L l (j + 1) = ((hcheck l[j + 1] == 0) && stands L l[j + 1] (l[j]'(by omega))) := by
  unfold chk
  rw [getD_of hi, Nat.add_sub_cancel, getD_of (by omega : j < l.length)]
  simp
theorem chk_ok {L : List Tx} {l : List H} {i j : Nat} (h : (List.range i).all (chk L l) = true) (hj : j < i) (hl : j < l.length) : hcheck l[j] = 0 := by
  have := List.all_eq_true.1 h j (List.mem_range.2 hj)
  unfold chk at this
  rw [getD_of hl, Bool.and_eq_true] at this
  simpa using this.1

/-- Within a round: the header's own block. -/
structure CK (w0 : World) (g : Nat) (h : H) (W : World) : Prop where
  below : Below w0.heap.size w0 W
  one : Blk W g 24 (HC h)
theorem CK.later {w0 W W' : World} {g : Nat} {h : H} (k : CK w0 g h W) (b : Below W.heap.size W W') : CK w0 g h W' := ⟨k.below.trans (b.mono k.below.size), k.one.below b k.one.lt⟩

set_option maxHeartbeats 16000000 in
theorem chain_any (w : World) (S X : Nat → Prop) (p : Nat) (L : List Tx) (A : Option Addr) (c : Nat) (l : List H) (h : Tb w S p L) (hl : Sl w X 5 (.slice A l.length c) l.length (flatH l)) (hn : l.length ≤ 140737488355328) :
    Calls Tryz.prog 20 #[.pointer (some ⟨p, 0, none⟩), .slice A l.length c] w fun e w' => e = .returned (.bool (chainB L l)) ∧ Below w.heap.size w w' := by
  have HM := Lib.hid (mtab_yes w S p L h)
  have HT := Lib.hid h
  have HL := Lib.hid hl
  have HCB : Hid (chainB L l = (List.range l.length).all (chk L l)) := Lib.hid rfl
  have HCK := Lib.hid hcheck_any
  have HSO := Lib.hid fun (W : World) (x y : H) (b : Below w.heap.size w W) (hq : hcheck y = 0) => stands_any W S p L x y (Tb.after h b) hq
  unfold HV at HCK HSO
  generalize chainB L l = cb at *
  clear h hl
  go_enter Tryz.func20, Tryz.ntmps20
  go_wp2_with fail
  refine HM.out.mono ?_
  rintro e w1 ⟨rfl, hb1⟩
  have HB1 := Lib.hid hb1
  clear hb1 HM
  go_wp2_with fail
  go_loopw [12] (fun j wr => ∃ i : Nat, i ≤ l.length ∧ j = .int .i64 i ∧ (List.range i).all (chk L l) = true ∧ Below w.heap.size w wr) (fun j _ => l.length - (intOf j).toNat)
  case atStart => exact ⟨0, Nat.zero_le _, rfl, rfl, HB1.out⟩
  case round =>
    obtain ⟨i, hi, rfl, hall, hb⟩ := hrel
    have HALL := Lib.hid hall
    have HB := Lib.hid hb
    clear hall hb HB1
    by_cases hlt : i < l.length
    · obtain ⟨ad, rfl, a0, a1, a2, a3, a4⟩ := hs_at (HL.out.after HB.out) hlt
      have hin : (i : Int) < (l.length : Int) := by omega
      have HNO := Lib.hid fun (k : chk L l i = false) => range_no hlt k
      have HYES := Lib.hid fun (k : chk L l i = true) => range_all HALL.out k
      have HLJ : Hid (∀ j, j < l.length → At5 wr (ad.add (j * 5)) (l.getD j H.zero)) := Lib.hid fun j hj => by
        obtain ⟨ad', hA, hat⟩ := hs_at (HL.out.after HB.out) hj
        obtain rfl : ad = ad' := Option.some.inj hA
        rw [getD_of hj]
        exact hat
      have HZ0 := Lib.hid fun (e : i = 0) => show chk L l i = (hcheck l[i] == 0) by subst e; exact chk_zero hlt
      have HZ1 := Lib.hid fun (j : Nat) (e : i = j + 1) => show chk L l i = ((hcheck l[i] == 0) && stands L l[i] (l.getD j H.zero)) by subst e; rw [getD_of (by omega : j < l.length)]; exact chk_succ hlt
      have HOKY := Lib.hid fun (j : Nat) (e : i = j + 1) => show hcheck (l.getD j H.zero) = 0 by rw [getD_of (by omega : j < l.length)]; exact chk_ok HALL.out (by omega) (by omega)
      generalize hx : l[i] = x at *
      have hck := CK.mk (HB.out.trans ((op_below wr (.cells (HC x) 24)).mono HB.out.size)) (Blk.new wr 24 (HC x))
      have HLJ2 : Hid (∀ j, j < l.length → At5 (wr.alloc (.cells (HC x) 24)) (ad.add (j * 5)) (l.getD j H.zero)) := Lib.hid fun j hj => by
        obtain ⟨ad', hA, hat⟩ := hs_at (HL.out.after (HB.out.trans ((op_below wr (.cells (HC x) 24)).mono HB.out.size))) hj
        obtain rfl : ad = ad' := Option.some.inj hA
        rw [getD_of hj]
        exact hat
      have HK := Lib.hid hck
      clear hx hck HLJ
      unfold HC at *
      go_wp2_with fail
      generalize wr.alloc (.cells #[.int .i64 x.seq, .int .i64 x.prev, .int .i64 x.batch, .int .i64 x.root, .int .i64 x.state] 24) = w2 at *
      generalize wr.heap.size = g at *
      clear a0 a1 a2 a3 a4
      have HKD := Lib.hid (HK.out.later (below_drewN (Below.refl _ w2) 1))
      have HCX2 : Hid (Calls Tryz.prog 16 #[.agg #[.int .i64 x.seq, .int .i64 x.prev, .int .i64 x.batch, .int .i64 x.root, .int .i64 x.state]] w2.drew fun e w' => e = .returned (.int .i64 (hcheck x)) ∧ CK w g x w') := Lib.hid ((HCK.out w2.drew x).mono fun e w' hh => ⟨hh.1, HKD.out.later hh.2⟩)
      by_cases hc : hcheck x = 0
      · have e1 : (hcheck x == 0) = true := by rw [hc]; rfl
        have e2 : (hcheck x != 0) = false := by rw [bne, e1]; rfl
        cases i with
        | zero =>
          have HY : Hid ((List.range 1).all (chk L l) = true) := Lib.hid (HYES.out (by rw [HZ0.out rfl, e1]))
          rw [hc] at HCX2
          refine wp_region_any (by kernel_rfl) ?_
          refine Kq.one_call (D := CK w g x) (n := 16) (i0 := 17) (i1 := 18) (v0 := .agg #[.int .i64 x.seq, .int .i64 x.prev, .int .i64 x.batch, .int .i64 x.root, .int .i64 x.state]) (v1 := .int .i64 0) (f := 16) (x0 := #[.agg #[.int .i64 x.seq, .int .i64 x.prev, .int .i64 x.batch, .int .i64 x.root, .int .i64 x.state]]) rfl rfl rfl rfl (by kernel_rfl) (by kernel_rfl) (Kz.Y_load rfl rfl rfl (show w2.drew.heap[g]? = _ from HKD.out.one) Tryz.underlying24 rfl (by kernel_rfl)) ?_ HCX2.out ?_
          · refine ⟨rfl, ?_⟩
            simp only [Act.put]
            go_simp
          intro w4 hk4
          have HK4 := Lib.hid hk4
          clear hk4
          refine Kq.any_quiet2 (by kernel_rfl) (by kernel_rfl) ?_
          simp only [Act.put, List.setIfInBounds_toArray, List.set_cons_succ, List.set_cons_zero]
          repeat (go_big_quiet_step (fail))
          refine wpQuiet_nil ?_
          intro _ hw'
          obtain ⟨nq, hw''⟩ := hw'
          subst hw''
          all_goals
            go_wp2_with fail
            go_roundw
            case rel => exact ⟨1, by omega, by go_num, HY.out, below_drewN HK4.out.below _⟩
            case measure => simp [intOf]; omega
        | succ j =>
          have HOK := Lib.hid (HOKY.out j rfl)
          have hjl : j < l.length := by omega
          have HJ := Lib.hid (HLJ2.out j hjl)
          have hjn : (j : Int) < (l.length : Int) := by omega
          have HZJ := Lib.hid (HZ1.out j rfl)
          have hsb : ((j + 1 : Nat) : Int) - 1 = (j : Int) := by omega
          generalize l.getD j H.zero = y at *
          rw [e1, Bool.true_and] at HZJ
          have HNJ := Lib.hid fun (k : stands L x y = false) => HNO.out (by rw [HZJ.out, k])
          have HYJ := Lib.hid fun (k : stands L x y = true) => HYES.out (by rw [HZJ.out, k])
          obtain ⟨b0, b1, b2, b3, b4⟩ := HJ.out
          have hst : ∀ W, Below w2.heap.size w2 W → W.cell? ⟨g, 0, none⟩ = some (.int .i64 x.seq) ∧ W.cell? ⟨g, 1, none⟩ = some (.int .i64 x.prev) ∧ W.cell? ⟨g, 2, none⟩ = some (.int .i64 x.batch) ∧ W.cell? ⟨g, 3, none⟩ = some (.int .i64 x.root) ∧ W.cell? ⟨g, 4, none⟩ = some (.int .i64 x.state) ∧ W.cell? (ad.add (j * 5)) = some (.int .i64 y.seq) ∧ W.cell? ⟨(ad.add (j * 5)).block, (ad.add (j * 5)).off + 1, none⟩ = some (.int .i64 y.prev) ∧ W.cell? ⟨(ad.add (j * 5)).block, (ad.add (j * 5)).off + 2, none⟩ = some (.int .i64 y.batch) ∧ W.cell? ⟨(ad.add (j * 5)).block, (ad.add (j * 5)).off + 3, none⟩ = some (.int .i64 y.root) ∧ W.cell? ⟨(ad.add (j * 5)).block, (ad.add (j * 5)).off + 4, none⟩ = some (.int .i64 y.state) := fun W hb => by
            obtain ⟨x0, x1, x2, x3, x4⟩ := (Blk.cells5 (HK.out.one.below hb HK.out.one.lt)).1
            exact ⟨x0, x1, x2, x3, x4, (hb.cell (World.block_lt_of_cell? _ _ b0)).trans b0, (hb.cell (World.block_lt_of_cell? _ _ b1)).trans b1, (hb.cell (World.block_lt_of_cell? _ _ b2)).trans b2, (hb.cell (World.block_lt_of_cell? _ _ b3)).trans b3, (hb.cell (World.block_lt_of_cell? _ _ b4)).trans b4⟩
          have HST := Lib.hid hst
          have HCX3 : Hid (Calls Tryz.prog 16 #[.agg #[.int .i64 x.seq, .int .i64 x.prev, .int .i64 x.batch, .int .i64 x.root, .int .i64 x.state]] w2.drew fun e w' => e = .returned (.int .i64 0) ∧ Below w2.heap.size w2 w') := Lib.hid (by
            have h := HCK.out w2.drew x
            rw [hc] at h
            exact h.mono fun e w' hh => ⟨hh.1, Ga.below_of_drew hh.2⟩)
          have HSZ : Hid (∀ W, Below w2.heap.size w2 W → Calls Tryz.prog 44 #[.pointer (some ⟨p, 0, none⟩), .agg #[.int .i64 x.seq, .int .i64 x.prev, .int .i64 x.batch, .int .i64 x.root, .int .i64 x.state], .agg #[.int .i64 y.seq, .int .i64 y.prev, .int .i64 y.batch, .int .i64 y.root, .int .i64 y.state]] W fun e w' => e = .returned (.bool (stands L x y)) ∧ Below w2.heap.size w2 w') := Lib.hid fun W hb => (HSO.out W x y (HK.out.later hb).below HOK.out).mono fun e w' hh => ⟨hh.1, hb.trans (hh.2.mono hb.size)⟩
          have hd0 := below_drewN (Below.refl w2.heap.size w2) 1
          have HD0 := Lib.hid hd0
          clear hst b0 b1 b2 b3 b4 HZJ HZ0 HZ1 HNO HYES HOKY HLJ2 HJ
          clear HCX2 HKD hd0 HOK HCK HSO e1 e2 hc
          have hwj2 : IntKind.i64.wrap (j : Int) = (j : Int) := Ga.wrap64 (by omega) (by omega)
          have hjz : decide ((0 : Int) < (j : Int) + 1) = true := decide_eq_true (by omega)
          have hwj : IntKind.i64.wrap ((j : Int) + 1 - 1) = (j : Int) := by rw [show (j : Int) + 1 - 1 = (j : Int) by omega]; exact Ga.wrap64 (by omega) (by omega)
          cases hsv : stands L x y with
          | false =>
            have HR : Hid (cb = false) := Lib.hid (by rw [HCB.out]; exact HNJ.out hsv)
            rw [hsv] at HSZ
            clear HNJ HYJ hsv
            go_region_held3 (fun w' => w'.cell? ⟨g, 0, none⟩ = some (.int .i64 x.seq) ∧ w'.cell? ⟨g, 1, none⟩ = some (.int .i64 x.prev) ∧ w'.cell? ⟨g, 2, none⟩ = some (.int .i64 x.batch) ∧ w'.cell? ⟨g, 3, none⟩ = some (.int .i64 x.root) ∧ w'.cell? ⟨g, 4, none⟩ = some (.int .i64 x.state) ∧ w'.cell? (ad.add (j * 5)) = some (.int .i64 y.seq) ∧ w'.cell? ⟨(ad.add (j * 5)).block, (ad.add (j * 5)).off + 1, none⟩ = some (.int .i64 y.prev) ∧ w'.cell? ⟨(ad.add (j * 5)).block, (ad.add (j * 5)).off + 2, none⟩ = some (.int .i64 y.batch) ∧ w'.cell? ⟨(ad.add (j * 5)).block, (ad.add (j * 5)).off + 3, none⟩ = some (.int .i64 y.root) ∧ w'.cell? ⟨(ad.add (j * 5)).block, (ad.add (j * 5)).off + 4, none⟩ = some (.int .i64 y.state))
              (first | exact HST.out _ HB5.out | exact HST.out _ HB4.out | exact HST.out _ HD0.out)
              (first
              | (go_at_call 16; refine HCX3.out.mono ?_; rintro e w4 ⟨rfl, hb4⟩; have HB4 := Lib.hid hb4; clear hb4)
              | (go_at_call 44; refine (HSZ.out _ HB4.out).mono ?_; rintro e w5 ⟨rfl, hb5⟩; have HB5 := Lib.hid hb5; clear hb5))
            all_goals
              go_wp2_with fail
              go_ret
              exact ⟨by rw [HR.out]; rfl, (HK.out.later HB5.out).below⟩
          | true =>
            have HY := Lib.hid (HYJ.out hsv)
            rw [hsv] at HSZ
            clear HNJ HYJ hsv
            go_region_held3 (fun w' => w'.cell? ⟨g, 0, none⟩ = some (.int .i64 x.seq) ∧ w'.cell? ⟨g, 1, none⟩ = some (.int .i64 x.prev) ∧ w'.cell? ⟨g, 2, none⟩ = some (.int .i64 x.batch) ∧ w'.cell? ⟨g, 3, none⟩ = some (.int .i64 x.root) ∧ w'.cell? ⟨g, 4, none⟩ = some (.int .i64 x.state) ∧ w'.cell? (ad.add (j * 5)) = some (.int .i64 y.seq) ∧ w'.cell? ⟨(ad.add (j * 5)).block, (ad.add (j * 5)).off + 1, none⟩ = some (.int .i64 y.prev) ∧ w'.cell? ⟨(ad.add (j * 5)).block, (ad.add (j * 5)).off + 2, none⟩ = some (.int .i64 y.batch) ∧ w'.cell? ⟨(ad.add (j * 5)).block, (ad.add (j * 5)).off + 3, none⟩ = some (.int .i64 y.root) ∧ w'.cell? ⟨(ad.add (j * 5)).block, (ad.add (j * 5)).off + 4, none⟩ = some (.int .i64 y.state))
              (first | exact HST.out _ HB5.out | exact HST.out _ HB4.out | exact HST.out _ HD0.out)
              (first
              | (go_at_call 16; refine HCX3.out.mono ?_; rintro e w4 ⟨rfl, hb4⟩; have HB4 := Lib.hid hb4; clear hb4)
              | (go_at_call 44; refine (HSZ.out _ HB4.out).mono ?_; rintro e w5 ⟨rfl, hb5⟩; have HB5 := Lib.hid hb5; clear hb5))
            all_goals
              go_wp2_with fail
              go_roundw
              case rel => exact ⟨j + 1 + 1, by omega, by go_num, HY.out, (HK.out.later HB5.out).below⟩
              case measure => simp [intOf]; omega
      · have e1 : (hcheck x == 0) = false := beq_eq_false_iff_ne.2 hc
        have e2 : (hcheck x != 0) = true := by rw [bne, e1]; rfl
        have HR : Hid (cb = false) := Lib.hid (by
          rw [HCB.out]
          apply HNO.out
          cases i with
          | zero => rw [HZ0.out rfl, e1]
          | succ j => rw [HZ1.out j rfl, e1]; rfl)
        clear hc
        refine wp_region_any (by kernel_rfl) ?_
        refine Kq.one_call (D := CK w g x) (n := 16) (i0 := 17) (i1 := 18) (v0 := .agg #[.int .i64 x.seq, .int .i64 x.prev, .int .i64 x.batch, .int .i64 x.root, .int .i64 x.state]) (v1 := .int .i64 (hcheck x)) (f := 16) (x0 := #[.agg #[.int .i64 x.seq, .int .i64 x.prev, .int .i64 x.batch, .int .i64 x.root, .int .i64 x.state]]) rfl rfl rfl rfl (by kernel_rfl) (by kernel_rfl) (Kz.Y_load rfl rfl rfl (show w2.drew.heap[g]? = _ from HKD.out.one) Tryz.underlying24 rfl (by kernel_rfl)) ?_ HCX2.out ?_
        · refine ⟨rfl, ?_⟩
          simp only [Act.put]
          go_simp
        intro w4 hk4
        have HK4 := Lib.hid hk4
        clear hk4
        refine Kq.any_quiet2 (by kernel_rfl) (by kernel_rfl) ?_
        simp only [Act.put, List.setIfInBounds_toArray, List.set_cons_succ, List.set_cons_zero]
        repeat (go_big_quiet_step (fail))
        refine wpQuiet_nil ?_
        intro _ hw'
        obtain ⟨nq, hw''⟩ := hw'
        subst hw''
        all_goals
          go_wp2_with fail
          go_ret
          exact ⟨by rw [HR.out]; rfl, below_drewN HK4.out.below _⟩
    · have hie : i = l.length := by omega
      subst hie
      have HR : Hid (cb = true) := Lib.hid (by rw [HCB.out]; exact HALL.out)
      go_wp2_with fail
      go_ret
      exact ⟨by rw [HR.out]; rfl, HB.out⟩
end Go.Proofs.YtobphijbhghgmaaGreat.Zm

/-
  Layer 9 (block): equality of headers; the walk of live.
-/
namespace Go.Proofs.YtobphijbhghgmaaGreat.Zn
set_option linter.unusedSimpArgs false
open Go Go.RowKit Ck Kw Ga Kf Pm Pe Qb Tm Tn Tq Ik Aa Ja Jm Jb Jn Ma Za Zb Ze Zt Zc Zg Zh Zi Zj Zk Zl Zm
open Im (num isIn add sum)
attribute [local go_sem ↓] Go.wp_at_zero Go.wp_at_succ
set_option linter.unusedVariables false
set_option maxRecDepth 100000

theorem guard_hdr : Tryz.prog.eqGuardType Tryz.prog.depth 24 = false := by kernel_rfl
theorem stood_hdr : Tryz.prog.stoodInHeld 24 = false := by kernel_rfl
theorem fields_hdr : Tryz.prog.underlying 24 = some (.struct (Tryz.prog.fieldsOf 24)) := by kernel_rfl
theorem hdr_ext {a b : H} (h0 : a.seq = b.seq) (h1 : a.prev = b.prev) (h2 : a.batch = b.batch) (h3 : a.root = b.root) (h4 : a.state = b.state) : a = b := by
  obtain ⟨_, _, _, _, _⟩ := a
  obtain ⟨_, _, _, _, _⟩ := b
  simp only at h0 h1 h2 h3 h4
  subst h0; subst h1; subst h2; subst h3; subst h4
  rfl
theorem run_equalIn_hdr (W : World) (d : Nat) (a b : H) : (Op.equalIn (d + 1 + 1) 24 (HV a) (HV b)).run Tryz.prog W = .ok (decide (a = b)) W := by
  unfold HV HC
  rw [run_equalIn_struct W (d + 1) 24 _ _ fields_hdr stood_hdr]
  have hf : (Tryz.prog.fieldsOf 24).toList = [{ name := "Seq", type := 2, offset := 0, embedded := false, tag := "", pkgPath := "", byteOffset := 0 }, { name := "Prev", type := 22, offset := 1, embedded := false, tag := "", pkgPath := "", byteOffset := 8 }, { name := "Batch", type := 22, offset := 2, embedded := false, tag := "", pkgPath := "", byteOffset := 16 }, { name := "Root", type := 22, offset := 3, embedded := false, tag := "", pkgPath := "", byteOffset := 24 }, { name := "State", type := 22, offset := 4, embedded := false, tag := "", pkgPath := "", byteOffset := 32 }] := by kernel_rfl
  rw [hf]
  have h1 := fun (x y : Int) (W : World) => run_equalIn_int (P := Tryz.prog) W d 2 .i64 .i64 x y Tryz.underlying2
  have h2 := fun (x y : Int) (W : World) => run_equalIn_int (P := Tryz.prog) W d 22 .i64 .i64 x y Tryz.underlying22
  have p0 : ∀ (u0 u1 u2 u3 u4 : Value) (W : World), (part 2 #[u0, u1, u2, u3, u4] 0).run Tryz.prog W = .ok u0 W := fun u0 u1 u2 u3 u4 W => by simp [part, isAgg, run_underlying Tryz.underlying2]
  have p1 : ∀ (u0 u1 u2 u3 u4 : Value) (W : World), (part 22 #[u0, u1, u2, u3, u4] 1).run Tryz.prog W = .ok u1 W := fun u0 u1 u2 u3 u4 W => by simp [part, isAgg, run_underlying Tryz.underlying22]
  have p2 : ∀ (u0 u1 u2 u3 u4 : Value) (W : World), (part 22 #[u0, u1, u2, u3, u4] 2).run Tryz.prog W = .ok u2 W := fun u0 u1 u2 u3 u4 W => by simp [part, isAgg, run_underlying Tryz.underlying22]
  have p3 : ∀ (u0 u1 u2 u3 u4 : Value) (W : World), (part 22 #[u0, u1, u2, u3, u4] 3).run Tryz.prog W = .ok u3 W := fun u0 u1 u2 u3 u4 W => by simp [part, isAgg, run_underlying Tryz.underlying22]
  have p4 : ∀ (u0 u1 u2 u3 u4 : Value) (W : World), (part 22 #[u0, u1, u2, u3, u4] 4).run Tryz.prog W = .ok u4 W := fun u0 u1 u2 u3 u4 W => by simp [part, isAgg, run_underlying Tryz.underlying22]
  by_cases e0 : a.seq = b.seq
  · by_cases e1 : a.prev = b.prev
    · by_cases e2 : a.batch = b.batch
      · by_cases e3 : a.root = b.root
        · by_cases e4 : a.state = b.state
          · have e : a = b := hdr_ext e0 e1 e2 e3 e4
            subst e
            simp [Op.eqFields, p0, p1, p2, p3, p4, h1, h2, Result.andThen]
          · have e : ¬ a = b := fun e => e4 (by rw [e])
            simp [Op.eqFields, p0, p1, p2, p3, p4, h1, h2, Result.andThen, e0, e1, e2, e3, e4, e]
        · have e : ¬ a = b := fun e => e3 (by rw [e])
          simp [Op.eqFields, p0, p1, p2, p3, h1, h2, Result.andThen, e0, e1, e2, e3, e]
      · have e : ¬ a = b := fun e => e2 (by rw [e])
        simp [Op.eqFields, p0, p1, p2, h1, h2, Result.andThen, e0, e1, e2, e]
    · have e : ¬ a = b := fun e => e1 (by rw [e])
      simp [Op.eqFields, p0, p1, h1, h2, Result.andThen, e0, e1, e]
  · have e : ¬ a = b := fun e => e0 (by rw [e])
    simp [Op.eqFields, p0, h1, h2, Result.andThen, e0, e]
theorem run_neq_hdr (W : World) (a b : H) : (binOp .neq 24 (HV a) (HV b)).run Tryz.prog W = .ok (.bool (!decide (a = b))) W := by
  have h := run_equalIn_hdr W 9998 a b
  unfold HV HC at *
  rw [run_neq_struct, show (10000 : Nat) = 9998 + 1 + 1 from rfl, h]
  rfl

/-- The first headers. -/
def h0 : H := ⟨0, 0, 0, 1, 2⟩
def h1 : H := ⟨1, 4, 3, 1, 2⟩
theorem gen_h0 : genR [] = (h0, 0) := by decide +kernel
theorem exec_h1 : execR (genT []) St.zero h0 [] = (h1, 0) := by decide +kernel
theorem exec_s1 : execS (genT []) St.zero h0 [] = St.zero := by decide +kernel
theorem chain_h0 : chainB (execT (genT []) St.zero h0 []) [h0, h1] = true := by decide +kernel
theorem chain_h1 : chainB (execT (genT []) St.zero h0 []) [h1, h0] = false := by decide +kernel
end Go.Proofs.YtobphijbhghgmaaGreat.Zn

/-
  Layer 9 (block): the contract of bullalaw09.live.
-/
namespace Go.Proofs.YtobphijbhghgmaaGreat.Zo
set_option linter.unusedSimpArgs false
open Go Go.RowKit Ck Kw Ga Kf Pm Pe Qb Tm Tn Tq Ik Aa Ja Jm Jb Jn Ma Za Zb Ze Zt Zc Zg Zh Zi Zj Zk Zl Zm Zn
open Im (num isIn add sum)
attribute [local go_sem ↓] Go.wp_at_zero Go.wp_at_succ
set_option linter.unusedVariables false
set_option maxRecDepth 100000

theorem hs_lit (W : World) (X : Nat → Prop) (l : List H) {cs : Array Value} {n : Nat} (hc : cs = (flatH l).toArray) (hn : n = l.length) (h1 : n ≤ 1000) (hX : ¬ X W.heap.size) : Sl (W.alloc (.cells cs 24)) X 5 (.slice (some ⟨W.heap.size, 0, none⟩) n n) l.length (flatH l) := by
  subst hc
  subst hn
  refine ⟨_, _, rfl, by rw [flatH, flat_len HC_len], Nat.le_refl _, by simp only [maxLen]; omega, fun _ => ⟨_, rfl, by simp, hX, fun j u hu => ?_⟩⟩
  have ha : (⟨W.heap.size, 0, none⟩ : Addr).add j = ⟨W.heap.size, j, none⟩ := by unfold Addr.add; split <;> simp_all
  rw [ha]
  have hb : Blk (W.alloc (.cells (flatH l).toArray 24)) W.heap.size 24 (flatH l).toArray := Blk.new W _ _
  rw [hb.cell j]
  simpa using hu
theorem new_low {w w1 : World} {k : Nat} (h : New w w1 k) : w.heap.size ≤ k ∧ k < w1.heap.size := h

set_option maxHeartbeats 16000000 in
theorem live_any (w : World) : Calls Tryz.prog 7 #[] w fun e w' => e = .returned (.bool true) ∧ Below w.heap.size w w' := by
  have HGN := Lib.hid fun (W : World) (S : Nat → Prop) (p : Nat) (k : Tb W S p []) => genesis_any W S p [] k
  rw [gen_h0] at HGN
  have HEX := Lib.hid fun (W : World) (S : Nat → Prop) (p t : Nat) (k : TS W S p t (genT []) St.zero) => exec_nil W S p t (genT []) St.zero h0 k
  unfold ExecD at HEX
  rw [exec_h1, exec_s1] at HEX
  have HCH := Lib.hid fun (W : World) (S : Nat → Prop) (p : Nat) (A : Option Addr) (c : Nat) (k : Tb W S p (execT (genT []) St.zero h0 [])) (hl : Sl W (fun _ => False) 5 (.slice A 2 c) 2 (flatH [h0, h1])) => chain_any W S (fun _ => False) p _ A c [h0, h1] k hl (by simp)
  have HCI := Lib.hid fun (W : World) (S : Nat → Prop) (p : Nat) (A : Option Addr) (c : Nat) (k : Tb W S p (execT (genT []) St.zero h0 [])) (hl : Sl W (fun _ => False) 5 (.slice A 2 c) 2 (flatH [h1, h0])) => chain_any W S (fun _ => False) p _ A c [h1, h0] k hl (by simp)
  rw [chain_h0] at HCH
  rw [chain_h1] at HCI
  have hq : ∀ W : World, (binOp .neq 24 (.agg #[.int .i64 0, .int .i64 0, .int .i64 0, .int .i64 1, .int .i64 2]) (.agg #[.int .i64 0, .int .i64 0, .int .i64 0, .int .i64 1, .int .i64 2])).run Tryz.prog W = .ok (.bool false) W := fun W => run_neq_hdr W h0 h0
  have hgh := guard_hdr
  generalize genT [] = T1 at *
  generalize execT T1 St.zero h0 [] = T2 at *
  simp only [HV, HC, h0, h1, List.length_cons, List.length_nil] at HGN HEX HCH HCI
  go_enter Tryz.func7, Tryz.ntmps7
  go_wp2_with fail
  refine (Ib.newtable_any w).mono ?_
  rintro e w1 ⟨p, rfl, ht1, hb1⟩
  have HB1 := Lib.hid hb1
  have HT1 := Lib.hid ht1
  clear ht1 hb1
  go_wp2_with fail
  refine (HGN.out w1 _ p HT1.out).mono ?_
  rintro e w2 ⟨rfl, ht2, hc2⟩
  have hb2 : Below w.heap.size w w2 := HB1.out.trans (hc2.below (fun k hk h => by have := (new_low h).1; omega) HB1.out.size)
  have HB2 := Lib.hid hb2
  have HT2 := Lib.hid (Tb.tight ht2)
  have hlow2 : ∀ k, Up (New w w1) w1 w2 k → w.heap.size ≤ k := fun k hk => by
    have := HB1.out.size
    rcases hk with hk | hk
    · exact (new_low hk).1
    · have := hk.1; omega
  have HLO2 := Lib.hid hlow2
  clear ht2 hc2 hb2 hlow2 HGN
  have hg3 : Blk (w2.alloc (.cells #[.int .i64 0, .int .i64 0, .int .i64 0, .int .i64 1, .int .i64 2] 24)) w2.heap.size 24 #[.int .i64 0, .int .i64 0, .int .i64 0, .int .i64 1, .int .i64 2] := Blk.new w2 _ _
  have hb3 := op_below w2 (.cells #[.int .i64 0, .int .i64 0, .int .i64 0, .int .i64 1, .int .i64 2] 24)
  have hz3 : (w2.alloc (.cells #[.int .i64 0, .int .i64 0, .int .i64 0, .int .i64 1, .int .i64 2] 24)).heap.size = w2.heap.size + 1 := by simp
  have HG3 := Lib.hid hg3
  have HB3 := Lib.hid (HB2.out.trans (hb3.mono HB2.out.size))
  have HT3 := Lib.hid (Tb.after HT2.out hb3)
  have HZ3 := Lib.hid hz3
  clear hg3 hb3 hz3
  go_wp2_with fail
  generalize w2.alloc (.cells #[.int .i64 0, .int .i64 0, .int .i64 0, .int .i64 1, .int .i64 2] 24) = w3 at *
  refine (Ab.new_any w3).mono ?_
  rintro e w4 ⟨t, rfl, hz4, hb4⟩
  have HTS := Lib.hid (ts_new HT3.out hb4 hz4)
  have HB4 := Lib.hid (HB3.out.trans (hb4.mono HB3.out.size))
  have HG4 := Lib.hid (HG3.out.below hb4 HG3.out.lt)
  clear hz4 hb4
  obtain ⟨⟨a0, a1, a2, a3, a4⟩, -⟩ := Blk.cells5 HG4.out
  go_wp2_with fail
  refine (HEX.out w4 _ p t HTS.out).mono ?_
  rintro e w5 ⟨vp, va, rfl, hnil, hts5, hc5⟩
  obtain ⟨rfl, rfl⟩ := hnil trivial
  have hs2 := HB2.out.size
  have hb5 : Below w.heap.size w w5 := HB4.out.trans (hc5.below (fun k hk h => by
    have := HZ3.out
    rcases h with h | h
    · have := HLO2.out k h.1.1; omega
    · have := h.1; omega) HB4.out.size)
  have hg5 := HG4.out.ch hc5 (fun h => by
    have := HZ3.out
    rcases h with h | h
    · have := h.1.2; omega
    · have := h.1; omega)
  have HB5 := Lib.hid hb5
  have HG5 := Lib.hid hg5
  have HT5 := Lib.hid (Zh.TS.tb hts5)
  clear hnil hts5 hc5 hb5 hg5 HEX HTS HG4 HG3 a0 a1 a2 a3 a4
  have hg6 := HG5.out.alloc (.cells #[.int .i64 1, .int .i64 4, .int .i64 3, .int .i64 1, .int .i64 2] 24)
  have hh6 : Blk (w5.alloc (.cells #[.int .i64 1, .int .i64 4, .int .i64 3, .int .i64 1, .int .i64 2] 24)) w5.heap.size 24 #[.int .i64 1, .int .i64 4, .int .i64 3, .int .i64 1, .int .i64 2] := Blk.new w5 _ _
  have hb6 := op_below w5 (.cells #[.int .i64 1, .int .i64 4, .int .i64 3, .int .i64 1, .int .i64 2] 24)
  have HG6 := Lib.hid hg6
  have HH6 := Lib.hid hh6
  have HB6 := Lib.hid (HB5.out.trans (hb6.mono HB5.out.size))
  have HT6 := Lib.hid (Tb.after HT5.out hb6)
  obtain ⟨⟨a0, a1, a2, a3, a4⟩, -⟩ := Blk.cells5 hg6
  obtain ⟨⟨b0, b1, b2, b3, b4⟩, -⟩ := Blk.cells5 hh6
  clear hg6 hh6 hb6 HG5 hs2
  have hz6 : (w5.alloc (.cells #[.int .i64 1, .int .i64 4, .int .i64 3, .int .i64 1, .int .i64 2] 24)).heap.size = w5.heap.size + 1 := by simp
  have hl7 := hs_lit (w5.alloc (.cells #[.int .i64 1, .int .i64 4, .int .i64 3, .int .i64 1, .int .i64 2] 24)) (fun _ => False) [h0, h1] (cs := #[.int .i64 0, .int .i64 0, .int .i64 0, .int .i64 1, .int .i64 2, .int .i64 1, .int .i64 4, .int .i64 3, .int .i64 1, .int .i64 2]) (n := 2) rfl rfl (by omega) (fun h => h)
  rw [hz6] at hl7
  have hb7 := op_below (w5.alloc (.cells #[.int .i64 1, .int .i64 4, .int .i64 3, .int .i64 1, .int .i64 2] 24)) (.cells #[.int .i64 0, .int .i64 0, .int .i64 0, .int .i64 1, .int .i64 2, .int .i64 1, .int .i64 4, .int .i64 3, .int .i64 1, .int .i64 2] 24)
  have HL7 := Lib.hid hl7
  have HB7 := Lib.hid (HB6.out.trans (hb7.mono HB6.out.size))
  have HT7 := Lib.hid (Tb.after HT6.out hb7)
  have HG7 := Lib.hid (HG6.out.below hb7 HG6.out.lt)
  have HH7 := Lib.hid (HH6.out.below hb7 HH6.out.lt)
  clear hz6 hl7 hb7
  go_wp2_with fail
  generalize (w5.alloc (.cells #[.int .i64 1, .int .i64 4, .int .i64 3, .int .i64 1, .int .i64 2] 24)).alloc (.cells #[.int .i64 0, .int .i64 0, .int .i64 0, .int .i64 1, .int .i64 2, .int .i64 1, .int .i64 4, .int .i64 3, .int .i64 1, .int .i64 2] 24) = w7 at *
  refine (HCH.out w7 _ p _ _ HT7.out HL7.out).mono ?_
  rintro e w8 ⟨rfl, hb8⟩
  have HB8 := Lib.hid (HB7.out.trans (hb8.mono HB7.out.size))
  have HT8 := Lib.hid (Tb.after HT7.out hb8)
  have hg8 := HG7.out.below hb8 HG7.out.lt
  have hh8 := HH7.out.below hb8 HH7.out.lt
  clear a0 a1 a2 a3 a4 b0 b1 b2 b3 b4 hb8 HCH HG6 HH6 HB6 HT6
  obtain ⟨⟨a0, a1, a2, a3, a4⟩, -⟩ := Blk.cells5 hg8
  obtain ⟨⟨b0, b1, b2, b3, b4⟩, -⟩ := Blk.cells5 hh8
  clear hg8 hh8
  have HL9 := Lib.hid (hs_lit w8 (fun _ => False) [h1, h0] (cs := #[.int .i64 1, .int .i64 4, .int .i64 3, .int .i64 1, .int .i64 2, .int .i64 0, .int .i64 0, .int .i64 0, .int .i64 1, .int .i64 2]) (n := 2) rfl rfl (by omega) (fun h => h))
  have hb9 := op_below w8 (.cells #[.int .i64 1, .int .i64 4, .int .i64 3, .int .i64 1, .int .i64 2, .int .i64 0, .int .i64 0, .int .i64 0, .int .i64 1, .int .i64 2] 24)
  have HB9 := Lib.hid (HB8.out.trans (hb9.mono HB8.out.size))
  have HT9 := Lib.hid (Tb.after HT8.out hb9)
  clear hb9
  go_wp2_with fail
  generalize w8.alloc (.cells #[.int .i64 1, .int .i64 4, .int .i64 3, .int .i64 1, .int .i64 2, .int .i64 0, .int .i64 0, .int .i64 0, .int .i64 1, .int .i64 2] 24) = w9 at *
  refine (HCI.out w9 _ p _ _ HT9.out HL9.out).mono ?_
  rintro e w10 ⟨rfl, hb10⟩
  have HB10 := Lib.hid (HB9.out.trans (hb10.mono HB9.out.size))
  clear hb10
  go_wp2_with fail
  go_ret
  exact ⟨rfl, HB10.out⟩
end Go.Proofs.YtobphijbhghgmaaGreat.Zo

/-
  Layer 9 (block): the walk of the statement BlockBack.
-/
namespace Go.Proofs.YtobphijbhghgmaaGreat.Zp
set_option linter.unusedSimpArgs false
open Go Go.RowKit Ck Kw Ga Kf Pm Pe Qb Tm Tn Tq Ik Aa Ja Jd Jm Jb Jn Ma Za Zb Ze Zt Zc Zg Zh Zi Zj Zk Zl Zm Zn Zo
open Im (num isIn add sum)
attribute [local go_sem ↓] Go.wp_at_zero Go.wp_at_succ
set_option linter.unusedVariables false
set_option maxRecDepth 100000

/-- A header's block, and what is new. -/
structure KH (w0 : World) (h : H) (W : World) : Prop where
  below : Below w0.heap.size w0 W
  one : Blk W w0.heap.size 24 (HC h)
theorem KH.later {w0 W W' : World} {h : H} (k : KH w0 h W) (b : Below W.heap.size W W') : KH w0 h W' := ⟨k.below.trans (b.mono k.below.size), k.one.below b k.one.lt⟩
theorem kh_new (w : World) (h : H) : KH w h (w.alloc (.cells (HC h) 24)) := ⟨op_below w _, Blk.new w _ _⟩
end Go.Proofs.YtobphijbhghgmaaGreat.Zp

/-
  Contracts of layer 5: Verify, the program's and the document's.
-/
namespace Go.Proofs.YtobphijbhghgmaaGreat.Mj
set_option linter.unusedSimpArgs false
open Go Go.RowKit Ck Im Kw Ik Ia Ib Ic Ig Ih Ij Mm Ma Mb Mc Pr Me Mf
attribute [local go_sem ↓] Go.wp_at_zero Go.wp_at_succ
set_option linter.unusedVariables false

theorem two_below (w : World) (a b : Obj) : Below w.heap.size w ((w.alloc a).alloc b) := ((Below.refl _ w).alloc (Nat.le_refl _) _).alloc (by simp) _

end Go.Proofs.YtobphijbhghgmaaGreat.Mj

/-
  Layer 5: a table beside what its callers hold; the contract of bullalaw05.live.
-/
namespace Go.Proofs.YtobphijbhghgmaaGreat.Ml
set_option linter.unusedSimpArgs false
open Go Go.RowKit Ck Im Kw Ik Ia Ib Ic Ig Ih Ij Mm Ma Mb Mc Pr Me Mf Mj
attribute [local go_sem ↓] Go.wp_at_zero Go.wp_at_succ
set_option linter.unusedVariables false

/-- A table in blocks from B on, below q. -/
def TQ (B q p : Nat) (L : List Tx) (w : World) : Prop := ∃ S, Tb w S p L ∧ ∀ k, S k → B ≤ k ∧ k < q
section
variable {B q p : Nat} {L : List Tx} {w w' : World}
theorem TQ.after (h : TQ B q p L w) (b : Below w.heap.size w w') : TQ B q p L w' := by
  obtain ⟨S, h1, h2⟩ := h
  exact ⟨S, Tb.after h1 b, h2⟩
theorem TQ.len (h : TQ B q p L w) : L.length ≤ 1048576 := by
  obtain ⟨S, h1, _⟩ := h
  exact Tb.len h1
end

end Go.Proofs.YtobphijbhghgmaaGreat.Ml

/-
  Layer 5: what a table that no call made answers; the walk of the statement MerkleNone.
-/
namespace Go.Proofs.YtobphijbhghgmaaGreat.Nc
set_option linter.unusedSimpArgs false
open Go Go.RowKit Ck Im Kw Ik Ia Ib Ic Ig Ih Ij Mm Ma Mb Mc Pr Me Mf Mj Ml
attribute [local go_sem ↓] Go.wp_at_zero Go.wp_at_succ
set_option linter.unusedVariables false

/-- A table that no call made. -/
def Un (w : World) (v : Value) : Prop := v = .pointer none ∨ ∃ p tv, v = .pointer (some ⟨p, 0, none⟩) ∧ Blk w p 58 #[.map none, tv]
theorem Un.after {w w' : World} {v : Value} (h : Un w v) (b : Below w.heap.size w w') : Un w' v := by
  rcases h with rfl | ⟨p, tv, rfl, h⟩
  · exact .inl rfl
  · exact .inr ⟨p, tv, rfl, h.below b h.lt⟩
section
variable {w : World} {v : Value}
theorem len_un (h : Un w v) : Calls Tryz.prog 93 #[v] w fun e w' => e = .returned (.int .i64 0) ∧ w = w' := by
  rcases h with rfl | ⟨p, tv, rfl, h⟩
  · exact len_nil w
  · exact len_no w p tv h
theorem clone_un (h : Un w v) : Calls Tryz.prog 94 #[v] w fun e w' => e = .returned (.pointer none) ∧ w = w' := by
  rcases h with rfl | ⟨p, tv, rfl, h⟩
  · exact tclone_nil w
  · exact tclone_no w p tv h
theorem made_un (h : Un w v) : Calls Tryz.prog 72 #[v] w fun e w' => e = .returned (.bool false) ∧ w = w' := by
  have HN := Lib.hid (len_un h)
  have HC := Lib.hid (clone_un h)
  clear h
  go_enter Tryz.func72, Tryz.ntmps72
  go_wp2_with fail
  refine HN.out.mono ?_
  rintro e w' ⟨rfl, rfl⟩
  go_wp2_with fail
  refine HC.out.mono ?_
  rintro e w' ⟨rfl, rfl⟩
  go_wp2_with fail
  go_ret
  exact ⟨rfl, rfl⟩
end

/-- Root's closure over such a table. -/
def CloU (w : World) (v : Value) (Bt Bd : Nat) : Prop :=
  Blk w Bt 34 #[v] ∧ Blk w Bd 146 #[.func (.func 80) #[] #[.pointer (some ⟨Bt, 0, none⟩), .pointer (some ⟨Bd, 0, none⟩)]]
theorem CloU.after {w w' : World} {v : Value} {Bt Bd : Nat} (h : CloU w v Bt Bd) (b : Below w.heap.size w w') : CloU w' v Bt Bd := ⟨h.1.below b h.1.lt, h.2.below b h.2.lt⟩

set_option maxRecDepth 100000 in
theorem prove_un (w : World) (o : Option Addr) (i : Int) (x : Value) (hT : Un w (.pointer o)) :
    Calls Tryz.prog 58 #[.pointer o, .int .i64 i, x] w fun e w' => e = .returned (.tuple #[.slice none 0 0, .int .i64 2]) ∧ Below w.heap.size w w' := by
  have hb : Below w.heap.size w (w.alloc (.cells #[.pointer o] 34)) := (Below.refl _ w).alloc (Nat.le_refl _) _
  have HM := Lib.hid (made_un (hT.after hb))
  have HB := Lib.hid hb
  clear hT hb
  go_enter Tryz.func58, Tryz.ntmps58
  go_wp2_with fail
  refine HM.out.mono ?_
  rintro e w' ⟨rfl, rfl⟩
  go_wp2_with fail
  go_ret2
  exact ⟨rfl, HB.out⟩

end Go.Proofs.YtobphijbhghgmaaGreat.Nc

/-
  Layer 9 (block): what a table and topics that no call made answer.
-/
namespace Go.Proofs.YtobphijbhghgmaaGreat.Zs
set_option linter.unusedSimpArgs false
open Go Go.RowKit Ck Kw Ga Kf Pm Pe Qb Tm Tn Tq Ik Aa Ja Jd Jm Jb Jn Ma Za Zb Ze Zt Zc Zg Zh Zi Zj Zk Zl Zm Zn Zo Zp
open Im (num isIn add sum)
attribute [local go_sem ↓] Go.wp_at_zero Go.wp_at_succ
set_option linter.unusedVariables false
set_option maxRecDepth 100000

theorem mtab_un (w : World) (o : Option Addr) (hT : Nc.Un w (.pointer o)) :
    Calls Tryz.prog 38 #[.pointer o] w fun e w' => e = .returned (.bool false) ∧ Below w.heap.size w w' := by
  have HP := Lib.hid (Nc.prove_un w o 0 (.slice none 0 0) hT)
  clear hT
  go_enter Tryz.func38, Tryz.ntmps38
  go_wp2_with fail
  refine HP.out.mono ?_
  rintro e w1 ⟨rfl, hb1⟩
  have HB1 := Lib.hid hb1
  clear hb1
  go_wp2_with fail
  go_ret
  exact ⟨rfl, HB1.out⟩
theorem bounds_un (w : World) (v : Value) (s : ByteArray) (h : Aa.Un w v) :
    Calls Tryz.prog 68 #[v, .string s] w fun e w' => e = .returned (.tuple #[.int .i64 0, .int .i64 0, .int .i64 2]) ∧ w = w' := by
  have HF := Lib.hid (Aa.find_un w v s h)
  clear h
  go_enter Tryz.func68, Tryz.ntmps68
  go_wp2_with fail
  refine HF.out.mono ?_
  rintro e w2 ⟨rfl, rfl⟩
  go_wp2_with fail
  go_ret3
  exact ⟨rfl, rfl⟩
theorem mtop_un (w : World) (v : Value) (h : Aa.Un w v) :
    Calls Tryz.prog 47 #[v] w fun e w' => e = .returned (.bool false) ∧ w = w' := by
  have HP := Lib.hid fun s => bounds_un w v s h
  clear h
  go_enter Tryz.func47, Tryz.ntmps47
  go_wp2_with fail
  refine (HP.out _).mono ?_
  rintro e w1 ⟨rfl, rfl⟩
  go_wp2_with fail
  go_ret
  exact ⟨rfl, rfl⟩
theorem digest_un (w : World) (o : Option Addr) (h : H) (hT : Nc.Un w (.pointer o)) :
    Calls Tryz.prog 12 #[.pointer o, HV h] w fun e w' => e = .returned (.tuple #[.int .i64 0, .int .i64 2]) ∧ Below w.heap.size w w' := by
  have hb := op_below w (.cells (HC h) 24)
  have HB := Lib.hid hb
  have HM := Lib.hid (mtab_un _ o (hT.after hb))
  clear hT hb
  unfold HV
  unfold HC at *
  go_enter Tryz.func12, Tryz.ntmps12
  go_wp2_with fail
  refine HM.out.mono ?_
  rintro e w1 ⟨rfl, hb1⟩
  have HB1 := Lib.hid (HB.out.trans (hb1.mono HB.out.size))
  clear hb1
  go_wp2_with fail
  go_ret2
  exact ⟨rfl, HB1.out⟩
theorem zero5 {w0 w : World} {g : Nat} {x0 x1 x2 x3 x4 : Value} (h : Below w0.heap.size w0 w) (hg : w0.heap.size ≤ g) :
    Below w0.heap.size w0 (((((w.setCell ⟨g, 0, none⟩ x0).setCell ⟨g, 1, none⟩ x1).setCell ⟨g, 2, none⟩ x2).setCell ⟨g, 3, none⟩ x3).setCell ⟨g, 4, none⟩ x4) := ((((h.setCell hg _).setCell hg _).setCell hg _).setCell hg _).setCell hg _
theorem genesis_un (w : World) (o : Option Addr) (hT : Nc.Un w (.pointer o)) :
    Calls Tryz.prog 23 #[.pointer o] w fun e w' => e = .returned (.tuple #[HV H.zero, .int .i64 2]) ∧ Below w.heap.size w w' := by
  have hb := op_below w (.cells ZH 24)
  have hg : Blk (w.alloc (.cells ZH 24)) w.heap.size 24 ZH := Blk.new w _ _
  have HB := Lib.hid hb
  have HG := Lib.hid hg
  have HM := Lib.hid (mtab_un _ o (hT.after hb))
  clear hT hb hg
  unfold ZH at *
  go_enter Tryz.func23, Tryz.ntmps23
  go_wp2_with fail
  refine HM.out.mono ?_
  rintro e w1 ⟨rfl, hb1⟩
  have HB1 := Lib.hid (HB.out.trans (hb1.mono HB.out.size))
  have HG1 := Lib.hid (HG.out.below hb1 HG.out.lt)
  obtain ⟨⟨r0, r1, r2, r3, r4⟩, ⟨z0, z1, z2, z3, z4⟩⟩ := Blk.cells5 HG1.out
  clear hb1
  go_wp2_with fail
  refine bodyPost_ret (results_row_tmp rfl _ _ w.heap.size 24 #[.int .i64 0, .int .i64 0, .int .i64 0, .int .i64 0, .int .i64 0] (0, 0) _ rfl (blk5 HG1.out) Tryz.underlying24 rfl size_hdr) rfl ?_
  exact ⟨rfl, zero5 HB1.out (Nat.le_refl _)⟩
theorem exec_un (w : World) (o : Option Addr) (vt vb : Value) (h : H) (hT : Nc.Un w (.pointer o)) :
    Calls Tryz.prog 24 #[.pointer o, vt, HV h, vb] w fun e w' => e = .returned (.tuple #[HV H.zero, .slice none 0 0, .slice none 0 0, .int .i64 2]) ∧ Below w.heap.size w w' := by
  have b2 : Below w.heap.size w ((w.alloc (.cells (HC h) 24)).alloc (.cells ZH 24)) := (op_below w _).trans ((op_below _ _).mono (by simp))
  have k1 : Blk ((w.alloc (.cells (HC h) 24)).alloc (.cells ZH 24)) (w.heap.size + 1) 24 ZH := Blk.new_at (by simp) rfl
  have HB := Lib.hid b2
  have HG := Lib.hid k1
  have HM := Lib.hid (mtab_un _ o (hT.after b2))
  clear hT b2 k1
  unfold HV
  unfold HC ZH at *
  go_enter Tryz.func24, Tryz.ntmps24
  go_wp2_with fail
  refine HM.out.mono ?_
  rintro e w1 ⟨rfl, hb1⟩
  have HB1 := Lib.hid (HB.out.trans (hb1.mono HB.out.size))
  have HG1 := Lib.hid (HG.out.below hb1 HG.out.lt)
  obtain ⟨⟨r0, r1, r2, r3, r4⟩, ⟨z0, z1, z2, z3, z4⟩⟩ := Blk.cells5 HG1.out
  clear hb1
  go_wp2_with fail
  refine bodyPost_ret (results_row_tmp4 rfl _ _ (w.heap.size + 1) 24 #[.int .i64 0, .int .i64 0, .int .i64 0, .int .i64 0, .int .i64 0] (0, 0) _ rfl (blk5 HG1.out) Tryz.underlying24 rfl size_hdr) rfl ?_
  exact ⟨rfl, zero5 HB1.out (Nat.le_succ _)⟩
theorem exec_nt (w : World) (S : Nat → Prop) (p : Nat) (L : List Tx) (vt vb : Value) (h : H) (hP : Tb w S p L) (hT : Aa.Un w vt) :
    Calls Tryz.prog 24 #[.pointer (some ⟨p, 0, none⟩), vt, HV h, vb] w fun e w' => e = .returned (.tuple #[HV H.zero, .slice none 0 0, .slice none 0 0, .int .i64 2]) ∧ Below w.heap.size w w' := by
  have b2 : Below w.heap.size w ((w.alloc (.cells (HC h) 24)).alloc (.cells ZH 24)) := (op_below w _).trans ((op_below _ _).mono (by simp))
  have k1 : Blk ((w.alloc (.cells (HC h) 24)).alloc (.cells ZH 24)) (w.heap.size + 1) 24 ZH := Blk.new_at (by simp) rfl
  have HB := Lib.hid b2
  have HG := Lib.hid k1
  have HM := Lib.hid (mtab_yes _ S p L (Tb.after hP b2))
  have HU := Lib.hid fun W (b : Below w.heap.size w W) => mtop_un W vt (hT.later b)
  clear hT hP b2 k1
  unfold HV
  unfold HC ZH at *
  go_enter Tryz.func24, Tryz.ntmps24
  go_wp2_with fail
  refine HM.out.mono ?_
  rintro e w1 ⟨rfl, hb1⟩
  have HB1 := Lib.hid (HB.out.trans (hb1.mono HB.out.size))
  have HG1 := Lib.hid (HG.out.below hb1 HG.out.lt)
  clear hb1
  go_wp2_with fail
  refine (HU.out w1 HB1.out).mono ?_
  rintro e w2 ⟨rfl, rfl⟩
  obtain ⟨⟨r0, r1, r2, r3, r4⟩, ⟨z0, z1, z2, z3, z4⟩⟩ := Blk.cells5 HG1.out
  go_wp2_with fail
  refine bodyPost_ret (results_row_tmp4 rfl _ _ (w.heap.size + 1) 24 #[.int .i64 0, .int .i64 0, .int .i64 0, .int .i64 0, .int .i64 0] (0, 0) _ rfl (blk5 HG1.out) Tryz.underlying24 rfl size_hdr) rfl ?_
  exact ⟨rfl, zero5 HB1.out (Nat.le_succ _)⟩
theorem chain_un (w : World) (o : Option Addr) (v : Value) (hT : Nc.Un w (.pointer o)) :
    Calls Tryz.prog 20 #[.pointer o, v] w fun e w' => e = .returned (.bool false) ∧ Below w.heap.size w w' := by
  have HM := Lib.hid (mtab_un _ o hT)
  clear hT
  go_enter Tryz.func20, Tryz.ntmps20
  go_wp2_with fail
  refine HM.out.mono ?_
  rintro e w1 ⟨rfl, hb1⟩
  have HB1 := Lib.hid hb1
  clear hb1
  go_wp2_with fail
  go_ret
  exact ⟨rfl, HB1.out⟩
end Go.Proofs.YtobphijbhghgmaaGreat.Zs

/-
  Contracts of layer 5: Verify, the program's.
-/
import Derived.Test.YtepdajhgfdjklaaMe
import Derived.Deep.RegionHeld3
namespace Go.Proofs.Ytepdajhgfdjklaa.Mh
open Go Go.RowKit Ck Im Ik Ia Ib Ic Ig Ih Ij Mm Ma Mb Mc Pr Me
attribute [local go_sem ↓] Go.wp_at_zero Go.wp_at_succ
set_option linter.unusedVariables false

/-- What a look-up answers. -/
def CV (o : Option Nat) : Value := .tuple #[.int .i64 ((o.getD 0 : Nat) : Int), .bool o.isSome]
theorem look_cv (L : List Tx) (s : Tx) : Value.tuple #[.int .i64 (num L s : Int), .bool (isIn L s)] = CV (Mm.look L s) := by
  unfold Mm.look
  by_cases h : num L s = 0
  · rw [if_pos h, h, isIn_false h]; rfl
  · rw [if_neg h, isIn_true h]; rfl
theorem cv_pair (o : Option Nat) : Value.tuple #[.int .i64 ((o.getD 0 : Nat) : Int), .bool o.isSome] = CV o := rfl
theorem cv_none : CV none = .tuple #[.int .i64 0, .bool false] := rfl
theorem cv_some (d : Nat) : CV (some d) = .tuple #[.int .i64 (d : Int), .bool true] := rfl
/-- Look at bytes of the call's own. -/
theorem look_made (w w1 : World) (S : Nat → Prop) (p : Nat) (L : List Tx) (v : Value) (b : Tx) (h : Tb w S p L) (ho : w1.ownsRow w.heap.size 5 1 v b.length (BVs b)) (b1 : Below w.heap.size w w1) (hl : b.length ≤ 140737488355328) :
    Calls Try.prog 45 #[.pointer (some ⟨p, 0, none⟩), v] w1 fun e w' => e = .returned (.tuple #[.int .i64 (((Mm.look L b).getD 0 : Nat) : Int), .bool (Mm.look L b).isSome]) ∧ Below w.heap.size w w' := by
  obtain ⟨A, c, rfl⟩ := own_shape ho
  refine (look_yes w1 S (fun _ => False) p L A c b (Tb.after h b1) (Sl.of_own ho (fun _ _ _ h => h)) hl).mono ?_
  rintro e w' ⟨rfl, n, rfl⟩
  exact ⟨by rw [look_cv]; rfl, below_drewN b1 n⟩
theorem dcut_upto (A : Option Addr) (n c k : Nat) (hk : k ≤ c) (W : World) : (Instr.slice 31 (.slice A n c) none (some (.int .i64 (k : Int))) none).run Try.prog W = .ok (.slice A k c) W := by
  have he : ∀ W : World, (sizeOf (Try.prog.elem 31)).run Try.prog W = .ok 1 W := fun _ => by kernel_rfl
  rw [run_slice_h W 31 A n c (by kernel_rfl) .i64 k (by omega) (by omega), he]
  simp only [Result.andThen_ok, sliced, Int.toNat_natCast]
  congr 2
  by_cases h0 : c = 0
  · simp [h0]
  · cases A <;> simp [h0, Addr.add]
theorem ds_at {w : World} {X : Nat → Prop} {A : Option Addr} {c : Nat} {ds : List Int} (h : Sl w X 1 (.slice A ds.length c) ds.length (IVs ds)) {k : Nat} (hk : k < ds.length) : ∃ ad, A = some ad ∧ w.cell? (ad.add k) = some (.int .i64 (ds.getD k 0)) ∧ ds.length ≤ c := by
  obtain ⟨A0, c0, hv, hl, hc, hm, hx⟩ := h
  obtain ⟨e1, e2, e3⟩ := Value.slice.inj hv
  obtain ⟨ad, hA, _, _, hcell⟩ := hx (by omega)
  refine ⟨ad, e1.trans hA, ?_, by omega⟩
  rw [hcell k _ (IVs_get hk), List.getD_eq_getElem?_getD, List.getElem?_eq_getElem hk]
  rfl
theorem ds_take {w : World} {X : Nat → Prop} {A : Option Addr} {c : Nat} {ds : List Int} (h : Sl w X 1 (.slice A ds.length c) ds.length (IVs ds)) (k : Nat) (hk : k ≤ ds.length) : Sl w X 1 (.slice A (ds.take k).length c) (ds.take k).length (IVs (ds.take k)) := by
  have h1 := h.upto hk
  have hl : (ds.take k).length = k := by rw [List.length_take]; omega
  rw [hl]
  have e : (IVs ds).take (k * 1) = IVs (ds.take k) := by simp [IVs, List.map_take]
  rw [e] at h1
  exact h1

/-- Verify's closure: its blocks. -/
def CloV (w : World) (p Bt Bl Bd : Nat) (lv : Value) : Prop :=
  Blk w Bt 24 #[.pointer (some ⟨p, 0, none⟩)] ∧ Blk w Bl 41 #[lv] ∧ Blk w Bd 79 #[.func (.func 44) #[] #[.pointer (some ⟨Bt, 0, none⟩), .pointer (some ⟨Bl, 0, none⟩), .pointer (some ⟨Bd, 0, none⟩)]]
theorem CloV.after {w w' : World} {p Bt Bl Bd : Nat} {lv : Value} (h : CloV w p Bt Bl Bd lv) (b : Below w.heap.size w w') : CloV w' p Bt Bl Bd lv := ⟨h.1.below b h.1.lt, h.2.1.below b h.2.1.lt, h.2.2.below b h.2.2.lt⟩
theorem getD_le {ds : List Int} (h : ∀ x ∈ ds, x ≤ 9223372036854775807) (k : Nat) : ds.getD k 0 ≤ 9223372036854775807 := by
  by_cases hk : k < ds.length
  · rw [List.getD_eq_getElem?_getD, List.getElem?_eq_getElem hk]
    exact h _ (List.getElem_mem hk)
  · rw [List.getD_eq_getElem?_getD, List.getElem?_eq_none (by omega)]
    simp

set_option maxRecDepth 100000 in
set_option maxHeartbeats 4000000 in
theorem vdown_any : ∀ (f : Nat) (w : World) (S X Y : Nat → Prop) (p : Nat) (L : List Tx) (i n : Nat) (A : Option Addr) (c : Nat) (ds : List Int) (lv : Value) (b : Tx) (Bt Bl Bd : Nat), n ≤ f → i < n → n ≤ 9223372036854775807 → ds.length = len i n → Tb w S p L → Sl w X 1 (.slice A ds.length c) ds.length (IVs ds) →
    (∀ x ∈ ds, x ≤ 9223372036854775807) → Sl w Y 1 lv b.length (BVs b) → b.length ≤ 140737488355327 → CloV w p Bt Bl Bd lv →
    Calls Try.prog 44 #[.int .i64 i, .int .i64 n, .slice A ds.length c, .pointer (some ⟨Bt, 0, none⟩), .pointer (some ⟨Bl, 0, none⟩), .pointer (some ⟨Bd, 0, none⟩)] w fun e w' => e = .returned (CV (comes L b i n ds)) ∧ Below w.heap.size w w'
  | 0, w, S, X, Y, p, L, i, n, A, c, ds, lv, b, Bt, Bl, Bd, hf, hi, _, _, _, _, _, _, _, _ => by omega
  | f + 1, w, S, X, Y, p, L, i, n, A, c, ds, lv, b, Bt, Bl, Bd, hf, hi, hn63, hlen, hT, hds, hd63, hlv, hbl, hC => by
    have ct : w.cell? ⟨Bt, 0, none⟩ = some (.pointer (some ⟨p, 0, none⟩)) := hC.1.cell 0
    have cl : w.cell? ⟨Bl, 0, none⟩ = some lv := hC.2.1.cell 0
    have cd : w.cell? ⟨Bd, 0, none⟩ = some (.func (.func 44) #[] #[.pointer (some ⟨Bt, 0, none⟩), .pointer (some ⟨Bl, 0, none⟩), .pointer (some ⟨Bd, 0, none⟩)]) := hC.2.2.cell 0
    by_cases hone : n = 1
    · subst hone
      have HR := Lib.hid (comes_one L b ds (i := i) (n := 1) (Nat.le_refl _))
      have HLB := Lib.hid (leafbytes_any w.drew Y lv b.length b hlv hbl)
      have HT := Lib.hid hT
      have HBL := Lib.hid hbl
      have HC := Lib.hid hC
      clear hf hi hlen hT hds hd63 hlv hbl hC cd hn63
      go_enter Try.func44, Try.ntmps44
      go_wp2_with fail
      go_region_held3 (fun w' => w'.cell? ⟨Bt, 0, none⟩ = some (.pointer (some ⟨p, 0, none⟩)) ∧ w'.cell? ⟨Bl, 0, none⟩ = some lv) (first | exact ⟨ct, cl⟩ | exact ⟨ct1, cl1⟩ | exact ⟨ct2, cl2⟩)
        (first
          | (go_at_call 38; refine HLB.out.mono ?_; rintro e w1 ⟨v1, rfl, ho1, hb1⟩; have hb1 : Below w.heap.size w w1 := ⟨hb1.os, hb1.tape, hb1.output, hb1.size, hb1.block⟩; have ct1 : w1.cell? ⟨Bt, 0, none⟩ = some (.pointer (some ⟨p, 0, none⟩)) := (HC.out.after hb1).1.cell 0; have cl1 : w1.cell? ⟨Bl, 0, none⟩ = some lv := (HC.out.after hb1).2.1.cell 0; have HLK := Lib.hid (look_made w w1 S p L v1 (leafB b) HT.out ho1 hb1 (by rw [leaf_len]; have := HBL.out; omega)); clear ho1 hb1)
          | (go_at_call 45; refine HLK.out.mono ?_; rintro e w2 ⟨rfl, hb2⟩; have ct2 : w2.cell? ⟨Bt, 0, none⟩ = some (.pointer (some ⟨p, 0, none⟩)) := (HC.out.after hb2).1.cell 0; have cl2 : w2.cell? ⟨Bl, 0, none⟩ = some lv := (HC.out.after hb2).2.1.cell 0; have HB2 := Lib.hid hb2; clear hb2))
      go_wp2_with fail
      go_ret2
      rw [HR.out]
      exact ⟨rfl, HB2.out⟩
    · obtain ⟨s1, s2, s3⟩ := split_spec (n := n) (by omega)
      have h2 : 2 ≤ n := by omega
      have hih := vdown_any f
      have hLL := Tb.len hT
      obtain ⟨m, hm⟩ : ∃ m, ds.length = m + 1 := by
        by_cases hs : i < split n
        · exact ⟨len i (split n), by rw [hlen, len_left h2 hs]⟩
        · exact ⟨len (i - split n) (n - split n), by rw [hlen, len_right h2 hs]⟩
      have hmt : (ds.take m).length = m := by rw [List.length_take]; omega
      obtain ⟨ad, rfl, hel, hcap⟩ := ds_at hds (k := m) (by omega)
      have hdt := ds_take hds m (by omega)
      rw [hmt] at hdt
      have rcut := dcut_upto (some ad) (m + 1) c m (by omega)
      have hgd := getD_le hd63 m
      have hd63' : ∀ x ∈ ds.take m, x ≤ 9223372036854775807 := fun x hx => hd63 x (List.mem_of_mem_take hx)
      rw [hm] at hlen ⊢
      have hcm : m + 1 ≤ c := by omega
      have hmb : m ≤ 9223372036854775806 := by have := len_lt n i (by omega); omega
      clear hds hcap
      by_cases hs : i < split n
      · have hM := comes_left L b ds h2 hs
        rw [hm, Nat.add_sub_cancel] at hM
        have hll := len_left h2 hs
        have HH := half_left w i n h2 hn63 hs
        generalize hk : split n = k at *
        clear hk
        have hIH := hih w.drew S X Y p L i k (some ad) c (ds.take m) lv b Bt Bl Bd (by omega) (by omega) (by omega) (by rw [hmt]; omega) hT (by rw [hmt]; exact hdt) hd63' hlv hbl hC
        rw [hmt] at hIH
        generalize hel2 : ds.getD m 0 = z at *
        generalize hcom : comes L b i k (ds.take m) = o at *
        have HH := Lib.hid HH
        have HIH := Lib.hid hIH
        have HM := Lib.hid hM
        have HT := Lib.hid hT
        have HC := Lib.hid hC
        have HZ := Lib.hid hgd
        have hol : ∀ d, o = some d → d ≤ 1048576 := fun d hd => by
          rw [hd] at hcom
          have := comes_le hcom
          omega
        have HOL := Lib.hid hol
        have h1 : (n : Int) ≠ 1 := by omega
        have h1' : ((n : Int) == 1) = false := by rw [beq_eq_false_iff_ne]; exact h1
        clear hf hlen hT hd63 hlv hbl hC hih hmt hdt hgd hd63' hM hll hIH hel2 hcom hol hLL hone hm h1
        rcases o with _ | d
        · have hM := HM.out
          simp only [Option.bind_none] at hM
          have HM2 := Lib.hid hM
          clear hM HM
          rw [cv_none] at HIH
          go_enter Try.func44, Try.ntmps44
          go_wp2_with fail
          refine HH.out.mono ?_
          rintro e w' ⟨rfl, rfl⟩
          go_wp2_with fail
          go_region_held3 (fun w' => w'.cell? ⟨Bd, 0, none⟩ = some (.func (.func 44) #[] #[.pointer (some ⟨Bt, 0, none⟩), .pointer (some ⟨Bl, 0, none⟩), .pointer (some ⟨Bd, 0, none⟩)])) (first | exact cd | exact cd1)
            ((go_at_call 44; refine HIH.out.mono ?_; rintro e w1 ⟨rfl, hb1⟩; have hb1 : Below w.heap.size w w1 := ⟨hb1.os, hb1.tape, hb1.output, hb1.size, hb1.block⟩; have cd1 : w1.cell? ⟨Bd, 0, none⟩ = some (.func (.func 44) #[] #[.pointer (some ⟨Bt, 0, none⟩), .pointer (some ⟨Bl, 0, none⟩), .pointer (some ⟨Bd, 0, none⟩)]) := (HC.out.after hb1).2.2.cell 0; have HB1 := Lib.hid hb1; clear hb1))
          go_wp2_with fail
          go_ret2
          rw [HM2.out]
          exact ⟨rfl, HB1.out⟩
        · have hM := HM.out
          simp only [Option.bind_some] at hM
          have HM2 := Lib.hid hM
          clear hM HM
          rw [cv_some] at HIH
          have hdl := HOL.out d rfl
          go_enter Try.func44, Try.ntmps44
          go_wp2_with fail
          refine HH.out.mono ?_
          rintro e w' ⟨rfl, rfl⟩
          go_wp2_with fail
          go_region_held3 (fun w' => w'.cell? ⟨Bd, 0, none⟩ = some (.func (.func 44) #[] #[.pointer (some ⟨Bt, 0, none⟩), .pointer (some ⟨Bl, 0, none⟩), .pointer (some ⟨Bd, 0, none⟩)])) (first | exact cd | exact cd1)
            ((go_at_call 44; refine HIH.out.mono ?_; rintro e w1 ⟨rfl, hb1⟩; have hb1 : Below w.heap.size w w1 := ⟨hb1.os, hb1.tape, hb1.output, hb1.size, hb1.block⟩; have cd1 : w1.cell? ⟨Bd, 0, none⟩ = some (.func (.func 44) #[] #[.pointer (some ⟨Bt, 0, none⟩), .pointer (some ⟨Bl, 0, none⟩), .pointer (some ⟨Bd, 0, none⟩)]) := (HC.out.after hb1).2.2.cell 0; have HB1 := Lib.hid hb1; clear hb1))
          have hb1 := HB1.out
          have ct1 : w1.cell? ⟨Bt, 0, none⟩ = some (.pointer (some ⟨p, 0, none⟩)) := (HC.out.after hb1).1.cell 0
          have ce1 : w1.cell? (ad.add m) = some (.int .i64 z) := (hb1.cell (World.block_lt_of_cell? w _ hel)).trans hel
          have HC1 := Lib.hid (HC.out.after hb1)
          have HT1 := Lib.hid (Tb.after HT.out hb1)
          have HNB := Lib.hid (nodebytes_any w1.drew (d : Int) z (by have := HZ.out; omega) (by have := HZ.out; omega))
          clear hb1
          have hx0 : (0 : Int) ≤ (m : Int) := by omega
          have hx1 : (m : Int) < ((m + 1 : Nat) : Int) := by omega
          have hx2 : (m : Int) < (m : Int) + 1 := by omega
          go_wp2_with fail
          go_region_held3 (fun w' => w'.cell? ⟨Bt, 0, none⟩ = some (.pointer (some ⟨p, 0, none⟩)) ∧ w'.cell? (ad.add m) = some (.int .i64 z)) (first | exact ⟨ct1, ce1⟩ | exact ⟨ct2, ce2⟩ | exact ⟨ct3, ce3⟩)
            (first
              | (go_at_call 40; refine HNB.out.mono ?_; rintro e w2 ⟨v2, rfl, ho2, hb2⟩; have hb2 : Below w1.heap.size w1 w2 := ⟨hb2.os, hb2.tape, hb2.output, hb2.size, hb2.block⟩; have ct2 : w2.cell? ⟨Bt, 0, none⟩ = some (.pointer (some ⟨p, 0, none⟩)) := (HC1.out.after hb2).1.cell 0; have ce2 : w2.cell? (ad.add m) = some (.int .i64 z) := (hb2.cell (World.block_lt_of_cell? w1 _ ce1)).trans ce1; have HLK := Lib.hid (look_made w1 w2 S p L v2 (nodeB (d : Int) z) HT1.out ho2 hb2 (Nat.le_trans (node_len _ _) (by omega))); clear ho2 hb2)
              | (go_at_call 45; refine HLK.out.mono ?_; rintro e w3 ⟨rfl, hb3⟩; have ct3 : w3.cell? ⟨Bt, 0, none⟩ = some (.pointer (some ⟨p, 0, none⟩)) := (HC1.out.after hb3).1.cell 0; have ce3 : w3.cell? (ad.add m) = some (.int .i64 z) := (hb3.cell (World.block_lt_of_cell? w1 _ ce1)).trans ce1; have HB3 := Lib.hid (below_tr HB1.out hb3); clear hb3))
          go_wp2_with fail
          go_ret2
          rw [HM2.out]
          exact ⟨rfl, HB3.out⟩
      · have hM := comes_right L b ds h2 hs
        rw [hm, Nat.add_sub_cancel] at hM
        have hll := len_right h2 hs
        have HH := half_right w i n h2 hn63 hs hi
        generalize hk : split n = k at *
        clear hk
        generalize hu : i - k = u at *
        generalize hv : n - k = v at *
        have hIH := hih w.drew S X Y p L u v (some ad) c (ds.take m) lv b Bt Bl Bd (by omega) (by omega) (by omega) (by rw [hmt]; omega) hT (by rw [hmt]; exact hdt) hd63' hlv hbl hC
        rw [hmt] at hIH
        generalize hel2 : ds.getD m 0 = z at *
        generalize hcom : comes L b u v (ds.take m) = o at *
        have HH := Lib.hid HH
        have HIH := Lib.hid hIH
        have HM := Lib.hid hM
        have HT := Lib.hid hT
        have HC := Lib.hid hC
        have HZ := Lib.hid hgd
        have hol : ∀ d, o = some d → d ≤ 1048576 := fun d hd => by
          rw [hd] at hcom
          have := comes_le hcom
          omega
        have HOL := Lib.hid hol
        have h1 : (n : Int) ≠ 1 := by omega
        have h1' : ((n : Int) == 1) = false := by rw [beq_eq_false_iff_ne]; exact h1
        clear hu hv
        clear hf hlen hT hd63 hlv hbl hC hih hmt hdt hgd hd63' hM hll hIH hel2 hcom hol hLL hone hm h1
        rcases o with _ | d
        · have hM := HM.out
          simp only [Option.bind_none] at hM
          have HM2 := Lib.hid hM
          clear hM HM
          rw [cv_none] at HIH
          go_enter Try.func44, Try.ntmps44
          go_wp2_with fail
          refine HH.out.mono ?_
          rintro e w' ⟨rfl, rfl⟩
          go_wp2_with fail
          go_region_held3 (fun w' => w'.cell? ⟨Bd, 0, none⟩ = some (.func (.func 44) #[] #[.pointer (some ⟨Bt, 0, none⟩), .pointer (some ⟨Bl, 0, none⟩), .pointer (some ⟨Bd, 0, none⟩)])) (first | exact cd | exact cd1)
            ((go_at_call 44; refine HIH.out.mono ?_; rintro e w1 ⟨rfl, hb1⟩; have hb1 : Below w.heap.size w w1 := ⟨hb1.os, hb1.tape, hb1.output, hb1.size, hb1.block⟩; have cd1 : w1.cell? ⟨Bd, 0, none⟩ = some (.func (.func 44) #[] #[.pointer (some ⟨Bt, 0, none⟩), .pointer (some ⟨Bl, 0, none⟩), .pointer (some ⟨Bd, 0, none⟩)]) := (HC.out.after hb1).2.2.cell 0; have HB1 := Lib.hid hb1; clear hb1))
          go_wp2_with fail
          go_ret2
          rw [HM2.out]
          exact ⟨rfl, HB1.out⟩
        · have hM := HM.out
          simp only [Option.bind_some] at hM
          have HM2 := Lib.hid hM
          clear hM HM
          rw [cv_some] at HIH
          have hdl := HOL.out d rfl
          go_enter Try.func44, Try.ntmps44
          go_wp2_with fail
          refine HH.out.mono ?_
          rintro e w' ⟨rfl, rfl⟩
          go_wp2_with fail
          go_region_held3 (fun w' => w'.cell? ⟨Bd, 0, none⟩ = some (.func (.func 44) #[] #[.pointer (some ⟨Bt, 0, none⟩), .pointer (some ⟨Bl, 0, none⟩), .pointer (some ⟨Bd, 0, none⟩)])) (first | exact cd | exact cd1)
            ((go_at_call 44; refine HIH.out.mono ?_; rintro e w1 ⟨rfl, hb1⟩; have hb1 : Below w.heap.size w w1 := ⟨hb1.os, hb1.tape, hb1.output, hb1.size, hb1.block⟩; have cd1 : w1.cell? ⟨Bd, 0, none⟩ = some (.func (.func 44) #[] #[.pointer (some ⟨Bt, 0, none⟩), .pointer (some ⟨Bl, 0, none⟩), .pointer (some ⟨Bd, 0, none⟩)]) := (HC.out.after hb1).2.2.cell 0; have HB1 := Lib.hid hb1; clear hb1))
          have hb1 := HB1.out
          have ct1 : w1.cell? ⟨Bt, 0, none⟩ = some (.pointer (some ⟨p, 0, none⟩)) := (HC.out.after hb1).1.cell 0
          have ce1 : w1.cell? (ad.add m) = some (.int .i64 z) := (hb1.cell (World.block_lt_of_cell? w _ hel)).trans hel
          have HC1 := Lib.hid (HC.out.after hb1)
          have HT1 := Lib.hid (Tb.after HT.out hb1)
          have HNB := Lib.hid (nodebytes_any w1.drew z (d : Int) (by have := HZ.out; omega) (by have := HZ.out; omega))
          clear hb1
          have hx0 : (0 : Int) ≤ (m : Int) := by omega
          have hx1 : (m : Int) < ((m + 1 : Nat) : Int) := by omega
          have hx2 : (m : Int) < (m : Int) + 1 := by omega
          go_wp2_with fail
          go_region_held3 (fun w' => w'.cell? ⟨Bt, 0, none⟩ = some (.pointer (some ⟨p, 0, none⟩)) ∧ w'.cell? (ad.add m) = some (.int .i64 z)) (first | exact ⟨ct1, ce1⟩ | exact ⟨ct2, ce2⟩ | exact ⟨ct3, ce3⟩)
            (first
              | (go_at_call 40; refine HNB.out.mono ?_; rintro e w2 ⟨v2, rfl, ho2, hb2⟩; have hb2 : Below w1.heap.size w1 w2 := ⟨hb2.os, hb2.tape, hb2.output, hb2.size, hb2.block⟩; have ct2 : w2.cell? ⟨Bt, 0, none⟩ = some (.pointer (some ⟨p, 0, none⟩)) := (HC1.out.after hb2).1.cell 0; have ce2 : w2.cell? (ad.add m) = some (.int .i64 z) := (hb2.cell (World.block_lt_of_cell? w1 _ ce1)).trans ce1; have HLK := Lib.hid (look_made w1 w2 S p L v2 (nodeB z (d : Int)) HT1.out ho2 hb2 (Nat.le_trans (node_len _ _) (by omega))); clear ho2 hb2)
              | (go_at_call 45; refine HLK.out.mono ?_; rintro e w3 ⟨rfl, hb3⟩; have ct3 : w3.cell? ⟨Bt, 0, none⟩ = some (.pointer (some ⟨p, 0, none⟩)) := (HC1.out.after hb3).1.cell 0; have ce3 : w3.cell? (ad.add m) = some (.int .i64 z) := (hb3.cell (World.block_lt_of_cell? w1 _ ce1)).trans ce1; have HB3 := Lib.hid (below_tr HB1.out hb3); clear hb3))
          go_wp2_with fail
          go_ret2
          rw [HM2.out]
          exact ⟨rfl, HB3.out⟩

end Go.Proofs.Ytepdajhgfdjklaa.Mh

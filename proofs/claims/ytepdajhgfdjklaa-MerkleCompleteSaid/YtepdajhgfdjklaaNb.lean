/-
  The walks of the statements MerkleApart and MerkleComplete.
-/
import Derived.Test.YtepdajhgfdjklaaNa
namespace Go.Proofs.Ytepdajhgfdjklaa.Nb
open Go Go.RowKit Ck Im Ik Ia Ib Ic Ig Ih Ij Mm Ma Mb Mc Md Pr Me Mf Mg Mh Mi Mj Ml Mk Na
attribute [local go_sem ↓] Go.wp_at_zero Go.wp_at_succ
set_option linter.unusedVariables false

theorem apart_root {l m : List Tx} (hl : l.length ≤ 40) (hm : m.length ≤ 40) : ((root [] l).1 = (root (root [] l).2 m).1) ↔ l = m := by
  obtain ⟨h1, K1, e1, k1⟩ := root_has l [] (by simp; omega)
  have hlen : (root [] l).2.length ≤ 100 := by
    rw [e1]
    simp only [List.nil_append]
    split at k1 <;> omega
  obtain ⟨h2, K2, e2, k2⟩ := root_has m (root [] l).2 (by omega)
  have hlen2 : (root (root [] l).2 m).2.length ≤ 300 := by
    rw [e2, List.length_append]
    split at k2 <;> omega
  have h3 : Has (root (root [] l).2 m).2 l (root [] l).1 := by rw [e2]; exact h1.grown K2
  constructor
  · intro e
    rw [e] at h3
    exact apart (by omega) h3 h2
  · intro e
    subst e
    exact has_same h3 h2
/-- The cut of a list, in the walk's words. -/
theorem cut_min (ls : List Tx) : ∃ k : Nat, min (ls.length : Int) 40 = (k : Int) ∧ k ≤ ls.length ∧ k ≤ 40 ∧ (cut40 ls).length = k ∧ cut40 ls = ls.take k := ⟨min ls.length 40, by omega, by omega, by omega, cut40_len ls, rfl⟩

set_option maxRecDepth 100000 in
set_option maxHeartbeats 4000000 in
theorem apart_any (w : World) (A : Option Addr) (c : Nat) (ls : List Tx) (B : Option Addr) (d : Nat) (ks : List Tx) (hls : Ls w (fun k => w.heap.size ≤ k) (.slice A ls.length c) ls) (hks : Ls w (fun k => w.heap.size ≤ k) (.slice B ks.length d) ks)
    (hl : ls.length ≤ 9007199254740992) (hk : ks.length ≤ 9007199254740992) (hla : ∀ x ∈ ls, x.length ≤ 140737488351232) (hka : ∀ x ∈ ks, x.length ≤ 140737488351232) :
    Calls Try.prog 8 #[.slice A ls.length c, .slice B ks.length d] w fun e w' => e = .returned (.bool true) ∧ Below w.heap.size w w' := by
  obtain ⟨a, ha1, ha2, ha3, ha4, ha5⟩ := cut_min ls
  obtain ⟨b, hb1, hb2, hb3, hb4, hb5⟩ := cut_min ks
  have hca := (Ls.cap hls).2
  have hcb := (Ls.cap hks).2
  have ra := cut_upto A ls.length c a (by omega)
  have rb := cut_upto B ks.length d b (by omega)
  have hl1 := cut40_ls hls
  have hk1 := cut40_ls hks
  rw [ha4] at hl1
  rw [hb4] at hk1
  have HL := Lib.hid (And.intro hl1 (cut40_all hla))
  have HK := Lib.hid (And.intro hk1 (cut40_all hka))
  have hap := apart_root (l := cut40 ls) (m := cut40 ks) (by omega) (by omega)
  generalize hg1 : cut40 ls = l1 at *
  generalize hg2 : cut40 ks = k1 at *
  have HLN := Lib.hid (And.intro ha4 hb4)
  have HAP := Lib.hid hap
  clear hls hks hla hka hl1 hk1 hap hg1 hg2 ha4 ha5 hb4 hb5
  go_enter Try.func8, Try.ntmps8
  go_wp2_with fail
  refine (live_any _).mono ?_
  rintro e w1 ⟨rfl, hb⟩
  have HB1 := Lib.hid hb
  clear hb
  go_wp2_with fail
  go_quiet (fail)
  go_wp2_with fail
  have HBN := Lib.hid (below_drewN HB1.out nq)
  refine (tables_nil _ w.heap.size HBN.out.size).mono ?_
  rintro e w3 ⟨p, q, rfl, hT, hb⟩
  have HT3 := Lib.hid (two_tq hT)
  have HB3 := Lib.hid (HBN.out.trans hb)
  have HL3 := Lib.hid (HL.out.1.below HB3.out (fun k _ h => h))
  clear hT hb
  go_wp2_with fail
  refine (root_tq w3 w.heap.size _ p [] (fun k => w.heap.size ≤ k) A c a l1 HLN.out.1.symm HT3.out HB3.out.size (Nat.le_refl _) HL3.out (fun k h _ => h) (by omega) (fun x hx => Nat.le_trans (HL.out.2 x hx) (by omega))).mono ?_
  rintro e w4 ⟨rfl, hT, hb⟩
  have HT4 := Lib.hid hT
  have HB4 := Lib.hid (HB3.out.trans hb)
  have HK4 := Lib.hid (HK.out.1.below HB4.out (fun k _ h => h))
  have HL4 := Lib.hid (HL.out.1.below HB4.out (fun k _ h => h))
  clear hT hb
  go_wp2_with fail
  refine (root_tq w4 w.heap.size _ p _ (fun k => w.heap.size ≤ k) B d b k1 HLN.out.2.symm HT4.out HB4.out.size (Nat.le_refl _) HK4.out (fun k h _ => h) (by omega) (fun x hx => Nat.le_trans (HK.out.2 x hx) (by omega))).mono ?_
  rintro e w5 ⟨rfl, hT, hb⟩
  have HB5 := Lib.hid (HB4.out.trans hb)
  have HL5 := Lib.hid (HL.out.1.below HB5.out (fun k _ h => h))
  have HK5 := Lib.hid (HK.out.1.below HB5.out (fun k _ h => h))
  clear hT hb
  generalize hx : (root [] l1).1 = x at *
  generalize hy : (root (root [] l1).2 k1).1 = y at *
  have HE := equalfunc_any w5 _ _ A B c d a b l1 k1 HLN.out.1.symm HLN.out.2.symm HL5.out HK5.out (by have := HLN.out.1; omega)
  by_cases hs : l1 = k1
  · have hxy : ((x : Int) == (y : Int)) = true := by rw [beq_iff_eq]; have := HAP.out.2 hs; omega
    rw [show sameL l1 k1 = true by simp [sameL, hs]] at HE
    have HE := Lib.hid HE
    clear hs hx hy
    go_wp2_with fail
    refine HE.out.mono ?_
    rintro e w6 ⟨rfl, rfl⟩
    go_wp2_with fail
    go_ret
    exact ⟨rfl, HB5.out⟩
  · have hxy : ((x : Int) == (y : Int)) = false := by
      rw [beq_eq_false_iff_ne]
      intro e
      exact hs (HAP.out.1 (by omega))
    rw [show sameL l1 k1 = false by simp [sameL, hs]] at HE
    have HE := Lib.hid HE
    clear hs hx hy
    go_wp2_with fail
    refine HE.out.mono ?_
    rintro e w6 ⟨rfl, rfl⟩
    go_wp2_with fail
    go_ret
    exact ⟨rfl, HB5.out⟩

theorem complete_root {l : List Tx} {i : Nat} (hl : l.length ≤ 40) (hi : i < l.length) : prove (root [] l).2 i l = ((prove (root [] l).2 i l).1, (root [] l).2) ∧ (prove (root [] l).2 i l).1.length = len i l.length ∧
    verify (root [] l).2 (root [] l).1 (l.getD i []) i l.length ((prove (root [] l).2 i l).1.map fun x : Nat => (x : Int)) = true := by
  obtain ⟨h1, K1, e1, k1⟩ := root_has l [] (by simp; omega)
  obtain ⟨c1, c2, c3⟩ := complete hi h1
  refine ⟨Prod.ext rfl c1, c2, ?_⟩
  rw [verify_some hi (by rw [List.length_map]; exact c2) c3]
  simp

set_option maxRecDepth 100000 in
set_option maxHeartbeats 4000000 in
theorem complete_any (w : World) (A : Option Addr) (c : Nat) (ls : List Tx) (z : Nat) (hz : z < 256) (hls : Ls w (fun k => w.heap.size ≤ k) (.slice A ls.length c) ls)
    (hl : ls.length ≤ 9007199254740992) (hla : ∀ x ∈ ls, x.length ≤ 140737488351232) :
    Calls Try.prog 6 #[.slice A ls.length c, .int .u8 z] w fun e w' => e = .returned (.bool true) ∧ Below w.heap.size w w' := by
  obtain ⟨a, ha1, ha2, ha3, ha4, ha5⟩ := cut_min ls
  have hca := (Ls.cap hls).2
  have ra := cut_upto A ls.length c a (by omega)
  have hl1 := cut40_ls hls
  rw [ha4] at hl1
  have HL := Lib.hid (And.intro hl1 (cut40_all hla))
  by_cases h0 : a = 0
  · subst h0
    clear hls hla hl1 ha4 ha5
    go_enter Try.func6, Try.ntmps6
    go_wp2_with fail
    refine (live_any _).mono ?_
    rintro e w1 ⟨rfl, hb⟩
    have HB1 := Lib.hid hb
    clear hb
    go_wp2_with fail
    go_ret
    exact ⟨rfl, HB1.out⟩
  · obtain ⟨i, hi, hia⟩ : ∃ i : Nat, (z : Int) % (a : Int) = (i : Int) ∧ i < a := ⟨z % a, by omega, Nat.mod_lt _ (by omega)⟩
    have hcm := complete_root (l := cut40 ls) (i := i) (by omega) (by omega)
    generalize hg1 : cut40 ls = l1 at *
    have HLN := Lib.hid ha4
    rw [ha4] at hcm
    generalize hR : (root [] l1).2 = R at *
    generalize hr : (root [] l1).1 = r at *
    generalize hP : (prove R i l1).1 = P at *
    have HCM := Lib.hid hcm
    have HEQ := Lib.hid (And.intro hR (And.intro hr hP))
    have ha0 : 0 < a := by omega
    have ha0' : (a : Int) ≠ 0 := by omega
    have ha0'' : ((a : Int) == 0) = false := by rw [beq_eq_false_iff_ne]; exact ha0'
    have HTM : Hid ((z : Int).tmod (a : Int) = (i : Int)) := Lib.hid (by rw [Int.tmod_eq_emod_of_nonneg (by omega)]; exact hi)
    have htm := HTM.out
    have HI := Lib.hid hi
    clear hls hla hl1 hcm hg1 ha4 ha5 hR hr hP h0 ha0' hi
    go_enter Try.func6, Try.ntmps6
    go_wp2_with fail
    refine (live_any _).mono ?_
    rintro e w1 ⟨rfl, hb⟩
    have HB1 := Lib.hid hb
    clear hb
    have hi := HI.out
    go_wp2_with fail
    refine (tables_nil _ w.heap.size HB1.out.size).mono ?_
    rintro e w3 ⟨p, q, rfl, hT, hb⟩
    have HT3 := Lib.hid (two_tq hT)
    have HB3 := Lib.hid (HB1.out.trans hb)
    have HL3 := Lib.hid (HL.out.1.below HB3.out (fun k _ h => h))
    clear hT hb
    go_wp2_with fail
    have HR := root_tq w3 w.heap.size _ p [] (fun k => w.heap.size ≤ k) A c a l1 HLN.out.symm HT3.out HB3.out.size (Nat.le_refl _) HL3.out (fun k h _ => h) (by omega) (fun x hx => Nat.le_trans (HL.out.2 x hx) (by omega))
    rw [HEQ.out.1, HEQ.out.2.1] at HR
    refine HR.mono ?_
    rintro e w4 ⟨rfl, hT, hb⟩
    have HT4 := Lib.hid hT
    have HB4 := Lib.hid (HB3.out.trans hb)
    have HL4 := Lib.hid (HL.out.1.below HB4.out (fun k _ h => h))
    clear hT hb HR
    go_wp2_with fail
    have HP := prove_tq w4 w.heap.size _ p R (fun k => w.heap.size ≤ k) A c a i l1 HLN.out.symm HT4.out HB4.out.size (Nat.le_refl _) HL4.out (fun k h _ => h) (by omega) hia (fun x hx => Nat.le_trans (HL.out.2 x hx) (by omega))
    rw [HCM.out.1] at HP
    refine HP.mono ?_
    rintro e w5 ⟨A5, c5, rfl, hsl, ⟨S5, hT5, hS5, hn5⟩, hb⟩
    have HT5 : Hid (TQ w.heap.size w5.heap.size p R w5) := Lib.hid ⟨S5, hT5, hS5⟩
    have HB5 := Lib.hid (HB4.out.trans hb)
    have HS5 := Lib.hid hsl
    have HL5 := Lib.hid (HL.out.1.below HB5.out (fun k _ h => h))
    clear hT5 hb HP hsl hS5 hn5
    have hpl : P.length = len i a := HCM.out.2.1
    have HLEN : Hid (∀ W, Calls Try.prog 24 #[.int .i64 i, .int .i64 a] W fun e w' => e = .returned (.int .i64 (P.length : Int)) ∧ W = w') := Lib.hid fun W => by
      have := length_any W i a (by omega)
      rw [lenI_of hia, ← hpl] at this
      exact this
    have hl1e := HLN.out
    have HL5' := HL5.out
    rw [← hl1e] at HL5'
    obtain ⟨ad, B8, d8, rfl, hcell, hx8⟩ := Ls.at_ HL5' (i := i) (by omega)
    have hgd : l1.getD i [] = l1[i]'(by omega) := by rw [List.getD_eq_getElem?_getD, List.getElem?_eq_getElem (by omega)]; rfl
    have hbl := HL.out.2 _ (List.getElem_mem (l := l1) (n := i) (by omega))
    have hpl9 : P.length ≤ 1000000 := by have := len_lt a i (by omega); omega
    have HV := verify_tq w5 w.heap.size _ p R _ _ (r : Int) i a A5 c5 P.length (P.map fun x : Nat => (x : Int)) (.slice B8 (l1[i]'(by omega)).length d8) (l1[i]'(by omega)) (by simp) HT5.out (by omega) HS5.out
      (fun x hx => by
        obtain ⟨d, hd, rfl⟩ := List.mem_map.1 hx
        have h := (prove_le l1 R i (TQ.len HT5.out)).2.2 d (by rw [HEQ.out.2.2]; exact hd)
        omega) hx8 (by omega) (by omega)
    have hve := HCM.out.2.2
    rw [hgd] at hve
    rw [hve] at HV
    have HV := Lib.hid HV
    have hii : (0 : Int) ≤ (i : Int) := by omega
    have hij : (i : Int) < (a : Int) := by omega
    have hqq : ((P.length : Int) == (P.length : Int)) = true := beq_self_eq_true _
    generalize hnb : (l1[i]'(by omega)).length = nb at *
    clear hx8 hve hgd hl1e HL5' hpl hbl hnb
    go_wp2_with fail
    refine (HLEN.out _).mono ?_
    rintro e w6 ⟨rfl, rfl⟩
    go_wp2_with fail
    refine HV.out.mono ?_
    rintro e w7 ⟨rfl, _, hb7⟩
    have HB7 := Lib.hid (HB5.out.trans (hb7.mono HB5.out.size))
    clear hb7
    go_wp2_with fail
    go_ret
    exact ⟨rfl, HB7.out⟩

end Go.Proofs.Ytepdajhgfdjklaa.Nb

/-
  Contract of layer 5: the document's Root.
-/
import Derived.Test.YtepdajhgfdjklaaMc
namespace Go.Proofs.Ytepdajhgfdjklaa.Md
open Go Go.RowKit Ck Im Ik Ia Ib Ic Ig Ih Ij Mm Ma Mb Mc
attribute [local go_sem ↓] Go.wp_at_zero Go.wp_at_succ
set_option linter.unusedVariables false

set_option maxRecDepth 100000 in
set_option maxHeartbeats 1000000 in
theorem rroot_any : ∀ (f : Nat) (w : World) (S X : Nat → Prop) (p : Nat) (L : List Tx) (A : Option Addr) (c : Nat) (ls : List Tx), ls.length ≤ f → ls.length ≤ 140737488355328 → Rf w S p L → Ls w X (.slice A ls.length c) ls →
    (∀ k, S k → X k) → (∀ x ∈ ls, x.length ≤ 140737488355327) →
    Calls Try.prog 13 #[.pointer (some ⟨p, 0, none⟩), .slice A ls.length c] w (RRooted S p (root L ls) w)
  | f, w, S, X, p, L, A, c, ls, hf, hbig, hT, hls, hSX, hall => by
    by_cases h0 : ls.length = 0
    · have h00 : ls = [] := List.eq_nil_of_length_eq_zero h0
      subst h00
      have hb : Below w.heap.size w (w.alloc (.cells #[.int .u8 2] 5)) := (Below.refl _ w).alloc (Nat.le_refl _) _
      have hs := (rsum_any _ S (fun _ => False) p L _ 1 noneB (Rf.after hT hb) (Cd.one_new w (fun _ => False) 5 (z := 2) (n := 2) rfl (by omega) (fun h => h)) (by decide))
      rw [show noneB.length = 1 from rfl] at hs
      have HS := Lib.hid hs
      have HB := Lib.hid hb
      have HR := Lib.hid (root_nil L)
      clear hs hbig hT hls hSX hall h0 hb hf
      go_enter Try.func13, Try.ntmps13
      go_wp2_with fail
      refine HS.out.mono ?_
      rintro e w' ⟨rfl, ht, hc⟩
      have HE := Lib.hid (And.intro ht hc)
      clear ht hc
      go_wp2_with fail
      go_ret
      rw [HR.out]
      exact RRooted.later HB.out ⟨rfl, HE.out.1, HE.out.2⟩
    · by_cases hone : ls.length = 1
      · obtain ⟨x, rfl⟩ : ∃ x, ls = [x] := ⟨_, one_of hone⟩
        obtain ⟨ad, B, d, rfl, hcell, hx⟩ := hls.at_ (i := 0) (by simp)
        have hcell : w.cell? (ad.add 0) = some (.slice B x.length d) := hcell
        have hx : Sl w X 1 (.slice B x.length d) x.length (BVs x) := hx
        rw [addr_zero] at hcell
        have HL := Lib.hid (rleaf_any w S X p L (.slice B x.length d) x.length x hT hx (hall x (by simp)))
        have HR := Lib.hid (root_one L (l := [x]) rfl)
        clear hf hbig hT hls hSX hall hone hx h0
        go_enter Try.func13, Try.ntmps13
        go_wp2_with fail
        refine HL.out.mono ?_
        rintro e w2 ⟨rfl, ht, hc⟩
        have HE := Lib.hid (And.intro ht hc)
        clear ht hc
        go_wp2_with fail
        go_ret
        rw [HR.out]
        exact ⟨rfl, HE.out.1, HE.out.2⟩
      · obtain ⟨s1, s2, s3⟩ := split_spec (n := ls.length) (by omega)
        obtain ⟨f', rfl⟩ : ∃ f', f = f' + 1 := ⟨f - 1, by omega⟩
        have HM := Lib.hid (root_more L (l := ls) (by omega))
        have hsp := rsplit_any w ls.length (by omega)
        rw [show ((ls.length : Int)).toNat = ls.length from by omega] at hsp
        obtain ⟨hle, hcap⟩ := Ls.cap hls
        have hL := Rf.len hT
        generalize hk : split ls.length = k at *
        clear hk
        have hlt : (ls.take k).length = k := by rw [List.length_take]; omega
        have hld : (ls.drop k).length = ls.length - k := List.length_drop
        have h1' := rroot_any f' w S X p L A c (ls.take k) (by omega) (by omega) hT (Ls.upto hls (by omega)) hSX (fun x hx => hall x (List.mem_of_mem_take hx))
        rw [hlt] at h1'
        have r1 := cut_upto A ls.length c k (by omega)
        obtain ⟨A', r2, a2⟩ := cut_from A ls.length c k (by omega) hcap
        have hls2 := Ls.old (Ls.from hls (by omega) a2) (Nat.le_refl _)
        have hr1 := root_le (ls.take k) L hL
        have hr2 := root_le (ls.drop k) _ hr1.2
        have H2 : Hid (∀ w1, RRooted S p (root L (ls.take k)) w (.returned (.int .i64 ((root L (ls.take k)).1 : Int))) w1 →
            Calls Try.prog 13 #[.pointer (some ⟨p, 0, none⟩), .slice A' (ls.length - k) (c - k)] w1 (RRooted (Up S w w1) p (root (root L (ls.take k)).2 (ls.drop k)) w1)) := Lib.hid fun w1 hr => by
          obtain ⟨_, ht1, hc1⟩ := hr
          have := rroot_any f' w1 (Up S w w1) (fun k => X k ∨ w.heap.size ≤ k) p _ A' (c - k) (ls.drop k) (by omega) (by omega) ht1 (hls2.ch hc1 (fun k _ hk => .inl (hSX k hk))) (fun k hk => by
            rcases hk with hk | hk
            · exact .inl (hSX k hk)
            · exact .inr hk.1) (fun x hx => hall x (List.mem_of_mem_drop hx))
          rw [hld] at this
          exact this
        have H1 := Lib.hid h1'
        have HS := Lib.hid hsp
        have hk2 : k ≤ c := by omega
        have hk3 : k ≤ ls.length := by omega
        have h2 : 2 ≤ ls.length := by omega
        have HB := Lib.hid (And.intro hr1 hr2)
        clear h1' hsp hf hbig hT hls hSX hall hlt hld hls2 a2 hr1 hr2 hle s1 s2 s3
        go_enter Try.func13, Try.ntmps13
        go_wp2_with fail
        refine HS.out.mono ?_
        rintro e w' ⟨rfl, rfl⟩
        go_wp2_with fail
        refine H1.out.mono ?_
        rintro e w1 hr
        obtain ⟨rfl, ht1, hc1⟩ := hr
        have H2C := Lib.hid (H2.out w1 ⟨rfl, ht1, hc1⟩)
        have HC1 := Lib.hid hc1
        clear ht1 hc1 H2
        go_wp2_with fail
        refine H2C.out.mono ?_
        rintro e w2 ⟨rfl, ht2, hc2⟩
        have HN := Lib.hid (rnode_any w2 _ p _ ((root L (ls.take k)).1 : Int) ((root (root L (ls.take k)).2 (ls.drop k)).1 : Int) ht2 (by have := HB.out.1.1; omega) (by have := HB.out.2.1; omega))
        have HC2 := Lib.hid hc2
        clear ht2 hc2
        go_wp2_with fail
        refine HN.out.mono ?_
        rintro e w3 ⟨rfl, ht3, hc3⟩
        have HR3 := Lib.hid (And.intro ht3 hc3)
        clear ht3 hc3
        go_wp2_with fail
        go_ret
        rw [HM.out]
        refine ⟨rfl, ?_, ?_⟩
        · exact Rf.weaken HR3.out.1 fun j hj => up_two HC1.out.size (Nat.le_trans HC2.out.size HR3.out.2.size) (by
            rcases hj with hj | hj
            · exact up_mono HR3.out.2.size hj
            · exact .inr ⟨Nat.le_trans HC2.out.size hj.1, hj.2⟩)
        · exact ch_two HC1.out (HC2.out.trans HR3.out.2 (fun j hj hu => by
            rcases hu with hu | hu
            · exact hu
            · have := hu.1; omega))

end Go.Proofs.Ytepdajhgfdjklaa.Md

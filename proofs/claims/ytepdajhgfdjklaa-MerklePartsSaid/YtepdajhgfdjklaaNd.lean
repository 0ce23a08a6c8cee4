/-
  The walk of the statement MerkleParts.
-/
import Derived.Test.YtepdajhgfdjklaaNa
namespace Go.Proofs.Ytepdajhgfdjklaa.Nd
open Go Go.RowKit Ck Im Ik Ia Ib Ic Ig Ih Ij Mm Ma Mb Mc Md Pr Me Mf Mg Mh Mi Mj Ml Mk Na
attribute [local go_sem ↓] Go.wp_at_zero Go.wp_at_succ
set_option linter.unusedVariables false

set_option maxRecDepth 100000 in
set_option maxHeartbeats 4000000 in
theorem parts_any (w : World) (A : Option Addr) (c : Nat) (b : Tx) (l r n : Int) (hb : Sl w (fun k => w.heap.size ≤ k) 1 (.slice A b.length c) b.length (BVs b)) (hbl : b.length ≤ 140737488351232)
    (hl : l ≤ 9223372036854775807) (hr : r ≤ 9223372036854775807) (hn : n ≤ 9223372036854775807) (hl0 : -9223372036854775808 ≤ l) (hn0 : -9223372036854775808 ≤ n) :
    Calls Try.prog 4 #[.agg #[.slice A b.length c, .int .i64 l, .int .i64 r, .int .i64 n]] w fun e w' => e = .returned (.bool true) ∧ Below w.heap.size w w' := by
  obtain ⟨m, hm⟩ : ∃ m, min n 1099511627776 = m := ⟨_, rfl⟩
  have hm1 : m ≤ 1099511627776 := by omega
  have hm2 : -9223372036854775808 ≤ m := by omega
  have HBS := Lib.hid hb
  have HS : Hid (∀ W, Calls Try.prog 22 #[.int .i64 n] W fun e w' => e = .returned (.int .i64 (split n.toNat : Int)) ∧ W = w') := Lib.hid fun W => split_any W n hn
  have HRS : Hid (∀ W, Calls Try.prog 23 #[.int .i64 n] W fun e w' => e = .returned (.int .i64 (split n.toNat : Int)) ∧ W = w') := Lib.hid fun W => rsplit_any W n hn
  generalize split n.toNat = sp at *
  have HL : Hid (∀ W z, Calls Try.prog 24 #[.int .i64 z, .int .i64 m] W fun e w' => e = .returned (.int .i64 (lenI z m : Int)) ∧ W = w') := Lib.hid fun W z => length_any W z m (by omega)
  have HRL : Hid (∀ W z, Calls Try.prog 25 #[.int .i64 z, .int .i64 m] W fun e w' => e = .returned (.int .i64 (lenI z m : Int)) ∧ W = w') := Lib.hid fun W z => rlength_any W z m (by omega)
  have HLR := Lib.hid (And.intro hl hr)
  have hbox : Blk (w.alloc (.cells #[.slice A b.length c, .int .i64 l, .int .i64 r, .int .i64 n] 43)) w.heap.size 43 #[.slice A b.length c, .int .i64 l, .int .i64 r, .int .i64 n] := Blk.new _ _ _
  have b0 : Below w.heap.size w (w.alloc (.cells #[.slice A b.length c, .int .i64 l, .int .i64 r, .int .i64 n] 43)) := (Below.refl _ w).alloc (Nat.le_refl _) _
  have c0 := hbox.cell 0
  have c1 := hbox.cell 1
  have c2 := hbox.cell 2
  have c3 := hbox.cell 3
  simp only [List.getElem?_toArray, List.getElem?_cons_zero, List.getElem?_cons_succ] at c0 c1 c2 c3
  have HB0 := Lib.hid b0
  have hbl2 : b.length ≤ 140737488355327 := by omega
  have HBL := Lib.hid hbl2
  clear hb hbox b0 hl hr hbl2
  go_enter Try.func4, Try.ntmps4
  go_wp2_with fail
  go_quiet (fail)
  go_wp2_with fail
  refine (live_any _).mono ?_
  rintro e w1 ⟨rfl, hb⟩
  have HB1 := Lib.hid (below_tr (below_drewN HB0.out _) hb)
  clear hb
  go_wp2_with fail
  refine (tables_nil _ w.heap.size HB1.out.size).mono ?_
  rintro e w3 ⟨p, q, rfl, hT, hb⟩
  have HT3 := Lib.hid hT
  have HB3 := Lib.hid (HB1.out.trans hb)
  have HC3 := Lib.hid (hT.call (pg := Try.prog) (f := 18) (args := #[.pointer (some ⟨p, 0, none⟩), .slice A b.length c]) (rf_stable _ _) (P' := TG p (add [] (leafB b))) (R := fun e => e = .returned (.int .i64 (sum [] (leafB b) : Int))) (fun S h =>
    leaf_any w3 S (fun k => w.heap.size ≤ k) p [] _ _ b h (HBS.out.below HB3.out (fun k _ h => h)) HBL.out))
  clear hT hb
  go_wp2_with fail
  refine HC3.out.mono ?_
  rintro e w4 ⟨rfl, hT, hc⟩
  have hb4 := HB3.out.trans (hc.below (fun k hk hn => hn hk) HB3.out.size)
  have HB4 := Lib.hid hb4
  have HC4 := Lib.hid (hT.callr (pg := Try.prog) (f := 19) (args := #[.pointer (some ⟨q, 0, none⟩), .slice A b.length c]) (tg_stable _ _) (Q' := RF q (add [] (leafB b))) (R := fun e => e = .returned (.int .i64 (sum [] (leafB b) : Int))) (fun S h =>
    rleaf_any w4 S (fun k => w.heap.size ≤ k) q [] _ _ b h (HBS.out.below hb4 (fun k _ h => h)) HBL.out))
  clear hT hc hb4
  go_wp2_with fail
  refine HC4.out.mono ?_
  rintro e w5 ⟨rfl, hT, hc⟩
  have HB5 := Lib.hid (HB4.out.trans (hc.below (fun k hk hn => hn hk) HB4.out.size))
  have HC5 := Lib.hid (hT.call (pg := Try.prog) (f := 20) (args := #[.pointer (some ⟨p, 0, none⟩), .int .i64 l, .int .i64 r]) (rf_stable _ _) (P' := TG p (add (add [] (leafB b)) (nodeB l r))) (R := fun e => e = .returned (.int .i64 (sum (add [] (leafB b)) (nodeB l r) : Int))) (fun S h =>
    node_any w5 S p _ l r h HLR.out.1 HLR.out.2))
  clear hT hc
  generalize hx : sum [] (leafB b) = x at *
  go_wp2_with fail
  refine HC5.out.mono ?_
  rintro e w6 ⟨rfl, hT, hc⟩
  have HB6 := Lib.hid (HB5.out.trans (hc.below (fun k hk hn => hn hk) HB5.out.size))
  have HC6 := Lib.hid (hT.callr (pg := Try.prog) (f := 21) (args := #[.pointer (some ⟨q, 0, none⟩), .int .i64 l, .int .i64 r]) (tg_stable _ _) (Q' := RF q (add (add [] (leafB b)) (nodeB l r))) (R := fun e => e = .returned (.int .i64 (sum (add [] (leafB b)) (nodeB l r) : Int))) (fun S h =>
    rnode_any w6 S q _ l r h HLR.out.1 HLR.out.2))
  clear hT hc
  generalize hy : sum (add [] (leafB b)) (nodeB l r) = y at *
  clear hx hy
  go_wp2_with fail
  refine HC6.out.mono ?_
  rintro e w7 ⟨rfl, hT, hc⟩
  have HB7 := Lib.hid (HB6.out.trans (hc.below (fun k hk hn => hn hk) HB6.out.size))
  clear hT hc
  go_wp2_with fail
  refine (HS.out _).mono ?_
  rintro e w' ⟨rfl, rfl⟩
  go_wp2_with fail
  refine (HRS.out _).mono ?_
  rintro e w' ⟨rfl, rfl⟩
  go_wp2_with fail
  refine (HL.out _ _).mono ?_
  rintro e w' ⟨rfl, rfl⟩
  go_wp2_with fail
  refine (HRL.out _ _).mono ?_
  rintro e w' ⟨rfl, rfl⟩
  go_wp2_with fail
  refine (HL.out _ _).mono ?_
  rintro e w' ⟨rfl, rfl⟩
  go_wp2_with fail
  refine (HRL.out _ _).mono ?_
  rintro e w' ⟨rfl, rfl⟩
  go_wp2_with fail
  refine (HL.out _ _).mono ?_
  rintro e w' ⟨rfl, rfl⟩
  go_wp2_with fail
  refine (HRL.out _ _).mono ?_
  rintro e w' ⟨rfl, rfl⟩
  go_wp2_with fail
  go_ret
  exact ⟨rfl, HB7.out⟩

end Go.Proofs.Ytepdajhgfdjklaa.Nd

import Derived.Test.YtdkjimfehipeaaaGreatDoorZHa
import Derived.Test.YtdkjimfehipeaaaGreatDoorT14
/-
  The document's names and heads, at one.
-/
namespace Go.Proofs.YtdkjimfehipeaaaGreatDoor.Hc
open Go Go.RowKit Ck Kw Ga Dm Dw Da Db Dc Dd De Df Dg Wc Wf Wa Wb Wd Wn We Kx Wg Vr Vs
attribute [local go_sem ↓] Go.wp_at_zero Go.wp_at_succ
set_option linter.unusedVariables false

theorem dec_one : Lib.decDigits 1 = [49] := by rw [Lib.decDigits]; rfl
theorem nm_one (name : Tx) : nm name 1 = name ++ [46] ++ [49] := by unfold nm; rw [dec_one]

set_option maxRecDepth 100000 in
set_option maxHeartbeats 1000000 in
theorem rnum_one (w : World) : Calls Tryz.prog 133 #[.int .i64 1] w fun e w' => e = .returned (.string ⟨#[49]⟩) ∧ Below w.heap.size w w' := by
  go_enter Tryz.func133, Tryz.ntmps133
  go_wp2
  go_loopw [0, 3] (fun n s wr => ((n = .int .i64 1 ∧ s = .string ⟨#[]⟩) ∨ (n = .int .i64 0 ∧ s = .string ⟨#[49]⟩)) ∧ Below w.heap.size w wr) (fun n _ _ => (intOf n).toNat)
  case atStart => exact ⟨.inl ⟨rfl, rfl⟩, Below.refl _ _⟩
  case round =>
    obtain ⟨⟨rfl, rfl⟩ | ⟨rfl, rfl⟩, hb⟩ := hrel
    · have c1 :=
        run_convert_sl (P := Tryz.prog) (wr.alloc (.cells #[.int .u8 49] 5)) (fun _ => False) 22 9 5 (some ⟨wr.heap.size, 0, none⟩) 1 [49] Tryz.underlying22 Tryz.underlying5 Tryz.underlying9 (Cd.one_new wr (fun _ => False) 5 (n := 49) rfl (by omega) (fun h => h))
      simp only [List.length_cons, List.length_nil, Nat.zero_add] at c1
      go_wp2
      go_roundw
      case rel => exact ⟨.inr ⟨rfl, rfl⟩, hb.alloc hb.size _⟩
      case measure => simp [intOf]
    · go_wp2
      go_ret
      exact ⟨rfl, hb⟩

set_option maxRecDepth 100000 in
set_option maxHeartbeats 1000000 in
theorem rfile_one (w : World) (g : Nat) (cs : Array Value) (name : Tx) (hb : Blk w g 117 cs) (hc : cs[1]? = some (.string ⟨name.toArray⟩)) (hn : name.length ≤ 16) :
    Calls Tryz.prog 105 #[.pointer (some ⟨g, 0, none⟩), .int .i64 1] w fun e w' => e = .returned (.string ⟨(nm name 1).toArray⟩) ∧ Below w.heap.size w w' := by
  have HC : Hid (∀ W, Below w.heap.size w W → W.cell? ⟨g, 1, none⟩ = some (.string ⟨name.toArray⟩)) := Lib.hid fun W h => by rw [(hb.below h hb.lt).cell 1, hc]
  have HB0 : Hid (Below w.heap.size w w.drew) := Lib.hid (below_drewN (Below.refl _ w) 1)
  have b0 := HC.out _ HB0.out
  have hs : (ByteArray.mk name.toArray).size ≤ 1099511627776 := by show name.toArray.size ≤ _; simp; omega
  clear hb hc
  go_enter Tryz.func105, Tryz.ntmps105
  go_wp2_with fail
  have HX1 : Hid (∀ W, Below w.drew.heap.size w.drew W → W.cell? ⟨g, 1, none⟩ = some (.string ⟨name.toArray⟩)) := Lib.hid fun W h => HC.out W (below_of_drew h)
  go_region_with (go_at_call 133; refine (rnum_one _).mono ?_; rintro e w1 ⟨rfl, hb1⟩; have b1 := HX1.out _ hb1; have HB1 := Lib.hid (below_of_drew hb1); clear hb1)
  all_goals
    go_wp2
    go_ret
    refine ⟨?_, HB1.out⟩
    have : (ByteArray.mk name.toArray ++ ByteArray.mk #[46] ++ ByteArray.mk #[49] : ByteArray) = ⟨(nm name 1).toArray⟩ := by
      rw [nm_one]
      apply ByteArray.ext
      simp
    exact congrArg (fun z => Ending.returned (.string z)) this

set_option maxRecDepth 100000 in
set_option maxHeartbeats 1000000 in
theorem rhead_one (w : World) : Calls Tryz.prog 107 #[.int .i64 1] w fun e w' => ∃ A c, e = .returned (.slice A (head 1).length c) ∧ w'.ownsRow w.heap.size 5 1 (.slice A (head 1).length c) (head 1).length (BVs (head 1)) ∧ Below w.heap.size w w' := by
  have hl := Cm.enc_len 1
  have HL := Lib.hid hl
  clear hl
  go_enter Tryz.func107, Tryz.ntmps107
  go_wp2_with fail
  refine (Cd.rputnum_any (fun _ => False) _ 0 [] 1 _ (Sl.nil _ _ _) (by omega) (by omega)).mono ?_
  rintro e w1 ⟨v1, rfl, ho1, hb1⟩
  obtain ⟨A1, c1, rfl⟩ := own_shape ho1
  rw [List.nil_append] at ho1 ⊢
  have HO := Lib.hid ho1
  have HB := Lib.hid hb1
  clear ho1 hb1
  go_wp2_with fail
  refine (rframe_any _ (fun _ => False) A1 c1 (Cm.enc 1) (Sl.of_own HO.out (fun _ _ _ h => h)) (by have := HL.out; omega)).mono ?_
  rintro e w2 ⟨A2, c2, rfl, ho2, hb2⟩
  have HO2 := Lib.hid ho2
  have HB2 := Lib.hid hb2
  clear ho2 hb2
  go_wp2_with fail
  go_ret
  exact ⟨A2, c2, rfl, own_base HO2.out HB.out.size, HB.out.trans (HB2.out.mono HB.out.size)⟩

end Go.Proofs.YtdkjimfehipeaaaGreatDoor.Hc

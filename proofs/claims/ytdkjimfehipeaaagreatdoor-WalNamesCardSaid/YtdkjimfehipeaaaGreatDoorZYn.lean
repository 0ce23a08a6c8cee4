import Derived.Test.YtdkjimfehipeaaaGreatDoorT14
import Derived.Test.YtdkjimfehipeaaaGreatDoorZHb
import Derived.Test.YtdkjimfehipeaaaGreatDoorZHf
import Derived.Test.YtdkjimfehipeaaaGreatDoorZHg
/-
  WalNames: the walk.
-/
namespace Go.Proofs.YtdkjimfehipeaaaGreatDoor.Yn
open Go Go.RowKit Ck Kw Ga Dm Dw Da Db Dc Dd De Df Dg Dh Di Dj Ra Rb Rc Rd Re Rf Rg Dl Wc Wf Wa Wb Wd Wn We Kx Wg Wq Ws Va Vd Ha Hb Hc Hd He Hf Hg
attribute [local go_sem ↓] Go.wp_at_zero Go.wp_at_succ
set_option linter.unusedVariables false

theorem rises_one (f : Fl) : Rises [f] := List.pairwise_singleton _ _
theorem rises_none : Rises [] := List.Pairwise.nil

set_option maxRecDepth 100000 in
set_option maxHeartbeats 8000000 in
theorem names_law (w : World) (name : Tx) (most : Int) (hT : Tab w) (hn : name.length ≤ 140737488351232) :
    Calls Tryz.prog 7 #[.string ⟨name.toArray⟩, .int .i64 most] w fun e w' => e = .returned (.bool true) ∧ Below w.heap.size w w' := by
  have HT := Lib.hid hT
  have HN := Lib.hid hn
  clear hT hn
  go_enter Tryz.func7, Tryz.ntmps7
  go_wp2_with fail
  refine (new_ok w 1000 (by omega)).mono ?_
  rintro e w1 ⟨p, rfl, hdk, hb1⟩
  have HD1 := Lib.hid hdk
  have HB1 := Lib.hid hb1
  clear hdk hb1
  go_wp2_with fail
  refine (rnew_ok w1 1000 (by omega)).mono ?_
  rintro e w2 ⟨q, rfl, hrk, hb2⟩
  have HR2 := Lib.hid hrk
  have HB2 := Lib.hid hb2
  have HBG := Lib.hid (begun_any w2 ((HT.out.after HB1.out).after hb2))
  clear hrk hb2
  go_wp2_with fail
  refine HBG.out.mono ?_
  rintro e w3 ⟨rfl, hb3⟩
  have HB3 := Lib.hid hb3
  have HX3 := Lib.hid ((HB1.out.trans (HB2.out.mono HB1.out.size)).trans (hb3.mono (Nat.le_trans HB1.out.size HB2.out.size)))
  clear hb3 HBG
  have hd3 : Dk w3 (New w w1) p [] 1000 false := (HD1.out.later HB2.out).later HB3.out
  have hr3 : Rk w3 (New w1 w2) q [] 1000 false := HR2.out.later HB3.out
  have HD3 := Lib.hid hd3
  have HR3 := Lib.hid hr3
  have hs1 : ∀ k, New w w1 k → k < w3.heap.size := fun k hk => by have := hk.2; have := HB2.out.size; have := HB3.out.size; omega
  have hs2 : ∀ k, New w1 w2 k → k < w3.heap.size := fun k hk => by have := hk.2; have := HB3.out.size; omega
  clear hd3 hr3
  by_cases hgood : okName name = true ∧ 64 ≤ most ∧ most ≤ 4194304
  · obtain ⟨ho, m1, m2⟩ := hgood
    have hlen : 1 ≤ name.length ∧ name.length ≤ 16 := by
      rw [okName_of] at ho
      simp at ho
      exact ⟨ho.1.2, ho.2⟩
    obtain ⟨mn, rfl⟩ : ∃ mn : Nat, most = (mn : Int) := ⟨most.toNat, by omega⟩
    have HOP := Lib.hid (open_empty w3 (New w w1) p 1000 name mn HD3.out hs1 (((HT.out.after HB1.out).after HB2.out).after HB3.out) (fun hz => by have := HT.out.lt; have := hz.1; omega) ho (by omega) (by omega) (by omega))
    have HO := Lib.hid ho
    have HM := Lib.hid (And.intro m1 m2)
    have HL := Lib.hid hlen
    clear ho m1 m2 hlen
    go_wp2_with fail
    refine HOP.out.mono ?_
    rintro e w4 ⟨g, S1, S2, rfl, hD, hS⟩
    have hr4 : Rk w4 (New w1 w2) q [] 1000 false := HR3.out.ch hS.ch (fun k hk h => by
      rcases h with h | h
      · exact h
      · have := hk.1; have := h.2; omega)
    have hsz := hS.ch.size
    have HRO := Lib.hid (ropen_any w4 (New w1 w2) q 1000 name mn hr4 (fun k hk => by have := hs2 k hk; omega) (by omega) HL.out.1 HL.out.2 HM.out.1 HM.out.2)
    have HD4 := Lib.hid hD.dk
    have HS4 := Lib.hid hS
    clear hD hS hr4 HOP hsz
    go_wp2_with fail
    refine HRO.out.mono ?_
    rintro e w5 hro
    rcases hro with ⟨h, _⟩ | ⟨_, r, T, rfl, hR, hC⟩
    · rw [HO.out] at h; cases h
    have hd5 := HD4.out.ch hC (fun k hk h => by
      rcases HS4.out.s2 k hk with h2 | h2
      · have := h2.2; have := h.1; omega
      · have := hs2 k h; omega)
    have HSA := Lib.hid (same_any w5 S2 T p q _ 1000 (rises_one _) hd5 hR)
    have HC5 := Lib.hid hC
    clear hd5 hR hC HRO
    go_wp2_with fail
    refine HSA.out.mono ?_
    rintro e w6 ⟨rfl, hb6⟩
    go_wp2_with fail
    go_ret
    have c4 : Below w.heap.size w w4 := HX3.out.trans (HS4.out.ch.below (fun k hk h => by
      rcases h with h | h
      · exact h
      · have := h.1; omega) HX3.out.size)
    have c5 : Below w.heap.size w w5 := c4.trans (HC5.out.below (fun k hk h => by have := h.1; have := HB1.out.size; omega) c4.size)
    exact ⟨rfl, c5.trans (hb6.mono c5.size)⟩
  · have hbad : okName name = false ∨ most < 64 ∨ 4194304 < most := by
      by_cases ho : okName name = true
      · by_cases m1 : most < 64
        · exact .inr (.inl m1)
        · refine .inr (.inr ?_)
          by_cases m2 : 4194304 < most
          · exact m2
          · exact absurd ⟨ho, by omega, by omega⟩ hgood
      · exact .inl (by simpa using ho)
    have HOP := Lib.hid (open_bad w3 (New w w1) p 1000 name most HD3.out HN.out hbad)
    have hro : ∀ W, Below w3.heap.size w3 W → Calls Tryz.prog 38 #[.pointer (some ⟨q, 0, none⟩), .string ⟨name.toArray⟩, .int .i64 most] W fun e w' => e = .returned (.tuple #[.pointer none, .int .i64 1]) ∧ W = w' := fun W hb => by
      by_cases h : name.length < 1 ∨ 16 < name.length ∨ most < 64 ∨ 4194304 < most
      · exact ropen_bad W _ q 1000 name most (HR3.out.later hb) HN.out h
      · have ho : okName name = false := by
          rcases hbad with h1 | h1 | h1
          · exact h1
          · omega
          · omega
        refine (ropen_any W _ q 1000 name most (HR3.out.later hb) (fun k hk => by have := hs2 k hk; have := hb.size; omega) (by omega) (by omega) (by omega) (by omega) (by omega)).mono fun e w' hro => ?_
        rcases hro with ⟨_, h⟩ | ⟨h, _⟩
        · exact h
        · rw [ho] at h; cases h
    have HRO := Lib.hid hro
    clear hbad hgood hro
    go_wp2_with fail
    refine HOP.out.mono ?_
    rintro e w4 ⟨rfl, hb4⟩
    have HB4 := Lib.hid hb4
    clear hb4 HOP
    go_wp2_with fail
    refine (HRO.out _ HB4.out).mono ?_
    rintro e w5 ⟨rfl, rfl⟩
    have HSA := Lib.hid (same_any w4 _ _ p q [] 1000 rises_none (HD3.out.later HB4.out) (HR3.out.later HB4.out))
    go_wp2_with fail
    refine HSA.out.mono ?_
    rintro e w6 ⟨rfl, hb6⟩
    go_wp2_with fail
    go_ret
    have c4 : Below w.heap.size w w4 := HX3.out.trans (HB4.out.mono HX3.out.size)
    exact ⟨rfl, c4.trans (hb6.mono c4.size)⟩

end Go.Proofs.YtdkjimfehipeaaaGreatDoor.Yn

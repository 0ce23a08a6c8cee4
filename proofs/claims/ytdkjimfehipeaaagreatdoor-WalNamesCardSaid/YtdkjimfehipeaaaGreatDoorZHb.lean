import Derived.Test.YtdkjimfehipeaaaGreatDoorZHa
/-
  Contract of layer 4's same: a disk is as the document's is.
-/
namespace Go.Proofs.YtdkjimfehipeaaaGreatDoor.Hb
open Go Go.RowKit Go.Maps Ck Kw Ga Dm Dw Da Db Dc Dd De Df Dg Dh Di Dj Ra Rb Rc Rd Re Rf Rg Dl Ha
attribute [local go_sem ↓] Go.wp_at_zero Go.wp_at_succ
set_option linter.unusedVariables false

theorem equal_lists {b1 b2 n : Nat} {w1 w2 : World} {A1 A2 : Option Addr} {c1 c2 : Nat} {l : List Tx} (hn : n = l.length) (h1 : w1.ownsRow b1 9 1 (.slice A1 n c1) n (l.map SV)) (hb : Below w1.heap.size w1 w2) (h2 : w2.ownsRow b2 9 1 (.slice A2 n c2) n (l.map SV)) (hl : n ≤ 64) :
    Calls Tryz.prog 75 #[.slice A1 n c1, .slice A2 n c2] w2 fun e w' => e = .returned (.bool true) ∧ Below w2.heap.size w2 w' := by
  subst hn
  exact equal_strs w2 (fun _ => False) (fun _ => False) A1 A2 c1 c2 l ((Sl.of_own h1 (fun _ _ _ h => h)).after hb) (Sl.of_own h2 (fun _ _ _ h => h)) hl

set_option maxRecDepth 100000 in
set_option maxHeartbeats 4000000 in
theorem same_any (w : World) (S T : Nat → Prop) (p q : Nat) (L : List Fl) (room : Nat) (hr : Rises L) (hd : Dk w S p L room false) (hk : Rk w T q L room false) :
    Calls Tryz.prog 39 #[.pointer (some ⟨p, 0, none⟩), .pointer (some ⟨q, 0, none⟩)] w fun e w' => e = .returned (.bool true) ∧ Below w.heap.size w w' := by
  have HD : Hid (∀ W, Below w.heap.size w W → Dk W S p L room false) := Lib.hid fun W hb => hd.later hb
  have HR : Hid (∀ W, Below w.heap.size w W → Rk W T q L room false) := Lib.hid fun W hb => hk.later hb
  have HC : Hid (∀ W, Below w.heap.size w W → W.cell? ⟨q, 2, none⟩ = some (.bool false)) := Lib.hid fun W hb => by
    obtain ⟨l, lv, _, hP⟩ := hk.later hb
    exact hP.blk.cell 2
  have hg := hd.good
  have HG := Lib.hid hg
  have hfew : L.length ≤ 64 := hg.few
  have hml : L.length = (L.map (·.n)).length := by rw [List.length_map]
  have HML := Lib.hid hml
  have hms := sorted_names hr (List.Perm.refl _)
  have HMS := Lib.hid hms
  clear hd hk hr hg hms hml
  go_enter Tryz.func39, Tryz.ntmps39
  go_wp2_with fail
  refine (list_on _ S p L room false (HD.out _ (Below.refl _ w))).mono ?_
  rintro e w1 ⟨A1, c1, rfl, ho1, hb1⟩
  rw [HMS.out] at ho1
  have HO1 := Lib.hid ho1
  have HB1 := Lib.hid hb1
  clear ho1 hb1
  go_wp2_with fail
  refine (rlist_any _ T q L room false (HR.out _ HB1.out)).mono ?_
  rintro e w2 ⟨A2, c2, rfl, ho2, hb2⟩
  have HO2 := Lib.hid ho2
  have HB2 := Lib.hid (HB1.out.trans (hb2.mono HB1.out.size))
  have HX2 := Lib.hid hb2
  clear ho2 hb2
  go_wp2_with fail
  refine (equal_lists HML.out HO1.out HX2.out HO2.out hfew).mono ?_
  rintro e w3 ⟨rfl, hb3⟩
  have HB3 := Lib.hid (HB2.out.trans (hb3.mono HB2.out.size))
  clear hb3
  have c3 := HC.out _ HB3.out
  go_wp2_with fail
  refine (list_on _ S p L room false (HD.out _ HB3.out)).mono ?_
  rintro e w4 ⟨A4, c4, rfl, ho4, hb4⟩
  rw [HMS.out] at ho4
  have HB4 := Lib.hid (HB3.out.trans (hb4.mono HB3.out.size))
  clear hb4 c3
  have hnames : ∀ s ∈ L.map (·.n), s.length ≤ 140737488355328 := fun s hs => by
    obtain ⟨f, hf, rfl⟩ := List.mem_map.1 hs
    exact HG.out.name f hf
  generalize hNM : L.map (·.n) = NM at ho4 hnames
  have hl65 : NM.length ≤ 64 := by rw [← hNM, List.length_map]; exact hfew
  have hnl : L.length = NM.length := by rw [← hNM, List.length_map]
  clear hNM HMS HML
  rw [hnl] at ho4 ⊢
  have HO4 := Lib.hid ho4
  have HNM := Lib.hid hnames
  clear ho4 hnames hnl hfew
  go_wp2_with fail
  go_loopw [31] (fun i wr => ∃ k : Nat, k ≤ NM.length ∧ i = .int .i64 (k : Int) ∧ Below w4.heap.size w4 wr) (fun i _ => NM.length - (intOf i).toNat)
  case atStart => exact ⟨0, Nat.zero_le _, rfl, Below.refl _ _⟩
  case round =>
    obtain ⟨k, hk, rfl, hbq⟩ := hrel
    have HQ := Lib.hid hbq
    have HW : Hid (Below w.heap.size w wr) := Lib.hid (HB4.out.trans (hbq.mono HB4.out.size))
    clear hbq
    by_cases hlt : k < NM.length
    · obtain ⟨ad, rfl, hcell⟩ := sv_at ((Sl.of_own (X := fun _ => False) HO4.out (fun _ _ _ h => h)).after HQ.out) hlt
      have HSL := Lib.hid (HNM.out _ (List.getElem_mem hlt))
      have hk1 : (k : Int) < (NM.length : Int) := by omega
      generalize hwo : wr = wo at *
      clear hwo
      go_wp2_with (first
        | (go_at_call 31; refine (get_on _ S p L room false NM[k] HSL.out (HD.out _ HW.out)).mono ?_; rintro e v1 ⟨B1, d1, rfl, q1, r1⟩; have HQ1 := Lib.hid q1; have HR1 := Lib.hid r1; have HV1 := Lib.hid (HW.out.trans (r1.mono HW.out.size)); clear q1 r1)
        | (go_at_call 77; refine (rget_any _ T q L room false NM[k] (HR.out _ HV1.out)).mono ?_; rintro e v2 ⟨B2, d2, rfl, q2, r2⟩; have HQ2 := Lib.hid q2; have HR2 := Lib.hid r2; have HV2 := Lib.hid (HV1.out.trans (r2.mono HV1.out.size)); clear q2 r2)
        | (go_at_call 15; refine (equal_any _ (fun _ => False) (fun _ => False) _ _ _ _ (getS L false NM[k]).1 (getS L false NM[k]).1 ((Sl.of_own HQ1.out (fun _ _ _ h => h)).after HR2.out) (Sl.of_own HQ2.out (fun _ _ _ h => h))).mono ?_; rintro e w' ⟨rfl, rfl⟩))
      go_roundw
      case rel => exact ⟨k + 1, by omega, by go_num, (HQ.out.trans (HR1.out.mono HQ.out.size)).trans (HR2.out.mono (Nat.le_trans HQ.out.size HR1.out.size))⟩
      case measure => simp [intOf]; omega
    · have hke : k = NM.length := by omega
      subst hke
      clear hlt hk
      go_wp2_with fail
      go_ret
      exact ⟨rfl, HW.out⟩

end Go.Proofs.YtdkjimfehipeaaaGreatDoor.Hb

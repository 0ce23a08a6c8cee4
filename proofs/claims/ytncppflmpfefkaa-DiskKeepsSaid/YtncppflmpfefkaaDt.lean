/-
  Contract of same: a disk is as the document's is.
-/
import Derived.Test.YtncppflmpfefkaaDs
namespace Go.Proofs.Ytncppflmpfefkaa.Dt
open Go Go.RowKit Go.Maps Ck Kw Ga Dm Dw Da Db Dc Dd De Df Dg Dh Di Dj Ra Rb Rc Rd Re Rf Rg Rh Ri Rj Dl Dq Ds
attribute [local go_sem ↓] Go.wp_at_zero Go.wp_at_succ
set_option linter.unusedVariables false

theorem row_lit (w : World) (base : Nat) (s : Tx) (hb : base ≤ w.heap.size) : (w.alloc (.cells #[.string ⟨s.toArray⟩] 9)).ownsRow base 9 1 (.slice (some ⟨w.heap.size, 0, none⟩) 1 1) 1 ([s].map SV) :=
  ⟨rfl, .inr ⟨w.heap.size, 1, #[.string ⟨s.toArray⟩], rfl, hb, heap_alloc_new w _, Nat.le_refl _, by simp only [maxLen]; omega, rfl, rfl⟩⟩

theorem equal_lists {b1 b2 n : Nat} {w1 w2 : World} {A1 A2 : Option Addr} {c1 c2 : Nat} {l : List Tx} (hn : n = l.length) (h1 : w1.ownsRow b1 9 1 (.slice A1 n c1) n (l.map SV)) (hb : Below w1.heap.size w1 w2) (h2 : w2.ownsRow b2 9 1 (.slice A2 n c2) n (l.map SV)) (hl : n ≤ 64) :
    Calls Try.prog 22 #[.slice A1 n c1, .slice A2 n c2] w2 fun e w' => e = .returned (.bool true) ∧ Below w2.heap.size w2 w' := by
  subst hn
  exact equal_strs w2 (fun _ => False) (fun _ => False) A1 A2 c1 c2 l ((Sl.of_own h1 (fun _ _ _ h => h)).after hb) (Sl.of_own h2 (fun _ _ _ h => h)) hl

set_option maxRecDepth 100000 in
set_option maxHeartbeats 4000000 in
theorem same_any (w : World) (S T : Nat → Prop) (p q : Nat) (L : List Fl) (room : Nat) (off : Bool) (n : Tx) (hn : n.length ≤ 140737488355328) (hr : Rises L) (hd : Dk w S p L room off) (hk : Rk w T q L room off) :
    Calls Try.prog 11 #[.pointer (some ⟨p, 0, none⟩), .pointer (some ⟨q, 0, none⟩), .string ⟨n.toArray⟩] w fun e w' => e = .returned (.bool true) ∧ Below w.heap.size w w' := by
  have HD : Hid (∀ W, Below w.heap.size w W → Dk W S p L room off) := Lib.hid fun W hb => hd.later hb
  have HR : Hid (∀ W, Below w.heap.size w W → Rk W T q L room off) := Lib.hid fun W hb => hk.later hb
  have HC : Hid (∀ W, Below w.heap.size w W → W.cell? ⟨q, 1, none⟩ = some (.int .i64 (room : Int)) ∧ W.cell? ⟨q, 2, none⟩ = some (.bool off)) := Lib.hid fun W hb => by
    obtain ⟨l, lv, _, hP⟩ := hk.later hb
    exact ⟨hP.blk.cell 1, hP.blk.cell 2⟩
  have hg := hd.good
  have hfit := hg.fits
  have hroom := hg.room
  have HG := Lib.hid hg
  have hfew : L.length ≤ 64 := hg.few
  have hml : L.length = (L.map (·.n)).length := by rw [List.length_map]
  have HML := Lib.hid hml
  have hms := sorted_names hr (List.Perm.refl _)
  have HMS := Lib.hid hms
  have HN := Lib.hid hn
  have hw1 : IntKind.i64.wrap ((room : Int) - (used L : Int)) = (room : Int) - (used L : Int) := wrap64 (by omega) (by omega)
  have HB0 : Hid (Below w.heap.size w w.drew) := Lib.hid (below_drewN (Below.refl _ w) 1)
  have b0 := HC.out _ HB0.out
  clear hd hk hr hg hms hn hml
  go_enter Try.func11, Try.ntmps11
  go_wp2_with fail
  go_region_held3 (fun w' => w'.cell? ⟨q, 1, none⟩ = some (.int .i64 (room : Int)) ∧ w'.cell? ⟨q, 2, none⟩ = some (.bool off)) (first | exact HC.out _ HB0.out | exact HC.out _ HB1.out | exact HC.out _ HB2.out | exact HC.out _ HB3.out | exact HC.out _ HB4.out | exact HC.out _ HB5.out)
    (first
    | (go_at_call 17; refine (list_on _ S p L room off (HD.out _ HB0.out)).mono ?_; rintro e w1 ⟨A1, c1, rfl, ho1, hb1⟩; rw [HMS.out] at ho1; have HO1 := Lib.hid ho1; have HB1 := Lib.hid (HB0.out.trans (hb1.mono HB0.out.size)); clear ho1 hb1)
    | (go_at_call 43; refine (rlist_any _ T q L room off (HR.out _ HB1.out)).mono ?_; rintro e w2 ⟨A2, c2, rfl, ho2, hb2⟩; have HO2 := Lib.hid ho2; have HB2 := Lib.hid (HB1.out.trans (hb2.mono HB1.out.size)); have HX2 := Lib.hid hb2; clear ho2 hb2)
    | (go_at_call 22; refine (equal_lists HML.out HO1.out HX2.out HO2.out hfew).mono ?_; rintro e w3 ⟨rfl, hb3⟩; have HB3 := Lib.hid (HB2.out.trans (hb3.mono HB2.out.size)); clear hb3)
    | (go_at_call 25; refine (used_on _ S p L room off (HD.out _ HB3.out)).mono ?_; rintro e w4 ⟨rfl, hb4⟩; have HB4 := Lib.hid (HB3.out.trans (hb4.mono HB3.out.size)); clear hb4)
    | (go_at_call 44; refine (rused_any _ T q L room off (by first | exact HR.out _ HB5.out | exact HR.out _ HB4.out)).mono ?_; rintro e w' ⟨rfl, rfl⟩)
    | (go_at_call 31; refine (room_on _ S p L room off (HD.out _ HB4.out)).mono ?_; rintro e w5 ⟨rfl, hb5⟩; have HB5 := Lib.hid (HB4.out.trans (hb5.mono HB4.out.size)); clear hb5)
    | (go_at_call 16; refine (off_on _ S p L room off (HD.out _ HB5.out)).mono ?_; rintro e w' ⟨rfl, rfl⟩))
  all_goals
    obtain ⟨i0, hi0, hz0, hz1, hz2⟩ := info_parts info_str
    go_wp2_with (first
      | (go_at_call 43; refine (rlist_any _ T q L room off (HR.out _ (HB5.out.alloc HB5.out.size _))).mono ?_; rintro e w7 ⟨A7, c7, rfl, ho7, hb7⟩; have HO7 := Lib.hid ho7; have HR7 : Hid (w7.ownsRow w5.heap.size 9 1 (.slice (some ⟨w5.heap.size, 0, none⟩) 1 1) 1 ([n].map SV)) := Lib.hid (own_below (row_lit w5 w5.heap.size n (Nat.le_refl _)) hb7); have HX7 : Hid (Below w5.heap.size w5 w7) := Lib.hid (((Below.refl _ w5).alloc (Nat.le_refl _) _).trans (hb7.mono (by simp))); clear ho7 hb7)
      | (at_builtin; refine wpList_append_sh _ rfl (.tmp 52) (.tmp 54) _ rfl w5.heap.size 9 i0 _ 1 16 Try.underlying45 hi0 hz0 hz1 hz2 rfl (by omega) _ 1 _ rfl HR7.out (fun _ => False) _ L.length ((L.map (·.n)).map SV) rfl (Sl.of_own HO7.out (fun _ _ _ h => h)) (svs_one _) (by simp only [maxLen]; omega) (by omega) (by exact HX7.out.size) ?_; intro A8 c8 w8 happ; have HB8 : Hid (Below w.heap.size w w8) := Lib.hid (HB5.out.trans ((HX7.out.grown happ.2.1 HX7.out.size (fun g hg => (HR7.out.lt g hg).1)).mono HB5.out.size)); have HO8 := Lib.hid happ.1; clear happ))
    have hnl : 1 + L.length = (n :: L.map (·.n)).length := by simp; omega
    have ho8 : w8.ownsRow w5.heap.size 9 1 (.slice A8 (1 + L.length) c8) (1 + L.length) ((n :: L.map (·.n)).map SV) := HO8.out
    have hnames : ∀ s ∈ n :: L.map (·.n), s.length ≤ 140737488355328 := fun s hs => by
      rcases List.mem_cons.1 hs with rfl | hs
      · exact HN.out
      · obtain ⟨f, hf, rfl⟩ := List.mem_map.1 hs
        exact HG.out.name f hf
    rw [hnl] at ho8
    have hl65 : (n :: L.map (·.n)).length ≤ 65 := by omega
    generalize hNM : n :: L.map (·.n) = NM at hnl ho8 hnames hl65
    clear hNM
    have HO9 := Lib.hid ho8
    have HNM := Lib.hid hnames
    clear ho8 hnames HO8
    have hnl' : (1 : Int) + (L.length : Int) = (NM.length : Int) := by omega
    rw [hnl, hnl']
    clear hnl hnl'
    go_loopw [57] (fun i wr => ∃ k : Nat, k ≤ NM.length ∧ i = .int .i64 (k : Int) ∧ Below w8.heap.size w8 wr) (fun i _ => NM.length - (intOf i).toNat)
    case atStart => exact ⟨0, Nat.zero_le _, rfl, Below.refl _ _⟩
    case round =>
      obtain ⟨k, hk, rfl, hbq⟩ := hrel
      have HQ := Lib.hid hbq
      have HW : Hid (Below w.heap.size w wr) := Lib.hid (HB8.out.trans (hbq.mono HB8.out.size))
      clear hbq
      by_cases hlt : k < NM.length
      · obtain ⟨ad, rfl, hcell⟩ := sv_at ((Sl.of_own (X := fun _ => False) HO9.out (fun _ _ _ h => h)).after HQ.out) hlt
        have hsl := HNM.out _ (List.getElem_mem hlt)
        have HSL := Lib.hid hsl
        have hk1 : (k : Int) < (NM.length : Int) := by omega
        clear hsl
        generalize hwo : wr = wo at *
        clear hwo
        go_wp2_with (first
          | (go_at_call 18; refine (get_on _ S p L room off NM[k] HSL.out (HD.out _ HW.out)).mono ?_; rintro e v1 ⟨B1, d1, rfl, q1, r1⟩; have HQ1 := Lib.hid q1; have HR1 := Lib.hid r1; have HV1 := Lib.hid (HW.out.trans (r1.mono HW.out.size)); clear q1 r1)
          | (go_at_call 45; refine (rget_any _ T q L room off NM[k] (HR.out _ HV1.out)).mono ?_; rintro e v2 ⟨B2, d2, rfl, q2, r2⟩; have HQ2 := Lib.hid q2; have HR2 := Lib.hid r2; have HV2 := Lib.hid (HV1.out.trans (r2.mono HV1.out.size)); clear q2 r2)
          | (go_at_call 19; refine (synced_on _ S p L room off NM[k] HSL.out (HD.out _ HV2.out)).mono ?_; rintro e w' ⟨rfl, rfl⟩)
          | (go_at_call 46; refine (rsynced_any _ T q L room off NM[k] (HR.out _ HV2.out)).mono ?_; rintro e w' ⟨rfl, rfl⟩)
          | (go_at_call 33; refine (equal_any _ (fun _ => False) (fun _ => False) _ _ _ _ (getS L off NM[k]).1 (getS L off NM[k]).1 ((Sl.of_own HQ1.out (fun _ _ _ h => h)).after HR2.out) (Sl.of_own HQ2.out (fun _ _ _ h => h))).mono ?_; rintro e w' ⟨rfl, rfl⟩))
        go_roundw
        case rel => exact ⟨k + 1, by omega, by go_num, (HQ.out.trans (HR1.out.mono HQ.out.size)).trans (HR2.out.mono (Nat.le_trans HQ.out.size HR1.out.size))⟩
        case measure => simp [intOf]; omega
      · have hke : k = NM.length := by omega
        subst hke
        clear hlt hk
        go_wp2_with fail
        go_ret
        exact ⟨rfl, HW.out⟩

end Go.Proofs.Ytncppflmpfefkaa.Dt

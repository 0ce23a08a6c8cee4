import Derived.Test.YtdkjimfehipeaaaGreatDoorZUd
import Derived.Test.YtdkjimfehipeaaaGreatDoorZYf
/-
  WalBack: the walk.
-/
namespace Go.Proofs.YtdkjimfehipeaaaGreatDoor.Yb
open Go Go.RowKit Ck Kw Ga Wc Wf Wa Wb Wd We Ub Ud Yf
attribute [local go_sem ↓] Go.wp_at_zero Go.wp_at_succ
set_option linter.unusedVariables false

set_option maxHeartbeats 400000 in
theorem clone_bytes (X : Nat → Prop) (v : Value) (n : Nat) (xs : List Value) (w : World) (hv : Sl w X 1 v n xs) (h1 : ∀ u ∈ xs, u.oneCell' = true) (hn : n * 1 ≤ 140737488355328) :
    Calls Tryz.prog 19 #[v] w fun e w' => ∃ A c, e = .returned (.slice A n c) ∧ w'.ownsRow w.heap.size 5 1 (.slice A n c) n xs ∧ Below w.heap.size w w' := by
  obtain ⟨i0, hi0, hz0, hz1, hz2⟩ := info_parts info_u8
  have hv' := hv
  obtain ⟨A, c, rfl, hxl, -⟩ := hv'
  have heq := fun (W : World) => Lib.run_eql_slice_nil (P := Tryz.prog) W 22 5 A n c 0 0 Tryz.underlying22
  rcases A with _ | ad
  · obtain ⟨h0, rfl⟩ := hv.none_
    subst h0
    clear hv h1 hxl
    go_enter Tryz.func19, Tryz.ntmps19
    go_wp2
    go_ret
    exact ⟨_, _, rfl, World.ownsRow_nil _ _ _ _, Below.refl _ _⟩
  · have HX := Lib.hid hxl
    clear hxl
    go_enter Tryz.func19, Tryz.ntmps19
    go_wp2_with (at_builtin; refine wpList_append_sh _ rfl (.tmp 5) (.tmp 6) _ rfl w.heap.size 5 i0 _ 1 1 Tryz.underlying22 hi0 hz0 hz1 hz2 rfl (by omega) (.slice (some ⟨w.heap.size, 0, none⟩) 0 0) 0 [] rfl (World.ownsRow_made w #[] 0 (Nat.le_refl _) (by simp only [maxLen]; omega) rfl) X _ n xs rfl (hv.alloc _) h1 (by simp only [maxLen]; omega) (by omega) (by simp) ?_; intro A2 c2 w2 happ)
    go_ret
    obtain ⟨ho, hg, hr⟩ := happ
    rw [Nat.zero_add] at hr
    refine ⟨A2, c2, by simp, by simpa using ho, ?_⟩
    exact ((Below.refl _ _).alloc (Nat.le_refl _) _).grown hg (by simp) (by simp [Value.ownBlock])

set_option maxRecDepth 100000 in
set_option maxHeartbeats 8000000 in
theorem back_law (w : World) (X Y : Nat → Prop) (A B : Option Addr) (c d : Nat) (b x : Bs) (hT : Tab w) (h : Sl w X 1 (.slice A b.length c) b.length (BVs b)) (k : Sl w Y 1 (.slice B x.length d) x.length (BVs x)) (hx : x.length ≤ 1048576) :
    Calls Tryz.prog 6 #[.slice A b.length c, .slice B x.length d] w fun e w' => e = .returned (.bool true) ∧ Below w.heap.size w w' := by
  have H := Lib.hid h
  have K := Lib.hid k
  have HBG := Lib.hid (Vd.begun_any w hT)
  clear hT h k
  go_enter Tryz.func6, Tryz.ntmps6
  go_wp2_with fail
  refine HBG.out.mono ?_
  rintro e w1 ⟨rfl, hb1⟩
  have HB1 := Lib.hid hb1
  clear hb1 HBG
  have kL : Blk ((w1.alloc (.cells #[.pointer none, .string ⟨#[]⟩, .int .i64 0, .slice none 0 0, .int .i64 0] 64)).alloc (.cells #[.pointer none, .pointer (some ⟨w1.heap.size, 0, none⟩)] 36)) w1.heap.size 64 #[.pointer none, .string ⟨#[]⟩, .int .i64 0, .slice none 0 0, .int .i64 0] := (Blk.new_at rfl rfl).alloc _
  have kS : Blk ((w1.alloc (.cells #[.pointer none, .string ⟨#[]⟩, .int .i64 0, .slice none 0 0, .int .i64 0] 64)).alloc (.cells #[.pointer none, .pointer (some ⟨w1.heap.size, 0, none⟩)] 36)) (w1.heap.size + 1) 36 #[.pointer none, .pointer (some ⟨w1.heap.size, 0, none⟩)] := Blk.new_at (by simp) rfl
  have hb2 : Below w1.heap.size w1 ((w1.alloc (.cells #[.pointer none, .string ⟨#[]⟩, .int .i64 0, .slice none 0 0, .int .i64 0] 64)).alloc (.cells #[.pointer none, .pointer (some ⟨w1.heap.size, 0, none⟩)] 36)) := ((Below.refl _ w1).alloc (Nat.le_refl _) _).alloc (by simp) _
  go_wp2_with fail
  generalize ((w1.alloc (.cells #[.pointer none, .string ⟨#[]⟩, .int .i64 0, .slice none 0 0, .int .i64 0] 64)).alloc (.cells #[.pointer none, .pointer (some ⟨w1.heap.size, 0, none⟩)] 36)) = w2 at kL kS hb2 ⊢
  have HL := Lib.hid kL
  have HS := Lib.hid kS
  have HB2 := Lib.hid (HB1.out.trans (hb2.mono HB1.out.size))
  clear kL kS hb2
  go_loopw [24] (fun i wr => ∃ k : Nat, k ≤ 2 ∧ i = .int .i64 k ∧ Hid (Below w2.heap.size w2 wr)) (fun i _ => 2 - (intOf i).toNat)
  case atStart => exact ⟨0, by omega, rfl, Lib.hid (Below.refl _ _)⟩
  case round =>
    obtain ⟨k, hk, rfl, hb⟩ := hrel
    by_cases hlt : k < 2
    · obtain ⟨v, hcv, hun⟩ : ∃ v, wr.cell? ⟨w1.heap.size + 1, k, none⟩ = some v ∧ UnL wr v := by
        have ks := HS.out.below hb.out HS.out.lt
        have kl := HL.out.below hb.out HL.out.lt
        match k, hlt with
        | 0, _ => exact ⟨_, ks.cell 0, .inl rfl⟩
        | 1, _ => exact ⟨_, ks.cell 1, .inr ⟨_, _, rfl, kl⟩⟩
      have hka : k < 2 := hlt
      have HU := Lib.hid hun
      have HAP := Lib.hid (append_un wr v (.slice A b.length c) hun)
      have HGT := Lib.hid (get_un wr v (.int .i64 1) hun)
      have HSY := Lib.hid (syncL_un wr v hun)
      have HRO := Lib.hid (rollL_un wr v hun)
      have HPR := Lib.hid (pruneL_un wr v (.int .i64 0) hun)
      have HFI := Lib.hid (firstL_un wr v hun)
      have HLA := Lib.hid (lastL_un wr v hun)
      have HSD := Lib.hid (syncedL_un wr v hun)
      have HSE := Lib.hid (segmentsL_un wr v hun)
      have HAL := Lib.hid (allL_un wr v hun)
      have hmm := @run_makeMap Tryz.prog
      have kB : Blk ((wr.alloc (.cells #[.slice none 0 0] 62)).alloc (.map #[] 0)) wr.heap.size 62 #[.slice none 0 0] := (Blk.new wr _ _).alloc _
      have HKE := Lib.hid (fun mv => kept_none _ wr.heap.size mv kB)
      have hal : Below wr.heap.size wr ((wr.alloc (.cells #[.slice none 0 0] 62)).alloc (.map #[] 0)) := ((Below.refl _ wr).alloc (Nat.le_refl _) _).alloc (by simp) _
      have HALW := Lib.hid hal
      clear hun kB hal
      go_wp2_with (first
        | (go_at_call 18; refine HAP.out.mono ?_; rintro e w3 ⟨rfl, rfl⟩)
        | (go_at_call 35; refine HGT.out.mono ?_; rintro e w3 ⟨rfl, rfl⟩)
        | (go_at_call 20; refine HSY.out.mono ?_; rintro e w3 ⟨rfl, rfl⟩)
        | (go_at_call 21; refine HRO.out.mono ?_; rintro e w3 ⟨rfl, rfl⟩)
        | (go_at_call 22; refine HPR.out.mono ?_; rintro e w3 ⟨rfl, rfl⟩)
        | (go_at_call 25; refine HFI.out.mono ?_; rintro e w3 ⟨rfl, rfl⟩)
        | (go_at_call 24; refine HLA.out.mono ?_; rintro e w3 ⟨rfl, rfl⟩)
        | (go_at_call 23; refine HSD.out.mono ?_; rintro e w3 ⟨rfl, rfl⟩)
        | (go_at_call 36; refine HSE.out.mono ?_; rintro e w3 ⟨rfl, rfl⟩)
        | (go_at_call 29; refine HAL.out.mono ?_; rintro e w3 ⟨rfl, rfl⟩)
        | (go_at_call 28; refine (HKE.out _).mono ?_; rintro e w3 ⟨rfl, hb3⟩; have HB3 := Lib.hid hb3; clear hb3))
      go_roundw
      case rel => exact ⟨k + 1, by omega, by go_num, Lib.hid (hb.out.trans ((HALW.out.trans (HB3.out.mono HALW.out.size)).mono hb.out.size))⟩
      case measure => simp [intOf]; omega
    · have hke : k = 2 := by omega
      subst hke
      have HBR := Lib.hid (HB2.out.trans (hb.out.mono HB2.out.size))
      have HOP := Lib.hid (openL_un wr (.pointer none) (.string ⟨#[108, 111, 103]⟩) (.int .i64 64) (.inl rfl))
      have hbw := H.out.after HBR.out
      have hxw := K.out.after HBR.out
      have HBW := Lib.hid hbw
      have HXW := Lib.hid hxw
      clear hb hk hlt hbw hxw
      by_cases hbl : b.length ≤ 524288
      · have HF := Lib.hid (frame_any wr X A c b HBW.out hbl)
        have hfl : (frame b).length ≤ 600000 := by
          have := Cm.enc_len b.length
          rw [frame_len]
          have h1 := this.1
          omega
        obtain ⟨i0, hi0, hz0, hz1, hz2⟩ := info_parts info_u8
        go_wp2_with (first
          | (go_at_call 17; refine HOP.out.mono ?_; rintro e w3 ⟨rfl, rfl⟩)
          | (go_at_call 8; refine HF.out.mono ?_; rintro e w3 ⟨A3, c3, rfl, ho3, hb3⟩; have HO3 := Lib.hid ho3; have HB3 := Lib.hid hb3; clear ho3 hb3)
          | (go_at_call 19; refine (clone_bytes (fun _ => False) _ (frame b).length (BVs (frame b)) w3 (Sl.of_own HO3.out (fun _ _ _ h => h)) (BVs_one _) (by omega)).mono ?_; rintro e w4 ⟨A4, c4, rfl, ho4, hb4⟩; have HO4 := Lib.hid ho4; have HB4 := Lib.hid hb4; clear ho4 hb4)
          | (at_builtin; refine wpList_append_sh _ rfl (.tmp 114) (.tmp 115) _ rfl w3.heap.size 5 i0 _ 1 1 Tryz.underlying22 hi0 hz0 hz1 hz2 rfl (by omega) _ _ _ rfl HO4.out Y _ x.length (BVs x) rfl ((HXW.out.after HB3.out).after HB4.out) (BVs_one _) (by simp only [maxLen]; omega) (by omega) HB4.out.size ?_; intro A5 c5 w5 happ; have HAP := Lib.hid happ; clear happ)
          | (go_at_call 10; refine (Wi.unframe_at w5 (fun _ => False) A5 c5 ((frame b).length + x.length) (frame b ++ x) b x (by rw [List.length_append]) (Sl.of_own (by have h := HAP.out.1; rw [← BVs_app] at h; exact h) (fun _ _ _ h => h)) (by omega) ⟨rfl, hbl⟩).mono ?_; rintro e w6 ⟨A6, c6, rfl, ho6, hb6⟩; have HO6 := Lib.hid ho6; have HB6 := Lib.hid hb6; clear ho6 hb6))
        have hb35 : Below w3.heap.size w3 w5 := HB4.out.grown HAP.out.2.1 HB4.out.size (fun g hg => (HO4.out.lt g hg).1)
        have hb6t : Below wr.heap.size wr w6 := (HB3.out.trans (hb35.mono HB3.out.size)).trans (HB6.out.mono (Nat.le_trans HB3.out.size hb35.size))
        have HB6T := Lib.hid hb6t
        have HEQ := Lib.hid (equal_any w6 _ _ _ _ _ _ b b (Sl.of_own HO6.out (X := fun _ => False) (fun _ _ _ h => h)) (HBW.out.after hb6t))
        have e1 : (b == b) = true := beq_self_eq_true _
        rw [e1] at HEQ
        clear hb35 hb6t e1
        refine HEQ.out.mono ?_
        rintro e w7 ⟨rfl, rfl⟩
        go_wp2_with fail
        go_ret
        exact ⟨rfl, HBR.out.trans (HB6T.out.mono HBR.out.size)⟩
      · have HF := Lib.hid (frame_long wr A b.length c (by omega))
        have hgt : (524288 : Int) < (b.length : Int) := by omega
        go_wp2_with (first
          | (go_at_call 17; refine HOP.out.mono ?_; rintro e w3 ⟨rfl, rfl⟩)
          | (go_at_call 8; refine HF.out.mono ?_; rintro e w3 ⟨rfl, rfl⟩))
        go_ret
        exact ⟨by simp, HBR.out⟩

end Go.Proofs.YtdkjimfehipeaaaGreatDoor.Yb

/-
  The walk of the statement DiskKeeps: what a crash leaves.
-/
import Derived.Test.YtncppflmpfefkaaEf
namespace Go.Proofs.Ytncppflmpfefkaa.Eg
open Go Go.RowKit Go.Maps Ck Kw Ga Dm Dw Da Db Dc Dd De Df Dg Dh Di Dj Ra Rb Rc Rd Re Rf Rg Rh Ri Rj Pw Dl Dq Ds Dt Du Ea Dv Eb Ef
attribute [local go_sem ↓] Go.wp_at_zero Go.wp_at_succ
set_option linter.unusedVariables false
set_option linter.unusedSimpArgs false

theorem get_of {L : List Fl} (hn : (L.map (·.n)).Nodup) {f : Fl} (hf : f ∈ L) : getS L false f.n = (f.b, 0) := by rw [getS, find_of hn hf]; rfl
theorem synced_of {L : List Fl} (hn : (L.map (·.n)).Nodup) {f : Fl} (hf : f ∈ L) : syncedS L false f.n = (f.d, 0) := by rw [syncedS, find_of hn hf]; rfl

set_option maxRecDepth 100000 in
set_option maxHeartbeats 8000000 in
theorem keeps_any (w : World) (keep : Int) (hz : -9223372036854775808 ≤ keep) (hz' : keep ≤ 9223372036854775807) (A : Option Addr) (c : Nat) (os : List On) (ho : Ops w A os) (hl : os.length ≤ 9007199254740992) :
    Calls Try.prog 4 #[.slice A os.length c, .int .i64 keep] w fun e w' => e = .returned (.bool true) ∧ Below w.heap.size w w' := by
  have HO := Lib.hid ho
  have HZ := Lib.hid (And.intro hz hz')
  clear ho hz hz'
  go_enter Try.func4, Try.ntmps4
  go_wp2_with fail
  refine (live_any _).mono ?_
  rintro e w1 ⟨rfl, hb1⟩
  go_wp2_with fail
  refine (new_ok w1 1024 (by omega)).mono ?_
  rintro e w2 ⟨p, rfl, hD2, hb2⟩
  go_wp2_with fail
  refine (rnew_ok w2 1024 (by omega)).mono ?_
  rintro e w3 ⟨q, rfl, hR3, hb3⟩
  have s1 := hb1.size
  have s2 := hb2.size
  have s3 := hb3.size
  have hB3 : Below w.heap.size w w3 := (hb1.trans (hb2.mono s1)).trans (hb3.mono (by omega))
  have hT3 : Both (fun k => k < w.heap.size) w3 p q [] [] 1024 false false :=
    ⟨fun k hk => by omega, New w1 w2, New w2 w3, Dk.later hD2 hb3, hR3, fun k hk => ⟨by have := hk.1; omega, by have := hk.2; omega⟩, fun k hk => ⟨by have := hk.1; omega, hk.2⟩, fun k hk h => by have := hk.2; have := h.1; omega⟩
  have HT3 := Lib.hid hT3
  have HB3 := Lib.hid hB3
  clear hD2 hR3 hb1 hb2 hb3 s1 s2 s3 hB3 hT3
  go_wp2_with fail
  go_loopw [40] (fun i wr => ∃ (k : Nat) (L : List Fl) (off : Bool), k ≤ os.length ∧ i = .int .i64 k ∧ Both (fun k => k < w.heap.size) wr p q L L 1024 off off ∧ Rises L ∧ Below w.heap.size w wr)
    (fun i _ => os.length - (intOf i).toNat)
  case atStart => exact ⟨0, [], false, Nat.zero_le _, rfl, HT3.out, rises_nil, HB3.out⟩
  case round =>
    obtain ⟨k, L, off, hk, rfl, hT, hri, hB⟩ := hrel
    clear HT3 HB3
    have HT := Lib.hid hT
    have HRI := Lib.hid hri
    have HB := Lib.hid hB
    by_cases hlt : k < os.length
    · obtain ⟨ad, B, cB, rfl, hadl, a0, a1, a2, a3, a4, hsl, hwf⟩ := HO.out k hlt
      have a0 := (hB.cell hadl).trans a0
      have a1 := (hB.cell (p := ⟨(ad.add (k * 5)).block, (ad.add (k * 5)).off + 1, none⟩) hadl).trans a1
      have a2 := (hB.cell (p := ⟨(ad.add (k * 5)).block, (ad.add (k * 5)).off + 2, none⟩) hadl).trans a2
      have a3 := (hB.cell (p := ⟨(ad.add (k * 5)).block, (ad.add (k * 5)).off + 3, none⟩) hadl).trans a3
      have a4 := (hB.cell (p := ⟨(ad.add (k * 5)).block, (ad.add (k * 5)).off + 4, none⟩) hadl).trans a4
      have HSL := Lib.hid hsl
      have HWF := Lib.hid hwf
      clear hT hri hB hadl hsl hwf
      generalize os[k] = o at *
      obtain ⟨z, n, t, a, b⟩ := o
      simp only at a0 a1 a2 a3 a4 HSL HWF
      have ba : Below wr.heap.size wr (wr.alloc (.cells #[.int .i64 z, .string ⟨n.toArray⟩, .string ⟨t.toArray⟩, .int .i64 a, .slice B b.length cB] 33)) := (Below.refl _ _).alloc (Nat.le_refl _) _
      have hsl : Sl (wr.alloc (.cells #[.int .i64 z, .string ⟨n.toArray⟩, .string ⟨t.toArray⟩, .int .i64 a, .slice B b.length cB] 33)) (fun k => ¬ (k < w.heap.size)) 1 (.slice B b.length cB) b.length (BVs b) :=
        (((HSL.out.below HB.out (fun k _ h => h)) : Sl wr (fun k => w.heap.size ≤ k) _ _ _ _).weaken (fun k _ h => Nat.le_of_not_lt h)).alloc _
      have HDO := Lib.hid (does_any (fun k => k < w.heap.size) (wr.alloc (.cells #[.int .i64 z, .string ⟨n.toArray⟩, .string ⟨t.toArray⟩, .int .i64 a, .slice B b.length cB] 33)) p q L 1024 off ⟨z, n, t, a, b⟩ B cB HWF.out hsl (both_later HT.out ba))
      have HBA := Lib.hid (HB.out.trans (ba.mono HB.out.size))
      clear ba hsl
      go_wp2_with fail
      refine HDO.out.mono ?_
      rintro e w1 ⟨rfl, hb1, hc1⟩
      have hB1 : Below w.heap.size w w1 := HBA.out.trans (hc1.below (fun k hk h => h hk) HBA.out.size)
      have HX := Lib.hid (And.intro hb1 hB1)
      clear hb1 hB1 hc1 HDO HBA
      go_wp2_with fail
      go_roundw
      case rel => exact ⟨k + 1, _, _, by omega, by go_num, HX.out.1, step_rises _ HRI.out, HX.out.2⟩
      case measure => simp [intOf]; omega
    · have hke : k = os.length := by omega
      subst hke
      obtain ⟨hKK, S, T, hDk, hRk, hS, hTo, hd⟩ := hT
      have hDk : Dk wr S p L 1024 off := hDk
      have hRk : Rk wr T q L 1024 off := hRk
      obtain ⟨l, lv, _, hRP⟩ := hRk
      have c2 : wr.cell? ⟨q, 2, none⟩ = some (.bool off) := hRP.blk.cell 2
      cases off
      · have hfew : L.length ≤ 64 := hDk.good.few
        have hms := sorted_names hri (List.Perm.refl _)
        have hmm := @run_makeMap Try.prog
        have HD : Hid (∀ W, Below wr.heap.size wr W → Dk W S p L 1024 false) := Lib.hid fun W hb => hDk.later hb
        have HS := Lib.hid (show ∀ k, S k → k < wr.heap.size from fun k hk => (hS k hk).2)
        have HSw := Lib.hid (show ∀ k, S k → ¬ k < w.heap.size from fun k hk => (hS k hk).1)
        have HGD := Lib.hid hDk.good
        have HLI := Lib.hid (list_on _ S p L 1024 false (hDk.later ((((Below.refl wr.heap.size wr).alloc (Nat.le_refl _) (.map #[] 0))).alloc (by simp) (.map #[] 0))))
        rw [hms] at HLI
        have hh0 : Had wr.heap.size ((wr.alloc (.map #[] 0)).alloc (.map #[] 0)) wr.heap.size (wr.heap.size + 1) L 0 :=
          ⟨Nat.le_refl _, by omega, by omega, _, _, (World.ownsMap_made wr _ _ _).alloc _, (by have := World.ownsMap_made (wr.alloc (.map #[] 0)) Try.prog 9 inElem; simpa using this), fun j hj h => absurd h (by omega)⟩
        have HH0 := Lib.hid hh0
        clear hKK hDk hRP hS hTo hd hri hB hlt hms hh0
        generalize hwo : wr = wo at *
        clear hwo
        go_wp2_with fail
        refine HLI.out.mono ?_
        rintro e w5 ⟨An, cn, rfl, hon, hb5⟩
        have hb5' : Below wo.heap.size wo w5 := (((Below.refl wo.heap.size wo).alloc (Nat.le_refl _) (.map #[] 0)).alloc (by simp) (.map #[] 0)).trans (hb5.mono (by simp; omega))
        have hn5 : w5.ownsRow wo.heap.size 9 1 (.slice An L.length cn) L.length ((L.map (·.n)).map SV) := own_base hon (by simp; omega)
        have hh5 := HH0.out.later hb5
        have H5 := Lib.hid (And.intro hb5' (And.intro hn5 hh5))
        clear hb5' hn5 hh5 hon hb5 HH0 HLI
        go_wp2_with fail
        go_loopw [62] (fun i wr => ∃ (k : Nat), k ≤ L.length ∧ i = .int .i64 k ∧ Had wo.heap.size wr wo.heap.size (wo.heap.size + 1) L k ∧ Below wo.heap.size wo wr ∧ wr.ownsRow wo.heap.size 9 1 (.slice An L.length cn) L.length ((L.map (·.n)).map SV))
          (fun i _ => L.length - (intOf i).toNat)
        case atStart => exact ⟨0, Nat.zero_le _, rfl, H5.out.2.2, H5.out.1, H5.out.2.1⟩
        case round =>
          obtain ⟨k, hk, rfl, hhd, hbw, hnm⟩ := hrel
          clear H5
          by_cases hlt : k < L.length
          · obtain ⟨ad, rfl, hcell⟩ := sv_at (l := L.map (·.n)) (k := k) (X := fun _ => False) (w := wr) (A := An) (c := cn) (by rw [List.length_map]; exact Sl.of_own hnm (fun _ _ _ h => h)) (by simpa using hlt)
            simp only [List.getElem_map] at hcell
            obtain ⟨g1, g2, g3, D1, D2, m1, m2, hall⟩ := hhd
            have hmem := List.getElem_mem hlt
            have hnl := HGD.out.name _ hmem
            have hGT := get_on wr S p L 1024 false L[k].n hnl (HD.out _ hbw)
            rw [get_of HGD.out.nodup hmem] at hGT
            have HGT : Hid (Calls Try.prog 18 #[.pointer (some ⟨p, 0, none⟩), .string ⟨L[k].n.toArray⟩] wr fun e w' => ∃ A c, e = .returned (.tuple #[.slice A L[k].b.length c, .int .i64 0]) ∧ w'.ownsRow wr.heap.size 5 1 (.slice A L[k].b.length c) L[k].b.length (BVs L[k].b) ∧ Below wr.heap.size wr w') := Lib.hid hGT
            have HSY : Hid (∀ W, Below wo.heap.size wo W → Calls Try.prog 19 #[.pointer (some ⟨p, 0, none⟩), .string ⟨L[k].n.toArray⟩] W fun e w' => e = .returned (.tuple #[.int .i64 (L[k].d : Int), .int .i64 0]) ∧ W = w') := Lib.hid fun W hb => by
              have := synced_on W S p L 1024 false L[k].n hnl (HD.out _ hb)
              rw [synced_of HGD.out.nodup hmem] at this
              exact this
            have HKY := Lib.hid (key_str L[k].n (by simp only [maxLen]; omega))
            have HM := Lib.hid (And.intro m1 (And.intro m2 hall))
            have HBW := Lib.hid hbw
            have HNM := Lib.hid hnm
            clear hbw hnm hmem hnl hGT m1 m2 hall
            go_wp2_with (first
              | (go_at_call 18; refine HGT.out.mono ?_; rintro e v1 ⟨B1, d1, rfl, q1, r1⟩; obtain ⟨zz, hzz⟩ := slElem_row q1; have HV1 := Lib.hid (And.intro q1 (And.intro r1 hzz)); clear q1 r1 hzz)
              | (go_at_call 19; refine (HSY.out _ HBW2.out).mono ?_; rintro e w' ⟨rfl, rfl⟩)
              | (at_mapUpdate; refine wpList_mapUpdate_in (H := Unit) _ rfl _ _ _ 43 rfl 9 31 law_str Try.underlying43 slElem wo.heap.size k D1 rfl (map_ch HM.out.1 (Ch.of_below (S := fun _ => False) HV1.out.2.1 (Nat.le_refl _)) (fun h => h)) (by simp only [maxLen]; omega) _ _ (.string L[k].n) rfl rfl HKY.out zz [] HV1.out.2.2 ?_; intro w2 hmap2 hturn2; have hc12 : Ch (fun m => m = wo.heap.size) v1 w2 := Ch.of_grown hturn2.grown (fun g hg _ => (Option.some.inj hg).symm); have HBW2 : Hid (Below wo.heap.size wo w2) := Lib.hid ((HBW.out.trans (HV1.out.2.1.mono HBW.out.size)).trans (hc12.below (fun m hm e => by omega) (Nat.le_trans HBW.out.size HV1.out.2.1.size))); have H2 := Lib.hid (And.intro hmap2 hc12); clear hmap2 hturn2 hc12)
              | (at_mapUpdate; refine wpList_mapUpdate_in (H := Unit) _ rfl _ _ _ 44 rfl 9 3 law_str Try.underlying44 inElem (wo.heap.size + 1) k D2 rfl (map_ch (map_ch HM.out.2.1 (Ch.of_below (S := fun _ => False) HV1.out.2.1 (Nat.le_refl _)) (fun h => h)) H2.out.2 (fun e => by omega)) (by simp only [maxLen]; omega) _ _ (.string L[k].n) rfl rfl HKY.out (.lit (.int .i64 (L[k].d : Int))) [] rfl ?_; intro w3 hmap3 hturn3; have hc23 : Ch (fun m => m = wo.heap.size + 1) w2 w3 := Ch.of_grown hturn3.grown (fun g hg _ => (Option.some.inj hg).symm); have H3 := Lib.hid (And.intro hmap3 hc23); clear hmap3 hturn3 hc23))
            have hhd3 := had_put HBW.out.size hlt HGD.out.nodup HV1.out.2.1 HV1.out.2.2 HV1.out.1 g1 g2 g3 HM.out.1 HM.out.2.1 HM.out.2.2 H2.out.1 H2.out.2 H3.out.1 H3.out.2
            have hb3 : Below wo.heap.size wo w3 := HBW2.out.trans (H3.out.2.below (fun m hm e => by omega) HBW2.out.size)
            have hnm1 := own_below HNM.out HV1.out.2.1
            have mv1 := map_ch HM.out.1 (Ch.of_below (S := fun _ => False) HV1.out.2.1 (Nat.le_refl _)) (fun h => h)
            have mv2 := map_ch HM.out.2.1 (Ch.of_below (S := fun _ => False) HV1.out.2.1 (Nat.le_refl _)) (fun h => h)
            have hnm2 := own_ch hnm1 H2.out.2 (fun m hm e => map_row mv1 hnm1 (by rw [hm, e]))
            have mw2 := map_ch mv2 H2.out.2 (fun e => by omega)
            have hnm3 := own_ch hnm2 H3.out.2 (fun m hm e => map_row mw2 hnm2 (by rw [hm, e]))
            have HR := Lib.hid (And.intro hhd3 (And.intro hb3 hnm3))
            clear hhd3 hb3 hnm1 mv1 mv2 hnm2 mw2 hnm3
            go_roundw
            case rel => exact ⟨k + 1, by omega, by go_num, HR.out.1, HR.out.2.1, HR.out.2.2⟩
            case measure => simp [intOf]; omega
          · have hke : k = L.length := by omega
            subst hke
            obtain ⟨sz, hsz⟩ : ∃ sz, sz = Dm.size keep := ⟨_, rfl⟩
            obtain ⟨L', hL'⟩ : ∃ L', L' = L.map (tear sz) := ⟨_, rfl⟩
            have hnm' : L'.map (·.n) = L.map (·.n) := by rw [hL', List.map_map]; exact List.map_congr_left (fun f _ => rfl)
            have hlen' : L'.length = L.length := by rw [hL', List.length_map]
            have hri' : Rises L' := by rw [hL']; exact rises_map HRI.out _ (fun f => rfl)
            have hcr := crash_on wr S p L 1024 false keep HZ.out.1 HZ.out.2 (HD.out _ hbw)
            rw [show crashS L false keep = (L', 0) by rw [hL', hsz]; rfl] at hcr
            have HCR : Hid (Calls Try.prog 20 #[.pointer (some ⟨p, 0, none⟩), .int .i64 keep] wr fun e w' => e = .returned (.int .i64 0) ∧ Dk w' (Up S wr w') p L' 1024 true ∧ Ch S wr w') := Lib.hid hcr
            have HL' := Lib.hid (And.intro hL' (And.intro hnm' (And.intro hlen' hri')))
            have H6 := Lib.hid (And.intro hhd (And.intro hbw hnm))
            clear hcr hL' hnm' hlen' hri' hhd hbw hnm hsz hlt
            generalize hwr : wr = w6 at *
            clear hwr
            go_wp2_with fail
            refine HCR.out.mono ?_
            rintro e w7 ⟨rfl, hD7, hc7⟩
            have HRS : Hid (Calls Try.prog 21 #[.pointer (some ⟨p, 0, none⟩)] w7 fun e w' => e = .returned (.int .i64 0) ∧ Dk w' (Up (Up S w6 w7) w7 w') p L' 1024 false ∧ Ch (Up S w6 w7) w7 w') := Lib.hid (restart_did w7 _ p L' 1024 true hD7)
            have HC7 := Lib.hid hc7
            clear hD7 hc7 HCR
            go_wp2_with fail
            refine HRS.out.mono ?_
            rintro e w8 ⟨rfl, hD8, hc8⟩
            have hc68 : Ch S w6 w8 := HC7.out.trans hc8 (fun m hm h => by
              rcases h with h | h
              · exact h
              · omega)
            have hh8 := H6.out.1.ch hc68 HS.out
            have hn8 := own_ch H6.out.2.2 hc68 (fun m hm hs => by have := (H6.out.2.2.lt m hm).1; have := HS.out m hs; omega)
            have hw8 : Below w.heap.size w w8 := (HB.out.trans (H6.out.2.1.mono HB.out.size)).trans (hc68.below (fun m hm hs => HSw.out m hs hm) (Nat.le_trans HB.out.size H6.out.2.1.size))
            have hli := list_on w8 _ p L' 1024 false hD8
            rw [sorted_names HL'.out.2.2.2 (List.Perm.refl _), HL'.out.2.1, HL'.out.2.2.1] at hli
            have HLI := Lib.hid hli
            have H8 := Lib.hid (And.intro hD8 (And.intro hh8 (And.intro hn8 hw8)))
            clear hD8 hc8 hc68 hh8 hn8 hw8 hli HRS HC7
            go_wp2_with fail
            refine HLI.out.mono ?_
            rintro e w9 ⟨A9, c9, rfl, ho9, hb9⟩
            have HEQ := Lib.hid (equal_lists (by rw [List.length_map]) H8.out.2.2.1 hb9 ho9 hfew)
            have HB9 := Lib.hid hb9
            clear ho9 hb9 HLI
            go_wp2_with fail
            refine HEQ.out.mono ?_
            rintro e wa ⟨rfl, hba⟩
            have hb8a : Below w8.heap.size w8 wa := HB9.out.trans (hba.mono HB9.out.size)
            have H10 := Lib.hid (And.intro (H8.out.1.later hb8a) (And.intro (H8.out.2.1.later hb8a) (And.intro (own_below H8.out.2.2.1 hb8a) (H8.out.2.2.2.trans (hb8a.mono H8.out.2.2.2.size)))))
            clear hba hb8a HEQ HB9 H8 H6
            go_wp2_with fail
            go_loopw [101] (fun i wr => ∃ (k : Nat), k ≤ L.length ∧ i = .int .i64 k ∧ Below wa.heap.size wa wr) (fun i _ => L.length - (intOf i).toNat)
            case atStart => exact ⟨0, Nat.zero_le _, rfl, Below.refl _ _⟩
            case round =>
              obtain ⟨k, hk, rfl, hbr⟩ := hrel
              have HBR := Lib.hid hbr
              by_cases hlt : k < L.length
              · obtain ⟨ad, rfl, hcell⟩ := sv_at (l := L.map (·.n)) (k := k) (X := fun _ => False) (w := wr) (A := An) (c := cn) (by rw [List.length_map]; exact Sl.of_own (own_below H10.out.2.2.1 hbr) (fun _ _ _ h => h)) (by simpa using hlt)
                simp only [List.getElem_map] at hcell
                have hmem := List.getElem_mem hlt
                have hnl := HGD.out.name _ hmem
                have hdl := HGD.out.done _ hmem
                have hbl : L[k].b.length ≤ 4194304 := by
                  have h1 := used_take (show L[k]? = some L[k] from List.getElem?_eq_getElem hlt)
                  have h2 := used_take_le L (k + 1)
                  have h3 := HGD.out.fits
                  omega
                obtain ⟨m, hm⟩ : ∃ m, m = L[k].d + sz % (L[k].b.length - L[k].d + 1) := ⟨_, rfl⟩
                have hmod := Nat.mod_lt sz (show 0 < L[k].b.length - L[k].d + 1 by omega)
                have hm1 : m ≤ L[k].b.length := by omega
                have hm2 : L[k].d ≤ m := by omega
                have hmem' : tear sz L[k] ∈ L' := by rw [HL'.out.1]; exact List.mem_map.2 ⟨_, hmem, rfl⟩
                have hnd' : (L'.map (·.n)).Nodup := by rw [HL'.out.2.1]; exact HGD.out.nodup
                have hgo : getS L' false L[k].n = (L[k].b.take m, 0) := by rw [show L[k].n = (tear sz L[k]).n from rfl, get_of hnd' hmem', hm]; rfl
                have hso : syncedS L' false L[k].n = (m, 0) := by rw [show L[k].n = (tear sz L[k]).n from rfl, synced_of hnd' hmem', hm]; rfl
                have htl : (L[k].b.take m).length = m := by rw [List.length_take]; omega
                have hGT := get_on wr _ p L' 1024 false L[k].n hnl (H10.out.1.later hbr)
                rw [hgo] at hGT
                unfold Got at hGT
                simp only [htl] at hGT
                have HGT : Hid (Calls Try.prog 18 #[.pointer (some ⟨p, 0, none⟩), .string ⟨L[k].n.toArray⟩] wr fun e w' => ∃ A c, e = .returned (.tuple #[.slice A m c, .int .i64 0]) ∧ w'.ownsRow wr.heap.size 5 1 (.slice A m c) m (BVs (L[k].b.take m)) ∧ Below wr.heap.size wr w') := Lib.hid hGT
                have HSY : Hid (∀ W, Below wa.heap.size wa W → Calls Try.prog 19 #[.pointer (some ⟨p, 0, none⟩), .string ⟨L[k].n.toArray⟩] W fun e w' => e = .returned (.tuple #[.int .i64 (m : Int), .int .i64 0]) ∧ W = w') := Lib.hid fun W hb => by
                  have := synced_on W _ p L' 1024 false L[k].n hnl (H10.out.1.later hb)
                  rw [hso] at this
                  exact this
                have hmd : (L[k].d : Int) ≤ (m : Int) := by omega
                have hmd' : ¬ ((m : Int) < (L[k].d : Int)) := by omega
                have HBL := Lib.hid (And.intro hbl (And.intro hm1 hnl))
                clear hbr hmem hnl hdl hbl hm hmod hm1 hm2 hmem' hnd' hgo hso htl hGT
                go_wp2_with fail
                refine HGT.out.mono ?_
                rintro e v1 ⟨B1, d1, rfl, q1, r1⟩
                have hbv : Below wa.heap.size wa v1 := HBR.out.trans (r1.mono HBR.out.size)
                obtain ⟨g1, g2, g3, D1, D2, m1, m2, hall⟩ := H10.out.2.1.later hbv
                obtain ⟨y1, u, y, y2, y3, y4⟩ := hall k hlt hlt
                obtain ⟨Au, cu, rfl⟩ := own_shape y4
                have e1 := run_had m1 L[k].n HBL.out.2.2 y2 y3
                have e2 := run_done m2 L[k].n HBL.out.2.2 y1
                have HPX := Lib.hid (prefix_any v1 (fun _ => False) (fun _ => False) Au cu L[k].b m HBL.out.1 (Sl.of_own y4 (fun _ _ _ h => h)) B1 d1 HBL.out.2.1 (Sl.of_own q1 (fun _ _ _ h => h)))
                have HBV := Lib.hid hbv
                clear q1 r1 hbv g1 g2 g3 m1 m2 hall y1 y2 y3 y4
                go_wp2_with (first
                  | (go_at_call 19; refine (HSY.out _ HBV.out).mono ?_; rintro e w' ⟨rfl, rfl⟩)
                  | (go_at_call 23; refine HPX.out.mono ?_; rintro e w' ⟨rfl, rfl⟩))
                go_roundw
                case rel => exact ⟨k + 1, by omega, by go_num, HBV.out⟩
                case measure => simp [intOf]; omega
              · have hke : k = L.length := by omega
                subst hke
                clear hbr hlt
                go_wp2_with fail
                go_ret
                exact ⟨rfl, H10.out.2.2.2.trans (HBR.out.mono H10.out.2.2.2.size)⟩
      · have HOF := Lib.hid (off_on wr S p L 1024 true hDk)
        clear hKK hDk hRP hS hTo hd hri hB hlt
        go_wp2_with fail
        refine HOF.out.mono ?_
        rintro e w2 ⟨rfl, rfl⟩
        go_wp2_with fail
        go_ret
        exact ⟨rfl, HB.out⟩

end Go.Proofs.Ytncppflmpfefkaa.Eg

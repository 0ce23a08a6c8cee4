import Derived.BigQuiet
import Derived.Deep.RegionHeld3
import Derived.Deep.RegionHeldLaw
import Derived.Deep.DeepCutAuto
import Derived.Test.YtmhmnkpaijoaaaaGreatEH02
namespace Go.Proofs.YtmhmnkpaijoaaaaGreat.Ptf
set_option linter.unusedSimpArgs false
open Go Go.RowKit Ck Cf Kw Ga Kf Pm Pe Pg Ik Lk Jm Ja Jb Jf Jg Jl Jn Kc Kj Pra Prb Prc Prd Pre Prf Prn Prr Prx Psg Psh Psx Pta Ptd Pte
attribute [local go_sem ↓] Go.wp_at_zero Go.wp_at_succ
set_option linter.unusedVariables false
set_option maxRecDepth 100000
theorem get_ok {m : List Pd} {k : Nat} (h : OkL m k) (n : Int) : okP ((getP m n).getD Pd.zero) := by
  cases hg : getP m n with
  | none => exact ⟨fun y hy => by simp [Pd.zero] at hy, by simp [Pd.zero], by simp [Pd.zero]⟩
  | some p =>
    have := List.mem_of_find?_eq_some hg
    exact (h.ok p this).1
set_option maxHeartbeats 32000000 in
theorem holds_law {H : World -> (Nat -> Prop) -> Nat -> List Pd -> Prop} {ok : List Pd -> Pd -> Prop} {okl : List Pd -> Prop} (HL : LiveC) (HH : HeldC H ok) (HD : HeldD H okl) (hok : ∀ m x, OkL m 1599289640354 -> okV x -> ok m x) (hokl : ∀ m, OkL m 1599289640355 -> okl m) (w : World) (us : List PuD) (vl : Value) (n : Int) (hl : PUs w (fun k => w.heap.size <= k) vl us) (ho : ∀ d ∈ us, okV d.p) (hn : us.length <= 1599289640354) (hn1 : -9223372036854775808 <= n) (hn2 : n <= 9223372036854775807) :
    Calls Tryz.prog 4 #[vl, .int .i64 n] w fun e w' => e = .returned (.bool true) /\ Below w.heap.size w w' := by
  obtain ⟨Al, cl, rfl⟩ := hl.shape
  have HL := Lib.hid HL
  have HU := Lib.hid hl
  have HO := Lib.hid ho
  have HOK := Lib.hid (And.intro hok hokl)
  have hni : (us.length : Int) <= 1599289640354 := by omega
  have HNB := Lib.hid (And.intro hn1 hn2)
  clear hl ho hok hokl hn1 hn2
  go_enter Tryz.func4, Tryz.ntmps4
  go_wp2_with fail
  refine (HL.out w).mono ?_
  rintro e w1 ⟨rfl, hb1⟩
  have HB1 := Lib.hid hb1
  clear hb1 HL
  go_wp2_with fail
  refine (HH.new w1).mono ?_
  rintro e w2 ⟨gh, rfl, hh, hb2⟩
  have hst : HSt H w w2.heap.size [] (fun k => w1.heap.size <= k /\ k < w2.heap.size) gh [] [] (w2.alloc (.cells #[.slice none 0 0] 67)) := by
    have hs1 := HB1.out.size
    have hs2 := hb2.size
    have hb3 : Below w2.heap.size w2 (w2.alloc (.cells #[.slice none 0 0] 67)) := (Below.refl _ w2).alloc (Nat.le_refl _) _
    have h2 := HB1.out.trans (hb2.mono hs1)
    exact ⟨HH.ch hh (Ch.of_below (S := fun _ => False) hb3 (Nat.le_refl _)) (fun _ _ h => h), ⟨_, Blk.new w2 _ _, PL.nil _ _⟩, fun k hk => by simp; omega, fun k hk => by omega, fun hx => by omega, h2.size, by simp, h2.trans (hb3.mono h2.size), fun e he => by simp at he⟩
  have HST : Hid (∃ S, HSt H w w2.heap.size [] S gh (runU (us.take 0)) (runU (us.take 0)) (w2.alloc (.cells #[.slice none 0 0] 67))) := Lib.hid ⟨_, hst⟩
  clear hh hb2 hst HB1
  go_wp2_with fail
  generalize w2.alloc (.cells #[.slice none 0 0] 67) = w3 at *
  generalize w2.heap.size = gr at *
  go_loopw [5, 23] (fun hv i wr => ∃ k : Nat, k <= us.length /\ i = .int .i64 k /\ ∃ gh S, hv = .pointer (some ⟨gh, 0, none⟩) /\ HSt H w gr [] S gh (runU (us.take k)) (runU (us.take k)) wr) (fun _ i _ => us.length - (intOf i).toNat)
  case atStart =>
    obtain ⟨S, h⟩ := HST.out
    exact ⟨0, Nat.zero_le _, rfl, gh, S, rfl, h⟩
  case round =>
    obtain ⟨k, hk, rfl, gh, S, rfl, hst⟩ := hrel
    clear HST
    by_cases hkt : k < us.length
    . have hkp : (0 : Int) <= (k : Int) := by omega
      have hkn : (k : Int) < (us.length : Int) := by omega
      have hkd : decide ((k : Int) < (us.length : Int)) = true := decide_eq_true hkn
      obtain ⟨al, r, rfl, hat, s7, s8, s9, hpi⟩ := HU.out.at_ hkt
      obtain ⟨a0, a1, a2, a3, a4, a5, a6⟩ := hat.later hst.hb
      have kc : ∀ {a : Addr} {v : Value}, w.cell? a = some v -> wr.cell? a = some v := fun {a v} hc => by rw [hst.hb.cell (World.block_lt_of_cell? w _ hc)]; exact hc
      have a7 := kc s7
      have a8 := kc s8
      have a9 := kc s9
      have HOD := Lib.hid (HO.out _ (List.getElem_mem hkt))
      have HRK := Lib.hid (runU_ok HO.out k hk)
      have HRK2 := Lib.hid (runU_ok HO.out (k + 1) (by omega))
      have HNX := Lib.hid (runU_step hkt)
      have HKT := Lib.hid hkt
      have HKN : Hid (k + 1 <= 1599289640355 /\ k <= 1599289640354) := Lib.hid (by omega)
      rw [HNX.out] at HRK2
      generalize runU (us.take k) = m at *
      generalize us[k] = d at *
      have HPI : Hid (∀ W, Below w.heap.size w W -> PI W (fun k => w.heap.size <= k) d.p r) := Lib.hid (fun W b => hpi.after b)
      clear kc s7 s8 s9 hat hpi hk hkt
      cases hsl : d.slide
      . rw [hsl] at a7
        have HX0 : Hid (HSt H w gr [(wr.heap.size, 69, #[.int .i64 d.p.view, .int .i64 d.p.seq, .int .i64 d.p.dig, .int .i64 d.p.first.1, .int .i64 d.p.first.2, .slice r.1.1 d.p.signs.length r.1.2, .slice r.2.1 d.p.batch.length r.2.2, .bool false, .int .i64 d.low, .bool d.clone])] S gh m m (wr.alloc (.cells #[.int .i64 d.p.view, .int .i64 d.p.seq, .int .i64 d.p.dig, .int .i64 d.p.first.1, .int .i64 d.p.first.2, .slice r.1.1 d.p.signs.length r.1.2, .slice r.2.1 d.p.batch.length r.2.2, .bool false, .int .i64 d.low, .bool d.clone] 69))) := Lib.hid (hst.box HH _ _)
        clear hst
        have HMM : Hid (stepU m d = (putP m d.p).1) := Lib.hid (by unfold stepU; rw [hsl]; rfl)
        rw [HMM.out] at HNX HRK2
        have HPA : Hid (∀ W mr, (∃ S, HSt H w gr [(wr.heap.size, 69, #[.int .i64 d.p.view, .int .i64 d.p.seq, .int .i64 d.p.dig, .int .i64 d.p.first.1, .int .i64 d.p.first.2, .slice r.1.1 d.p.signs.length r.1.2, .slice r.2.1 d.p.batch.length r.2.2, .bool false, .int .i64 d.low, .bool d.clone])] S gh m mr W) -> Calls Tryz.prog 21 #[.pointer (some ⟨gh, 0, none⟩), .agg #[.int .i64 d.p.view, .int .i64 d.p.seq, .int .i64 d.p.dig, .int .i64 d.p.first.1, .int .i64 d.p.first.2, .slice r.1.1 d.p.signs.length r.1.2, .slice r.2.1 d.p.batch.length r.2.2]] W fun e w' => e = .returned (.bool (putP m d.p).2) /\ (∃ S, HSt H w gr [(wr.heap.size, 69, #[.int .i64 d.p.view, .int .i64 d.p.seq, .int .i64 d.p.dig, .int .i64 d.p.first.1, .int .i64 d.p.first.2, .slice r.1.1 d.p.signs.length r.1.2, .slice r.2.1 d.p.batch.length r.2.2, .bool false, .int .i64 d.low, .bool d.clone])] S gh (putP m d.p).1 mr w')) := Lib.hid (fun W mr h => by
          obtain ⟨S, h⟩ := h
          exact h.put HH (HPI.out W h.hb) (HOK.out.1 _ _ (HRK.out.mono HKN.out.2) HOD.out))
        have HRA : Hid (∀ W mh, (∃ S, HSt H w gr [(wr.heap.size, 69, #[.int .i64 d.p.view, .int .i64 d.p.seq, .int .i64 d.p.dig, .int .i64 d.p.first.1, .int .i64 d.p.first.2, .slice r.1.1 d.p.signs.length r.1.2, .slice r.2.1 d.p.batch.length r.2.2, .bool false, .int .i64 d.low, .bool d.clone])] S gh mh m W) -> Calls Tryz.prog 22 #[.pointer (some ⟨gr, 0, none⟩), .agg #[.int .i64 d.p.view, .int .i64 d.p.seq, .int .i64 d.p.dig, .int .i64 d.p.first.1, .int .i64 d.p.first.2, .slice r.1.1 d.p.signs.length r.1.2, .slice r.2.1 d.p.batch.length r.2.2]] W fun e w' => e = .returned (.bool (putP m d.p).2) /\ (∃ S, HSt H w gr [(wr.heap.size, 69, #[.int .i64 d.p.view, .int .i64 d.p.seq, .int .i64 d.p.dig, .int .i64 d.p.first.1, .int .i64 d.p.first.2, .slice r.1.1 d.p.signs.length r.1.2, .slice r.2.1 d.p.batch.length r.2.2, .bool false, .int .i64 d.low, .bool d.clone])] S gh mh (putP m d.p).1 w')) := Lib.hid (fun W mh h => by
          obtain ⟨S, h⟩ := h
          refine (h.rput HH (HPI.out W h.hb) (by have := HRK.out.len; have := HKN.out.2; omega)).mono ?_
          rintro e w' ⟨he, h2⟩
          exact ⟨he, S, h2⟩)
        go_upto_region 10 with fail
        generalize hwx : wr.alloc (.cells #[.int .i64 d.p.view, .int .i64 d.p.seq, .int .i64 d.p.dig, .int .i64 d.p.first.1, .int .i64 d.p.first.2, .slice r.1.1 d.p.signs.length r.1.2, .slice r.2.1 d.p.batch.length r.2.2, .bool false, .int .i64 d.low, .bool d.clone] 69) = wx at *
        generalize hgx : wr.heap.size = gx at *
        clear hwx hgx
        generalize (putP m d.p).1 = m2 at *
        generalize (putP m d.p).2 = bb at *
        have HCL : Hid (∀ W mh mr, (∃ S, HSt H w gr [(gx, 69, #[.int .i64 d.p.view, .int .i64 d.p.seq, .int .i64 d.p.dig, .int .i64 d.p.first.1, .int .i64 d.p.first.2, .slice r.1.1 d.p.signs.length r.1.2, .slice r.2.1 d.p.batch.length r.2.2, .bool false, .int .i64 d.low, .bool d.clone])] S gh mh mr W) -> (W.cell? ⟨gx, 0, none⟩ = some (.int .i64 d.p.view) /\ W.cell? ⟨gx, 1, none⟩ = some (.int .i64 d.p.seq) /\ W.cell? ⟨gx, 2, none⟩ = some (.int .i64 d.p.dig) /\ W.cell? ⟨gx, 3, none⟩ = some (.int .i64 d.p.first.1) /\ W.cell? ⟨gx, 4, none⟩ = some (.int .i64 d.p.first.2) /\ W.cell? ⟨gx, 5, none⟩ = some (.slice r.1.1 d.p.signs.length r.1.2) /\ W.cell? ⟨gx, 6, none⟩ = some (.slice r.2.1 d.p.batch.length r.2.2))) := Lib.hid (fun W mh mr h => by
          obtain ⟨S, h⟩ := h
          have h9 := (h.ks _ List.mem_cons_self).1
          exact ⟨h9.cell 0, h9.cell 1, h9.cell 2, h9.cell 3, h9.cell 4, h9.cell 5, h9.cell 6⟩)
        have HQ8 : Hid (∃ S, HSt H w gr [(gx, 69, #[.int .i64 d.p.view, .int .i64 d.p.seq, .int .i64 d.p.dig, .int .i64 d.p.first.1, .int .i64 d.p.first.2, .slice r.1.1 d.p.signs.length r.1.2, .slice r.2.1 d.p.batch.length r.2.2, .bool false, .int .i64 d.low, .bool d.clone])] S gh m m wx.drew) := Lib.hid ⟨S, HX0.out.later HH (below_drewN (Below.refl _ _) 1)⟩
        have C8 := HCL.out _ _ _ HQ8.out
        clear HX0
        cases bb
        all_goals
          go_region_held3 (fun w' => w'.cell? ⟨gx, 0, none⟩ = some (.int .i64 d.p.view) /\ w'.cell? ⟨gx, 1, none⟩ = some (.int .i64 d.p.seq) /\ w'.cell? ⟨gx, 2, none⟩ = some (.int .i64 d.p.dig) /\ w'.cell? ⟨gx, 3, none⟩ = some (.int .i64 d.p.first.1) /\ w'.cell? ⟨gx, 4, none⟩ = some (.int .i64 d.p.first.2) /\ w'.cell? ⟨gx, 5, none⟩ = some (.slice r.1.1 d.p.signs.length r.1.2) /\ w'.cell? ⟨gx, 6, none⟩ = some (.slice r.2.1 d.p.batch.length r.2.2))
            (first | with_reducible exact C8 | with_reducible exact C9 | with_reducible exact C10 | with_reducible exact C11 | (go_keep; done))
            (first
            | (go_at_call 21; refine (HPA.out _ _ HQ10.out).mono ?_; rintro e w11 ⟨rfl, hl⟩; have HQX := Lib.hid hl; have C11 := HCL.out _ _ _ hl; clear hl)
            | (go_at_call 22; refine (HRA.out _ _ HQ9.out).mono ?_; rintro e w11 ⟨rfl, hl⟩; have HQX := Lib.hid hl; have C11 := HCL.out _ _ _ hl; clear hl)
            | (go_at_call 21; refine (HPA.out _ _ HQ8.out).mono ?_; rintro e w9 ⟨rfl, hl⟩; have HQ9 := Lib.hid hl; have C9 := HCL.out _ _ _ hl; clear hl)
            | (go_at_call 22; refine (HRA.out _ _ HQ8.out).mono ?_; rintro e w10 ⟨rfl, hl⟩; have HQ10 := Lib.hid hl; have C10 := HCL.out _ _ _ hl; clear hl))
          all_goals
            obtain ⟨S1, hX⟩ := HQX.out
            have HX := Lib.hid hX
            clear hX
            go_wp2_with fail
            refine (HD.get _ _ gh m2 n HX.out.hh HNB.out.1 HNB.out.2).mono ?_
            rintro e w4 ⟨ra, rfl, hpa, hb4⟩
            have HOA := Lib.hid (get_ok HRK2.out n)
            have HGE : Hid (∀ W X, RH W X gr m2 -> Calls Tryz.prog 24 #[.pointer (some ⟨gr, 0, none⟩), .int .i64 n] W (Pre.Told W X (getP m2 n))) := Lib.hid (fun W X h => rget_any W X gr m2 n h (by have := HRK2.out.len; have := HKN.out.1; omega))
            unfold Pre.Told at HGE
            have HX4 := Lib.hid (HX.out.later HH hb4)
            clear hb4
            generalize (getP m2 n).getD Pd.zero = A at *
            generalize (getP m2 n).isSome = is at *
            have HPA := Lib.hid (hpa.after ((Below.refl _ w4).alloc (Nat.le_refl _) (.cells (PC A ra) 41)))
            have HX5 := Lib.hid (HX4.out.box HH 41 (PC A ra))
            clear hpa HX4 HX
            unfold PC at HPA HX5 ⊢
            go_wp2_with fail
            have hl4 : w4.heap.size < (w4.alloc (.cells #[.int .i64 A.view, .int .i64 A.seq, .int .i64 A.dig, .int .i64 A.first.1, .int .i64 A.first.2, .slice ra.1.1 A.signs.length ra.1.2, .slice ra.2.1 A.batch.length ra.2.2] 41)).heap.size := by simp
            generalize w4.alloc (.cells #[.int .i64 A.view, .int .i64 A.seq, .int .i64 A.dig, .int .i64 A.first.1, .int .i64 A.first.2, .slice ra.1.1 A.signs.length ra.1.2, .slice ra.2.1 A.batch.length ra.2.2] 41) = w5 at *
            generalize w4.heap.size = g9 at *
            refine (HGE.out _ _ HX5.out.rh).mono ?_
            rintro e w6 ⟨rb, rfl, hpb, hb6⟩
            have HX6 := Lib.hid (HX5.out.later HH hb6)
            have HPA6 := Lib.hid (HPA.out.after (hb6.trans ((Below.refl _ w6).alloc hb6.size (.cells (PC A rb) 41))))
            have HPB := Lib.hid (hpb.after ((Below.refl _ w6).alloc (Nat.le_refl _) (.cells (PC A rb) 41)))
            have HX7 := Lib.hid (HX6.out.box HH 41 (PC A rb))
            clear hpb hb6 HX5 HX6 HPA HGE hl4
            unfold PC at HPA6 HPB HX7 ⊢
            go_wp2_with fail
            generalize w6.alloc (.cells #[.int .i64 A.view, .int .i64 A.seq, .int .i64 A.dig, .int .i64 A.first.1, .int .i64 A.first.2, .slice rb.1.1 A.signs.length rb.1.2, .slice rb.2.1 A.batch.length rb.2.2] 41) = w7 at *
            generalize w6.heap.size = g11 at *
            obtain ⟨S2, hS2⟩ : ∃ S2 : Nat -> Prop, S2 = S1 := ⟨_, rfl⟩
            subst hS2
            obtain ⟨vr, hkr, hpr⟩ := HX7.out.rh
            obtain ⟨Ar, cr, rfl, -⟩ := hpr.shape
            have HQ7 : Hid (HSt H w gr [(g11, 41, PC A rb), (g9, 41, PC A ra), (gx, 69, #[.int .i64 d.p.view, .int .i64 d.p.seq, .int .i64 d.p.dig, .int .i64 d.p.first.1, .int .i64 d.p.first.2, .slice r.1.1 d.p.signs.length r.1.2, .slice r.2.1 d.p.batch.length r.2.2, .bool false, .int .i64 d.low, .bool d.clone])] S2 gh m2 m2 w7 /\ Blk w7 gr 67 #[.slice Ar m2.length cr] /\ PL w7 (fun _ => False) (.slice Ar m2.length cr) m2 /\ PI w7 (fun _ => False) A ra /\ PI w7 (fun _ => False) A rb) := Lib.hid ⟨HX7.out, hkr, hpr.weaken (fun _ _ h => h.elim), HPA6.out.weaken (fun _ _ h => h.elim), HPB.out.weaken (fun _ _ h => h.elim)⟩
            clear hkr hpr HX7 HPA6 HPB
            have HBL : Hid (∀ W W', (HSt H w gr [(g11, 41, PC A rb), (g9, 41, PC A ra), (gx, 69, #[.int .i64 d.p.view, .int .i64 d.p.seq, .int .i64 d.p.dig, .int .i64 d.p.first.1, .int .i64 d.p.first.2, .slice r.1.1 d.p.signs.length r.1.2, .slice r.2.1 d.p.batch.length r.2.2, .bool false, .int .i64 d.low, .bool d.clone])] S2 gh m2 m2 W /\ Blk W gr 67 #[.slice Ar m2.length cr] /\ PL W (fun _ => False) (.slice Ar m2.length cr) m2 /\ PI W (fun _ => False) A ra /\ PI W (fun _ => False) A rb) -> Below W.heap.size W W' -> (HSt H w gr [(g11, 41, PC A rb), (g9, 41, PC A ra), (gx, 69, #[.int .i64 d.p.view, .int .i64 d.p.seq, .int .i64 d.p.dig, .int .i64 d.p.first.1, .int .i64 d.p.first.2, .slice r.1.1 d.p.signs.length r.1.2, .slice r.2.1 d.p.batch.length r.2.2, .bool false, .int .i64 d.low, .bool d.clone])] S2 gh m2 m2 W' /\ Blk W' gr 67 #[.slice Ar m2.length cr] /\ PL W' (fun _ => False) (.slice Ar m2.length cr) m2 /\ PI W' (fun _ => False) A ra /\ PI W' (fun _ => False) A rb)) := Lib.hid (fun W W' h b => ⟨h.1.later HH b, h.2.1.below b h.2.1.lt, h.2.2.1.after b, h.2.2.2.1.after b, h.2.2.2.2.after b⟩)
            have HCL : Hid (∀ W, (HSt H w gr [(g11, 41, PC A rb), (g9, 41, PC A ra), (gx, 69, #[.int .i64 d.p.view, .int .i64 d.p.seq, .int .i64 d.p.dig, .int .i64 d.p.first.1, .int .i64 d.p.first.2, .slice r.1.1 d.p.signs.length r.1.2, .slice r.2.1 d.p.batch.length r.2.2, .bool false, .int .i64 d.low, .bool d.clone])] S2 gh m2 m2 W /\ Blk W gr 67 #[.slice Ar m2.length cr] /\ PL W (fun _ => False) (.slice Ar m2.length cr) m2 /\ PI W (fun _ => False) A ra /\ PI W (fun _ => False) A rb) -> (W.cell? ⟨g9, 0, none⟩ = some (.int .i64 A.view) /\ W.cell? ⟨g9, 1, none⟩ = some (.int .i64 A.seq) /\ W.cell? ⟨g9, 2, none⟩ = some (.int .i64 A.dig) /\ W.cell? ⟨g9, 3, none⟩ = some (.int .i64 A.first.1) /\ W.cell? ⟨g9, 4, none⟩ = some (.int .i64 A.first.2) /\ W.cell? ⟨g9, 5, none⟩ = some (.slice ra.1.1 A.signs.length ra.1.2) /\ W.cell? ⟨g9, 6, none⟩ = some (.slice ra.2.1 A.batch.length ra.2.2) /\ W.cell? ⟨g11, 0, none⟩ = some (.int .i64 A.view) /\ W.cell? ⟨g11, 1, none⟩ = some (.int .i64 A.seq) /\ W.cell? ⟨g11, 2, none⟩ = some (.int .i64 A.dig) /\ W.cell? ⟨g11, 3, none⟩ = some (.int .i64 A.first.1) /\ W.cell? ⟨g11, 4, none⟩ = some (.int .i64 A.first.2) /\ W.cell? ⟨g11, 5, none⟩ = some (.slice rb.1.1 A.signs.length rb.1.2) /\ W.cell? ⟨g11, 6, none⟩ = some (.slice rb.2.1 A.batch.length rb.2.2) /\ W.cell? ⟨gr, 0, none⟩ = some (.slice Ar m2.length cr))) := Lib.hid (fun W h => by
              have h9 := (h.1.ks _ (List.mem_cons_of_mem _ List.mem_cons_self)).1
              have h11 := (h.1.ks _ List.mem_cons_self).1
              exact ⟨h9.cell 0, h9.cell 1, h9.cell 2, h9.cell 3, h9.cell 4, h9.cell 5, h9.cell 6, h11.cell 0, h11.cell 1, h11.cell 2, h11.cell 3, h11.cell 4, h11.cell 5, h11.cell 6, h.2.1.cell 0⟩)
            have HSP : Hid (∀ W, (HSt H w gr [(g11, 41, PC A rb), (g9, 41, PC A ra), (gx, 69, #[.int .i64 d.p.view, .int .i64 d.p.seq, .int .i64 d.p.dig, .int .i64 d.p.first.1, .int .i64 d.p.first.2, .slice r.1.1 d.p.signs.length r.1.2, .slice r.2.1 d.p.batch.length r.2.2, .bool false, .int .i64 d.low, .bool d.clone])] S2 gh m2 m2 W /\ Blk W gr 67 #[.slice Ar m2.length cr] /\ PL W (fun _ => False) (.slice Ar m2.length cr) m2 /\ PI W (fun _ => False) A ra /\ PI W (fun _ => False) A rb) -> Calls Tryz.prog 25 #[.agg #[.int .i64 A.view, .int .i64 A.seq, .int .i64 A.dig, .int .i64 A.first.1, .int .i64 A.first.2, .slice ra.1.1 A.signs.length ra.1.2, .slice ra.2.1 A.batch.length ra.2.2], .agg #[.int .i64 A.view, .int .i64 A.seq, .int .i64 A.dig, .int .i64 A.first.1, .int .i64 A.first.2, .slice rb.1.1 A.signs.length rb.1.2, .slice rb.2.1 A.batch.length rb.2.2]] W fun e w' => e = .returned (.bool true) /\ (HSt H w gr [(g11, 41, PC A rb), (g9, 41, PC A ra), (gx, 69, #[.int .i64 d.p.view, .int .i64 d.p.seq, .int .i64 d.p.dig, .int .i64 d.p.first.1, .int .i64 d.p.first.2, .slice r.1.1 d.p.signs.length r.1.2, .slice r.2.1 d.p.batch.length r.2.2, .bool false, .int .i64 d.low, .bool d.clone])] S2 gh m2 m2 w' /\ Blk w' gr 67 #[.slice Ar m2.length cr] /\ PL w' (fun _ => False) (.slice Ar m2.length cr) m2 /\ PI w' (fun _ => False) A ra /\ PI w' (fun _ => False) A rb)) := Lib.hid (fun W h => by
              refine (rproof_any W _ _ A A ra rb h.2.2.2.1 h.2.2.2.2 HOA.out.2.2 HOA.out.2.1 HOA.out.1).mono ?_
              rintro e w' ⟨rfl, hb⟩
              exact ⟨by simp, HBL.out _ _ h hb⟩)
            have HAL : Hid (∀ W, (HSt H w gr [(g11, 41, PC A rb), (g9, 41, PC A ra), (gx, 69, #[.int .i64 d.p.view, .int .i64 d.p.seq, .int .i64 d.p.dig, .int .i64 d.p.first.1, .int .i64 d.p.first.2, .slice r.1.1 d.p.signs.length r.1.2, .slice r.2.1 d.p.batch.length r.2.2, .bool false, .int .i64 d.low, .bool d.clone])] S2 gh m2 m2 W /\ Blk W gr 67 #[.slice Ar m2.length cr] /\ PL W (fun _ => False) (.slice Ar m2.length cr) m2 /\ PI W (fun _ => False) A ra /\ PI W (fun _ => False) A rb) -> Calls Tryz.prog 27 #[.pointer (some ⟨gh, 0, none⟩)] W fun e w' => ∃ A5 c5, e = .returned (.slice A5 m2.length c5) /\ PL w' (fun _ => False) (.slice A5 m2.length c5) m2 /\ (HSt H w gr [(g11, 41, PC A rb), (g9, 41, PC A ra), (gx, 69, #[.int .i64 d.p.view, .int .i64 d.p.seq, .int .i64 d.p.dig, .int .i64 d.p.first.1, .int .i64 d.p.first.2, .slice r.1.1 d.p.signs.length r.1.2, .slice r.2.1 d.p.batch.length r.2.2, .bool false, .int .i64 d.low, .bool d.clone])] S2 gh m2 m2 w' /\ Blk w' gr 67 #[.slice Ar m2.length cr] /\ PL w' (fun _ => False) (.slice Ar m2.length cr) m2 /\ PI w' (fun _ => False) A ra /\ PI w' (fun _ => False) A rb)) := Lib.hid (fun W h => by
              refine (HD.all W _ gh m2 h.1.hh (HOK.out.2 _ (HRK2.out.mono HKN.out.1))).mono ?_
              rintro e w' ⟨v, rfl, hp, hb⟩
              obtain ⟨A5, c5, rfl, -⟩ := hp.shape
              exact ⟨A5, c5, rfl, hp, HBL.out _ _ h hb⟩)
            have HSA : Hid (∀ W A5 c5, PL W (fun _ => False) (.slice A5 m2.length c5) m2 -> (HSt H w gr [(g11, 41, PC A rb), (g9, 41, PC A ra), (gx, 69, #[.int .i64 d.p.view, .int .i64 d.p.seq, .int .i64 d.p.dig, .int .i64 d.p.first.1, .int .i64 d.p.first.2, .slice r.1.1 d.p.signs.length r.1.2, .slice r.2.1 d.p.batch.length r.2.2, .bool false, .int .i64 d.low, .bool d.clone])] S2 gh m2 m2 W /\ Blk W gr 67 #[.slice Ar m2.length cr] /\ PL W (fun _ => False) (.slice Ar m2.length cr) m2 /\ PI W (fun _ => False) A ra /\ PI W (fun _ => False) A rb) -> Calls Tryz.prog 26 #[.slice A5 m2.length c5, .slice Ar m2.length cr] W fun e w' => e = .returned (.bool true) /\ (HSt H w gr [(g11, 41, PC A rb), (g9, 41, PC A ra), (gx, 69, #[.int .i64 d.p.view, .int .i64 d.p.seq, .int .i64 d.p.dig, .int .i64 d.p.first.1, .int .i64 d.p.first.2, .slice r.1.1 d.p.signs.length r.1.2, .slice r.2.1 d.p.batch.length r.2.2, .bool false, .int .i64 d.low, .bool d.clone])] S2 gh m2 m2 w' /\ Blk w' gr 67 #[.slice Ar m2.length cr] /\ PL w' (fun _ => False) (.slice Ar m2.length cr) m2 /\ PI w' (fun _ => False) A ra /\ PI w' (fun _ => False) A rb)) := Lib.hid (fun W A5 c5 hp h => by
              refine (sameall_any W _ _ _ _ m2 m2 hp h.2.2.1 (fun p hp => fits_of (HRK2.out.ok p hp).1) (by have := HRK2.out.len; have := HKN.out.1; omega)).mono ?_
              rintro e w' ⟨rfl, hb⟩
              exact ⟨by simp, HBL.out _ _ h hb⟩)
            have HLN : Hid (∀ W, (HSt H w gr [(g11, 41, PC A rb), (g9, 41, PC A ra), (gx, 69, #[.int .i64 d.p.view, .int .i64 d.p.seq, .int .i64 d.p.dig, .int .i64 d.p.first.1, .int .i64 d.p.first.2, .slice r.1.1 d.p.signs.length r.1.2, .slice r.2.1 d.p.batch.length r.2.2, .bool false, .int .i64 d.low, .bool d.clone])] S2 gh m2 m2 W /\ Blk W gr 67 #[.slice Ar m2.length cr] /\ PL W (fun _ => False) (.slice Ar m2.length cr) m2 /\ PI W (fun _ => False) A ra /\ PI W (fun _ => False) A rb) -> Calls Tryz.prog 28 #[.pointer (some ⟨gh, 0, none⟩)] W fun e w' => e = .returned (.int .i64 m2.length) /\ (HSt H w gr [(g11, 41, PC A rb), (g9, 41, PC A ra), (gx, 69, #[.int .i64 d.p.view, .int .i64 d.p.seq, .int .i64 d.p.dig, .int .i64 d.p.first.1, .int .i64 d.p.first.2, .slice r.1.1 d.p.signs.length r.1.2, .slice r.2.1 d.p.batch.length r.2.2, .bool false, .int .i64 d.low, .bool d.clone])] S2 gh m2 m2 w' /\ Blk w' gr 67 #[.slice Ar m2.length cr] /\ PL w' (fun _ => False) (.slice Ar m2.length cr) m2 /\ PI w' (fun _ => False) A ra /\ PI w' (fun _ => False) A rb)) := Lib.hid (fun W h => by
              refine (HH.len W _ gh m2 h.1.hh).mono ?_
              rintro e w' ⟨rfl, hb⟩
              exact ⟨rfl, HBL.out _ _ h hb⟩)
            have hm2 : (m2.length : Int) <= 1599289640355 := by have := HRK2.out.len; have := HKN.out.1; omega
            have HQ8 : Hid (HSt H w gr [(g11, 41, PC A rb), (g9, 41, PC A ra), (gx, 69, #[.int .i64 d.p.view, .int .i64 d.p.seq, .int .i64 d.p.dig, .int .i64 d.p.first.1, .int .i64 d.p.first.2, .slice r.1.1 d.p.signs.length r.1.2, .slice r.2.1 d.p.batch.length r.2.2, .bool false, .int .i64 d.low, .bool d.clone])] S2 gh m2 m2 w7.drew /\ Blk w7.drew gr 67 #[.slice Ar m2.length cr] /\ PL w7.drew (fun _ => False) (.slice Ar m2.length cr) m2 /\ PI w7.drew (fun _ => False) A ra /\ PI w7.drew (fun _ => False) A rb) := Lib.hid (HBL.out _ _ HQ7.out (below_drewN (Below.refl _ _) 1))
            have C8 := HCL.out _ HQ8.out
            clear HQ7
            have HFLAG : Hid (∀ W, (HSt H w gr [(g11, 41, PC A rb), (g9, 41, PC A ra), (gx, 69, #[.int .i64 d.p.view, .int .i64 d.p.seq, .int .i64 d.p.dig, .int .i64 d.p.first.1, .int .i64 d.p.first.2, .slice r.1.1 d.p.signs.length r.1.2, .slice r.2.1 d.p.batch.length r.2.2, .bool false, .int .i64 d.low, .bool d.clone])] S2 gh m2 m2 W /\ Blk W gr 67 #[.slice Ar m2.length cr] /\ PL W (fun _ => False) (.slice Ar m2.length cr) m2 /\ PI W (fun _ => False) A ra /\ PI W (fun _ => False) A rb) -> W.cell? ⟨gx, 9, none⟩ = some (.bool d.clone)) := Lib.hid (fun W h => ((h.1.ks _ (List.mem_cons_of_mem _ (List.mem_cons_of_mem _ List.mem_cons_self))).1).cell 9)
            cases is
            all_goals
              go_upto_region 14 with fail
              go_region_held3 (fun w' => w'.cell? ⟨g9, 0, none⟩ = some (.int .i64 A.view) /\ w'.cell? ⟨g9, 1, none⟩ = some (.int .i64 A.seq) /\ w'.cell? ⟨g9, 2, none⟩ = some (.int .i64 A.dig) /\ w'.cell? ⟨g9, 3, none⟩ = some (.int .i64 A.first.1) /\ w'.cell? ⟨g9, 4, none⟩ = some (.int .i64 A.first.2) /\ w'.cell? ⟨g9, 5, none⟩ = some (.slice ra.1.1 A.signs.length ra.1.2) /\ w'.cell? ⟨g9, 6, none⟩ = some (.slice ra.2.1 A.batch.length ra.2.2) /\ w'.cell? ⟨g11, 0, none⟩ = some (.int .i64 A.view) /\ w'.cell? ⟨g11, 1, none⟩ = some (.int .i64 A.seq) /\ w'.cell? ⟨g11, 2, none⟩ = some (.int .i64 A.dig) /\ w'.cell? ⟨g11, 3, none⟩ = some (.int .i64 A.first.1) /\ w'.cell? ⟨g11, 4, none⟩ = some (.int .i64 A.first.2) /\ w'.cell? ⟨g11, 5, none⟩ = some (.slice rb.1.1 A.signs.length rb.1.2) /\ w'.cell? ⟨g11, 6, none⟩ = some (.slice rb.2.1 A.batch.length rb.2.2) /\ w'.cell? ⟨gr, 0, none⟩ = some (.slice Ar m2.length cr))
                (first | with_reducible exact C8 | with_reducible exact C9 | with_reducible exact C10 | with_reducible exact C11 | with_reducible exact C12 | (go_keep; done))
                (first
                | (go_at_call 28; refine (HLN.out _ HQ11.out).mono ?_; rintro e w12 ⟨rfl, hl⟩; have HQ12 := Lib.hid hl; have C12 := HCL.out _ hl; clear hl)
                | (go_at_call 26; refine (HSA.out _ _ _ HPL.out HQ10.out).mono ?_; rintro e w11 ⟨rfl, hl⟩; have HQ11 := Lib.hid hl; have C11 := HCL.out _ hl; clear hl)
                | (go_at_call 27; refine (HAL.out _ HQ9.out).mono ?_; rintro e w10 ⟨A5, c5, rfl, hp, hl⟩; have HPL := Lib.hid hp; have HQ10 := Lib.hid hl; have C10 := HCL.out _ hl; clear hl hp)
                | (go_at_call 25; refine (HSP.out _ HQ8.out).mono ?_; rintro e w9 ⟨rfl, hl⟩; have HQ9 := Lib.hid hl; have C9 := HCL.out _ hl; clear hl))
              all_goals
                have fl := HFLAG.out _ HQ12.out
                cases hcl : d.clone
                . rw [hcl] at fl
                  go_wp2_with fail
                  go_roundw
                  case rel => exact ⟨k + 1, by have := HKT.out; omega, by go_num, gh, S2, rfl, by rw [HNX.out]; exact HQ12.out.1.less (fun e he => by simp at he)⟩
                  case measure => have := HKT.out; simp [intOf]; omega
                . rw [hcl] at fl
                  go_wp2_with fail
                  refine (HD.clone _ _ gh m2 HQ12.out.1.hh).mono ?_
                  rintro e w13 ⟨g13, rfl, hh13, hb13⟩
                  have HH13 := Lib.hid hh13
                  have HB13 := Lib.hid hb13
                  clear hh13 hb13
                  go_wp2_with fail
                  refine (HD.slide _ _ gh m2 _ (HQ12.out.1.later HH HB13.out).hh).mono ?_
                  rintro e w14 ⟨rfl, -, cc14⟩
                  have HX14 := Lib.hid (HQ12.out.1.turn HH (low := 0) HH13.out HB13.out cc14)
                  clear cc14
                  go_wp2_with fail
                  go_roundw
                  case rel => exact ⟨k + 1, by have := HKT.out; omega, by go_num, g13, _, rfl, by rw [HNX.out]; exact HX14.out.less (fun e he => by simp at he)⟩
                  case measure => have := HKT.out; simp [intOf]; omega
      . rw [hsl] at a7
        have HX0 : Hid (HSt H w gr [(wr.heap.size, 69, #[.int .i64 d.p.view, .int .i64 d.p.seq, .int .i64 d.p.dig, .int .i64 d.p.first.1, .int .i64 d.p.first.2, .slice r.1.1 d.p.signs.length r.1.2, .slice r.2.1 d.p.batch.length r.2.2, .bool true, .int .i64 d.low, .bool d.clone])] S gh m m (wr.alloc (.cells #[.int .i64 d.p.view, .int .i64 d.p.seq, .int .i64 d.p.dig, .int .i64 d.p.first.1, .int .i64 d.p.first.2, .slice r.1.1 d.p.signs.length r.1.2, .slice r.2.1 d.p.batch.length r.2.2, .bool true, .int .i64 d.low, .bool d.clone] 69))) := Lib.hid (hst.box HH _ _)
        clear hst
        have HMM : Hid (stepU m d = slideP m d.low) := Lib.hid (by unfold stepU; rw [hsl]; rfl)
        rw [HMM.out] at HNX HRK2
        have x7 := ((HX0.out.ks _ List.mem_cons_self).1).cell 7
        have x8 := ((HX0.out.ks _ List.mem_cons_self).1).cell 8
        simp only [List.getElem?_toArray, List.getElem?_cons_zero, List.getElem?_cons_succ] at x7 x8
        go_wp2_with fail
        generalize hwx : wr.alloc (.cells #[.int .i64 d.p.view, .int .i64 d.p.seq, .int .i64 d.p.dig, .int .i64 d.p.first.1, .int .i64 d.p.first.2, .slice r.1.1 d.p.signs.length r.1.2, .slice r.2.1 d.p.batch.length r.2.2, .bool true, .int .i64 d.low, .bool d.clone] 69) = wx at *
        generalize hgx : wr.heap.size = gx at *
        clear hwx hgx
        refine (HX0.out.slide HH HD d.low).mono ?_
        rintro e wy ⟨rfl, S1, hy⟩
        have y8 := ((hy.ks _ List.mem_cons_self).1).cell 8
        simp only [List.getElem?_toArray, List.getElem?_cons_zero, List.getElem?_cons_succ] at y8
        have HY := Lib.hid hy
        clear hy HX0 x7 x8
        go_wp2_with fail
        refine (HY.out.rslide HH d.low (by have := HRK.out.len; have := HKN.out.2; omega)).mono ?_
        rintro e wz ⟨rfl, hz⟩
        have HX := Lib.hid hz
        clear hz HY y8
        generalize slideP m d.low = m2 at *
        go_wp2_with fail
        refine (HD.get _ _ gh m2 n HX.out.hh HNB.out.1 HNB.out.2).mono ?_
        rintro e w4 ⟨ra, rfl, hpa, hb4⟩
        have HOA := Lib.hid (get_ok HRK2.out n)
        have HGE : Hid (∀ W X, RH W X gr m2 -> Calls Tryz.prog 24 #[.pointer (some ⟨gr, 0, none⟩), .int .i64 n] W (Pre.Told W X (getP m2 n))) := Lib.hid (fun W X h => rget_any W X gr m2 n h (by have := HRK2.out.len; have := HKN.out.1; omega))
        unfold Pre.Told at HGE
        have HX4 := Lib.hid (HX.out.later HH hb4)
        clear hb4
        generalize (getP m2 n).getD Pd.zero = A at *
        generalize (getP m2 n).isSome = is at *
        have HPA := Lib.hid (hpa.after ((Below.refl _ w4).alloc (Nat.le_refl _) (.cells (PC A ra) 41)))
        have HX5 := Lib.hid (HX4.out.box HH 41 (PC A ra))
        clear hpa HX4 HX
        unfold PC at HPA HX5 ⊢
        go_wp2_with fail
        have hl4 : w4.heap.size < (w4.alloc (.cells #[.int .i64 A.view, .int .i64 A.seq, .int .i64 A.dig, .int .i64 A.first.1, .int .i64 A.first.2, .slice ra.1.1 A.signs.length ra.1.2, .slice ra.2.1 A.batch.length ra.2.2] 41)).heap.size := by simp
        generalize w4.alloc (.cells #[.int .i64 A.view, .int .i64 A.seq, .int .i64 A.dig, .int .i64 A.first.1, .int .i64 A.first.2, .slice ra.1.1 A.signs.length ra.1.2, .slice ra.2.1 A.batch.length ra.2.2] 41) = w5 at *
        generalize w4.heap.size = g9 at *
        refine (HGE.out _ _ HX5.out.rh).mono ?_
        rintro e w6 ⟨rb, rfl, hpb, hb6⟩
        have HX6 := Lib.hid (HX5.out.later HH hb6)
        have HPA6 := Lib.hid (HPA.out.after (hb6.trans ((Below.refl _ w6).alloc hb6.size (.cells (PC A rb) 41))))
        have HPB := Lib.hid (hpb.after ((Below.refl _ w6).alloc (Nat.le_refl _) (.cells (PC A rb) 41)))
        have HX7 := Lib.hid (HX6.out.box HH 41 (PC A rb))
        clear hpb hb6 HX5 HX6 HPA HGE hl4
        unfold PC at HPA6 HPB HX7 ⊢
        go_wp2_with fail
        generalize w6.alloc (.cells #[.int .i64 A.view, .int .i64 A.seq, .int .i64 A.dig, .int .i64 A.first.1, .int .i64 A.first.2, .slice rb.1.1 A.signs.length rb.1.2, .slice rb.2.1 A.batch.length rb.2.2] 41) = w7 at *
        generalize w6.heap.size = g11 at *
        obtain ⟨S2, hS2⟩ : ∃ S2 : Nat -> Prop, S2 = S1 := ⟨_, rfl⟩
        subst hS2
        obtain ⟨vr, hkr, hpr⟩ := HX7.out.rh
        obtain ⟨Ar, cr, rfl, -⟩ := hpr.shape
        have HQ7 : Hid (HSt H w gr [(g11, 41, PC A rb), (g9, 41, PC A ra), (gx, 69, #[.int .i64 d.p.view, .int .i64 d.p.seq, .int .i64 d.p.dig, .int .i64 d.p.first.1, .int .i64 d.p.first.2, .slice r.1.1 d.p.signs.length r.1.2, .slice r.2.1 d.p.batch.length r.2.2, .bool true, .int .i64 d.low, .bool d.clone])] S2 gh m2 m2 w7 /\ Blk w7 gr 67 #[.slice Ar m2.length cr] /\ PL w7 (fun _ => False) (.slice Ar m2.length cr) m2 /\ PI w7 (fun _ => False) A ra /\ PI w7 (fun _ => False) A rb) := Lib.hid ⟨HX7.out, hkr, hpr.weaken (fun _ _ h => h.elim), HPA6.out.weaken (fun _ _ h => h.elim), HPB.out.weaken (fun _ _ h => h.elim)⟩
        clear hkr hpr HX7 HPA6 HPB
        have HBL : Hid (∀ W W', (HSt H w gr [(g11, 41, PC A rb), (g9, 41, PC A ra), (gx, 69, #[.int .i64 d.p.view, .int .i64 d.p.seq, .int .i64 d.p.dig, .int .i64 d.p.first.1, .int .i64 d.p.first.2, .slice r.1.1 d.p.signs.length r.1.2, .slice r.2.1 d.p.batch.length r.2.2, .bool true, .int .i64 d.low, .bool d.clone])] S2 gh m2 m2 W /\ Blk W gr 67 #[.slice Ar m2.length cr] /\ PL W (fun _ => False) (.slice Ar m2.length cr) m2 /\ PI W (fun _ => False) A ra /\ PI W (fun _ => False) A rb) -> Below W.heap.size W W' -> (HSt H w gr [(g11, 41, PC A rb), (g9, 41, PC A ra), (gx, 69, #[.int .i64 d.p.view, .int .i64 d.p.seq, .int .i64 d.p.dig, .int .i64 d.p.first.1, .int .i64 d.p.first.2, .slice r.1.1 d.p.signs.length r.1.2, .slice r.2.1 d.p.batch.length r.2.2, .bool true, .int .i64 d.low, .bool d.clone])] S2 gh m2 m2 W' /\ Blk W' gr 67 #[.slice Ar m2.length cr] /\ PL W' (fun _ => False) (.slice Ar m2.length cr) m2 /\ PI W' (fun _ => False) A ra /\ PI W' (fun _ => False) A rb)) := Lib.hid (fun W W' h b => ⟨h.1.later HH b, h.2.1.below b h.2.1.lt, h.2.2.1.after b, h.2.2.2.1.after b, h.2.2.2.2.after b⟩)
        have HCL : Hid (∀ W, (HSt H w gr [(g11, 41, PC A rb), (g9, 41, PC A ra), (gx, 69, #[.int .i64 d.p.view, .int .i64 d.p.seq, .int .i64 d.p.dig, .int .i64 d.p.first.1, .int .i64 d.p.first.2, .slice r.1.1 d.p.signs.length r.1.2, .slice r.2.1 d.p.batch.length r.2.2, .bool true, .int .i64 d.low, .bool d.clone])] S2 gh m2 m2 W /\ Blk W gr 67 #[.slice Ar m2.length cr] /\ PL W (fun _ => False) (.slice Ar m2.length cr) m2 /\ PI W (fun _ => False) A ra /\ PI W (fun _ => False) A rb) -> (W.cell? ⟨g9, 0, none⟩ = some (.int .i64 A.view) /\ W.cell? ⟨g9, 1, none⟩ = some (.int .i64 A.seq) /\ W.cell? ⟨g9, 2, none⟩ = some (.int .i64 A.dig) /\ W.cell? ⟨g9, 3, none⟩ = some (.int .i64 A.first.1) /\ W.cell? ⟨g9, 4, none⟩ = some (.int .i64 A.first.2) /\ W.cell? ⟨g9, 5, none⟩ = some (.slice ra.1.1 A.signs.length ra.1.2) /\ W.cell? ⟨g9, 6, none⟩ = some (.slice ra.2.1 A.batch.length ra.2.2) /\ W.cell? ⟨g11, 0, none⟩ = some (.int .i64 A.view) /\ W.cell? ⟨g11, 1, none⟩ = some (.int .i64 A.seq) /\ W.cell? ⟨g11, 2, none⟩ = some (.int .i64 A.dig) /\ W.cell? ⟨g11, 3, none⟩ = some (.int .i64 A.first.1) /\ W.cell? ⟨g11, 4, none⟩ = some (.int .i64 A.first.2) /\ W.cell? ⟨g11, 5, none⟩ = some (.slice rb.1.1 A.signs.length rb.1.2) /\ W.cell? ⟨g11, 6, none⟩ = some (.slice rb.2.1 A.batch.length rb.2.2) /\ W.cell? ⟨gr, 0, none⟩ = some (.slice Ar m2.length cr))) := Lib.hid (fun W h => by
          have h9 := (h.1.ks _ (List.mem_cons_of_mem _ List.mem_cons_self)).1
          have h11 := (h.1.ks _ List.mem_cons_self).1
          exact ⟨h9.cell 0, h9.cell 1, h9.cell 2, h9.cell 3, h9.cell 4, h9.cell 5, h9.cell 6, h11.cell 0, h11.cell 1, h11.cell 2, h11.cell 3, h11.cell 4, h11.cell 5, h11.cell 6, h.2.1.cell 0⟩)
        have HSP : Hid (∀ W, (HSt H w gr [(g11, 41, PC A rb), (g9, 41, PC A ra), (gx, 69, #[.int .i64 d.p.view, .int .i64 d.p.seq, .int .i64 d.p.dig, .int .i64 d.p.first.1, .int .i64 d.p.first.2, .slice r.1.1 d.p.signs.length r.1.2, .slice r.2.1 d.p.batch.length r.2.2, .bool true, .int .i64 d.low, .bool d.clone])] S2 gh m2 m2 W /\ Blk W gr 67 #[.slice Ar m2.length cr] /\ PL W (fun _ => False) (.slice Ar m2.length cr) m2 /\ PI W (fun _ => False) A ra /\ PI W (fun _ => False) A rb) -> Calls Tryz.prog 25 #[.agg #[.int .i64 A.view, .int .i64 A.seq, .int .i64 A.dig, .int .i64 A.first.1, .int .i64 A.first.2, .slice ra.1.1 A.signs.length ra.1.2, .slice ra.2.1 A.batch.length ra.2.2], .agg #[.int .i64 A.view, .int .i64 A.seq, .int .i64 A.dig, .int .i64 A.first.1, .int .i64 A.first.2, .slice rb.1.1 A.signs.length rb.1.2, .slice rb.2.1 A.batch.length rb.2.2]] W fun e w' => e = .returned (.bool true) /\ (HSt H w gr [(g11, 41, PC A rb), (g9, 41, PC A ra), (gx, 69, #[.int .i64 d.p.view, .int .i64 d.p.seq, .int .i64 d.p.dig, .int .i64 d.p.first.1, .int .i64 d.p.first.2, .slice r.1.1 d.p.signs.length r.1.2, .slice r.2.1 d.p.batch.length r.2.2, .bool true, .int .i64 d.low, .bool d.clone])] S2 gh m2 m2 w' /\ Blk w' gr 67 #[.slice Ar m2.length cr] /\ PL w' (fun _ => False) (.slice Ar m2.length cr) m2 /\ PI w' (fun _ => False) A ra /\ PI w' (fun _ => False) A rb)) := Lib.hid (fun W h => by
          refine (rproof_any W _ _ A A ra rb h.2.2.2.1 h.2.2.2.2 HOA.out.2.2 HOA.out.2.1 HOA.out.1).mono ?_
          rintro e w' ⟨rfl, hb⟩
          exact ⟨by simp, HBL.out _ _ h hb⟩)
        have HAL : Hid (∀ W, (HSt H w gr [(g11, 41, PC A rb), (g9, 41, PC A ra), (gx, 69, #[.int .i64 d.p.view, .int .i64 d.p.seq, .int .i64 d.p.dig, .int .i64 d.p.first.1, .int .i64 d.p.first.2, .slice r.1.1 d.p.signs.length r.1.2, .slice r.2.1 d.p.batch.length r.2.2, .bool true, .int .i64 d.low, .bool d.clone])] S2 gh m2 m2 W /\ Blk W gr 67 #[.slice Ar m2.length cr] /\ PL W (fun _ => False) (.slice Ar m2.length cr) m2 /\ PI W (fun _ => False) A ra /\ PI W (fun _ => False) A rb) -> Calls Tryz.prog 27 #[.pointer (some ⟨gh, 0, none⟩)] W fun e w' => ∃ A5 c5, e = .returned (.slice A5 m2.length c5) /\ PL w' (fun _ => False) (.slice A5 m2.length c5) m2 /\ (HSt H w gr [(g11, 41, PC A rb), (g9, 41, PC A ra), (gx, 69, #[.int .i64 d.p.view, .int .i64 d.p.seq, .int .i64 d.p.dig, .int .i64 d.p.first.1, .int .i64 d.p.first.2, .slice r.1.1 d.p.signs.length r.1.2, .slice r.2.1 d.p.batch.length r.2.2, .bool true, .int .i64 d.low, .bool d.clone])] S2 gh m2 m2 w' /\ Blk w' gr 67 #[.slice Ar m2.length cr] /\ PL w' (fun _ => False) (.slice Ar m2.length cr) m2 /\ PI w' (fun _ => False) A ra /\ PI w' (fun _ => False) A rb)) := Lib.hid (fun W h => by
          refine (HD.all W _ gh m2 h.1.hh (HOK.out.2 _ (HRK2.out.mono HKN.out.1))).mono ?_
          rintro e w' ⟨v, rfl, hp, hb⟩
          obtain ⟨A5, c5, rfl, -⟩ := hp.shape
          exact ⟨A5, c5, rfl, hp, HBL.out _ _ h hb⟩)
        have HSA : Hid (∀ W A5 c5, PL W (fun _ => False) (.slice A5 m2.length c5) m2 -> (HSt H w gr [(g11, 41, PC A rb), (g9, 41, PC A ra), (gx, 69, #[.int .i64 d.p.view, .int .i64 d.p.seq, .int .i64 d.p.dig, .int .i64 d.p.first.1, .int .i64 d.p.first.2, .slice r.1.1 d.p.signs.length r.1.2, .slice r.2.1 d.p.batch.length r.2.2, .bool true, .int .i64 d.low, .bool d.clone])] S2 gh m2 m2 W /\ Blk W gr 67 #[.slice Ar m2.length cr] /\ PL W (fun _ => False) (.slice Ar m2.length cr) m2 /\ PI W (fun _ => False) A ra /\ PI W (fun _ => False) A rb) -> Calls Tryz.prog 26 #[.slice A5 m2.length c5, .slice Ar m2.length cr] W fun e w' => e = .returned (.bool true) /\ (HSt H w gr [(g11, 41, PC A rb), (g9, 41, PC A ra), (gx, 69, #[.int .i64 d.p.view, .int .i64 d.p.seq, .int .i64 d.p.dig, .int .i64 d.p.first.1, .int .i64 d.p.first.2, .slice r.1.1 d.p.signs.length r.1.2, .slice r.2.1 d.p.batch.length r.2.2, .bool true, .int .i64 d.low, .bool d.clone])] S2 gh m2 m2 w' /\ Blk w' gr 67 #[.slice Ar m2.length cr] /\ PL w' (fun _ => False) (.slice Ar m2.length cr) m2 /\ PI w' (fun _ => False) A ra /\ PI w' (fun _ => False) A rb)) := Lib.hid (fun W A5 c5 hp h => by
          refine (sameall_any W _ _ _ _ m2 m2 hp h.2.2.1 (fun p hp => fits_of (HRK2.out.ok p hp).1) (by have := HRK2.out.len; have := HKN.out.1; omega)).mono ?_
          rintro e w' ⟨rfl, hb⟩
          exact ⟨by simp, HBL.out _ _ h hb⟩)
        have HLN : Hid (∀ W, (HSt H w gr [(g11, 41, PC A rb), (g9, 41, PC A ra), (gx, 69, #[.int .i64 d.p.view, .int .i64 d.p.seq, .int .i64 d.p.dig, .int .i64 d.p.first.1, .int .i64 d.p.first.2, .slice r.1.1 d.p.signs.length r.1.2, .slice r.2.1 d.p.batch.length r.2.2, .bool true, .int .i64 d.low, .bool d.clone])] S2 gh m2 m2 W /\ Blk W gr 67 #[.slice Ar m2.length cr] /\ PL W (fun _ => False) (.slice Ar m2.length cr) m2 /\ PI W (fun _ => False) A ra /\ PI W (fun _ => False) A rb) -> Calls Tryz.prog 28 #[.pointer (some ⟨gh, 0, none⟩)] W fun e w' => e = .returned (.int .i64 m2.length) /\ (HSt H w gr [(g11, 41, PC A rb), (g9, 41, PC A ra), (gx, 69, #[.int .i64 d.p.view, .int .i64 d.p.seq, .int .i64 d.p.dig, .int .i64 d.p.first.1, .int .i64 d.p.first.2, .slice r.1.1 d.p.signs.length r.1.2, .slice r.2.1 d.p.batch.length r.2.2, .bool true, .int .i64 d.low, .bool d.clone])] S2 gh m2 m2 w' /\ Blk w' gr 67 #[.slice Ar m2.length cr] /\ PL w' (fun _ => False) (.slice Ar m2.length cr) m2 /\ PI w' (fun _ => False) A ra /\ PI w' (fun _ => False) A rb)) := Lib.hid (fun W h => by
          refine (HH.len W _ gh m2 h.1.hh).mono ?_
          rintro e w' ⟨rfl, hb⟩
          exact ⟨rfl, HBL.out _ _ h hb⟩)
        have hm2 : (m2.length : Int) <= 1599289640355 := by have := HRK2.out.len; have := HKN.out.1; omega
        have HQ8 : Hid (HSt H w gr [(g11, 41, PC A rb), (g9, 41, PC A ra), (gx, 69, #[.int .i64 d.p.view, .int .i64 d.p.seq, .int .i64 d.p.dig, .int .i64 d.p.first.1, .int .i64 d.p.first.2, .slice r.1.1 d.p.signs.length r.1.2, .slice r.2.1 d.p.batch.length r.2.2, .bool true, .int .i64 d.low, .bool d.clone])] S2 gh m2 m2 w7.drew /\ Blk w7.drew gr 67 #[.slice Ar m2.length cr] /\ PL w7.drew (fun _ => False) (.slice Ar m2.length cr) m2 /\ PI w7.drew (fun _ => False) A ra /\ PI w7.drew (fun _ => False) A rb) := Lib.hid (HBL.out _ _ HQ7.out (below_drewN (Below.refl _ _) 1))
        have C8 := HCL.out _ HQ8.out
        clear HQ7
        have HFLAG : Hid (∀ W, (HSt H w gr [(g11, 41, PC A rb), (g9, 41, PC A ra), (gx, 69, #[.int .i64 d.p.view, .int .i64 d.p.seq, .int .i64 d.p.dig, .int .i64 d.p.first.1, .int .i64 d.p.first.2, .slice r.1.1 d.p.signs.length r.1.2, .slice r.2.1 d.p.batch.length r.2.2, .bool true, .int .i64 d.low, .bool d.clone])] S2 gh m2 m2 W /\ Blk W gr 67 #[.slice Ar m2.length cr] /\ PL W (fun _ => False) (.slice Ar m2.length cr) m2 /\ PI W (fun _ => False) A ra /\ PI W (fun _ => False) A rb) -> W.cell? ⟨gx, 9, none⟩ = some (.bool d.clone)) := Lib.hid (fun W h => ((h.1.ks _ (List.mem_cons_of_mem _ (List.mem_cons_of_mem _ List.mem_cons_self))).1).cell 9)
        cases is
        all_goals
          go_upto_region 14 with fail
          go_region_held3 (fun w' => w'.cell? ⟨g9, 0, none⟩ = some (.int .i64 A.view) /\ w'.cell? ⟨g9, 1, none⟩ = some (.int .i64 A.seq) /\ w'.cell? ⟨g9, 2, none⟩ = some (.int .i64 A.dig) /\ w'.cell? ⟨g9, 3, none⟩ = some (.int .i64 A.first.1) /\ w'.cell? ⟨g9, 4, none⟩ = some (.int .i64 A.first.2) /\ w'.cell? ⟨g9, 5, none⟩ = some (.slice ra.1.1 A.signs.length ra.1.2) /\ w'.cell? ⟨g9, 6, none⟩ = some (.slice ra.2.1 A.batch.length ra.2.2) /\ w'.cell? ⟨g11, 0, none⟩ = some (.int .i64 A.view) /\ w'.cell? ⟨g11, 1, none⟩ = some (.int .i64 A.seq) /\ w'.cell? ⟨g11, 2, none⟩ = some (.int .i64 A.dig) /\ w'.cell? ⟨g11, 3, none⟩ = some (.int .i64 A.first.1) /\ w'.cell? ⟨g11, 4, none⟩ = some (.int .i64 A.first.2) /\ w'.cell? ⟨g11, 5, none⟩ = some (.slice rb.1.1 A.signs.length rb.1.2) /\ w'.cell? ⟨g11, 6, none⟩ = some (.slice rb.2.1 A.batch.length rb.2.2) /\ w'.cell? ⟨gr, 0, none⟩ = some (.slice Ar m2.length cr))
            (first | with_reducible exact C8 | with_reducible exact C9 | with_reducible exact C10 | with_reducible exact C11 | with_reducible exact C12 | (go_keep; done))
            (first
            | (go_at_call 28; refine (HLN.out _ HQ11.out).mono ?_; rintro e w12 ⟨rfl, hl⟩; have HQ12 := Lib.hid hl; have C12 := HCL.out _ hl; clear hl)
            | (go_at_call 26; refine (HSA.out _ _ _ HPL.out HQ10.out).mono ?_; rintro e w11 ⟨rfl, hl⟩; have HQ11 := Lib.hid hl; have C11 := HCL.out _ hl; clear hl)
            | (go_at_call 27; refine (HAL.out _ HQ9.out).mono ?_; rintro e w10 ⟨A5, c5, rfl, hp, hl⟩; have HPL := Lib.hid hp; have HQ10 := Lib.hid hl; have C10 := HCL.out _ hl; clear hl hp)
            | (go_at_call 25; refine (HSP.out _ HQ8.out).mono ?_; rintro e w9 ⟨rfl, hl⟩; have HQ9 := Lib.hid hl; have C9 := HCL.out _ hl; clear hl))
          all_goals
            have fl := HFLAG.out _ HQ12.out
            cases hcl : d.clone
            . rw [hcl] at fl
              go_wp2_with fail
              go_roundw
              case rel => exact ⟨k + 1, by have := HKT.out; omega, by go_num, gh, S2, rfl, by rw [HNX.out]; exact HQ12.out.1.less (fun e he => by simp at he)⟩
              case measure => have := HKT.out; simp [intOf]; omega
            . rw [hcl] at fl
              go_wp2_with fail
              refine (HD.clone _ _ gh m2 HQ12.out.1.hh).mono ?_
              rintro e w13 ⟨g13, rfl, hh13, hb13⟩
              have HH13 := Lib.hid hh13
              have HB13 := Lib.hid hb13
              clear hh13 hb13
              go_wp2_with fail
              refine (HD.slide _ _ gh m2 _ (HQ12.out.1.later HH HB13.out).hh).mono ?_
              rintro e w14 ⟨rfl, -, cc14⟩
              have HX14 := Lib.hid (HQ12.out.1.turn HH (low := 0) HH13.out HB13.out cc14)
              clear cc14
              go_wp2_with fail
              go_roundw
              case rel => exact ⟨k + 1, by have := HKT.out; omega, by go_num, g13, _, rfl, by rw [HNX.out]; exact HX14.out.less (fun e he => by simp at he)⟩
              case measure => have := HKT.out; simp [intOf]; omega
    . have hke : k = us.length := by omega
      subst hke
      rw [List.take_length] at hst
      have hrk := runU_ok HO.out us.length (Nat.le_refl _)
      rw [List.take_length] at hrk
      have HRK := Lib.hid (hrk.mono (Nat.le_trans hn (by decide : 1599289640354 <= 1599289640355)))
      clear hrk
      generalize runU us = m at *
      have hF : fromP 0 m = true := from_rise.2 ⟨fun p hp => by have := okN_iff.1 (HRK.out.rise.2 p hp); omega, HRK.out.rise⟩
      have hkf : decide ((us.length : Int) < (us.length : Int)) = false := decide_eq_false (by omega)
      obtain ⟨vr, hkr, hpr⟩ := hst.rh
      obtain ⟨Ar, cr, rfl, -⟩ := hpr.shape
      have HST := Lib.hid hst
      have HKR := Lib.hid hkr
      have HPR := Lib.hid hpr
      have HFIT : Hid (∀ p ∈ m, Fits p) := Lib.hid (fun p hp => fits_of (HRK.out.ok p hp).1)
      have HLN : Hid (m.length <= 140737488355328) := Lib.hid (by have := HRK.out.len; omega)
      clear hst hkr hpr hk hkt
      go_wp2_with fail
      refine (HD.all wr _ gh m HST.out.hh (HOK.out.2 _ HRK.out)).mono ?_
      rintro e w4 ⟨v, rfl, hp, hb4⟩
      obtain ⟨A4, c4, rfl, -⟩ := hp.shape
      have HP4 := Lib.hid hp
      have HB4 := Lib.hid hb4
      clear hp hb4
      go_wp2_with fail
      refine (HD.frm w4 _ _ m HP4.out (HOK.out.2 _ HRK.out)).mono ?_
      rintro e w5 ⟨hb5, hi⟩
      rw [hF] at hi
      simp only [if_true] at hi
      obtain ⟨g5, rfl, hh5⟩ := hi
      have HB5 := Lib.hid (HB4.out.trans (hb5.mono HB4.out.size))
      have HA5 : Hid (Calls Tryz.prog 27 #[.pointer (some ⟨g5, 0, none⟩)] w5.drew fun e w' => ∃ v, e = .returned v /\ PL w' (fun _ => False) v m /\ Below w5.drew.heap.size w5.drew w') := Lib.hid (HD.all w5.drew _ g5 m (HH.ch hh5 (Ch.of_below (S := fun _ => False) (below_drewN (Below.refl _ w5) 1) (Nat.le_refl _)) (fun _ _ h => h)) (HOK.out.2 _ HRK.out))
      have HBD : Hid (Below wr.heap.size wr w5.drew) := Lib.hid (below_drewN HB5.out 1)
      have g0 : w5.drew.cell? ⟨gr, 0, none⟩ = some (.slice Ar m.length cr) := (HKR.out.below HBD.out HKR.out.lt).cell 0
      clear hb5 hh5 HP4 HB4 hF
      go_wp2_with fail
      go_upto_region 24 with fail
      go_region_held3 (fun w' => w'.cell? ⟨gr, 0, none⟩ = some (.slice Ar m.length cr))
        (first | with_reducible exact g0 | with_reducible exact g1 | with_reducible exact g2 | (go_keep; done))
        (first
        | (go_at_call 26; refine HSA.out.mono ?_; rintro e w7 ⟨rfl, hb⟩; have HB7 := Lib.hid (HB6.out.trans (hb.mono HB6.out.size)); have g2 : w7.cell? ⟨gr, 0, none⟩ = some (.slice Ar m.length cr) := (HKR.out.below HB7.out HKR.out.lt).cell 0; clear hb)
        | (go_at_call 27; refine HA5.out.mono ?_; rintro e w6 ⟨v6, rfl, hp6, hb6⟩; have HB6 := Lib.hid (HBD.out.trans (hb6.mono HBD.out.size)); have HSA := Lib.hid (sameall_any w6 _ _ v6 _ m m hp6 (HPR.out.after HB6.out) HFIT.out HLN.out); have g1 : w6.cell? ⟨gr, 0, none⟩ = some (.slice Ar m.length cr) := (HKR.out.below HB6.out HKR.out.lt).cell 0; clear hp6 hb6))
      all_goals
        go_wp2_with fail
        go_ret
        exact ⟨by simp, HST.out.hb.trans (HB7.out.mono HST.out.hb.size)⟩
end Go.Proofs.YtmhmnkpaijoaaaaGreat.Ptf

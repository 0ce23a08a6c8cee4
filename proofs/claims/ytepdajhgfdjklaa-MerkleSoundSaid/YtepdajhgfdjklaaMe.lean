/-
  Contracts of layer 5: Prove of a list, the program's: its closure.
-/
import Derived.Test.YtepdajhgfdjklaaMc
import Derived.Test.YtepdajhgfdjklaaPr
import Derived.Deep.RegionLaw
import Derived.Deep.QuietTactic
import Derived.BigQuiet
namespace Go.Proofs.Ytepdajhgfdjklaa.Me
open Go Go.RowKit Ck Im Ik Ia Ib Ic Ig Ih Ij Mm Ma Mb Mc Pr
attribute [local go_sem ↓] Go.wp_at_zero Go.wp_at_succ
set_option linter.unusedVariables false

def TG (p : Nat) (L : List Tx) (w : World) (S : Nat → Prop) : Prop := Tb w S p L
theorem tg_stable (p : Nat) (L : List Tx) : Stable (TG p L) := fun _ _ _ _ h c hd => Tb.ch h c hd
def IVs (ds : List Int) : List Value := ds.map fun d => Value.int .i64 d
theorem IVs_len (ds : List Int) : (IVs ds).length = ds.length := by simp [IVs]
theorem IVs_app (a b : List Int) : IVs (a ++ b) = IVs a ++ IVs b := by simp [IVs]
theorem IVs_one (ds : List Int) : ∀ u ∈ IVs ds, u.oneCell' = true := by
  intro u hu
  simp only [IVs, List.mem_map] at hu
  obtain ⟨d, _, rfl⟩ := hu
  rfl
theorem IVs_get {ds : List Int} {j : Nat} (h : j < ds.length) : (IVs ds)[j]? = some (.int .i64 ds[j]) := by simp [IVs, h]
/-- The proof so far, in a variable at Bp. -/
def PF (base Bp : Nat) (ds : List Int) (w : World) (R : Nat → Prop) : Prop :=
  ∃ pv, Blk w Bp 31 #[pv] ∧ w.ownsRow base 28 1 pv ds.length (IVs ds) ∧ R Bp ∧ ∀ g, pv.ownBlock = some g → R g
theorem pf_stable (base Bp : Nat) (ds : List Int) : Stable (PF base Bp ds) := fun w w' S T ⟨pv, h1, h2, h3, h4⟩ c hd =>
  ⟨pv, h1.ch c (fun ht => hd _ h3 ht), own_ch h2 c (fun g hg ht => hd _ (h4 g hg) ht), h3, h4⟩

/-- A digest more: what it leaves. -/
theorem push_two {K S T : Nat → Prop} {w1 w2 w3 : World} {p : Nat} {r : List Tx} {base Bp : Nat} {ds : List Int} {pv pv' : Value} {d : Int} {o : Obj}
    (hK : ∀ k, K k → k < w1.heap.size) (oS : Own K w1 S) (oT : Own K w1 T) (hST : ∀ k, S k → T k → False) (hT2 : Tb w2 (Up S w1 w2) p r) (hc : Ch S w1 w2)
    (hb : Blk w1 Bp 31 #[pv]) (ho : w1.ownsRow base 28 1 pv ds.length (IVs ds)) (hTB : T Bp) (hTg : ∀ g, pv.ownBlock = some g → T g)
    (happ : Appended (w2.alloc o) base 28 1 pv (ds.length + 1) (IVs ds ++ [.int .i64 d]) pv' w3) :
    Two K (w3.setCell ⟨Bp, 0, none⟩ pv') (TG p r) (PF base Bp (ds ++ [d])) ∧ Ch (fun k => ¬ K k) w1 (w3.setCell ⟨Bp, 0, none⟩ pv') := by
  have hs3 : (w3.setCell ⟨Bp, 0, none⟩ pv').heap.size = w3.heap.size := by simp [World.setCell]
  have c1 : Ch T (w2.alloc o) w3 := Ch.of_grown happ.2.1 (fun g hg _ => hTg g hg)
  have c0 : Ch T w2 (w2.alloc o) := (Ch.refl T w2).alloc o
  have c3 : Ch T w2 (w3.setCell ⟨Bp, 0, none⟩ pv') := (c0.trans c1 (fun _ _ h => h)).setCell (p := ⟨Bp, 0, none⟩) (fun _ => hTB) pv'
  have hbS : ¬ S Bp := fun h => hST _ h hTB
  have hb2 : Blk (w2.alloc o) Bp 31 #[pv] := (hb.ch hc hbS).alloc o
  have ho2 : (w2.alloc o).ownsRow base 28 1 pv ds.length (IVs ds) := (own_ch ho hc (fun g hg h => hST _ h (hTg g hg))).alloc o
  have hb3 : Blk w3 Bp 31 #[pv] := hb2.grown happ.2.1 (fun h => own_far ho2 hb2 (by decide) h.symm)
  have hsz := hc.size
  have hsz2 := c3.size
  have hal : (w2.alloc o).heap.size = w2.heap.size + 1 := by simp
  refine ⟨⟨fun k hk => ?_, Up S w1 w2, fun k => T k ∨ (w2.heap.size ≤ k ∧ k < w3.heap.size), ?_, ⟨pv', ?_, ?_, .inl hTB, fun g hg => ?_⟩, ?_, ?_, ?_⟩, ?_⟩
  · have := hK k hk; omega
  · refine Tb.ch hT2 c3 (fun k hk ht => ?_)
    rcases hk with hk | hk
    · exact hST k hk ht
    · have := (oT k ht).2; omega
  · have := hb3.set_ 0 pv'
    simpa using this
  · rw [IVs_app, List.length_append]
    exact own_ch happ.1 ((Ch.refl (fun k => k = Bp) w3).setCell (p := ⟨Bp, 0, none⟩) (fun _ => rfl) pv') (fun g hg e => by
      subst e
      exact own_far happ.1 hb3 (by decide) hg)
  · rcases happ.2.2 with h2 | h2
    · exact .inl (hTg g (by rw [← h2]; exact hg))
    · have := (happ.1.lt g hg).2
      rw [h2] at hg
      injection hg with hg
      exact .inr ⟨by omega, by omega⟩
  · intro k hk
    rcases hk with hk | hk
    · exact ⟨(oS k hk).1, by have := (oS k hk).2; omega⟩
    · exact ⟨fun h => by have := hK k h; omega, by omega⟩
  · intro k hk
    rcases hk with hk | hk
    · exact ⟨(oT k hk).1, by have := (oT k hk).2; omega⟩
    · exact ⟨fun h => by have := hK k h; omega, by omega⟩
  · intro k hk ht
    rcases hk with hk | hk <;> rcases ht with ht | ht
    · exact hST k hk ht
    · have := (oS k hk).2; omega
    · have := (oT k ht).2; omega
    · omega
  · exact (hc.mono (fun k _ hk => (oS k hk).1)).trans (c3.mono (fun k _ hk => (oT k hk).1)) (fun _ _ h => h)

theorem cut_lt (A : Option Addr) (n c k : Nat) (hk : k < n) (hc : n ≤ c) : (∀ W : World, (Instr.slice 22 (.slice A n c) (some (.int .i64 (k : Int))) none none).run Try.prog W = .ok (.slice (A.map fun x => x.add k) (n - k) (c - k)) W) ∧ (∀ ad, A = some ad → k < n → (A.map fun x => x.add k) = some (ad.add (k * 1))) := by
  have he : ∀ W : World, (sizeOf (Try.prog.elem 22)).run Try.prog W = .ok 1 W := fun _ => by kernel_rfl
  refine ⟨fun W => ?_, ?_⟩
  · rw [run_slice_l W 22 A n c (by kernel_rfl) .i64 k (by omega) (by omega), he]
    simp only [Result.andThen_ok, sliced, Int.toNat_natCast, Nat.mul_one]
    rw [if_neg (by omega)]
  · rintro ad rfl hlt
    simp
def PDone (K : Nat → Prop) (p base Bp : Nat) (r : List Nat × List Tx) (ds : List Int) (w : World) (e : Ending) (w' : World) : Prop :=
  e = .returned (.tuple #[]) ∧ Two K w' (TG p r.2) (PF base Bp (ds ++ r.1.map fun x : Nat => (x : Int))) ∧ Ch (fun k => ¬ K k) w w'
/-- The closure's blocks. -/
def CloP (w : World) (p Bt Bd Bp : Nat) : Prop :=
  Blk w Bt 24 #[.pointer (some ⟨p, 0, none⟩)] ∧ Blk w Bd 72 #[.func (.func 36) #[] #[.pointer (some ⟨Bd, 0, none⟩), .pointer (some ⟨Bp, 0, none⟩), .pointer (some ⟨Bt, 0, none⟩)]]
theorem CloP.ch {w w' : World} {S : Nat → Prop} {p Bt Bd Bp : Nat} (h : CloP w p Bt Bd Bp) (c : Ch S w w') (ht : ¬ S Bt) (hd : ¬ S Bd) : CloP w' p Bt Bd Bp := ⟨h.1.ch c ht, h.2.ch c hd⟩

theorem prove_le : ∀ (l L : List Tx) (i : Nat), L.length ≤ 1048576 → (prove L i l).2.length ≤ 1048576 ∧ (prove L i l).1.length ≤ l.length ∧ ∀ d ∈ (prove L i l).1, d ≤ 1048576
  | l, L, i, h => by
    by_cases h1 : l.length ≤ 1
    · rw [prove_one L i h1]
      exact ⟨h, Nat.zero_le _, by simp⟩
    · obtain ⟨s1, s2, s3⟩ := split_spec (n := l.length) (by omega)
      have lt : (l.take (split l.length)).length = split l.length := by rw [List.length_take]; omega
      have ld : (l.drop (split l.length)).length = l.length - split l.length := List.length_drop
      by_cases hs : i < split l.length
      · obtain ⟨a1, a2, a3⟩ := prove_le (l.take (split l.length)) L i h
        have b := root_le (l.drop (split l.length)) _ a1
        rw [prove_left L (by omega) hs]
        refine ⟨b.2, by simp only [List.length_append, List.length_cons, List.length_nil]; omega, fun d hd => ?_⟩
        rcases List.mem_append.1 hd with hd | hd
        · exact a3 d hd
        · simp only [List.mem_cons, List.not_mem_nil, or_false] at hd
          subst hd; exact b.1
      · obtain ⟨a1, a2, a3⟩ := prove_le (l.drop (split l.length)) L (i - split l.length) h
        have b := root_le (l.take (split l.length)) _ a1
        rw [prove_right L (by omega) hs]
        refine ⟨b.2, by simp only [List.length_append, List.length_cons, List.length_nil]; omega, fun d hd => ?_⟩
        rcases List.mem_append.1 hd with hd | hd
        · exact a3 d hd
        · simp only [List.mem_cons, List.not_mem_nil, or_false] at hd
          subst hd; exact b.1
  termination_by l => l.length
  decreasing_by all_goals simp only [List.length_take, List.length_drop]; omega

set_option maxRecDepth 100000 in
set_option maxHeartbeats 4000000 in
theorem pdown_any : ∀ (f : Nat) (w : World) (K : Nat → Prop) (p : Nat) (L : List Tx) (base Bp : Nat) (ds : List Int) (i : Nat) (A : Option Addr) (c : Nat) (ls : List Tx) (Bt Bd : Nat), ls.length ≤ f → i < ls.length → ds.length + ls.length ≤ 1000000 → base ≤ w.heap.size →
    Two K w (TG p L) (PF base Bp ds) → Ls w (fun k => ¬ K k) (.slice A ls.length c) ls → CloP w p Bt Bd Bp → K Bt → K Bd → (∀ x ∈ ls, x.length ≤ 140737488355327) →
    Calls Try.prog 36 #[.int .i64 i, .slice A ls.length c, .pointer (some ⟨Bd, 0, none⟩), .pointer (some ⟨Bp, 0, none⟩), .pointer (some ⟨Bt, 0, none⟩)] w (PDone K p base Bp (prove L i ls) ds w)
  | 0, w, K, p, L, base, Bp, ds, i, A, c, ls, Bt, Bd, hf, hi, _, _, _, _, _, _, _, _ => by omega
  | f + 1, w, K, p, L, base, Bp, ds, i, A, c, ls, Bt, Bd, hf, hi, hbig, hbase, hTwo, hls, hC, hKt, hKd, hall => by
    have cd : w.cell? ⟨Bd, 0, none⟩ = some (.func (.func 36) #[] #[.pointer (some ⟨Bd, 0, none⟩), .pointer (some ⟨Bp, 0, none⟩), .pointer (some ⟨Bt, 0, none⟩)]) := hC.2.cell 0
    by_cases hone : ls.length = 1
    · have HR := Lib.hid (prove_one L i (l := ls) (by omega))
      have HT := Lib.hid hTwo
      have hn : (ls.length : Int) = 1 := by omega
      have HI := Lib.hid hi
      clear hf hi hbig hbase hTwo hls hC hKt hKd hall hone cd
      go_enter Try.func36, Try.ntmps36
      go_wp2_with fail
      refine bodyPost_ret (results_none rfl _ _ _) rfl ?_
      rw [HR.out]
      exact ⟨rfl, by simpa using HT.out, Ch.refl _ _⟩
    · obtain ⟨s1, s2, s3⟩ := split_spec (n := ls.length) (by omega)
      have h2 : 2 ≤ ls.length := by omega
      have hi6 : i ≤ 1000000 := by omega
      have hL : L.length ≤ 1048576 := by obtain ⟨_, S, T, h, _⟩ := hTwo; exact Tb.len h
      have hsp0 := split_any w ls.length (by omega)
      rw [show ((ls.length : Int)).toNat = ls.length from by omega] at hsp0
      have HSPL := Lib.hid hsp0
      clear hsp0
      by_cases hs : i < split ls.length
      · have HM := Lib.hid (prove_left L (l := ls) h2 hs)
        have hih := pdown_any f
        generalize hk : split ls.length = k at *
        clear hk
        have hlt : (ls.take k).length = k := by rw [List.length_take]; omega
        have hld : (ls.drop k).length = ls.length - k := List.length_drop
        have hcap := (Ls.cap hls).2
        have r1 : ∀ n, (Instr.slice 22 (.slice A ls.length c) none (some (.int .i64 (k : Int))) none).run Try.prog (w.drewN n) = .ok (.slice A k c) (w.drewN n) := fun n => cut_upto A ls.length c k (by omega) _
        obtain ⟨r2', a2⟩ := cut_lt A ls.length c k (by omega) hcap
        have r2 : ∀ n, (Instr.slice 22 (.slice A ls.length c) (some (.int .i64 (k : Int))) none none).run Try.prog (w.drewN n) = .ok (.slice (A.map fun x => x.add k) (ls.length - k) (c - k)) (w.drewN n) := fun n => r2' _
        have hT1 := Ls.upto hls (k := k) (by omega)
        have hT2 := Ls.from hls (k := k) (by omega) a2
        have HIH : Hid (∀ n, Calls Try.prog 36 #[.int .i64 (i : Int), .slice A k c, .pointer (some ⟨Bd, 0, none⟩), .pointer (some ⟨Bp, 0, none⟩), .pointer (some ⟨Bt, 0, none⟩)] (w.drewN n) (PDone K p base Bp (prove L i (ls.take k)) ds w)) := Lib.hid fun n => by
          have h := hih (w.drewN n) K p L base Bp ds i A c (ls.take k) Bt Bd (by omega) (by omega) (by omega) hbase (hTwo.later (tg_stable _ _) (pf_stable _ _ _) (below_drewN (Below.refl _ w) n)) hT1 hC hKt hKd (fun x hx => hall x (List.mem_of_mem_take hx))
          rw [hlt] at h
          exact h.mono fun _ _ ⟨h1, h2, h3⟩ => ⟨h1, h2, ⟨h3.os, h3.tape, h3.output, h3.size, h3.block⟩⟩
        have HOTH := Lib.hid hT2
        have HOL := Lib.hid hld
        have HALL : Hid (∀ x ∈ (ls.drop k), x.length ≤ 140737488355327) := Lib.hid fun x hx => hall x (List.mem_of_mem_drop hx)
        obtain ⟨hp2, hp1, hp3⟩ := prove_le (ls.take k) L i hL
        have HPL := Lib.hid (And.intro hp2 (And.intro (show ds.length + (prove L i (ls.take k)).1.length < 1000000 by omega) (show (ls.drop k).length ≤ 1000000 by omega)))
        have hsp := split_any w ls.length (by omega)
        rw [show ((ls.length : Int)).toNat = ls.length from by omega] at hsp
        have HSP := Lib.hid HSPL.out
        clear hih hlt hld r2' a2 hT1 hT2 hp1 hp2 hp3 hsp
        have HCLO := Lib.hid hC
        clear hf hbig hTwo hls hall hC hL
        have hbl := hbase
        go_enter Try.func36, Try.ntmps36
        go_wp2_with fail
        refine HSP.out.mono ?_
        rintro e w' ⟨rfl, rfl⟩
        go_wp2_with fail
        go_quiet (fail)
        go_wp2_with fail
        refine (HIH.out nq).mono ?_
        rintro e w1 ⟨rfl, hTw1, hc1⟩
        have hC1 := HCLO.out.ch hc1 (fun h => h hKt) (fun h => h hKd)
        have ct1 : w1.cell? ⟨Bt, 0, none⟩ = some (.pointer (some ⟨p, 0, none⟩)) := hC1.1.cell 0
        obtain ⟨hK, S, T, hTS, ⟨pv, hbp, hop, hTB, hTg⟩, oS, oT, hST⟩ := hTw1
        obtain ⟨A0, c0, rfl⟩ := own_shape hop
        have hlsO := HOTH.out.ch hc1 (fun k _ h => h)
        have hRt := root_any w1.drew S (fun k => ¬ K k) p (prove L i (ls.take k)).2 (A.map fun x => x.add k) (c - k) (ls.drop k) (by have := HPL.out.2.2; omega) hTS (fun k hk => (oS k hk).2) hlsO (fun k hk => (oS k hk).1) HALL.out
        rw [HOL.out] at hRt
        have hrl := root_le (ls.drop k) _ HPL.out.1
        have HRT := Lib.hid hRt
        have hm9 : (ds ++ (prove L i (ls.take k)).1.map fun x : Nat => (x : Int)).length ≤ 1000000 := by have := HPL.out.2.1; simp only [List.length_append, List.length_map]; omega
        have HML := Lib.hid (show (ds ++ ((prove L i (ls.take k)).1 ++ [(root (prove L i (ls.take k)).2 (ls.drop k)).1]).map fun x : Nat => (x : Int)) = (ds ++ (prove L i (ls.take k)).1.map fun x : Nat => (x : Int)) ++ [((root (prove L i (ls.take k)).2 (ls.drop k)).1 : Int)] by simp)
        generalize hds1 : (ds ++ (prove L i (ls.take k)).1.map fun x : Nat => (x : Int)) = ds1 at *
        generalize hrr : root (prove L i (ls.take k)).2 (ls.drop k) = rr at *
        have HD1 := Lib.hid hds1
        have HRR := Lib.hid hrr
        clear hds1 hrr hC1 hlsO hRt HIH
        have p1 : w1.cell? ⟨Bp, 0, none⟩ = some (.slice A0 ds1.length c0) := hbp.cell 0
        have HBP := Lib.hid hbp
        have HOP := Lib.hid hop
        have HSS := Lib.hid (And.intro hK (And.intro oS (And.intro oT (And.intro hST (And.intro hTB hTg)))))
        have HC1 := Lib.hid hc1
        have HRL := Lib.hid hrl
        obtain ⟨i0, hi0, hz0, hz1, hz2⟩ := info_parts info_dig
        have hnS : ¬ S Bp := fun h => hST _ h hTB
        clear hbp hop hK oS oT hST hTB hTS hc1 hrl cd r1 r2
        go_wp2_with fail
        go_region_law (first
          | (go_simp; go_at_call 12; refine HRT.out.mono ?_; rintro e w2 ⟨rfl, ht2, hc2⟩; have hc2 : Ch S w1 w2 := ch_of_drew hc2; have ht2 : Tb w2 (Up S w1 w2) p rr.2 := ht2; have p2 : w2.cell? ⟨Bp, 0, none⟩ = some (.slice A0 ds1.length c0) := (HBP.out.ch hc2 hnS).cell 0; have p3 : (w2.alloc (.cells #[.int .i64 (rr.1 : Int)] 28)).cell? ⟨Bp, 0, none⟩ = some (.slice A0 ds1.length c0) := ((HBP.out.ch hc2 hnS).alloc _).cell 0; have HT2 := Lib.hid ht2; have HC2 := Lib.hid hc2; clear ht2 hc2)
          | (refine step_append_sh (by rfl) (.tmp 34) (.tmp 38) _ (by rfl) base 28 i0 _ 1 8 Try.underlying31 hi0 hz0 hz1 hz2 rfl (by omega) (.slice A0 ds1.length c0) ds1.length (IVs ds1) (by rfl) (show (w2.alloc (.cells #[.int .i64 (rr.1 : Int)] 28)).ownsRow base 28 1 (.slice A0 ds1.length c0) ds1.length (IVs ds1) from (own_ch HOP.out HC2.out (fun g hg h => HSS.out.2.2.2.1 _ h (HSS.out.2.2.2.2.2 g hg))).alloc _) (fun _ => False) _ 1 [.int .i64 (rr.1 : Int)] (by rfl) (show Sl (w2.alloc (.cells #[.int .i64 (rr.1 : Int)] 28)) (fun _ => False) _ _ _ _ from one_sv w2 (fun _ => False) _ _ (fun h => h)) (IVs_one [(rr.1 : Int)]) (by simp only [maxLen]; omega) (by omega) (by have h1 := HC1.out.size; have h2 := HC2.out.size; simp; omega) ?_; intro A9 c9 w9 happ; have k9 := ((HBP.out.ch HC2.out hnS).alloc (.cells #[.int .i64 (rr.1 : Int)] 28)).grown happ.2.1 (fun h => own_far ((own_ch HOP.out HC2.out (fun g hg h => HSS.out.2.2.2.1 _ h (HSS.out.2.2.2.2.2 g hg))).alloc (.cells #[.int .i64 (rr.1 : Int)] 28)) ((HBP.out.ch HC2.out hnS).alloc (.cells #[.int .i64 (rr.1 : Int)] 28)) (by decide) h.symm); have p9 := k9.cell 0; have f9 := k9.frozen 0; simp only [List.getElem?_toArray, List.getElem?_cons_zero] at p9; have HAP := Lib.hid happ; clear happ))
        all_goals
          refine bodyPost_end (results_none rfl _ _ _) rfl ?_
          obtain ⟨q1, q2⟩ := push_two HSS.out.1 HSS.out.2.1 HSS.out.2.2.1 HSS.out.2.2.2.1 HT2.out HC2.out HBP.out HOP.out HSS.out.2.2.2.2.1 HSS.out.2.2.2.2.2 HAP.out
          rw [HM.out]
          refine ⟨rfl, ?_, HC1.out.trans q2 (fun _ _ h => h)⟩
          simp only
          rw [HML.out]
          exact q1
      · have HM := Lib.hid (prove_right L (l := ls) h2 hs)
        have hih := pdown_any f
        generalize hk : split ls.length = k at *
        clear hk
        have hlt : (ls.take k).length = k := by rw [List.length_take]; omega
        have hld : (ls.drop k).length = ls.length - k := List.length_drop
        have hcap := (Ls.cap hls).2
        have r1 : ∀ n, (Instr.slice 22 (.slice A ls.length c) none (some (.int .i64 (k : Int))) none).run Try.prog (w.drewN n) = .ok (.slice A k c) (w.drewN n) := fun n => cut_upto A ls.length c k (by omega) _
        obtain ⟨r2', a2⟩ := cut_lt A ls.length c k (by omega) hcap
        have r2 : ∀ n, (Instr.slice 22 (.slice A ls.length c) (some (.int .i64 (k : Int))) none none).run Try.prog (w.drewN n) = .ok (.slice (A.map fun x => x.add k) (ls.length - k) (c - k)) (w.drewN n) := fun n => r2' _
        have hT1 := Ls.upto hls (k := k) (by omega)
        have hT2 := Ls.from hls (k := k) (by omega) a2
        have HIH : Hid (∀ n, Calls Try.prog 36 #[.int .i64 (i - k : Int), (.slice (A.map fun x => x.add k) (ls.length - k) (c - k)), .pointer (some ⟨Bd, 0, none⟩), .pointer (some ⟨Bp, 0, none⟩), .pointer (some ⟨Bt, 0, none⟩)] (w.drewN n) (PDone K p base Bp (prove L (i - k) (ls.drop k)) ds w)) := Lib.hid fun n => by
          have h := hih (w.drewN n) K p L base Bp ds (i - k) (A.map fun x => x.add k) (c - k) (ls.drop k) Bt Bd (by omega) (by omega) (by omega) hbase (hTwo.later (tg_stable _ _) (pf_stable _ _ _) (below_drewN (Below.refl _ w) n)) hT2 hC hKt hKd (fun x hx => hall x (List.mem_of_mem_drop hx))
          rw [hld, show ((i - k : Nat) : Int) = (i : Int) - k from by omega] at h
          exact h.mono fun _ _ ⟨h1, h2, h3⟩ => ⟨h1, h2, ⟨h3.os, h3.tape, h3.output, h3.size, h3.block⟩⟩
        have HOTH := Lib.hid hT1
        have HOL := Lib.hid hlt
        have HALL : Hid (∀ x ∈ (ls.take k), x.length ≤ 140737488355327) := Lib.hid fun x hx => hall x (List.mem_of_mem_take hx)
        obtain ⟨hp2, hp1, hp3⟩ := prove_le (ls.drop k) L (i - k) hL
        have HPL := Lib.hid (And.intro hp2 (And.intro (show ds.length + (prove L (i - k) (ls.drop k)).1.length < 1000000 by omega) (show (ls.take k).length ≤ 1000000 by omega)))
        have hsp := split_any w ls.length (by omega)
        rw [show ((ls.length : Int)).toNat = ls.length from by omega] at hsp
        have HSP := Lib.hid HSPL.out
        clear hih hlt hld r2' a2 hT1 hT2 hp1 hp2 hp3 hsp
        have HCLO := Lib.hid hC
        clear hf hbig hTwo hls hall hC hL
        have hbl := hbase
        go_enter Try.func36, Try.ntmps36
        go_wp2_with fail
        refine HSP.out.mono ?_
        rintro e w' ⟨rfl, rfl⟩
        go_wp2_with fail
        go_quiet (fail)
        go_wp2_with fail
        refine (HIH.out nq).mono ?_
        rintro e w1 ⟨rfl, hTw1, hc1⟩
        have hC1 := HCLO.out.ch hc1 (fun h => h hKt) (fun h => h hKd)
        have ct1 : w1.cell? ⟨Bt, 0, none⟩ = some (.pointer (some ⟨p, 0, none⟩)) := hC1.1.cell 0
        obtain ⟨hK, S, T, hTS, ⟨pv, hbp, hop, hTB, hTg⟩, oS, oT, hST⟩ := hTw1
        obtain ⟨A0, c0, rfl⟩ := own_shape hop
        have hlsO := HOTH.out.ch hc1 (fun k _ h => h)
        have hRt := root_any w1.drew S (fun k => ¬ K k) p (prove L (i - k) (ls.drop k)).2 A c (ls.take k) (by have := HPL.out.2.2; omega) hTS (fun k hk => (oS k hk).2) hlsO (fun k hk => (oS k hk).1) HALL.out
        rw [HOL.out] at hRt
        have hrl := root_le (ls.take k) _ HPL.out.1
        have HRT := Lib.hid hRt
        have hm9 : (ds ++ (prove L (i - k) (ls.drop k)).1.map fun x : Nat => (x : Int)).length ≤ 1000000 := by have := HPL.out.2.1; simp only [List.length_append, List.length_map]; omega
        have HML := Lib.hid (show (ds ++ ((prove L (i - k) (ls.drop k)).1 ++ [(root (prove L (i - k) (ls.drop k)).2 (ls.take k)).1]).map fun x : Nat => (x : Int)) = (ds ++ (prove L (i - k) (ls.drop k)).1.map fun x : Nat => (x : Int)) ++ [((root (prove L (i - k) (ls.drop k)).2 (ls.take k)).1 : Int)] by simp)
        generalize hds1 : (ds ++ (prove L (i - k) (ls.drop k)).1.map fun x : Nat => (x : Int)) = ds1 at *
        generalize hrr : root (prove L (i - k) (ls.drop k)).2 (ls.take k) = rr at *
        have HD1 := Lib.hid hds1
        have HRR := Lib.hid hrr
        clear hds1 hrr hC1 hlsO hRt HIH
        have p1 : w1.cell? ⟨Bp, 0, none⟩ = some (.slice A0 ds1.length c0) := hbp.cell 0
        have HBP := Lib.hid hbp
        have HOP := Lib.hid hop
        have HSS := Lib.hid (And.intro hK (And.intro oS (And.intro oT (And.intro hST (And.intro hTB hTg)))))
        have HC1 := Lib.hid hc1
        have HRL := Lib.hid hrl
        obtain ⟨i0, hi0, hz0, hz1, hz2⟩ := info_parts info_dig
        have hnS : ¬ S Bp := fun h => hST _ h hTB
        clear hbp hop hK oS oT hST hTB hTS hc1 hrl cd r1 r2
        go_wp2_with fail
        go_region_law (first
          | (go_simp; go_at_call 12; refine HRT.out.mono ?_; rintro e w2 ⟨rfl, ht2, hc2⟩; have hc2 : Ch S w1 w2 := ch_of_drew hc2; have ht2 : Tb w2 (Up S w1 w2) p rr.2 := ht2; have p2 : w2.cell? ⟨Bp, 0, none⟩ = some (.slice A0 ds1.length c0) := (HBP.out.ch hc2 hnS).cell 0; have p3 : (w2.alloc (.cells #[.int .i64 (rr.1 : Int)] 28)).cell? ⟨Bp, 0, none⟩ = some (.slice A0 ds1.length c0) := ((HBP.out.ch hc2 hnS).alloc _).cell 0; have HT2 := Lib.hid ht2; have HC2 := Lib.hid hc2; clear ht2 hc2)
          | (refine step_append_sh (by rfl) (.tmp 34) (.tmp 38) _ (by rfl) base 28 i0 _ 1 8 Try.underlying31 hi0 hz0 hz1 hz2 rfl (by omega) (.slice A0 ds1.length c0) ds1.length (IVs ds1) (by rfl) (show (w2.alloc (.cells #[.int .i64 (rr.1 : Int)] 28)).ownsRow base 28 1 (.slice A0 ds1.length c0) ds1.length (IVs ds1) from (own_ch HOP.out HC2.out (fun g hg h => HSS.out.2.2.2.1 _ h (HSS.out.2.2.2.2.2 g hg))).alloc _) (fun _ => False) _ 1 [.int .i64 (rr.1 : Int)] (by rfl) (show Sl (w2.alloc (.cells #[.int .i64 (rr.1 : Int)] 28)) (fun _ => False) _ _ _ _ from one_sv w2 (fun _ => False) _ _ (fun h => h)) (IVs_one [(rr.1 : Int)]) (by simp only [maxLen]; omega) (by omega) (by have h1 := HC1.out.size; have h2 := HC2.out.size; simp; omega) ?_; intro A9 c9 w9 happ; have k9 := ((HBP.out.ch HC2.out hnS).alloc (.cells #[.int .i64 (rr.1 : Int)] 28)).grown happ.2.1 (fun h => own_far ((own_ch HOP.out HC2.out (fun g hg h => HSS.out.2.2.2.1 _ h (HSS.out.2.2.2.2.2 g hg))).alloc (.cells #[.int .i64 (rr.1 : Int)] 28)) ((HBP.out.ch HC2.out hnS).alloc (.cells #[.int .i64 (rr.1 : Int)] 28)) (by decide) h.symm); have p9 := k9.cell 0; have f9 := k9.frozen 0; simp only [List.getElem?_toArray, List.getElem?_cons_zero] at p9; have HAP := Lib.hid happ; clear happ))
        all_goals
          refine bodyPost_end (results_none rfl _ _ _) rfl ?_
          obtain ⟨q1, q2⟩ := push_two HSS.out.1 HSS.out.2.1 HSS.out.2.2.1 HSS.out.2.2.2.1 HT2.out HC2.out HBP.out HOP.out HSS.out.2.2.2.2.1 HSS.out.2.2.2.2.2 HAP.out
          rw [HM.out]
          refine ⟨rfl, ?_, HC1.out.trans q2 (fun _ _ h => h)⟩
          simp only
          rw [HML.out]
          exact q1

end Go.Proofs.Ytepdajhgfdjklaa.Me

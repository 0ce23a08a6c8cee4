/-
  Contracts of layer 1's reader: Take, Bytes, Left, Done, Read.
-/
import Derived.Test.YtmefagflnhkbdaaGreatCg
import Derived.Test.YtmefagflnhkbdaaGreatVC08
import Derived.Test.YtmefagflnhkbdaaGreatVC05
import Derived.RegionTactic
import Derived.Lib.ConvBytes
import Derived.Test.YtmefagflnhkbdaaGreatVC09
import Derived.Test.YtmefagflnhkbdaaGreatVC10
import Derived.Deep.RegionLaw
namespace Go.Proofs.YtmefagflnhkbdaaGreat.Ch
set_option linter.unusedSimpArgs false
set_option linter.unusedVariables false
open Go Go.RowKit Ck Ca Cb Ce Cf Cg

/-- What a reading of bytes leaves. -/
def Taken (w : World) (X : Nat → Prop) (g : Nat) (r : List UInt8 × Cm.RS) (e : Ending) (w' : World) : Prop :=
  ∃ v, e = .returned v ∧ w'.ownsRow w.heap.size 5 1 v r.1.length (BVs r.1) ∧ w.grownBy w' (some g) ∧ CR w' X g r.2
theorem Taken.nil {w w' : World} {X : Nat → Prop} {g : Nat} {s : Cm.RS} (hg : w.grownBy w' (some g)) (hc : CR w' X g s) : Taken w X g ([], s) (.returned (.slice none 0 0)) w' :=
  ⟨_, rfl, World.ownsRow_nil _ _ _ _, hg, hc⟩
theorem take_end {w w1 : World} {X : Nat → Prop} {g : Nat} {A A' : Option Addr} {n c k : Nat} {xs l : List UInt8} {v : Value} (hb : CB w g (.slice A n c) 0) (hsl : Sl w (fun j => j = g ∨ X j) 1 (.slice A n c) n (BVs xs)) (hk : k ≤ n) (hA : ∀ ad, A = some ad → k < n → A' = some (ad.add (k * 1)))
    (hown : w1.ownsRow w.heap.size 5 1 v l.length (BVs l)) (hbel : Below w.heap.size w w1) :
    Taken w X g (l, (xs.drop k, 0)) (.returned v) (w1.setCell ⟨g, 1, none⟩ (.slice A' (n - k) (c - k))) := by
  have R := rest_end (X := X) (hb.below hbel hb.lt) (hsl.after hbel) hk hA
  have hlt : g < w.heap.size := hb.lt
  exact ⟨v, rfl, ownsRow_setCell_below hown (a := ⟨g, 1, none⟩) hlt _, grown_step (grown_of_below hbel (some g)) R.1 (.inl rfl), R.2⟩

set_option maxRecDepth 100000 in
set_option maxHeartbeats 800000 in
theorem take_any (w : World) (X : Nat → Prop) (g : Nat) (s : Cm.RS) (h : CR w X g s) (n : Int) (hl : s.1.length ≤ 140737488355328) :
    Calls Tryz.prog 134 #[P_ g, .int .i64 n] w fun e w' => Taken w X g (Cm.takeS s n) e w' := by
  have hcr := h
  obtain ⟨A, m, c, hb, hsl, hgd⟩ := h
  have hm : m = s.1.length := by obtain ⟨A, c, _, h, _⟩ := hsl; rw [BVs_len] at h; omega
  subst hm
  have hnc : s.1.length ≤ c := by obtain ⟨A, c, hv, _, h, _⟩ := hsl; injection hv with _ _ e3; omega
  have hcm : c ≤ 9223372036854775807 := by obtain ⟨A, c, hv, _, _, h, _⟩ := hsl; injection hv with _ _ e3; simp only [maxLen] at h; omega
  by_cases hs : s.2 = 0
  · have hb0 := hb
    rw [hs] at hb0
    have h1 := hb0.cell 1
    have f1 := hb0.frozen 1
    simp only [List.getElem?_toArray, List.getElem?_cons_zero, List.getElem?_cons_succ] at h1
    have HS := Lib.hid hs
    by_cases hn : n < 0
    · have hf : Cm.takeS s n = ([], Cm.failS s 1) := by rw [Cm.takeS, if_neg (by simp [hs]), if_pos hn, failS_ok hs (by decide)]
      rw [hf]
      clear hs hf
      go_enter Tryz.func134, Tryz.ntmps134
      go_wp2_with (first
        | (go_at_call 84; refine (reads_ok _ g _ hb0).mono ?_; rintro e w1 ⟨rfl, rfl⟩)
        | (go_at_call 114; refine (fail_any _ X g s hcr 1).mono ?_; rintro e w1 ⟨rfl, hg1, hc1⟩))
      go_ret
      exact Taken.nil hg1 hc1
    · obtain ⟨k, rfl⟩ := Int.eq_ofNat_of_zero_le (show 0 ≤ n by omega)
      clear hn
      by_cases hlt : s.1.length < k
      · have hf : Cm.takeS s k = ([], Cm.failS s 10) := by rw [Cm.takeS, if_neg (by simp [hs]), if_neg (by omega), if_pos (by omega), failS_ok hs (by decide)]
        rw [hf]
        clear hs hf
        go_enter Tryz.func134, Tryz.ntmps134
        go_wp2_with (first
          | (go_at_call 84; refine (reads_ok _ g _ hb0).mono ?_; rintro e w1 ⟨rfl, rfl⟩)
          | (go_at_call 114; refine (fail_any _ X g s hcr 10).mono ?_; rintro e w1 ⟨rfl, hg1, hc1⟩))
        go_ret
        exact Taken.nil hg1 hc1
      · have hk : k ≤ s.1.length := by omega
        have hf : Cm.takeS s k = (s.1.take k, (s.1.drop k, 0)) := by rw [Cm.takeS, if_neg (by simp [hs]), if_neg (by omega), if_neg (by omega), Int.toNat_natCast]
        rw [hf]
        obtain ⟨A', hsl1, hA'⟩ := slice_from A s.1.length c k hk hnc
        have hsl2 := slice_upto A s.1.length c k (by omega)
        have hup : Sl w (fun j => j = g ∨ X j) 1 (.slice A k c) k (BVs (s.1.take k)) := by
          have := hsl.upto hk
          rw [show (BVs s.1).take (k * 1) = BVs (s.1.take k) from by simp [BVs, List.map_take]] at this
          exact this
        have HA := Lib.hid hA'
        have hgl : g < w.heap.size := hb0.lt
        clear hs hf hA' hlt
        go_enter Tryz.func134, Tryz.ntmps134
        go_wp2_with (first
          | (go_at_call 84; refine (reads_ok _ g _ hb0).mono ?_; rintro e w1 ⟨rfl, rfl⟩)
          | (go_at_call 79; refine (roomy_any _ _ k (s.1.take k) 0 _ hup (by omega) (by omega)).mono ?_; rintro e w1 ⟨v1, rfl, hown1, hb1⟩; have h11 := (hb1.cell (p := ⟨g, 1, none⟩) hgl).trans h1; have f11 := (hb1.frozen (p := ⟨g, 1, none⟩) hgl).trans f1))
        go_ret
        exact take_end hb0 hsl hk HA.out hown1 hb1
  · have hf : Cm.takeS s n = ([], s) := by rw [Cm.takeS, if_pos hs]
    rw [hf]
    have HS := Lib.hid hs
    clear hs hf
    go_enter Tryz.func134, Tryz.ntmps134
    go_wp2_with (go_at_call 84; refine (reads_no _ g _ _ hb HS.out).mono ?_; rintro e w1 ⟨rfl, rfl⟩)
    go_ret
    exact Taken.nil (World.grownBy.refl _ _) hcr

set_option maxHeartbeats 400000 in
theorem bytes_any (w : World) (X : Nat → Prop) (g : Nat) (s : Cm.RS) (h : CR w X g s) (most : Int) (hlo : -9223372036854775808 ≤ most) (hhi : most ≤ 9223372036854775807) (hl : s.1.length ≤ 140737488355328) :
    Calls Tryz.prog 115 #[P_ g, .int .i64 most] w fun e w' => Taken w X g (Cm.bytesS s most) e w' := by
  have hl2 := Cm.numS_len s most.toNat
  have HLO := Lib.hid hlo
  have HHI := Lib.hid hhi
  clear hlo hhi
  go_enter Tryz.func115, Tryz.ntmps115
  go_wp2_with (first
    | (go_at_call 135; refine (length_any _ X g s h most HLO.out HHI.out).mono ?_; rintro e w1 ⟨rfl, hg1, hc1⟩)
    | (go_at_call 134; refine (take_any _ X g _ hc1 ((Cm.numS s most.toNat).1 : Int) (by omega)).mono ?_; rintro e w2 ⟨v2, rfl, hown2, hg2, hc2⟩))
  go_ret
  exact ⟨v2, rfl, own_base hown2 hg1.size, hg1.trans hg2, hc2⟩

theorem done_any (w : World) (X : Nat → Prop) (g : Nat) (s : Cm.RS) (h : CR w X g s) :
    Calls Tryz.prog 43 #[P_ g] w fun e w' => e = .returned (.int .i64 (Cm.doneS s)) ∧ w = w' := by
  obtain ⟨A, m, c, hb, hsl, hgd⟩ := h
  have hm : m = s.1.length := by obtain ⟨A, c, _, h, _⟩ := hsl; rw [BVs_len] at h; omega
  subst hm
  by_cases hs : s.2 = 0
  · have hb0 := hb
    rw [hs] at hb0
    have h1 := hb0.cell 1
    simp only [List.getElem?_toArray, List.getElem?_cons_zero, List.getElem?_cons_succ] at h1
    by_cases hz : s.1 = []
    · have hd : Cm.doneS s = 0 := by simp [Cm.doneS, hz, hs]
      rw [hd]
      rw [hz] at h1
      simp only [List.length_nil] at h1
      clear hs hd hz hsl
      go_enter Tryz.func43, Tryz.ntmps43
      go_wp2_with (first
        | (go_at_call 84; refine (reads_ok _ g _ hb0).mono ?_; rintro e w1 ⟨rfl, rfl⟩)
        | (go_at_call 85; refine (err_blk _ g _ 0 hb0).mono ?_; rintro e w1 ⟨rfl, rfl⟩))
      go_ret
      exact ⟨rfl, rfl⟩
    · have hd : Cm.doneS s = 12 := by simp [Cm.doneS, hz, hs]
      rw [hd]
      have hp : 0 < s.1.length := by
        rcases Nat.eq_zero_or_pos s.1.length with h0 | h0
        · exact absurd (List.eq_nil_of_length_eq_zero h0) hz
        · exact h0
      clear hs hd hz
      go_enter Tryz.func43, Tryz.ntmps43
      go_wp2_with (go_at_call 84; refine (reads_ok _ g _ hb0).mono ?_; rintro e w1 ⟨rfl, rfl⟩)
      go_ret
      exact ⟨rfl, rfl⟩
  · have hd : Cm.doneS s = s.2 := by simp [Cm.doneS, hs]
    rw [hd]
    have HS := Lib.hid hs
    clear hs hd
    go_enter Tryz.func43, Tryz.ntmps43
    go_wp2_with (first
      | (go_at_call 84; refine (reads_no _ g _ _ hb HS.out).mono ?_; rintro e w1 ⟨rfl, rfl⟩)
      | (go_at_call 85; refine (err_blk _ g _ _ hb).mono ?_; rintro e w1 ⟨rfl, rfl⟩))
    go_ret
    exact ⟨rfl, rfl⟩

/-- A new reader. -/
theorem read_any (w : World) (X : Nat → Prop) (v : Value) (n : Nat) (b : List UInt8) (hv : Sl w X 1 v n (BVs b)) (hn : n ≤ 140737488355328) :
    Calls Tryz.prog 41 #[v] w fun e w' => ∃ g, e = .returned (P_ g) ∧ CR w' (fun k => k < w.heap.size) g (b, 0) ∧ w.heap.size ≤ g ∧ Below w.heap.size w w' := by
  have hnl : n = b.length := by obtain ⟨A, c, _, h, _⟩ := hv; rw [BVs_len] at h; omega
  subst hnl
  go_enter Tryz.func41, Tryz.ntmps41
  go_wp2_with (go_at_call 79; refine (roomy_any _ v b.length b 0 _ hv (by omega) (by omega)).mono ?_; rintro e w1 ⟨v1, rfl, hown1, hb1⟩; obtain ⟨A1, c1, rfl⟩ := own_shape hown1)
  go_ret
  refine ⟨w1.heap.size, rfl, ⟨A1, b.length, c1, Blk.new _ _ _, ?_, fun h => absurd rfl h⟩, hb1.size, hb1.alloc hb1.size _⟩
  refine (Sl.of_own' hown1 fun k hk hX => ?_).alloc _
  have := hown1.lt k hk
  rcases hX with hX | hX <;> omega

end Go.Proofs.YtmefagflnhkbdaaGreat.Ch

/-
  Contract of layer 1's reader: List.
-/
namespace Go.Proofs.YtmefagflnhkbdaaGreat.Ci
set_option linter.unusedSimpArgs false
set_option linter.unusedVariables false
open Go Go.RowKit Ck Ca Cb Ce Cf Cg Ch

theorem info_sl : (Tryz.prog.info? 49).map (fun i => (i.zero, i.size, i.bytes)) = some (some (.slice none 0 0), 1, 24) := by kernel_rfl

/-- The parts of a list that a call makes: none in an old block, none in the list's own row. -/
def Els (w : World) (B : Nat) (v : Value) (vals : List Value) (acc : List (List UInt8)) : Prop :=
  vals.length = acc.length ∧ ∀ i (h : i < acc.length), ∃ u, vals[i]? = some u ∧ Sl w (fun k => k < B ∨ v.ownBlock = some k) 1 u acc[i].length (BVs acc[i])
theorem Els.nil (w : World) (B : Nat) (v : Value) : Els w B v [] [] := ⟨rfl, fun i h => absurd h (by simp)⟩
theorem Els.keep {w w' : World} {B : Nat} {v : Value} {vals : List Value} {acc : List (List UInt8)} (h : Els w B v vals acc) (hs : w.heap.size ≤ w'.heap.size) (hk : ∀ b, b < w.heap.size → ¬ (b < B ∨ v.ownBlock = some b) → w'.heap[b]? = w.heap[b]?) : Els w' B v vals acc :=
  ⟨h.1, fun i hi => by obtain ⟨u, hu, h3⟩ := h.2 i hi; exact ⟨u, hu, h3.keep hs hk⟩⟩
theorem Els.grown {w w' : World} {B : Nat} {v : Value} {vals : List Value} {acc : List (List UInt8)} {row : Option Nat} (h : Els w B v vals acc) (hg : w.grownBy w' row) (hr : ∀ k, row = some k → k < B ∨ v.ownBlock = some k) : Els w' B v vals acc :=
  h.keep hg.size fun b hb hX => hg.block b hb fun e => hX (hr b e.symm)
theorem one_newv (w : World) (X : Nat → Prop) (t : TypeId) (u : Value) (hX : ¬ X w.heap.size) : Sl (w.alloc (.cells #[u] t)) X 1 (.slice (some ⟨w.heap.size, 0, none⟩) 1 1) 1 [u] :=
  ⟨_, _, rfl, rfl, Nat.le_refl _, by simp only [maxLen]; omega, fun _ => ⟨_, rfl, by simp, hX, fun j u' hu => cell_one_new w _ t j u' hu⟩⟩

end Go.Proofs.YtmefagflnhkbdaaGreat.Ci

/-
  Layer 6 (op): the contracts of parts and records (a row of their own, the parts shared), of slices.Clone at records, of EqualFunc and Same.
-/
namespace Go.Proofs.YtmefagflnhkbdaaGreat.Ppi
set_option linter.unusedSimpArgs false
open Go Go.RowKit Ck Kw Ca Cb Ci Pm Pa Pe Pf Pg
set_option linter.unusedVariables false

theorem info_sl : (Tryz.prog.info? 49).map (fun i => (i.zero, i.size, i.bytes)) = some (some (.slice none 0 0), 1, 24) := by kernel_rfl
theorem info_rec : (Tryz.prog.info? 67).map (fun i => (i.zero, i.size, i.bytes)) = some (some (.slice none 0 0), 1, 24) := by kernel_rfl

set_option maxHeartbeats 1000000 in
theorem rclone_any (w : World) (X : Nat → Prop) (A : Option Addr) (c : Nat) (ls : List Tx) (hls : Ls w X (.slice A ls.length c) ls) (hl : ls.length * 24 ≤ 140737488355328) :
    Calls Tryz.prog 77 #[.slice A ls.length c] w fun e w' => ∃ v vals, e = .returned v ∧ w'.ownsRow w.heap.size 67 1 v ls.length vals ∧ (∀ i (hi : i < ls.length), ∃ u, vals[i]? = some u ∧ Sl w X 1 u ls[i].length (BVs ls[i])) ∧ Below w.heap.size w w' := by
  obtain ⟨vals, h1, h2⟩ := hls
  have HE := Lib.hid h2
  have hvl : vals.length = ls.length := by obtain ⟨_, _, _, h, _⟩ := h1; omega
  have H1 : ∀ u ∈ vals, u.oneCell' = true := by
    intro u hu
    obtain ⟨i, hi, rfl⟩ := List.getElem_of_mem hu
    obtain ⟨u', hu', h3⟩ := h2 i (by omega)
    obtain ⟨B, d, rfl, -⟩ := h3
    rw [List.getElem?_eq_getElem hi] at hu'
    rw [Option.some.inj hu']
    rfl
  have HONE := Lib.hid H1
  have HVL := Lib.hid hvl
  obtain ⟨i0, hi0, hz0, hz1, hz2⟩ := info_parts info_rec
  have heq := fun (W : World) => Lib.run_eql_slice_nil (P := Tryz.prog) W 36 67 A ls.length c 0 0 Tryz.underlying36
  clear h2 H1 hvl
  rcases A with _ | ad
  · obtain ⟨h0, hv0⟩ := h1.none_
    have hb : ls = [] := List.eq_nil_of_length_eq_zero h0
    subst hb
    simp only [List.length_nil] at heq
    clear h1 h0 hv0
    go_enter Tryz.func77, Tryz.ntmps77
    go_wp2
    go_ret
    exact ⟨_, [], rfl, World.ownsRow_nil _ _ _ _, fun i hi => absurd hi (by simp), Below.refl _ _⟩
  · go_enter Tryz.func77, Tryz.ntmps77
    go_wp2_with (at_builtin; refine wpList_append_sl _ rfl (.tmp 5) (.tmp 6) _ rfl w.heap.size 67 i0 _ 1 24 Tryz.underlying36 hi0 hz0 hz1 hz2 rfl (by omega) (.slice (some ⟨w.heap.size, 0, none⟩) 0 0) 0 [] rfl (World.ownsRow_made w #[] 0 (Nat.le_refl _) (by simp only [maxLen]; omega) rfl) X _ ls.length vals rfl (h1.alloc _) HONE.out (by simp only [maxLen]; omega) (by omega) (by simp) ?_; intro v2 w2 happ)
    go_ret
    refine ⟨v2, vals, rfl, by simpa using happ.1, HE.out, ?_⟩
    exact ((Below.refl _ _).alloc (Nat.le_refl _) _).grown happ.2.1 (by simp) (by simp [Value.ownBlock])

end Go.Proofs.YtmefagflnhkbdaaGreat.Ppi

/-
  Bytes made out of a text, for any layer.
-/
namespace Go.Proofs.YtmefagflnhkbdaaGreat.Kx
set_option linter.unusedSimpArgs false
set_option linter.unusedVariables false
open Go Go.RowKit Ck Kw Ga
/-- v is new bytes, made out of a text. -/
def Out (w : World) (base : Nat) (v : Value) (l : List UInt8) : Prop :=
  ∃ (g cap : Nat) (cs : Array Value) (z : Nat), v = .slice (some ⟨g, 0, none⟩) l.length cap ∧ base ≤ g ∧ w.heap[g]? = some (.cells cs 5 (z, z + 1)) ∧ l.length ≤ z ∧ l.length ≤ cap ∧ cap ≤ maxLen ∧ ∀ (j : Nat) (u : Value), (BVs l)[j]? = some u → cs[j]? = some u
theorem Out.sl {w : World} {base : Nat} {v : Value} {l : List UInt8} {X : Nat → Prop} (h : Out w base v l) (hX : ∀ k, base ≤ k → k < w.heap.size → ¬ X k) : Sl w X 1 v l.length (BVs l) := by
  obtain ⟨g, cap, cs, z, rfl, hb, hg, hz, hc, hm, hx⟩ := h
  have hlt := (Array.getElem?_eq_some_iff.1 hg).1
  refine ⟨_, _, rfl, by simp [BVs_len], hc, hm, fun _ => ⟨_, rfl, hlt, hX g hb hlt, fun j u hu => ?_⟩⟩
  have ha : (⟨g, 0, none⟩ : Addr).add j = ⟨g, j, none⟩ := by unfold Addr.add; split <;> simp_all
  rw [ha]
  simp only [World.cell?, hg]
  exact hx j u hu
theorem Out.ch {w w' : World} {base : Nat} {v : Value} {l : List UInt8} {S : Nat → Prop} (h : Out w base v l) (c : Ch S w w') (hS : ∀ k, base ≤ k → k < w.heap.size → ¬ S k) : Out w' base v l := by
  obtain ⟨g, cap, cs, z, rfl, hb, hg, r⟩ := h
  exact ⟨g, cap, cs, z, rfl, hb, (c.block g (Array.getElem?_eq_some_iff.1 hg).1 (hS g hb (Array.getElem?_eq_some_iff.1 hg).1)).trans hg, r⟩
theorem Out.base {w : World} {base b' : Nat} {v : Value} {l : List UInt8} (h : Out w base v l) (hb : b' ≤ base) : Out w b' v l := by
  obtain ⟨g, cap, cs, z, hv, h1, r⟩ := h
  exact ⟨g, cap, cs, z, hv, Nat.le_trans hb h1, r⟩
theorem bytesWorld_below (w : World) (e : TypeId) (s : ByteArray) : Below w.heap.size w (Lib.bytesWorld w e s) := by
  refine ⟨?_, ?_, ?_, by rw [Lib.bytesWorld_size]; omega, fun k hk => Lib.bytesWorld_at_old w e s k hk⟩ <;>
    (unfold Lib.bytesWorld World.freeze; split <;> rfl)
theorem bytesWorld_out (w : World) (l : List UInt8) (hl : l.length ≤ 140737488355328) : Out (Lib.bytesWorld w 5 ⟨l.toArray⟩) w.heap.size (.slice (some ⟨w.heap.size, 0, none⟩) l.length (grownCap w l.length 0 5)) l := by
  have hge := grownCap_ge w l.length 0 5
  refine ⟨w.heap.size, _, _, _, rfl, Nat.le_refl _, Lib.bytesWorld_at_new w 5 ⟨l.toArray⟩, ?_, hge, grownCap_le_maxLen w _ _ _ (by simp only [maxLen]; omega), fun j u hu => ?_⟩
  · show l.length ≤ ((l.toArray.map fun b : UInt8 => Value.int .u8 b.toNat) ++ Array.replicate _ _).size
    simp
  · have hj : j < l.length := by have := (List.getElem?_eq_some_iff.1 hu).1; rwa [BVs_len] at this
    show ((l.toArray.map fun b : UInt8 => Value.int .u8 b.toNat) ++ Array.replicate _ _)[j]? = some u
    rw [Array.getElem?_append_left (by simpa using hj)]
    rw [BVs_get hj] at hu
    simpa [hj] using hu
theorem conv_bytes (l : List UInt8) (W : World) : (convert 9 49 (.string ⟨l.toArray⟩)).run Tryz.prog W = .ok (.slice (some ⟨W.heap.size, 0, none⟩) l.length (grownCap W l.length 0 5)) (Lib.bytesWorld W 5 ⟨l.toArray⟩) := by
  have := Lib.run_convert_string_bytes (P := Tryz.prog) W 9 49 5 ⟨l.toArray⟩ Tryz.underlying9 Tryz.underlying49 Tryz.underlying5
  have hs : (⟨l.toArray⟩ : ByteArray).size = l.length := by show l.toArray.size = _; simp
  rw [hs] at this
  exact this

end Go.Proofs.YtmefagflnhkbdaaGreat.Kx

/-
  Layer 6 (op): how long names and operations' bytes are; the contract of Bytes, kind by kind.
-/
namespace Go.Proofs.YtmefagflnhkbdaaGreat.Pk
set_option linter.unusedSimpArgs false
open Go Go.RowKit Ck Kw Ca Cb Ci Pm Pa Pe Pf Pg Ph Ppi Kx
set_option linter.unusedVariables false

theorem dec_width4 (l : Tx) : (dec l).2 ≤ 4 := by
  unfold dec Go.Lib.decodeN
  repeat' split
  all_goals simp
theorem rn_len : ∀ (j : Nat) (l : Tx), rn j l ≠ 0 → l.length ≤ 4 * j
  | 0, l, h => by
    unfold rn at h
    split at h
    · rename_i hl; subst hl; simp
    · exact absurd rfl h
  | j + 1, l, h => by
    unfold rn at h
    split at h
    · rename_i hl; subst hl; simp
    · split at h
      · exact absurd rfl h
      · have h1 := rn_len j _ h
        have h2 := dec_width4 l
        rw [List.length_drop] at h1
        omega
theorem name_len {l : Tx} (h : name l = true) : l.length ≤ 64 ∧ l ≠ [] := by
  have h1 : 0 < runes l := of_decide_eq_true h
  refine ⟨rn_len 16 l (by unfold runes at h1; omega), fun e => ?_⟩
  subst e
  exact absurd h1 (by decide)
theorem recs_len {l : List Tx} (h : areRecs l = true) : 1 ≤ l.length ∧ l.length ≤ 4 ∧ ∀ x ∈ l, x.length ≤ 64 := by
  simp only [areRecs, Bool.and_eq_true, decide_eq_true_eq, List.all_eq_true] at h
  exact ⟨h.1.1, h.1.2, h.2⟩
theorem encP_small : ∀ (l : List Tx), (∀ x ∈ l, x.length ≤ 64) → (Cm.encP l).length ≤ 74 * l.length
  | [], _ => by simp [Cm.encP]
  | x :: l, h => by
    have h1 := encP_small l (fun y hy => h y (List.mem_cons_of_mem _ hy))
    have h2 := h x List.mem_cons_self
    have h3 := Cm.enc_len x.length
    simp only [Cm.encP, List.length_append, Cm.encB_len, List.length_cons]
    omega
/-- What an operation that may be holds. -/
theorem check_lens {o : O} (h : check o = 0) : (hasT o.kind = true → o.topic.length ≤ 64) ∧ (hasG o.kind = true → o.group.length ≤ 64) ∧ (hasO o.kind = true → 0 ≤ o.off ∧ o.off ≤ 9007199254740992) ∧
    (hasR o.kind = true → 1 ≤ o.recs.length ∧ o.recs.length ≤ 4 ∧ (∀ x ∈ o.recs, x.length ≤ 64) ∧ (Cm.encP o.recs).length ≤ 296) := by
  obtain ⟨h1, h2, h3, h4, h5⟩ := check_ok h
  refine ⟨fun hT => ?_, fun hG => ?_, fun hO => ?_, fun hR => ?_⟩
  · refine (name_len (l := o.topic) ?_).1
    cases hn : name o.topic with
    | true => rfl
    | false => simp [badName, hT, hn] at h3
  · refine (name_len (l := o.group) ?_).1
    cases hn : name o.group with
    | true => rfl
    | false => simp [badName, hG, hn] at h3
  · simp only [badOff, hO, Bool.true_and, Bool.or_eq_false_iff, decide_eq_false_iff_not] at h5
    omega
  · have hr : areRecs o.recs = true := by
      cases hn : areRecs o.recs with
      | true => rfl
      | false => simp [badRecs, hR, hn] at h4
    obtain ⟨a, b, c⟩ := recs_len hr
    have := encP_small o.recs c
    exact ⟨a, b, c, by omega⟩
theorem wrap_u64' (z : Nat) (h : z < 18446744073709551616) : IntKind.u64.wrap (z : Int) = (z : Int) := by
  simp [IntKind.wrap, IntKind.bits, IntKind.signed]
  omega
/-- The operation and its kind's fields stand there, and a row of the call's own. -/
structure BK (w0 : World) (g1 g3 : Nat) (o : O) (A : Option Addr) (c : Nat) (v : Value) (l : Tx) (W : World) : Prop where
  ck : CK w0 g1 g3 o A c W
  row : W.ownsRow w0.heap.size 5 1 v l.length (BVs l)
theorem BK.put {w0 W W1 W2 : World} {g1 g3 : Nat} {o : O} {A : Option Addr} {c : Nat} {v v' : Value} {l l' : Tx} (h : BK w0 g1 g3 o A c v l W) (b1 : Below W.heap.size W W1) (hown : W2.ownsRow W1.heap.size 5 1 v' l'.length (BVs l')) (b2 : Below W1.heap.size W1 W2) : BK w0 g1 g3 o A c v' l' W2 := by
  have b : Below W.heap.size W W2 := b1.trans (b2.mono b1.size)
  exact ⟨h.ck.later b, own_base hown (Nat.le_trans h.ck.below.size b1.size)⟩
end Go.Proofs.YtmefagflnhkbdaaGreat.Pk

/-
  Layer 6 (op): the contract of read, kind by kind.
-/
namespace Go.Proofs.YtmefagflnhkbdaaGreat.Qb
set_option linter.unusedSimpArgs false
open Go Go.RowKit Ck Kw Ca Cb Ce Cf Cg Ch Ci Pm Pa Pe Pf Pg Ph Ppi Pk
set_option linter.unusedVariables false

theorem results_row1 {P : Program} {fn : Func} {p : Tmp} {ty : TypeId} (h : fn.results = #[.cell p ty]) (tmps : Array Value) (w : World) (g : Nat) (t : TypeId) (cs : Array Value) (fr : Nat × Nat) (d : TypeDesc)
    (hp : tmps.getD p undef = .pointer (some ⟨g, 0, none⟩)) (hg : w.heap[g]? = some (.cells cs t fr))
    (hu : P.underlying ty = some d) (hd : (match d with | .struct _ | .array _ _ => true | _ => false) = true) (hi : (P.info? ty).map (·.size) = some cs.size) :
    (results fn tmps).run P w = .ok (.agg cs) w := by
  have hp' : tmps[p]?.getD undef = .pointer (some ⟨g, 0, none⟩) := by simpa using hp
  simp [results, h, hp', asAddr, run_loadVar_row w g t ty cs fr d hg hu hd hi]
theorem size_op : (Tryz.prog.info? 38).map (·.size) = some 5 := by kernel_rfl
theorem blk5 {w : World} {g : Nat} {t : TypeId} {a b c d e x0 x1 x2 x3 x4 : Value} (h : Blk w g t #[a, b, c, d, e]) :
    Blk (((((w.setCell ⟨g, 0, none⟩ x0).setCell ⟨g, 1, none⟩ x1).setCell ⟨g, 2, none⟩ x2).setCell ⟨g, 3, none⟩ x3).setCell ⟨g, 4, none⟩ x4) g t #[x0, x1, x2, x3, x4] := by
  have := ((((h.set_ 0 x0).set_ 1 x1).set_ 2 x2).set_ 3 x3).set_ 4 x4
  simpa using this
theorem Blk.cells5 {W : World} {g : Nat} {t : TypeId} {a b c d e : Value} (h : Blk W g t #[a, b, c, d, e]) :
    (W.cell? ⟨g, 0, none⟩ = some a ∧ W.cell? ⟨g, 1, none⟩ = some b ∧ W.cell? ⟨g, 2, none⟩ = some c ∧ W.cell? ⟨g, 3, none⟩ = some d ∧ W.cell? ⟨g, 4, none⟩ = some e) ∧
    (W.frozen? ⟨g, 0, none⟩ = false ∧ W.frozen? ⟨g, 1, none⟩ = false ∧ W.frozen? ⟨g, 2, none⟩ = false ∧ W.frozen? ⟨g, 3, none⟩ = false ∧ W.frozen? ⟨g, 4, none⟩ = false) :=
  ⟨⟨h.cell 0, h.cell 1, h.cell 2, h.cell 3, h.cell 4⟩, ⟨h.frozen 0, h.frozen 1, h.frozen 2, h.frozen 3, h.frozen 4⟩⟩

/-- The cells of no operation. -/
def Z5 : Array Value := #[.int .i64 0, .string ⟨#[]⟩, .string ⟨#[]⟩, .int .i64 0, .slice none 0 0]
/-- Within the call: the result's cells, the operation's, its kind's fields, the reader. -/
structure RD (w0 : World) (X : Nat → Prop) (g g1 g2 g3 : Nat) (k : Int) (cs : Array Value) (s : Cm.RS) (W : World) : Prop where
  grown : w0.grownBy W (some g)
  old : g < w0.heap.size
  new1 : w0.heap.size ≤ g1
  new2 : w0.heap.size ≤ g2
  new3 : w0.heap.size ≤ g3
  far : g1 ≠ g2
  far3 : g3 ≠ g2
  far4 : g3 ≠ g1
  res : Blk W g1 38 Z5
  op : Blk W g2 38 cs
  fld : FB W g3 k
  rd : CR W (fun k => X k ∨ w0.heap.size ≤ k) g s
section
variable {w0 W W' : World} {X : Nat → Prop} {g g1 g2 g3 : Nat} {k : Int} {cs cs' : Array Value} {s s' : Cm.RS}
theorem RD.next (h : RD w0 X g g1 g2 g3 k cs s W) (hg : W.grownBy W' (some g)) (hc : CR W' (fun k => X k ∨ w0.heap.size ≤ k) g s') : RD w0 X g g1 g2 g3 k cs s' W' := by
  have o := h.old; have n1 := h.new1; have n2 := h.new2; have n3 := h.new3
  exact ⟨h.grown.trans hg, h.old, h.new1, h.new2, h.new3, h.far, h.far3, h.far4, h.res.grown hg (by simp; omega), h.op.grown hg (by simp; omega), Blk.grown h.fld hg (by simp; omega), hc⟩
theorem RD.later (h : RD w0 X g g1 g2 g3 k cs s W) (hb : Below W.heap.size W W') : RD w0 X g g1 g2 g3 k cs s W' :=
  h.next (grown_of_below hb _) (h.rd.after hb)
theorem RD.put (h : RD w0 X g g1 g2 g3 k cs s W) (i : Nat) (u : Value) (hcs : cs.setIfInBounds i u = cs') : RD w0 X g g1 g2 g3 k cs' s (W.setCell ⟨g2, i, none⟩ u) := by
  subst hcs
  have o := h.old; have n1 := h.new1; have n2 := h.new2; have n3 := h.new3; have f1 := h.far; have f3 := h.far3
  exact ⟨grown_setCell h.grown (.inr n2) u, h.old, h.new1, h.new2, h.new3, h.far, h.far3, h.far4, h.res.far f1 u, h.op.set_ i u, Blk.far h.fld f3 u,
    h.rd.grown (row := some g2) (grown_setCell (World.grownBy.refl W (some g2)) (.inl rfl) u) (by simp; omega) (fun q hq _ => by injection hq with hq; exact .inr (by omega))⟩
end
theorem res_blk {W : World} {g1 : Nat} (h : Blk W g1 38 Z5) (x0 x1 x2 x3 x4 : Value) :
    (((((W.setCell ⟨g1, 0, none⟩ x0).setCell ⟨g1, 1, none⟩ x1).setCell ⟨g1, 2, none⟩ x2).setCell ⟨g1, 3, none⟩ x3).setCell ⟨g1, 4, none⟩ x4).heap[g1]? = some (.cells #[x0, x1, x2, x3, x4] 38 (0, 0)) := blk5 h
theorem wrap_i64n (z : Nat) (h : z ≤ 9223372036854775807) : IntKind.i64.wrap (z : Int) = (z : Int) := by
  simp [IntKind.wrap, IntKind.bits, IntKind.signed]
  omega
theorem ls_nil (W : World) (X : Nat → Prop) : Ls W X (.slice none 0 0) [] := ⟨[], Sl.nil _ _ _, fun i hi => absurd hi (by simp)⟩

end Go.Proofs.YtmefagflnhkbdaaGreat.Qb

/-
  Contracts of the document's own reader of layer 1: Read, Fail, Done, Num.
-/
namespace Go.Proofs.YtmefagflnhkbdaaGreat.Cj
set_option linter.unusedSimpArgs false
set_option linter.unusedVariables false
open Go Go.RowKit Ck Ca Cb Ce Cf Cg Ch

/-- The document's reader's block. -/
abbrev DB (w : World) (g : Nat) (v : Value) (err : Int) : Prop := Blk w g 114 #[v, .int .i64 err]
/-- The document's reader in memory. -/
def RR (w : World) (X : Nat → Prop) (g : Nat) (s : Cm.RS) : Prop :=
  ∃ A n c, DB w g (.slice A n c) s.2 ∧ Sl w (fun k => k = g ∨ X k) 1 (.slice A n c) n (BVs s.1) ∧ Cm.Good s
theorem RR.weaken {w : World} {X Y : Nat → Prop} {g : Nat} {s : Cm.RS} (h : RR w X g s) (hk : ∀ b, b < w.heap.size → Y b → X b) : RR w Y g s := by
  obtain ⟨A, n, c, hb, hsl, hgd⟩ := h
  exact ⟨A, n, c, hb, hsl.weaken fun b hb hy => by
    rcases hy with hy | hy
    · exact .inl hy
    · exact .inr (hk b hb hy), hgd⟩
theorem RR.grown {w w' : World} {X : Nat → Prop} {g : Nat} {s : Cm.RS} {row : Option Nat} (h : RR w X g s) (hg : w.grownBy w' row) (hne : some g ≠ row) (hr : ∀ k, row = some k → k < w.heap.size → X k) : RR w' X g s := by
  obtain ⟨A, n, c, hb, hsl, hgd⟩ := h
  exact ⟨A, n, c, Blk.grown hb hg hne, hsl.grown hg fun k hk hlt => .inr (hr k hk hlt), hgd⟩
theorem RR.after {w w' : World} {X : Nat → Prop} {g : Nat} {s : Cm.RS} (h : RR w X g s) (hb : Below w.heap.size w w') : RR w' X g s :=
  h.grown (grown_of_below hb none) (by simp) (by simp)
theorem RR.old {w : World} {X : Nat → Prop} {g : Nat} {s : Cm.RS} (h : RR w X g s) {B : Nat} (hB : w.heap.size ≤ B) : RR w (fun k => X k ∨ B ≤ k) g s := by
  obtain ⟨A, n, c, hb, hsl, hgd⟩ := h
  refine ⟨A, n, c, hb, (hsl.old hB).weaken fun b _ hy => ?_, hgd⟩
  rcases hy with hy | hy | hy
  · exact .inl (.inl hy)
  · exact .inl (.inr hy)
  · exact .inr hy
theorem RR.lt {w : World} {X : Nat → Prop} {g : Nat} {s : Cm.RS} (h : RR w X g s) : g < w.heap.size := by
  obtain ⟨A, n, c, hb, _⟩ := h
  exact hb.lt

end Go.Proofs.YtmefagflnhkbdaaGreat.Cj

/-
  Contracts of the document's own reader of layer 1: Num, Take, Bytes, List.
-/
namespace Go.Proofs.YtmefagflnhkbdaaGreat.Co
set_option linter.unusedSimpArgs false
set_option linter.unusedVariables false
open Go Go.RowKit Ck Ca Cb Ce Cf Cg Ch Ci Cj

/-- What a reading of bytes leaves. -/
def RTaken (w : World) (X : Nat → Prop) (g : Nat) (r : List UInt8 × Cm.RS) (e : Ending) (w' : World) : Prop :=
  ∃ v, e = .returned v ∧ w'.ownsRow w.heap.size 5 1 v r.1.length (BVs r.1) ∧ w.grownBy w' (some g) ∧ RR w' X g r.2
theorem RTaken.nil {w w' : World} {X : Nat → Prop} {g : Nat} {s : Cm.RS} (hg : w.grownBy w' (some g)) (hc : RR w' X g s) : RTaken w X g ([], s) (.returned (.slice none 0 0)) w' :=
  ⟨_, rfl, World.ownsRow_nil _ _ _ _, hg, hc⟩

end Go.Proofs.YtmefagflnhkbdaaGreat.Co

/-
  Layer 6 (op): the contract of the document's own Take, kind by kind.
-/
namespace Go.Proofs.YtmefagflnhkbdaaGreat.Qc
set_option linter.unusedSimpArgs false
open Go Go.RowKit Ck Kw Ca Cb Ce Cf Cg Ch Ci Cj Co Pm Pa Pe Pf Pg Ph Ppi Pk Qb
set_option linter.unusedVariables false

section
variable {P : Program}
end

/-- Within the call: the result's cells, the operation's, the reader. -/
structure RX (w0 : World) (X : Nat → Prop) (g g1 g2 : Nat) (cs : Array Value) (s : Cm.RS) (W : World) : Prop where
  grown : w0.grownBy W (some g)
  old : g < w0.heap.size
  new1 : w0.heap.size ≤ g1
  new2 : w0.heap.size ≤ g2
  far : g1 ≠ g2
  res : Blk W g1 38 Z5
  op : Blk W g2 38 cs
  rd : RR W (fun k => X k ∨ w0.heap.size ≤ k) g s
section
variable {w0 W W' : World} {X : Nat → Prop} {g g1 g2 : Nat} {cs cs' : Array Value} {s s' : Cm.RS}
theorem RX.next (h : RX w0 X g g1 g2 cs s W) (hg : W.grownBy W' (some g)) (hc : RR W' (fun k => X k ∨ w0.heap.size ≤ k) g s') : RX w0 X g g1 g2 cs s' W' := by
  have o := h.old; have n1 := h.new1; have n2 := h.new2
  exact ⟨h.grown.trans hg, h.old, h.new1, h.new2, h.far, h.res.grown hg (by simp; omega), h.op.grown hg (by simp; omega), hc⟩
theorem RX.later (h : RX w0 X g g1 g2 cs s W) (hb : Below W.heap.size W W') : RX w0 X g g1 g2 cs s W' := h.next (grown_of_below hb _) (h.rd.after hb)
theorem RX.row {row : Option Nat} (h : RX w0 X g g1 g2 cs s W) (hg : W.grownBy W' row) (hr : ∀ q, row = some q → g < q ∧ g1 < q ∧ g2 < q) : RX w0 X g g1 g2 cs s W' := by
  have n1 := h.new1
  refine ⟨grown_step h.grown hg (.inr fun q hq => by have := hr q hq; omega), h.old, h.new1, h.new2, h.far, h.res.grown hg (fun e => by have := hr g1 e.symm; omega), h.op.grown hg (fun e => by have := hr g2 e.symm; omega), h.rd.grown hg (fun e => by have := hr g e.symm; omega) (fun q hq _ => .inr (by have := hr q hq; omega))⟩
theorem RX.put (h : RX w0 X g g1 g2 cs s W) (i : Nat) (u : Value) (hcs : cs.setIfInBounds i u = cs') : RX w0 X g g1 g2 cs' s (W.setCell ⟨g2, i, none⟩ u) := by
  subst hcs
  have o := h.old; have n2 := h.new2; have f1 := h.far
  exact ⟨grown_setCell h.grown (.inr n2) u, h.old, h.new1, h.new2, h.far, h.res.far f1 u, h.op.set_ i u,
    h.rd.grown (row := some g2) (grown_setCell (World.grownBy.refl W (some g2)) (.inl rfl) u) (by simp; omega) (fun q hq _ => by injection hq with hq; exact .inr (by omega))⟩
/-- The reader's error. -/
theorem RX.err (h : RX w0 X g g1 g2 cs s W) : W.cell? ⟨g, 1, none⟩ = some (.int .i64 s.2) := by
  obtain ⟨A, n, c, hb, _⟩ := h.rd
  exact hb.cell 1
end
end Go.Proofs.YtmefagflnhkbdaaGreat.Qc

/-
  Layer 6 (op): the contracts of parts and records (a row of their own, the parts shared), of slices.Clone at records, of EqualFunc and Same.
-/
import Derived.Test.YtebjjkhiniccgaaGreatPg
import Derived.Test.YtebjjkhiniccgaaGreatW4
namespace Go.Proofs.YtebjjkhiniccgaaGreat.Ppi
set_option linter.unusedSimpArgs false
open Go Go.RowKit Ck Kw Ca Cb Ci Pm Pa Pe Pf Pg
set_option linter.unusedVariables false

theorem info_sl : (Tryz.prog.info? 22).map (fun i => (i.zero, i.size, i.bytes)) = some (some (.slice none 0 0), 1, 24) := by kernel_rfl
theorem info_rec : (Tryz.prog.info? 112).map (fun i => (i.zero, i.size, i.bytes)) = some (some (.slice none 0 0), 1, 24) := by kernel_rfl

/-- A list's row made anew: its parts are those that they were. -/
def Rowed (w : World) (X : Nat → Prop) (ls : List Tx) (e : Ending) (w' : World) : Prop :=
  ∃ A c, e = .returned (.slice A ls.length c) ∧ Ls w' (fun k => X k ∧ k < w.heap.size) (.slice A ls.length c) ls ∧ Below w.heap.size w w'
theorem rowed_of {w w' : World} {X : Nat → Prop} {ls : List Tx} {vals : List Value} {v : Value} {t : TypeId} (hown : w'.ownsRow w.heap.size t 1 v ls.length vals)
    (hels : ∀ i (h : i < ls.length), ∃ u, vals[i]? = some u ∧ Sl w X 1 u ls[i].length (BVs ls[i])) (hb : Below w.heap.size w w') : Rowed w X ls (.returned v) w' := by
  obtain ⟨A, c, rfl⟩ := own_shape hown
  refine ⟨A, c, rfl, ⟨vals, Sl.of_own hown (fun k hk _ hx => by omega), fun i hi => ?_⟩, hb⟩
  obtain ⟨u, hu, hs⟩ := hels i hi
  exact ⟨u, hu, (hs.after hb).weaken (fun k _ hk => hk.1)⟩
theorem ls_vals {w : World} {X : Nat → Prop} {A : Option Addr} {c : Nat} {ls : List Tx} (h : Ls w X (.slice A ls.length c) ls) :
    ∃ vals : List Value, vals.length = ls.length ∧ (∀ k (hk : k < ls.length), ∃ ad B d, A = some ad ∧ vals[k]? = some (.slice B ls[k].length d) ∧ w.cell? (ad.add k) = some (.slice B ls[k].length d) ∧ ad.block < w.heap.size) ∧
      ∀ i (hi : i < ls.length), ∃ u, vals[i]? = some u ∧ Sl w X 1 u ls[i].length (BVs ls[i]) := by
  obtain ⟨vals, h1, h2⟩ := h
  obtain ⟨A0, c0, hv, hl, hc, hm, hx⟩ := h1
  obtain ⟨e1, e2, e3⟩ := Value.slice.inj hv
  refine ⟨vals, by omega, fun k hk => ?_, h2⟩
  obtain ⟨ad, hA, hb, hX, hcell⟩ := hx (by omega)
  obtain ⟨u, hu, h3⟩ := h2 k hk
  obtain ⟨B, d, rfl, -⟩ := h3
  exact ⟨ad, B, d, e1.trans hA, hu, hcell k _ hu, hb⟩

set_option maxHeartbeats 1000000 in
theorem parts_any (w : World) (X : Nat → Prop) (A : Option Addr) (c : Nat) (ls : List Tx) (hls : Ls w X (.slice A ls.length c) ls) (hl : ls.length ≤ 1000000) :
    Calls Tryz.prog 121 #[.slice A ls.length c] w (Rowed w X ls) := by
  obtain ⟨vals, hvl, hcell, hels⟩ := ls_vals hls
  have HV := Lib.hid hvl
  have HC := Lib.hid hcell
  have HE := Lib.hid hels
  obtain ⟨i0, hi0, hz0, hz1, hz2⟩ := info_parts info_sl
  clear hls hvl hcell hels
  go_enter Tryz.func121, Tryz.ntmps121
  go_wp2
  go_loopw [3, 8] (fun v i wr => ∃ k : Nat, k ≤ ls.length ∧ i = .int .i64 k ∧ wr.ownsRow w.heap.size 22 1 v k (vals.take k) ∧ Below w.heap.size w wr) (fun _ i _ => ls.length - (intOf i).toNat)
  case atStart => exact ⟨0, Nat.zero_le _, rfl, World.ownsRow_nil _ _ _ _, Below.refl _ _⟩
  case round =>
    obtain ⟨k, hk, rfl, hown, hb⟩ := hrel
    by_cases hlt : k < ls.length
    · obtain ⟨ad, B, d, rfl, hu, hc, hlt2⟩ := HC.out k hlt
      have hc' := (hb.cell (p := ad.add k) (by rw [add_block]; exact hlt2)).trans hc
      have HU : Hid (vals.take (k + 1) = vals.take k ++ [.slice B ls[k].length d]) := Lib.hid (by
        rw [List.take_add_one, hu]; rfl)
      have hsz := hb.size
      clear hc hu
      go_wp2_with (at_builtin; refine wpList_append_sl _ rfl (.tmp 12) (.tmp 14) _ rfl w.heap.size 22 i0 _ 1 24 Tryz.underlying59 hi0 hz0 hz1 hz2 rfl (by omega) u3 k (vals.take k) rfl (hown.alloc _) (fun _ => False) _ 1 [.slice B ls[k].length d] rfl (one_newv wr _ _ _ (fun h => h)) (by simp [Value.oneCell']) (by simp only [maxLen]; omega) (by omega) (by simp; omega) ?_; intro v4 w4 happ)
      go_roundw
      case rel =>
        have hb1 : Below w.heap.size w (wr.alloc (.cells #[.slice B ls[k].length d] 22)) := hb.alloc hsz _
        refine ⟨k + 1, by omega, by go_num, by rw [HU.out]; exact happ.1, hb1.grown happ.2.1 hb1.size (fun g hg => (hown.lt g hg).1)⟩
      case measure => simp [intOf]; omega
    · have hke : k = ls.length := by omega
      have HT : Hid (vals.take k = vals) := Lib.hid (by rw [hke, ← HV.out, List.take_length])
      go_wp2
      go_ret
      rw [HT.out] at hown
      rw [hke] at hown
      exact rowed_of hown HE.out hb

set_option maxHeartbeats 1000000 in
theorem recs_any (w : World) (X : Nat → Prop) (A : Option Addr) (c : Nat) (ls : List Tx) (hls : Ls w X (.slice A ls.length c) ls) (hl : ls.length ≤ 1000000) :
    Calls Tryz.prog 91 #[.slice A ls.length c] w (Rowed w X ls) := by
  obtain ⟨vals, hvl, hcell, hels⟩ := ls_vals hls
  have HV := Lib.hid hvl
  have HC := Lib.hid hcell
  have HE := Lib.hid hels
  obtain ⟨i0, hi0, hz0, hz1, hz2⟩ := info_parts info_rec
  clear hls hvl hcell hels
  go_enter Tryz.func91, Tryz.ntmps91
  go_wp2
  go_loopw [3, 8] (fun v i wr => ∃ k : Nat, k ≤ ls.length ∧ i = .int .i64 k ∧ wr.ownsRow w.heap.size 112 1 v k (vals.take k) ∧ Below w.heap.size w wr) (fun _ i _ => ls.length - (intOf i).toNat)
  case atStart => exact ⟨0, Nat.zero_le _, rfl, World.ownsRow_nil _ _ _ _, Below.refl _ _⟩
  case round =>
    obtain ⟨k, hk, rfl, hown, hb⟩ := hrel
    by_cases hlt : k < ls.length
    · obtain ⟨ad, B, d, rfl, hu, hc, hlt2⟩ := HC.out k hlt
      have hc' := (hb.cell (p := ad.add k) (by rw [add_block]; exact hlt2)).trans hc
      have HU : Hid (vals.take (k + 1) = vals.take k ++ [.slice B ls[k].length d]) := Lib.hid (by
        rw [List.take_add_one, hu]; rfl)
      have hsz := hb.size
      clear hc hu
      go_wp2_with (at_builtin; refine wpList_append_sl _ rfl (.tmp 12) (.tmp 14) _ rfl w.heap.size 112 i0 _ 1 24 Tryz.underlying23 hi0 hz0 hz1 hz2 rfl (by omega) u3 k (vals.take k) rfl (hown.alloc _) (fun _ => False) _ 1 [.slice B ls[k].length d] rfl (one_newv wr _ _ _ (fun h => h)) (by simp [Value.oneCell']) (by simp only [maxLen]; omega) (by omega) (by simp; omega) ?_; intro v4 w4 happ)
      go_roundw
      case rel =>
        have hb1 : Below w.heap.size w (wr.alloc (.cells #[.slice B ls[k].length d] 112)) := hb.alloc hsz _
        refine ⟨k + 1, by omega, by go_num, by rw [HU.out]; exact happ.1, hb1.grown happ.2.1 hb1.size (fun g hg => (hown.lt g hg).1)⟩
      case measure => simp [intOf]; omega
    · have hke : k = ls.length := by omega
      have HT : Hid (vals.take k = vals) := Lib.hid (by rw [hke, ← HV.out, List.take_length])
      go_wp2
      go_ret
      rw [HT.out] at hown
      rw [hke] at hown
      exact rowed_of hown HE.out hb

set_option maxHeartbeats 1000000 in
theorem rclone_any (w : World) (X : Nat → Prop) (A : Option Addr) (c : Nat) (ls : List Tx) (hls : Ls w X (.slice A ls.length c) ls) (hl : ls.length * 24 ≤ 140737488355328) :
    Calls Tryz.prog 110 #[.slice A ls.length c] w fun e w' => ∃ v vals, e = .returned v ∧ w'.ownsRow w.heap.size 112 1 v ls.length vals ∧ (∀ i (hi : i < ls.length), ∃ u, vals[i]? = some u ∧ Sl w X 1 u ls[i].length (BVs ls[i])) ∧ Below w.heap.size w w' := by
  obtain ⟨vals, h1, h2⟩ := hls
  have HE := Lib.hid h2
  have hvl : vals.length = ls.length := by obtain ⟨_, _, _, h, _⟩ := h1; omega
  have H1 : ∀ u ∈ vals, u.oneCell' = true := by
    intro u hu
    obtain ⟨i, hi, rfl⟩ := List.getElem_of_mem hu
    obtain ⟨u', hu', h3⟩ := h2 i (by omega)
    obtain ⟨B, d, rfl, -⟩ := h3
    rw [List.getElem?_eq_getElem hi] at hu'
    rw [Option.some.inj hu']
    rfl
  have HONE := Lib.hid H1
  have HVL := Lib.hid hvl
  obtain ⟨i0, hi0, hz0, hz1, hz2⟩ := info_parts info_rec
  have heq := fun (W : World) => Lib.run_eql_slice_nil (P := Tryz.prog) W 23 112 A ls.length c 0 0 Tryz.underlying23
  clear h2 H1 hvl
  rcases A with _ | ad
  · obtain ⟨h0, hv0⟩ := h1.none_
    have hb : ls = [] := List.eq_nil_of_length_eq_zero h0
    subst hb
    simp only [List.length_nil] at heq
    clear h1 h0 hv0
    go_enter Tryz.func110, Tryz.ntmps110
    go_wp2
    go_ret
    exact ⟨_, [], rfl, World.ownsRow_nil _ _ _ _, fun i hi => absurd hi (by simp), Below.refl _ _⟩
  · go_enter Tryz.func110, Tryz.ntmps110
    go_wp2_with (at_builtin; refine wpList_append_sl _ rfl (.tmp 5) (.tmp 6) _ rfl w.heap.size 112 i0 _ 1 24 Tryz.underlying23 hi0 hz0 hz1 hz2 rfl (by omega) (.slice (some ⟨w.heap.size, 0, none⟩) 0 0) 0 [] rfl (World.ownsRow_made w #[] 0 (Nat.le_refl _) (by simp only [maxLen]; omega) rfl) X _ ls.length vals rfl (h1.alloc _) HONE.out (by simp only [maxLen]; omega) (by omega) (by simp) ?_; intro v2 w2 happ)
    go_ret
    refine ⟨v2, vals, rfl, by simpa using happ.1, HE.out, ?_⟩
    exact ((Below.refl _ _).alloc (Nat.le_refl _) _).grown happ.2.1 (by simp) (by simp [Value.ownBlock])

end Go.Proofs.YtebjjkhiniccgaaGreat.Ppi

/-
  Contracts of layer 1's reader: Num, length, Take, Bytes, Left, Done, Read.
-/
import Derived.Test.YtjjfhbbaabakmaaGreatDoorWS03
namespace Go.Proofs.YtjjfhbbaabakmaaGreatDoor.Cg
set_option linter.unusedSimpArgs false
set_option linter.unusedVariables false
open Go Go.RowKit Ck Ca Cb Ce Cf

theorem rest_end {w : World} {X : Nat → Prop} {g : Nat} {A A' : Option Addr} {n c k : Nat} {xs : List UInt8} (hb : CB w g (.slice A n c) 0) (hsl : Sl w (fun j => j = g ∨ X j) 1 (.slice A n c) n (BVs xs)) (hk : k ≤ n) (hA : ∀ ad, A = some ad → k < n → A' = some (ad.add (k * 1))) :
    w.grownBy (w.setCell ⟨g, 1, none⟩ (.slice A' (n - k) (c - k))) (some g) ∧ CR (w.setCell ⟨g, 1, none⟩ (.slice A' (n - k) (c - k))) X g (xs.drop k, 0) := by
  have h1 := Blk.set_ hb 1 (.slice A' (n - k) (c - k))
  have g1 := grown_setCell (World.grownBy.refl w (some g)) (p := ⟨g, 1, none⟩) (.inl rfl) (.slice A' (n - k) (c - k))
  refine ⟨g1, A', n - k, c - k, h1, ?_, fun h => absurd rfl h⟩
  have h2 := (hsl.cut hk A' hA).setCell (p := ⟨g, 1, none⟩) (fun _ => .inl rfl) (.slice A' (n - k) (c - k))
  have h3 : (BVs xs).drop (k * 1) = BVs (xs.drop k) := by simp [BVs, List.map_drop]
  rw [h3] at h2
  exact h2
theorem err_cond {s : Cm.RS} {most : Nat} (h : s.2 = 0) : Cm.numS s most = if (Cm.pn s.1 0 0).2.2 ≠ 0 then (0, ([], (Cm.pn s.1 0 0).2.2)) else if most < (Cm.pn s.1 0 0).1 then (0, ([], 11)) else ((Cm.pn s.1 0 0).1, (s.1.drop (Cm.pn s.1 0 0).2.1, 0)) := by
  rw [Cm.numS, if_neg (by simp [h])]
theorem failS_ok {s : Cm.RS} {e : Int} (h : s.2 = 0) (he : e ≠ 0) : Cm.failS s e = ([], e) := by simp [Cm.failS, h, he]

/-- What a number's reading leaves. -/
def Numed (w : World) (X : Nat → Prop) (g : Nat) (r : Nat × Cm.RS) (e : Ending) (w' : World) : Prop := e = .returned (.int .u64 (r.1 : Int)) ∧ w.grownBy w' (some g) ∧ CR w' X g r.2

set_option maxRecDepth 100000 in
set_option maxHeartbeats 800000 in
theorem num_any (w : World) (X : Nat → Prop) (g : Nat) (s : Cm.RS) (h : CR w X g s) (most : Nat) :
    Calls Tryz.prog 90 #[P_ g, .int .u64 most] w fun e w' => Numed w X g (Cm.numS s most) e w' := by
  have hcr := h
  obtain ⟨A, n, c, hb, hsl, hgd⟩ := h
  have hn : n = s.1.length := by obtain ⟨A, c, _, h, _⟩ := hsl; rw [BVs_len] at h; omega
  subst hn
  by_cases hs : s.2 = 0
  · have hb0 := hb
    rw [hs] at hb0
    have hcond := err_cond (most := most) hs
    have hpa := parse_any w _ A c s.1 hsl
    generalize hp : Cm.pn s.1 0 0 = p at *
    obtain ⟨v, k, er⟩ := p
    have h1 := hb0.cell 1
    have f1 := hb0.frozen 1
    simp only [List.getElem?_toArray, List.getElem?_cons_zero, List.getElem?_cons_succ] at h1
    have HS := Lib.hid hs
    have HP := Lib.hid hp
    by_cases he : er = 0
    · subst he
      have hp1 := Cm.pn_one0 hp
      have hk := hp1.2.1
      have hnc : s.1.length ≤ c := by obtain ⟨A, c, hv, _, h, _⟩ := hsl; injection hv with _ _ e3; omega
      have hcm : c ≤ 9223372036854775807 := by obtain ⟨A, c, hv, _, _, h, _⟩ := hsl; injection hv with _ _ e3; simp only [maxLen] at h; omega
      clear hp hs hp1
      by_cases hm : most < v
      · have hf : Cm.numS s most = (0, Cm.failS s 11) := by rw [hcond, failS_ok HS.out (by decide), if_neg (by simp), if_pos hm]
        rw [hf]
        clear hcond hf
        have HA := Lib.hid hpa
        clear hpa
        go_enter Tryz.func90, Tryz.ntmps90
        go_wp2_with (first
          | (go_at_call 115; refine (reads_ok _ g _ hb0).mono ?_; rintro e w1 ⟨rfl, rfl⟩)
          | (go_at_call 116; refine HA.out.mono ?_; rintro e w1 ⟨rfl, rfl⟩)
          | (go_at_call 117; refine (fail_any _ X g s hcr 11).mono ?_; rintro e w1 ⟨rfl, hg1, hc1⟩))
        go_ret
        exact ⟨rfl, hg1, hc1⟩
      · have hf : Cm.numS s most = (v, (s.1.drop k, 0)) := by rw [hcond, if_neg (by simp), if_neg hm]
        rw [hf]
        obtain ⟨A', hsl1, hA'⟩ := slice_from A s.1.length c k hk hnc
        have R := rest_end (X := X) hb0 hsl hk hA'
        have HR := Lib.hid R
        have HA := Lib.hid hpa
        clear hcond hf hA' R hpa
        go_enter Tryz.func90, Tryz.ntmps90
        go_wp2_with (first
          | (go_at_call 115; refine (reads_ok _ g _ hb0).mono ?_; rintro e w1 ⟨rfl, rfl⟩)
          | (go_at_call 116; refine HA.out.mono ?_; rintro e w1 ⟨rfl, rfl⟩))
        go_ret
        exact ⟨rfl, HR.out⟩
    · have hf : Cm.numS s most = (0, Cm.failS s er) := by rw [hcond, failS_ok HS.out he, if_pos he]
      rw [hf]
      have he1 : (er == 0) = false := by rw [beq_eq_false_iff_ne]; exact he
      have he2 : (er != 0) = true := by rw [bne, he1]; rfl
      have HE := Lib.hid he
      have HA := Lib.hid hpa
      clear hcond hf hs hp he hpa
      go_enter Tryz.func90, Tryz.ntmps90
      go_wp2_with (first
        | (go_at_call 115; refine (reads_ok _ g _ hb0).mono ?_; rintro e w1 ⟨rfl, rfl⟩)
        | (go_at_call 116; refine HA.out.mono ?_; rintro e w1 ⟨rfl, rfl⟩)
        | (go_at_call 117; refine (fail_any _ X g s hcr er).mono ?_; rintro e w1 ⟨rfl, hg1, hc1⟩))
      go_ret
      exact ⟨rfl, hg1, hc1⟩
  · have hf : Cm.numS s most = (0, s) := by rw [Cm.numS, if_pos hs]
    rw [hf]
    have HS := Lib.hid hs
    clear hs hf
    go_enter Tryz.func90, Tryz.ntmps90
    go_wp2_with (go_at_call 115; refine (reads_no _ g _ _ hb HS.out).mono ?_; rintro e w1 ⟨rfl, rfl⟩)
    go_ret
    exact ⟨rfl, World.grownBy.refl _ _, hcr⟩

end Go.Proofs.YtjjfhbbaabakmaaGreatDoor.Cg

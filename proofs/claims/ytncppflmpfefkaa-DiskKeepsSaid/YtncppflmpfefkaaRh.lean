/-
  Contract of the document's disk: Truncate.
-/
import Derived.Test.YtncppflmpfefkaaRg
namespace Go.Proofs.Ytncppflmpfefkaa.Rh
open Go Go.RowKit Go.Maps Ck Kw Ga Dm Dw Da Db Dc Dd De Df Dg Dh Di Ra Rb Rc Rd Re Rf Rg
attribute [local go_sem ↓] Go.wp_at_zero Go.wp_at_succ
set_option linter.unusedVariables false

theorem slice_hm (A : Option Addr) (n c k : Nat) (hk : k ≤ c) (W : World) : (Instr.slice 31 (.slice A n c) none (some (.int .i64 (k : Int))) (some (.int .i64 (k : Int)))).run Try.prog W = .ok (.slice A k k) W := by
  have he : ∀ W : World, (sizeOf (Try.prog.elem 31)).run Try.prog W = .ok 1 W := fun _ => by kernel_rfl
  rw [run_slice_hm W 31 A n c (by kernel_rfl) .i64 .i64 k k (by omega) (by omega) (by omega), he]
  simp only [Result.andThen_ok, sliced, Int.toNat_natCast]
  congr 2
  by_cases h0 : k = 0
  · simp [h0]
  · cases A <;> simp [h0, Addr.add]
theorem sl_capped {w : World} {X : Nat → Prop} {A : Option Addr} {c : Nat} {b : Tx} (h : Sl w X 1 (.slice A b.length c) b.length (BVs b)) {k : Nat} (hk : k ≤ b.length) : Sl w X 1 (.slice A k k) (b.take k).length (BVs (b.take k)) := by
  have hl : (b.take k).length = k := by rw [List.length_take]; omega
  rw [hl, BVs_take]
  obtain ⟨A0, c0, hv, h1, h2, h3, h4⟩ := h.upto hk
  have e := Value.slice.inj hv
  rw [← e.1] at h4
  exact ⟨A, k, rfl, h1, Nat.le_refl _, by omega, h4⟩
theorem set_facts {w : World} {S : Nat → Prop} {q most : Nat} {l : List (Fl × Value)} {ad : Addr} {c i : Nat} {down : Bool} (hP : RParts w S q l most down (.slice (some ad) l.length c)) (had : ad = ⟨ad.block, 0, none⟩) (hlt : i < l.length) (out : Value) :
    (w.setCell ⟨(ad.add (i * 3)).block, (ad.add (i * 3)).off + 1, none⟩ out).cell? ⟨q, 0, none⟩ = some (.slice (some ad) l.length c) ∧
      (w.setCell ⟨(ad.add (i * 3)).block, (ad.add (i * 3)).off + 1, none⟩ out).cell? ⟨(ad.add (i * 3)).block, (ad.add (i * 3)).off + 2, none⟩ = some (.int .i64 (l[i].1.d : Int)) ∧ (w.setCell ⟨(ad.add (i * 3)).block, (ad.add (i * 3)).off + 1, none⟩ out).frozen? ⟨(ad.add (i * 3)).block, (ad.add (i * 3)).off + 2, none⟩ = false := by
  obtain ⟨ad', e, -, hq, hfa⟩ := hP.at_ hlt
  obtain rfl := Option.some.inj e
  have a2 := hfa.a2
  have ha := add_zero had (i * 3)
  rw [ha] at a2 ⊢
  obtain ⟨cur, k1⟩ : ∃ cur, Blk w ad.block 84 cur := by
    rcases hP.row.2 with ⟨hn, _⟩ | ⟨g, cap, cur, hv', hb', hr, _⟩
    · cases hn
    · have e1 := Option.some.inj (Value.slice.inj hv').1
      have : ad.block = g := by rw [e1]
      exact ⟨cur, by rw [this]; exact hr⟩
  have k2 := k1.set_ (i * 3 + 1) out
  refine ⟨(hP.blk.far (p := ⟨ad.block, i * 3 + 1, none⟩) (fun e => hq e.symm) _).cell 0, ?_, k2.frozen _⟩
  rw [k2.cell, Array.getElem?_setIfInBounds_ne (show i * 3 + 1 ≠ i * 3 + 2 by omega), ← k1.cell]
  exact a2

set_option maxRecDepth 100000 in
set_option maxHeartbeats 2000000 in
theorem rtrunc_any (w : World) (S : Nat → Prop) (q : Nat) (L : List Fl) (most : Nat) (down : Bool) (s : Tx) (h : Rk w S q L most down) (z : Int) :
    Calls Try.prog 39 #[.pointer (some ⟨q, 0, none⟩), .string ⟨s.toArray⟩, .int .i64 z] w (RDid S q (truncS L down s z) most down w) := by
  rcases find_cases L down s with ⟨c, hc1, hc2, hc⟩ | ⟨rfl, f, hf⟩
  · have HM := Lib.hid (rmay_no w S q L most down s h c hc)
    have H := Lib.hid h
    rw [trunc_no hc]
    have hne : ((c : Int) == 0) = false := by rw [beq_eq_false_iff_ne]; omega
    clear h hc
    go_enter Try.func39, Try.ntmps39
    go_wp2_with (go_at_call 59; refine HM.out.mono ?_; rintro e w' ⟨rfl, rfl⟩)
    go_ret
    exact rdid_refl H.out
  · have H := Lib.hid h
    have HM := Lib.hid (rmay_in w S q L most s h f hf)
    have HG := Lib.hid h.good
    have hlen := h.good.len (find_some hf).1
    have hdone := h.good.done f (find_some hf).1
    obtain ⟨l, lv, hL, hP⟩ := h
    have hfew := hP.good.few
    rw [List.length_map] at hfew
    obtain ⟨A, c, rfl, -⟩ := hP.shape
    have c0 : w.cell? ⟨q, 0, none⟩ = some (.slice A l.length c) := hP.blk.cell 0
    have HP := Lib.hid hP
    have HL := Lib.hid hL
    have HF := Lib.hid hf
    clear hP hL hf
    go_enter Try.func39, Try.ntmps39
    go_wp2_with fail
    refine HM.out.mono ?_
    rintro e w' ⟨⟨i, hi, rfl⟩, rfl⟩
    have hlt : i < l.length := rows_lt HL.out hi
    obtain ⟨ad, rfl, had, hadq, hfa⟩ := HP.out.at_ hlt
    have hfe : l[i].1 = f := rows_eq HL.out hi hlt
    have hby := HP.out.bytes _ (List.getElem_mem hlt)
    rw [hfe] at hby
    obtain ⟨B, d, hxx⟩ : ∃ B d, l[i].2 = .slice B f.b.length d := by
      obtain ⟨B, d, h, _⟩ := hby
      exact ⟨B, d, h⟩
    have a1 := hfa.a1
    have a2 := hfa.a2
    have f1 := hfa.f1
    rw [hfe] at a2
    rw [hxx] at a1 hby
    have HBY := Lib.hid hby
    have HI := Lib.hid hi
    have HAD := Lib.hid had
    have hi2 : (i : Int) < (l.length : Int) := by omega
    have hi0 : (0 : Int) ≤ (i : Int) := by omega
    have HFE := Lib.hid hfe
    clear hfa hfe hi hby had hxx
    by_cases h0 : z < 0
    · have e : truncS L false s z = (L, 1) := by rw [trunc_some HF.out, if_pos (.inl h0)]
      have HE := Lib.hid e
      clear e
      go_wp2_with fail
      go_ret
      rw [HE.out]
      exact rdid_refl H.out
    · by_cases h1 : (f.b.length : Int) < z
      · have e : truncS L false s z = (L, 1) := by rw [trunc_some HF.out, if_pos (.inr h1)]
        have HE := Lib.hid e
        clear e
        go_wp2_with fail
        go_ret
        rw [HE.out]
        exact rdid_refl H.out
      · obtain ⟨k, rfl⟩ : ∃ k : Nat, z = (k : Int) := ⟨z.toNat, by omega⟩
        have hk : k ≤ f.b.length := by omega
        have e : truncS L false s (k : Int) = (upd L f.n (setf (f.b.take k) (min f.d k)), 0) := by
          rw [trunc_some HF.out, if_neg (by omega)]
          rfl
        have HE := Lib.hid e
        have hbd : f.b.length ≤ d := by
          obtain ⟨B0, d0, hv, _, hcc, _⟩ := HBY.out
          have := (Value.slice.inj hv).2.2
          omega
        have hsu := fun W => slice_hm B f.b.length d k (by omega) W
        have FT := set_facts HP.out HAD.out hlt (.slice B k k)
        rw [HFE.out] at FT
        have g4 : (w.setCell ⟨(ad.add (i * 3)).block, (ad.add (i * 3)).off + 1, none⟩ (.slice B k k)).drew.cell? ⟨q, 0, none⟩ = some (.slice (some ad) l.length c) := FT.1
        have g6 : (w.setCell ⟨(ad.add (i * 3)).block, (ad.add (i * 3)).off + 1, none⟩ (.slice B k k)).drew.cell? ⟨(ad.add (i * 3)).block, (ad.add (i * 3)).off + 2, none⟩ = some (.int .i64 (f.d : Int)) := FT.2.1
        have g7 : (w.setCell ⟨(ad.add (i * 3)).block, (ad.add (i * 3)).off + 1, none⟩ (.slice B k k)).drew.frozen? ⟨(ad.add (i * 3)).block, (ad.add (i * 3)).off + 2, none⟩ = false := FT.2.2
        clear e FT
        go_wp2_with fail
        go_still_tail 18, (by kernel_rfl)
        change wpList _ _ _ _ _ w.drew
        go_wp2_with fail
        generalize hW9 : (w.setCell ⟨(ad.add (i * 3)).block, (ad.add (i * 3)).off + 1, none⟩ (.slice B k k)).drew = W9 at *
        have HW9 := Lib.hid hW9
        clear hW9
        go_still_tail 17, (by kernel_rfl)
        change wpList _ _ _ _ _ W9.drew
        go_wp2_with fail
        go_ret
        rw [HE.out, min_int, ← HW9.out]
        have hu := used_le HG.out.nodup (List.mem_of_getElem? HI.out) (b := f.b.take k) (d := min f.d k) (by rw [List.length_take]; omega)
        obtain ⟨r1, r2⟩ := rk_set HL.out HP.out HI.out (f.b.take k) (min f.d k) (.slice B k k) (puts_two w HAD.out i _ _) (Below.refl _ _) HG.out (by rw [List.length_take]; omega) (Nat.le_trans hu HG.out.fits) (old_sl (sl_capped HBY.out hk))
        exact rdid_drew (rdid_drew ⟨rfl, r1, r2⟩)

end Go.Proofs.Ytncppflmpfefkaa.Rh

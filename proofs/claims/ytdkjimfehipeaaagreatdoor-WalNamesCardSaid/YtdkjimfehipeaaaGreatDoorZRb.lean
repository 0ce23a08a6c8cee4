import Derived.Test.YtdkjimfehipeaaaGreatDoorZRa
/-
  Contracts of the document's disk: Used, Synced, Get, Restart; a file set in its place.
-/
namespace Go.Proofs.YtdkjimfehipeaaaGreatDoor.Rb
open Go Go.RowKit Go.Maps Ck Kw Ga Dm Dw Da Db Dc Dd De Df Dg Dh Di Ra
attribute [local go_sem ↓] Go.wp_at_zero Go.wp_at_succ
set_option linter.unusedVariables false

theorem used_take {L : List Fl} {k : Nat} {f : Fl} (h : L[k]? = some f) : used (L.take (k + 1)) = used (L.take k) + f.b.length := by
  induction L generalizing k with
  | nil => simp at h
  | cons x L ih =>
    cases k with
    | zero =>
      simp at h
      subst h
      simp [used]
    | succ k =>
      rw [List.take_succ_cons, List.take_succ_cons]
      simp only [used]
      rw [ih (by simpa using h)]
      omega
theorem used_take_le (L : List Fl) (k : Nat) : used (L.take k) ≤ used L := by
  induction L generalizing k with
  | nil => simp
  | cons x L ih =>
    cases k with
    | zero => simp [used]
    | succ k =>
      rw [List.take_succ_cons]
      simp only [used]
      have := ih k
      omega

set_option maxHeartbeats 400000 in
theorem rused_any (w : World) (S : Nat → Prop) (q : Nat) (L : List Fl) (most : Nat) (down : Bool) (h : Rk w S q L most down) :
    Calls Tryz.prog 156 #[.pointer (some ⟨q, 0, none⟩)] w fun e w' => e = .returned (.int .i64 (used L : Int)) ∧ w = w' := by
  have hg := h.good
  have hfit := hg.fits
  have hroom := hg.room
  obtain ⟨l, lv, hL, hP⟩ := h
  have hfew := hP.good.few
  rw [List.length_map] at hfew
  obtain ⟨A, c, rfl, -⟩ := hP.shape
  have c0 : w.cell? ⟨q, 0, none⟩ = some (.slice A l.length c) := hP.blk.cell 0
  have HP := Lib.hid hP
  have HL := Lib.hid hL
  clear hP hL hg
  go_enter Tryz.func156, Tryz.ntmps156
  go_wp2
  go_loop [3, 4] (fun n i => ∃ k : Nat, k ≤ l.length ∧ i = .int .i64 k ∧ n = .int .i64 (used (L.take k) : Int)) (fun _ i => l.length - (intOf i).toNat)
  case atStart => exact ⟨0, Nat.zero_le _, rfl, rfl⟩
  case round =>
    obtain ⟨k, hk, rfl, rfl⟩ := hrel
    by_cases hlt : k < l.length
    · obtain ⟨ad, rfl, -, -, hf⟩ := HP.out.at_ hlt
      obtain ⟨B, d, hx⟩ : ∃ B d, l[k].2 = .slice B l[k].1.b.length d := by
        obtain ⟨B, d, h, _⟩ := HP.out.bytes _ (List.getElem_mem hlt)
        exact ⟨B, d, h⟩
      have a1 := hf.a1
      rw [hx] at a1
      have hu := used_take (rows_at HL.out hlt)
      have hle := used_take_le L (k + 1)
      have HU := Lib.hid hu
      have hbd : used (L.take k) + l[k].1.b.length ≤ 4194304 := by omega
      clear hf hx hu hle
      go_wp2
      go_round
      case rel => exact ⟨k + 1, by omega, by go_num, by rw [HU.out]; go_num⟩
      case measure => simp [intOf]; omega
    · have hke : k = L.length := by rw [rows_len HL.out]; omega
      have hz : L.take k = L := by rw [hke, List.take_length]
      have HZ := Lib.hid hz
      clear hz hke
      go_wp2
      go_ret
      rw [HZ.out]
      exact ⟨rfl, rfl⟩

set_option maxHeartbeats 400000 in
theorem rget_any (w : World) (S : Nat → Prop) (q : Nat) (L : List Fl) (most : Nat) (down : Bool) (s : Tx) (h : Rk w S q L most down) :
    Calls Tryz.prog 77 #[.pointer (some ⟨q, 0, none⟩), .string ⟨s.toArray⟩] w (Got w (getS L down s)) := by
  rcases find_cases L down s with ⟨c, hc1, hc2, hc⟩ | ⟨rfl, f, hf⟩
  · have HM := Lib.hid (rmay_no w S q L most down s h c hc)
    rw [get_no hc]
    have hne : ((c : Int) == 0) = false := by rw [beq_eq_false_iff_ne]; omega
    clear h hc
    go_enter Tryz.func77, Tryz.ntmps77
    go_wp2_with (go_at_call 114; refine HM.out.mono ?_; rintro e w' ⟨rfl, rfl⟩)
    go_ret2
    exact ⟨none, 0, rfl, World.ownsRow_nil _ _ _ _, Below.refl _ _⟩
  · have e : getS L false s = (f.b, 0) := by rw [getS, hf]; rfl
    rw [e]
    have hlen := h.good.len (find_some hf).1
    have HM := Lib.hid (rmay_in w S q L most s h f hf)
    obtain ⟨l, lv, hL, hP⟩ := h
    have hfew := hP.good.few
    rw [List.length_map] at hfew
    obtain ⟨A, c, rfl, -⟩ := hP.shape
    have c0 : w.cell? ⟨q, 0, none⟩ = some (.slice A l.length c) := hP.blk.cell 0
    have HP := Lib.hid hP
    have HL := Lib.hid hL
    obtain ⟨i0, hi0, hz0, hz1, hz2⟩ := info_parts info_u8
    clear hP hL hf e
    go_enter Tryz.func77, Tryz.ntmps77
    go_wp2_with fail
    refine HM.out.mono ?_
    rintro e w' ⟨⟨i, hi, rfl⟩, rfl⟩
    have hlt : i < l.length := rows_lt HL.out hi
    obtain ⟨ad, rfl, -, -, hfa⟩ := HP.out.at_ hlt
    have hfe : l[i].1 = f := rows_eq HL.out hi hlt
    have hby := HP.out.bytes _ (List.getElem_mem hlt)
    rw [hfe] at hby
    obtain ⟨B, d, hx⟩ : ∃ B d, l[i].2 = .slice B f.b.length d := by
      obtain ⟨B, d, h, _⟩ := hby
      exact ⟨B, d, h⟩
    have a1 := hfa.a1
    rw [hx] at a1 hby
    have HBY := Lib.hid hby
    clear hfa hfe hi hby hx
    go_wp2_with (at_builtin; refine wpList_append_new _ rfl (.tmp 18) (.tmp 26) _ rfl 5 i0 _ 1 1 Tryz.underlying22 hi0 hz0 hz1 hz2 rfl (by omega) rfl _ _ f.b.length (BVs f.b) rfl HBY.out (BVs_one _) (by simp only [maxLen]; omega) (by omega) ?_; intro A2 c2 w2 ho2 hb2)
    go_ret2
    exact ⟨A2, c2, rfl, ho2, hb2⟩

/-- What a call to the document's disk leaves that answers a code. -/
def RDid (S : Nat → Prop) (q : Nat) (r : List Fl × Nat) (most : Nat) (down : Bool) (w : World) (e : Ending) (w' : World) : Prop :=
  e = .returned (.int .i64 (r.2 : Int)) ∧ Rk w' (Up S w w') q r.1 most down ∧ Ch S w w'
theorem rdid_refl {S : Nat → Prop} {q : Nat} {L : List Fl} {c most : Nat} {down : Bool} {w : World} (h : Rk w S q L most down) : RDid S q (L, c) most down w (.returned (.int .i64 (c : Int))) w :=
  ⟨rfl, h.weaken (fun k hk => .inl hk), Ch.refl _ _⟩
theorem rdid_later {S : Nat → Prop} {q : Nat} {L : List Fl} {c most : Nat} {down : Bool} {w w' : World} (h : Rk w S q L most down) (b : Below w.heap.size w w') : RDid S q (L, c) most down w (.returned (.int .i64 (c : Int))) w' :=
  ⟨rfl, (h.later b).weaken (fun k hk => .inl hk), Ch.of_below b (Nat.le_refl _)⟩
theorem rparts_down {w : World} {S : Nat → Prop} {q most : Nat} {l : List (Fl × Value)} {down : Bool} {lv : Value} (h : RParts w S q l most down lv) (off : Bool) : RParts (w.setCell ⟨q, 2, none⟩ (.bool off)) S q l most off lv :=
  have c : Ch (fun k => k = q) w (w.setCell ⟨q, 2, none⟩ (.bool off)) := (Ch.refl (fun k => k = q) w).setCell (p := ⟨q, 2, none⟩) (fun _ => rfl) _
  ⟨h.blk.set_ 2 _, own_ch h.row c (fun k hk e => own_far h.row h.blk (by decide) (by rw [hk, e])), h.sq, h.slv, fun x hx => (h.bytes x hx).ch c (fun k _ e => .inr (.inl e)), h.good⟩
end Go.Proofs.YtdkjimfehipeaaaGreatDoor.Rb

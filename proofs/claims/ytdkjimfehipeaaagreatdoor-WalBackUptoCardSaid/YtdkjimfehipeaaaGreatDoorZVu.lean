import Derived.Test.YtdkjimfehipeaaaGreatDoorZVt
/-
  Contract of the document's Unframe, whole.
-/
namespace Go.Proofs.YtdkjimfehipeaaaGreatDoor.Vu
open Go Go.RowKit Ck Kw Ga Wc Wf Wa Wb Wd Vr Vs Vt
set_option linter.unusedVariables false

theorem n4_le4 {s : Nat} (h : s < 4294967296) : n4 (UInt8.ofNat (s % 256)) (UInt8.ofNat (s / 256 % 256)) (UInt8.ofNat (s / 65536 % 256)) (UInt8.ofNat (s / 16777216 % 256)) = s := by
  unfold n4
  rw [Cm.toNat_ofNat (by omega), Cm.toNat_ofNat (by omega), Cm.toNat_ofNat (by omega), Cm.toNat_ofNat (by omega)]
  omega
theorem le4_n4 (a b c d : UInt8) : le4 (n4 a b c d) = [a, b, c, d] := by
  have ha := a.toNat_lt
  have hb := b.toNat_lt
  have hc := c.toNat_lt
  have hd := d.toNat_lt
  have e1 : n4 a b c d % 256 = a.toNat := by unfold n4; omega
  have e2 : n4 a b c d / 256 % 256 = b.toNat := by unfold n4; omega
  have e3 : n4 a b c d / 65536 % 256 = c.toNat := by unfold n4; omega
  have e4 : n4 a b c d / 16777216 % 256 = d.toNat := by unfold n4; omega
  simp only [le4, e1, e2, e3, e4, UInt8.ofNat_toNat]
theorem bytes_len {b x r : Bs} {m : Nat} (h : Cm.bytesS (b, 0) (m : Int) = (x, (r, 0))) : x.length ≤ m := by
  have h1 : (Cm.bytesS (b, 0) (m : Int)).2.2 = 0 := by rw [h]
  obtain ⟨_, h2, h3, h4⟩ := Cm.takeS_ok h1
  have h5 : x = ((Cm.numS (b, 0) ((m : Int)).toNat).2.1).take ((Cm.numS (b, 0) ((m : Int)).toNat).1 : Int).toNat := by
    have := congrArg Prod.fst h
    unfold Cm.bytesS at this
    rw [h4] at this
    exact this.symm
  have h6 := Cm.numS_le (b, 0) ((m : Int)).toNat
  rw [Int.toNat_natCast] at h5 h6
  rw [Int.toNat_natCast] at h5
  rw [h5, List.length_take]
  omega

theorem runframe_yes (w : World) (X : Nat → Prop) (A : Option Addr) (c : Nat) (b x r : Bs) (h : Sl w X 1 (.slice A b.length c) b.length (BVs b)) (hb : b.length ≤ 140737488355328) (hf : Fr b x r) :
    Calls Tryz.prog 11 #[.slice A b.length c] w fun e w' => Unframed w x e w' := by
  obtain ⟨hbe, hx⟩ := hf
  have hS := sum_lt (Cm.encB x)
  obtain ⟨s, hs⟩ : ∃ s, s = sum (Cm.encB x) := ⟨_, rfl⟩
  have he : b = Cm.encB x ++ (le4 s ++ r) := by rw [hbe, frame, List.append_assoc, hs]
  have hby : Cm.bytesS (b, 0) 524288 = (x, (le4 s ++ r, 0)) := by rw [he]; exact Cm.bytesS_enc (by omega) (by omega) _
  have hlen : b.length = (Cm.encB x).length + (le4 s ++ r).length := by rw [he, List.length_append]
  have hfl : (frame x).length = (Cm.encB x).length + 4 := by simp [frame, le4_len]
  rw [← hs] at hS
  refine (runframe_four w X A c b x (le4 s ++ r) r _ _ _ _ h hb hby (by omega) rfl).mono ?_
  have e1 : b.length - (le4 s ++ r).length = (Cm.encB x).length := by omega
  rw [e1, n4_le4 hS, show b.take (Cm.encB x).length = Cm.encB x by rw [he, List.take_left]]
  rintro e w' (⟨_, A', c', rfl, ho, hw⟩ | ⟨hne, _⟩)
  · exact ⟨A', c', by rw [hfl], ho, hw⟩
  · exact absurd hs.symm hne
theorem runframe_no (w : World) (X : Nat → Prop) (A : Option Addr) (c : Nat) (b : Bs) (h : Sl w X 1 (.slice A b.length c) b.length (BVs b)) (hb : b.length ≤ 140737488355328) (hf : ∀ x r, ¬ Fr b x r) :
    Calls Tryz.prog 11 #[.slice A b.length c] w (NoRec w) := by
  by_cases he : (Cm.bytesS (b, 0) 524288).2.2 = 0
  · obtain ⟨x, rest, h1, h2⟩ := Cm.bytesS_one he
    have hlen : b.length = (Cm.encB x).length + rest.length := by rw [h2, List.length_append]
    by_cases h4 : rest.length < 4
    · exact runframe_short w X A c b x rest h hb h1 (by omega) h4
    · match rest, h4 with
      | s0 :: s1 :: s2 :: s3 :: t, _ =>
        refine (runframe_four w X A c b x _ t s0 s1 s2 s3 h hb h1 (by omega) rfl).mono ?_
        rintro e w' (⟨hq, _⟩ | ⟨_, hn⟩)
        · exfalso
          have e1 : b.length - (s0 :: s1 :: s2 :: s3 :: t).length = (Cm.encB x).length := by omega
          rw [e1, show b.take (Cm.encB x).length = Cm.encB x by rw [h2, List.take_left]] at hq
          refine hf x t ⟨?_, bytes_len (m := 524288) h1⟩
          rw [frame, hq, le4_n4, h2, List.append_assoc]
          rfl
        · exact hn
      | [], h => simp at h
      | [_], h => simp at h
      | [_, _], h => simp at h
      | [_, _, _], h => simp at h
  · exact runframe_err w X A c b h hb he

end Go.Proofs.YtdkjimfehipeaaaGreatDoor.Vu

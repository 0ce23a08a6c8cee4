import Derived.Test.YtdkjimfehipeaaaGreatDoorT14
import Derived.Test.YtdkjimfehipeaaaGreatDoorKp
import Derived.Test.YtdkjimfehipeaaaGreatDoorTie
import Derived.Test.YtdkjimfehipeaaaGreatDoorCards
import Derived.ProofKit
import Derived.LaidMore
import Derived.Lib.LaidTab
import Derived.Stop.LaidErr
import Derived.Stop.Joined
import Derived.SevenTiedAt
/-
  Contract of the document's Unframe, for layer 4.
-/
namespace Go.Proofs.YtdkjimfehipeaaaGreatDoor.Vt
open Go Go.RowKit Ck Kw Ga Wc Wf Wa Wb Wd Vr Vs Cf Cj
attribute [local go_sem ↓] Go.wp_at_zero Go.wp_at_succ
set_option linter.unusedVariables false

/-- No frame: no record. -/
def NoRec (w : World) (e : Ending) (w' : World) : Prop := e = .returned (.tuple #[.slice none 0 0, .int .i64 0, .bool false]) ∧ Below w.heap.size w w'

set_option maxRecDepth 100000 in
set_option maxHeartbeats 16000000 in
theorem runframe_err (w : World) (X : Nat → Prop) (A : Option Addr) (c : Nat) (b : Bs) (h : Sl w X 1 (.slice A b.length c) b.length (BVs b)) (hb : b.length ≤ 140737488355328) (he : (Cm.bytesS (b, 0) 524288).2.2 ≠ 0) :
    Calls Tryz.prog 11 #[.slice A b.length c] w (NoRec w) := by
  have HR := Lib.hid (rread_any w X _ b.length b h)
  have HE := Lib.hid he
  clear h he
  go_enter Tryz.func11, Tryz.ntmps11
  go_wp2_with fail
  refine HR.out.mono ?_
  rintro e w1 ⟨rfl, hr1, hb1⟩
  have HB1 := Lib.hid hb1
  have HBY := Lib.hid (Co.rbytes_any w1 X w.heap.size (b, 0) hr1 524288 (by omega) (by omega) hb)
  clear hr1 hb1
  go_wp2_with fail
  refine HBY.out.mono ?_
  rintro e w2 ⟨v, rfl, ho, hg, A2, n2, c2, hd2, hs2, hgd⟩
  have d0 := hd2.cell 0
  have d1 := hd2.cell 1
  simp only [List.getElem?_toArray, List.getElem?_cons_zero, List.getElem?_cons_succ] at d0 d1
  have hne : ((Cm.bytesS (b, 0) 524288).2.2 == 0) = false := by rw [beq_eq_false_iff_ne]; exact HE.out
  have HG := Lib.hid hg
  obtain ⟨ee, hee⟩ : ∃ ee, ee = (Cm.bytesS (b, 0) 524288).2.2 := ⟨_, rfl⟩
  rw [← hee] at d1 hne
  clear hd2 hs2 hgd ho hg hee HBY
  go_wp2_with fail
  go_ret3
  exact ⟨rfl, HB1.out.grown HG.out HB1.out.size (fun k hk => by injection hk with hk; omega)⟩

theorem rsum_at (w : World) (X : Nat → Prop) (A : Option Addr) (c n : Nat) (l : Bs) (hn : l.length = n) (h : Sl w X 1 (.slice A n c) n (BVs l)) :
    Calls Tryz.prog 14 #[.slice A n c] w fun e w' => e = .returned (.int .u32 (sum l : Int)) ∧ w = w' := by
  subst hn
  exact rsum_any w X A c l h
theorem bytesS_good {b : Bs} (h : (Cm.bytesS (b, 0) 524288).2.2 = 0) : ∃ x rest, Cm.bytesS (b, 0) 524288 = (x, (rest, 0)) ∧ rest.length ≤ b.length := by
  have h1 := Cm.bytesS_len (b, 0) 524288
  generalize Cm.bytesS (b, 0) 524288 = q at h h1 ⊢
  obtain ⟨x, rest, e⟩ := q
  simp only at h h1
  subst h
  exact ⟨x, rest, rfl, h1⟩

set_option maxRecDepth 100000 in
set_option maxHeartbeats 16000000 in
theorem runframe_short (w : World) (X : Nat → Prop) (A : Option Addr) (c : Nat) (b x rest : Bs) (h : Sl w X 1 (.slice A b.length c) b.length (BVs b)) (hb : b.length ≤ 140737488355328) (he : Cm.bytesS (b, 0) 524288 = (x, (rest, 0))) (hrl : rest.length ≤ b.length) (h4 : rest.length < 4) :
    Calls Tryz.prog 11 #[.slice A b.length c] w (NoRec w) := by
  have HR := Lib.hid (rread_any w X _ b.length b h)
  have HE := Lib.hid he
  have HTK : Hid (Cm.takeS (rest, 0) 4 = ([], ([], 10))) := Lib.hid (by rw [Cm.takeS, if_neg (by simp), if_neg (by omega), if_pos (by show (rest.length : Int) < 4; omega)])
  clear h he
  go_enter Tryz.func11, Tryz.ntmps11
  go_wp2_with fail
  refine HR.out.mono ?_
  rintro e w1 ⟨rfl, hr1, hb1⟩
  have HB1 := Lib.hid hb1
  have HBY := Lib.hid (Co.rbytes_any w1 X w.heap.size (b, 0) hr1 524288 (by omega) (by omega) hb)
  rw [HE.out] at HBY
  clear hr1 hb1
  go_wp2_with fail
  refine HBY.out.mono ?_
  rintro e w2 ⟨v, rfl, ho, hg, hr2⟩
  have HTA := Lib.hid (Co.rtake_any w2 X w.heap.size (rest, 0) hr2 4 (by simp only; omega))
  rw [HTK.out] at HTA
  obtain ⟨A2, n2, c2, hd2, hs2, hgd⟩ := hr2
  have hn2 : n2 = rest.length := by obtain ⟨A, c, _, h, _⟩ := hs2; rw [BVs_len] at h; simp only at h; omega
  have d0 := hd2.cell 0
  have d1 := hd2.cell 1
  simp only [List.getElem?_toArray, List.getElem?_cons_zero, List.getElem?_cons_succ] at d0 d1
  have HG := Lib.hid hg
  clear hd2 hs2 hgd ho hg HBY
  go_wp2_with fail
  refine HTA.out.mono ?_
  rintro e w3 ⟨v4, rfl, -, hg3, A3, n3, c3, hd3, -, -⟩
  have e1 := hd3.cell 1
  simp only [List.getElem?_toArray, List.getElem?_cons_zero, List.getElem?_cons_succ] at e1
  have HG3 := Lib.hid hg3
  clear hd3 hg3 HTA
  go_wp2_with fail
  go_ret3
  exact ⟨rfl, (HB1.out.grown HG.out HB1.out.size (fun k hk => by injection hk with hk; omega)).grown HG3.out (by have := HB1.out.size; have := HG.out.size; omega) (fun k hk => by injection hk with hk; omega)⟩

/-- The number that four bytes are. -/
def n4 (a b c d : UInt8) : Nat := a.toNat + 256 * b.toNat + 65536 * c.toNat + 16777216 * d.toNat
theorem n4_bits (a b c d : UInt8) : bits .or .u32 (bits .or .u32 (bits .or .u32 (a.toNat : Int) ((b.toNat : Int) * 256)) ((c.toNat : Int) * 65536)) ((d.toNat : Int) * 16777216) = (n4 a b c d : Int) := by
  have ha := a.toNat_lt
  have hb := b.toNat_lt
  have hc := c.toNat_lt
  have hd := d.toNat_lt
  have o1 : a.toNat ||| b.toNat * 256 = a.toNat + 256 * b.toNat := by
    have := Nat.shiftLeft_add_eq_or_of_lt (i := 8) (b := a.toNat) (by omega) b.toNat
    rw [Nat.shiftLeft_eq] at this
    rw [Nat.or_comm, ← this]; omega
  have o2 : (a.toNat + 256 * b.toNat) ||| c.toNat * 65536 = a.toNat + 256 * b.toNat + 65536 * c.toNat := by
    have := Nat.shiftLeft_add_eq_or_of_lt (i := 16) (b := a.toNat + 256 * b.toNat) (by omega) c.toNat
    rw [Nat.shiftLeft_eq] at this
    rw [Nat.or_comm, ← this]; omega
  have o3 : (a.toNat + 256 * b.toNat + 65536 * c.toNat) ||| d.toNat * 16777216 = n4 a b c d := by
    have := Nat.shiftLeft_add_eq_or_of_lt (i := 24) (b := a.toNat + 256 * b.toNat + 65536 * c.toNat) (by omega) d.toNat
    rw [Nat.shiftLeft_eq] at this
    rw [Nat.or_comm, ← this]; unfold n4; omega
  rw [show (b.toNat : Int) * 256 = ((b.toNat * 256 : Nat) : Int) by omega, u32_or_nat _ _ (by omega) (by omega), o1]
  rw [show (c.toNat : Int) * 65536 = ((c.toNat * 65536 : Nat) : Int) by omega, u32_or_nat _ _ (by omega) (by omega), o2]
  rw [show (d.toNat : Int) * 16777216 = ((d.toNat * 16777216 : Nat) : Int) by omega, u32_or_nat _ _ (by omega) (by omega), o3]
theorem own_four {w : World} {base : Nat} {v : Value} {a b c d : UInt8} (h : w.ownsRow base 5 1 v 4 (BVs [a, b, c, d])) : ∃ g cap, v = .slice (some ⟨g, 0, none⟩) 4 cap ∧ w.cell? ⟨g, 0, none⟩ = some (.int .u8 (a.toNat : Int)) ∧ w.cell? ⟨g, 1, none⟩ = some (.int .u8 (b.toNat : Int)) ∧ w.cell? ⟨g, 2, none⟩ = some (.int .u8 (c.toNat : Int)) ∧ w.cell? ⟨g, 3, none⟩ = some (.int .u8 (d.toNat : Int)) := by
  rcases h.2 with ⟨_, h0⟩ | ⟨g, cap, cur, rfl, hb, hg, hnc, hcm, hsz, ht⟩
  · omega
  · have cell : ∀ (j : Nat) (x : Value), (BVs [a, b, c, d])[j]? = some x → w.cell? ⟨g, j, none⟩ = some x := fun j x hx => by
      have hj : j < 4 * 1 := by have := (List.getElem?_eq_some_iff.1 hx).1; simpa [BVs] using this
      rw [← ht, List.getElem?_take, if_pos hj] at hx
      rw [cell_of_row w g j cur _ (0, 0) hg]
      simpa using hx
    exact ⟨g, cap, rfl, cell 0 _ rfl, cell 1 _ rfl, cell 2 _ rfl, cell 3 _ rfl⟩

set_option maxRecDepth 100000 in
set_option maxHeartbeats 16000000 in
theorem runframe_four (w : World) (X : Nat → Prop) (A : Option Addr) (c : Nat) (b x rest t : Bs) (s0 s1 s2 s3 : UInt8) (h : Sl w X 1 (.slice A b.length c) b.length (BVs b)) (hb : b.length ≤ 140737488355328) (he : Cm.bytesS (b, 0) 524288 = (x, (rest, 0))) (hrl : rest.length ≤ b.length) (h4 : rest = s0 :: s1 :: s2 :: s3 :: t) :
    Calls Tryz.prog 11 #[.slice A b.length c] w fun e w' => (sum (b.take (b.length - rest.length)) = n4 s0 s1 s2 s3 ∧ ∃ A' c', e = .returned (.tuple #[.slice A' x.length c', .int .i64 ((b.length - rest.length + 4 : Nat) : Int), .bool true]) ∧ w'.ownsRow w.heap.size 5 1 (.slice A' x.length c') x.length (BVs x) ∧ Below w.heap.size w w') ∨ (sum (b.take (b.length - rest.length)) ≠ n4 s0 s1 s2 s3 ∧ NoRec w e w') := by
  have HR := Lib.hid (rread_any w X _ b.length b h)
  have HE := Lib.hid he
  have HTK : Hid (Cm.takeS (rest, 0) 4 = ([s0, s1, s2, s3], (t, 0))) := Lib.hid (by rw [Cm.takeS, if_neg (by simp), if_neg (by omega), if_neg (by rw [h4]; simp only [List.length_cons]; omega), h4]; rfl)
  obtain ⟨en, hen⟩ : ∃ en, en = b.length - rest.length := ⟨_, rfl⟩
  have hc : b.length ≤ c := by obtain ⟨A0, c0, hv, _, hc, _⟩ := h; injection hv with _ _ e; omega
  have hut := fun W => Ga.slice_upto A b.length c en (by omega) W
  have sut : Sl w X 1 (.slice A (b.take en).length c) (b.take en).length (BVs (b.take en)) := by
    rw [List.length_take, Nat.min_eq_left (by omega), show BVs (b.take en) = (BVs b).take (en * 1) by simp [BVs]]
    exact h.upto (by omega)
  rw [List.length_take, Nat.min_eq_left (show en ≤ b.length by omega)] at sut
  have HTL : Hid ((b.take en).length = en) := Lib.hid (by rw [List.length_take]; omega)
  have HST := Lib.hid sut
  have hws : IntKind.i64.wrap ((b.length : Int) - (rest.length : Int)) = (en : Int) := by rw [wrap64 (by omega) (by omega)]; omega
  have hw4 : IntKind.i64.wrap ((en : Int) + 4) = (en : Int) + 4 := wrap64 (by omega) (by omega)
  have HEN := Lib.hid hen
  have hrb : rest.length ≤ 140737488355328 := by omega
  rw [← hen]
  clear h he sut hen hc h4
  go_enter Tryz.func11, Tryz.ntmps11
  go_wp2_with fail
  refine HR.out.mono ?_
  rintro e w1 ⟨rfl, hr1, hb1⟩
  have HB1 := Lib.hid hb1
  have HLT := Lib.hid hr1.lt
  have HBY := Lib.hid (Co.rbytes_any w1 X w.heap.size (b, 0) hr1 524288 (by omega) (by omega) hb)
  rw [HE.out] at HBY
  clear hr1 hb1
  go_wp2_with fail
  refine HBY.out.mono ?_
  rintro e w2 ⟨v, rfl, ho, hg, hr2⟩
  obtain ⟨Ax, cx, rfl⟩ := own_shape ho
  simp only at ho
  have HO := Lib.hid ho
  have HTA := Lib.hid (Co.rtake_any w2 X w.heap.size (rest, 0) hr2 4 (by simp only; omega))
  rw [HTK.out] at HTA
  obtain ⟨A2, n2, c2, hd2, hs2, hgd⟩ := hr2
  have hn2 : n2 = rest.length := by obtain ⟨A, c, _, h, _⟩ := hs2; rw [BVs_len] at h; simp only at h; omega
  subst hn2
  have d0 := hd2.cell 0
  have d1 := hd2.cell 1
  simp only [List.getElem?_toArray, List.getElem?_cons_zero, List.getElem?_cons_succ] at d0 d1
  have HG := Lib.hid hg
  clear hd2 hs2 hgd ho hg HBY
  go_wp2_with fail
  refine HTA.out.mono ?_
  rintro e w3 ⟨v4, rfl, ho4, hg3, A3, n3, c3, hd3, -, -⟩
  have e1 := hd3.cell 1
  simp only [List.getElem?_toArray, List.getElem?_cons_zero, List.getElem?_cons_succ] at e1
  obtain ⟨g4, cap4, rfl, q0, q1, q2, q3⟩ := own_four ho4
  have HG3 := Lib.hid hg3
  clear hd3 hg3 HTA ho4
  have HB3 : Hid (Below w.heap.size w w3) := Lib.hid ((HB1.out.grown HG.out HB1.out.size (fun k hk => by injection hk with hk; omega)).grown HG3.out (by have := HB1.out.size; have := HG.out.size; omega) (fun k hk => by injection hk with hk; omega))
  obtain ⟨su, hsu⟩ : ∃ su, su = sum (b.take en) := ⟨_, rfl⟩
  have HSQ : Hid (∀ n, Calls Tryz.prog 14 #[.slice A en c] (w3.drewN n) fun e w'' => e = .returned (.int .u32 (su : Int)) ∧ ∃ m, w'' = w3.drewN m) := Lib.hid fun n => Calls.quiet_of_same ((rsum_at _ X A c en (b.take en) HTL.out ((HST.out.after HB3.out).drewN n)).mono fun _ _ h => ⟨by rw [hsu]; exact h.1, h.2.symm⟩)
  have HSU := Lib.hid hsu
  have b0 := s0.toNat_lt
  have b1 := s1.toNat_lt
  have b2 := s2.toNat_lt
  have b3 := s3.toNat_lt
  have m0 : (s0.toNat : Int) % 4294967296 = (s0.toNat : Int) := by omega
  have m1 : (s1.toNat : Int) % 4294967296 = (s1.toNat : Int) := by omega
  have m2 : (s2.toNat : Int) % 4294967296 = (s2.toNat : Int) := by omega
  have m3 : (s3.toNat : Int) % 4294967296 = (s3.toNat : Int) := by omega
  have k1 : (s1.toNat : Int) * 256 % 4294967296 = (s1.toNat : Int) * 256 := by omega
  have k2 : (s2.toNat : Int) * 65536 % 4294967296 = (s2.toNat : Int) * 65536 := by omega
  have k3 : (s3.toNat : Int) * 16777216 % 4294967296 = (s3.toNat : Int) * 16777216 := by omega
  have hnb := n4_bits s0 s1 s2 s3
  clear hsu b0 b1 b2 b3
  go_wp2_with fail
  go_quiet ((go_at_call 14; exact HSQ.out _))
  by_cases hq : su = n4 s0 s1 s2 s3
  · have hq1 : ((su : Int) == (n4 s0 s1 s2 s3 : Int)) = true := by rw [hq]; exact beq_self_eq_true _
    go_wp2_with fail
    go_ret3
    have h2 : w2.heap.size ≤ w3.heap.size := HG3.out.size
    have ho3 := own_ch HO.out (Ch.of_grown (S := fun k => k = w.heap.size) HG3.out (fun k hk _ => by injection hk with hk; exact hk.symm)) (fun k hk e => by have := (HO.out.lt k hk).1; have := HLT.out; omega)
    have hbd := below_drewN (Below.refl w3.heap.size w3) nq
    exact .inl ⟨by rw [← HSU.out, hq], Ax, cx, rfl, own_base (own_below ho3 hbd) HB1.out.size, HB3.out.trans (hbd.mono HB3.out.size)⟩
  · have hq1 : ((su : Int) == (n4 s0 s1 s2 s3 : Int)) = false := by rw [beq_eq_false_iff_ne]; omega
    go_wp2_with fail
    go_ret3
    have hbd := below_drewN (Below.refl w3.heap.size w3) nq
    exact .inr ⟨by rw [← HSU.out]; exact hq, rfl, HB3.out.trans (hbd.mono HB3.out.size)⟩

end Go.Proofs.YtdkjimfehipeaaaGreatDoor.Vt

/-
  Contract of the document's Unframe, whole.
-/
namespace Go.Proofs.YtdkjimfehipeaaaGreatDoor.Vu
open Go Go.RowKit Ck Kw Ga Wc Wf Wa Wb Wd Vr Vs Vt
set_option linter.unusedVariables false

theorem n4_le4 {s : Nat} (h : s < 4294967296) : n4 (UInt8.ofNat (s % 256)) (UInt8.ofNat (s / 256 % 256)) (UInt8.ofNat (s / 65536 % 256)) (UInt8.ofNat (s / 16777216 % 256)) = s := by
  unfold n4
  rw [Cm.toNat_ofNat (by omega), Cm.toNat_ofNat (by omega), Cm.toNat_ofNat (by omega), Cm.toNat_ofNat (by omega)]
  omega
theorem le4_n4 (a b c d : UInt8) : le4 (n4 a b c d) = [a, b, c, d] := by
  have ha := a.toNat_lt
  have hb := b.toNat_lt
  have hc := c.toNat_lt
  have hd := d.toNat_lt
  have e1 : n4 a b c d % 256 = a.toNat := by unfold n4; omega
  have e2 : n4 a b c d / 256 % 256 = b.toNat := by unfold n4; omega
  have e3 : n4 a b c d / 65536 % 256 = c.toNat := by unfold n4; omega
  have e4 : n4 a b c d / 16777216 % 256 = d.toNat := by unfold n4; omega
  simp only [le4, e1, e2, e3, e4, UInt8.ofNat_toNat]
theorem bytes_len {b x r : Bs} {m : Nat} (h : Cm.bytesS (b, 0) (m : Int) = (x, (r, 0))) : x.length ≤ m := by
  have h1 : (Cm.bytesS (b, 0) (m : Int)).2.2 = 0 := by rw [h]
  obtain ⟨_, h2, h3, h4⟩ := Cm.takeS_ok h1
  have h5 : x = ((Cm.numS (b, 0) ((m : Int)).toNat).2.1).take ((Cm.numS (b, 0) ((m : Int)).toNat).1 : Int).toNat := by
    have := congrArg Prod.fst h
    unfold Cm.bytesS at this
    rw [h4] at this
    exact this.symm
  have h6 := Cm.numS_le (b, 0) ((m : Int)).toNat
  rw [Int.toNat_natCast] at h5 h6
  rw [Int.toNat_natCast] at h5
  rw [h5, List.length_take]
  omega

theorem runframe_yes (w : World) (X : Nat → Prop) (A : Option Addr) (c : Nat) (b x r : Bs) (h : Sl w X 1 (.slice A b.length c) b.length (BVs b)) (hb : b.length ≤ 140737488355328) (hf : Fr b x r) :
    Calls Tryz.prog 11 #[.slice A b.length c] w fun e w' => Unframed w x e w' := by
  obtain ⟨hbe, hx⟩ := hf
  have hS := sum_lt (Cm.encB x)
  obtain ⟨s, hs⟩ : ∃ s, s = sum (Cm.encB x) := ⟨_, rfl⟩
  have he : b = Cm.encB x ++ (le4 s ++ r) := by rw [hbe, frame, List.append_assoc, hs]
  have hby : Cm.bytesS (b, 0) 524288 = (x, (le4 s ++ r, 0)) := by rw [he]; exact Cm.bytesS_enc (by omega) (by omega) _
  have hlen : b.length = (Cm.encB x).length + (le4 s ++ r).length := by rw [he, List.length_append]
  have hfl : (frame x).length = (Cm.encB x).length + 4 := by simp [frame, le4_len]
  rw [← hs] at hS
  refine (runframe_four w X A c b x (le4 s ++ r) r _ _ _ _ h hb hby (by omega) rfl).mono ?_
  have e1 : b.length - (le4 s ++ r).length = (Cm.encB x).length := by omega
  rw [e1, n4_le4 hS, show b.take (Cm.encB x).length = Cm.encB x by rw [he, List.take_left]]
  rintro e w' (⟨_, A', c', rfl, ho, hw⟩ | ⟨hne, _⟩)
  · exact ⟨A', c', by rw [hfl], ho, hw⟩
  · exact absurd hs.symm hne
theorem runframe_no (w : World) (X : Nat → Prop) (A : Option Addr) (c : Nat) (b : Bs) (h : Sl w X 1 (.slice A b.length c) b.length (BVs b)) (hb : b.length ≤ 140737488355328) (hf : ∀ x r, ¬ Fr b x r) :
    Calls Tryz.prog 11 #[.slice A b.length c] w (NoRec w) := by
  by_cases he : (Cm.bytesS (b, 0) 524288).2.2 = 0
  · obtain ⟨x, rest, h1, h2⟩ := Cm.bytesS_one he
    have hlen : b.length = (Cm.encB x).length + rest.length := by rw [h2, List.length_append]
    by_cases h4 : rest.length < 4
    · exact runframe_short w X A c b x rest h hb h1 (by omega) h4
    · match rest, h4 with
      | s0 :: s1 :: s2 :: s3 :: t, _ =>
        refine (runframe_four w X A c b x _ t s0 s1 s2 s3 h hb h1 (by omega) rfl).mono ?_
        rintro e w' (⟨hq, _⟩ | ⟨_, hn⟩)
        · exfalso
          have e1 : b.length - (s0 :: s1 :: s2 :: s3 :: t).length = (Cm.encB x).length := by omega
          rw [e1, show b.take (Cm.encB x).length = Cm.encB x by rw [h2, List.take_left]] at hq
          refine hf x t ⟨?_, bytes_len (m := 524288) h1⟩
          rw [frame, hq, le4_n4, h2, List.append_assoc]
          rfl
        · exact hn
      | [], h => simp at h
      | [_], h => simp at h
      | [_, _], h => simp at h
      | [_, _, _], h => simp at h
  · exact runframe_err w X A c b h hb he

end Go.Proofs.YtdkjimfehipeaaaGreatDoor.Vu

/-
  WalFrames: the walk.
-/
namespace Go.Proofs.YtdkjimfehipeaaaGreatDoor.Yf
open Go Go.RowKit Ck Kw Ga Wc Wf Wa Wb Wd We Vr Vs Vt Vu
attribute [local go_sem ↓] Go.wp_at_zero Go.wp_at_succ
set_option linter.unusedVariables false

def frameS (b : Bs) : Bs × Nat := if b.length ≤ 524288 then (frame b, 0) else ([], 3)
/-- What Frame answers. -/
def FrameP (w : World) (r : Bs × Nat) (e : Ending) (w' : World) : Prop :=
  ∃ A c, e = .returned (.tuple #[.slice A r.1.length c, .int .i64 (r.2 : Int)]) ∧ w'.ownsRow w.heap.size 5 1 (.slice A r.1.length c) r.1.length (BVs r.1) ∧ Below w.heap.size w w'
theorem frame_p (w : World) (X : Nat → Prop) (A : Option Addr) (c : Nat) (b : Bs) (h : Sl w X 1 (.slice A b.length c) b.length (BVs b)) : Calls Tryz.prog 8 #[.slice A b.length c] w (FrameP w (frameS b)) := by
  unfold frameS
  by_cases hb : b.length ≤ 524288
  · rw [if_pos hb]
    exact frame_any w X A c b h hb
  · rw [if_neg hb]
    refine (frame_long w A b.length c (by omega)).mono ?_
    rintro e w' ⟨rfl, rfl⟩
    exact ⟨none, 0, rfl, World.ownsRow_nil _ _ _ _, Below.refl _ _⟩
theorem rframe_p (w : World) (X : Nat → Prop) (A : Option Addr) (c : Nat) (b : Bs) (h : Sl w X 1 (.slice A b.length c) b.length (BVs b)) : Calls Tryz.prog 9 #[.slice A b.length c] w (FrameP w (frameS b)) := by
  unfold frameS
  by_cases hb : b.length ≤ 524288
  · rw [if_pos hb]
    exact rframe_any w X A c b h hb
  · rw [if_neg hb]
    refine (rframe_long w A b.length c (by omega)).mono ?_
    rintro e w' ⟨rfl, rfl⟩
    exact ⟨none, 0, rfl, World.ownsRow_nil _ _ _ _, Below.refl _ _⟩
/-- What Unframe answers: with a record, or with none. -/
def UnP (w : World) (r : Bs × Nat × Bool) (e : Ending) (w' : World) : Prop :=
  ∃ A c, e = .returned (.tuple #[.slice A r.1.length c, .int .i64 (r.2.1 : Int), .bool r.2.2]) ∧ w'.ownsRow w.heap.size 5 1 (.slice A r.1.length c) r.1.length (BVs r.1) ∧ Below w.heap.size w w'
theorem un_p (b : Bs) (hb : b.length ≤ 140737488355328) : ∃ r : Bs × Nat × Bool, (∀ (w : World) (X : Nat → Prop) (A : Option Addr) (c : Nat), Sl w X 1 (.slice A b.length c) b.length (BVs b) → Calls Tryz.prog 10 #[.slice A b.length c] w (UnP w r)) ∧
    (∀ (w : World) (X : Nat → Prop) (A : Option Addr) (c : Nat), Sl w X 1 (.slice A b.length c) b.length (BVs b) → Calls Tryz.prog 11 #[.slice A b.length c] w (UnP w r)) := by
  by_cases hf : ∃ x r, Fr b x r
  · obtain ⟨x, r, hf⟩ := hf
    exact ⟨(x, (frame x).length, true), fun w X A c h => unframe_yes w X A c b x r h hb hf, fun w X A c h => runframe_yes w X A c b x r h hb hf⟩
  · have hf : ∀ x r, ¬ Fr b x r := fun x r h => hf ⟨x, r, h⟩
    refine ⟨([], 0, false), fun w X A c h => (unframe_no w X A c b h hb hf).mono ?_, fun w X A c h => (runframe_no w X A c b h hb hf).mono ?_⟩
    · rintro e w' ⟨rfl, hb⟩
      exact ⟨none, 0, rfl, World.ownsRow_nil _ _ _ _, hb⟩
    · rintro e w' ⟨rfl, hb⟩
      exact ⟨none, 0, rfl, World.ownsRow_nil _ _ _ _, hb⟩

set_option maxRecDepth 100000 in
set_option maxHeartbeats 16000000 in
theorem frames_law (w : World) (X Y : Nat → Prop) (A B : Option Addr) (c d : Nat) (b x : Bs) (hT : Tab w) (h : Sl w X 1 (.slice A b.length c) b.length (BVs b)) (k : Sl w Y 1 (.slice B x.length d) x.length (BVs x)) (hx : x.length ≤ 140737488355328) :
    Calls Tryz.prog 3 #[.slice A b.length c, .slice B x.length d] w fun e w' => e = .returned (.bool true) ∧ Below w.heap.size w w' := by
  obtain ⟨⟨u, n, is⟩, hu1, hu2⟩ := un_p x hx
  have HT := Lib.hid hT
  have H := Lib.hid h
  have K := Lib.hid k
  have HU1 := Lib.hid hu1
  have HU2 := Lib.hid hu2
  obtain ⟨⟨fb, fc⟩, hfr⟩ : ∃ r, r = frameS b := ⟨_, rfl⟩
  have HF1 := Lib.hid (frame_p w X A c b h)
  rw [← hfr] at HF1
  have HF2 : Hid (∀ W, Below w.heap.size w W → Calls Tryz.prog 9 #[.slice A b.length c] W (FrameP W (fb, fc))) := Lib.hid fun W hb => by rw [hfr]; exact rframe_p W X A c b (h.after hb)
  clear hT h k hu1 hu2 hfr hx
  go_enter Tryz.func3, Tryz.ntmps3
  go_wp2_with fail
  refine HF1.out.mono ?_
  rintro e w1 ⟨A1, c1, rfl, ho1, hb1⟩
  have HO1 := Lib.hid ho1
  have HB1 := Lib.hid hb1
  have HF2 := Lib.hid (HF2.out w1 hb1)
  clear ho1 hb1 HF1
  go_wp2_with fail
  refine HF2.out.mono ?_
  rintro e w2 ⟨A2, c2, rfl, ho2, hb2⟩
  have HO2 := Lib.hid ho2
  have HB12 := Lib.hid hb2
  have HB2 := Lib.hid (HB1.out.trans (hb2.mono HB1.out.size))
  have HU1 := Lib.hid (HU1.out w2 Y B d (K.out.after HB2.out))
  clear ho2 hb2 HF2
  go_wp2_with fail
  refine HU1.out.mono ?_
  rintro e w3 ⟨A3, c3, rfl, ho3, hb3⟩
  have HO3 := Lib.hid ho3
  have HB23 := Lib.hid hb3
  have HB3 := Lib.hid (HB2.out.trans (hb3.mono HB2.out.size))
  have HU2 := Lib.hid (HU2.out w3 Y B d (K.out.after HB3.out))
  clear ho3 hb3 HU1
  go_wp2_with fail
  refine HU2.out.mono ?_
  rintro e w4 ⟨A4, c4, rfl, ho4, hb4⟩
  have HO4 := Lib.hid ho4
  have HB34 := Lib.hid hb4
  have HB4 := Lib.hid (HB3.out.trans (hb4.mono HB3.out.size))
  have HBG := Lib.hid (Vd.begun_any w4 (HT.out.after HB4.out))
  clear ho4 hb4 HU2
  go_wp2_with fail
  refine HBG.out.mono ?_
  rintro e w5 ⟨rfl, hb5⟩
  have HB45 := Lib.hid hb5
  have HB5 := Lib.hid (HB4.out.trans (hb5.mono HB4.out.size))
  have HS1 := Lib.hid (sum_any w5 X A c b (H.out.after HB5.out))
  have HS2 := Lib.hid (rsum_any w5 X A c b (H.out.after HB5.out))
  have q1 : Sl w5 (fun _ => False) 1 (.slice A1 fb.length c1) fb.length (BVs fb) := Sl.of_own (own_below (own_below (own_below (own_below HO1.out HB12.out) HB23.out) HB34.out) HB45.out) (fun _ _ _ h => h)
  have q2 : Sl w5 (fun _ => False) 1 (.slice A2 fb.length c2) fb.length (BVs fb) := Sl.of_own (own_below (own_below (own_below HO2.out HB23.out) HB34.out) HB45.out) (fun _ _ _ h => h)
  have q3 : Sl w5 (fun _ => False) 1 (.slice A3 u.length c3) u.length (BVs u) := Sl.of_own (own_below (own_below HO3.out HB34.out) HB45.out) (fun _ _ _ h => h)
  have q4 : Sl w5 (fun _ => False) 1 (.slice A4 u.length c4) u.length (BVs u) := Sl.of_own (own_below HO4.out HB45.out) (fun _ _ _ h => h)
  have HE1 := Lib.hid (equal_any w5 _ _ _ _ _ _ fb fb q1 q2)
  have HE2 := Lib.hid (equal_any w5 _ _ _ _ _ _ u u q3 q4)
  have e1 : (fb == fb) = true := beq_self_eq_true _
  have e2 : (u == u) = true := beq_self_eq_true _
  rw [e1] at HE1
  rw [e2] at HE2
  obtain ⟨su, hsu⟩ : ∃ su, su = sum b := ⟨_, rfl⟩
  rw [← hsu] at HS1 HS2
  clear hb5 HBG q1 q2 q3 q4 e1 e2 hsu
  dsimp only
  go_wp2_with fail
  refine HS1.out.mono ?_
  rintro e w6 ⟨rfl, rfl⟩
  go_wp2_with fail
  refine HS2.out.mono ?_
  rintro e w6 ⟨rfl, rfl⟩
  go_wp2_with fail
  refine HE1.out.mono ?_
  rintro e w6 ⟨rfl, rfl⟩
  go_wp2_with fail
  refine HE2.out.mono ?_
  rintro e w6 ⟨rfl, rfl⟩
  go_wp2_with fail
  go_ret
  exact ⟨by simp, HB5.out⟩

end Go.Proofs.YtdkjimfehipeaaaGreatDoor.Yf

/-
  WalFrames: for every pair of byte strings the law answers true and the arguments read as they did: sums, frames, and the record with which any bytes begin are those of the document.
  No condition but what the row lists: the tables that the program's text lays.
-/
namespace Go.Proofs.YtdkjimfehipeaaaGreatDoor.L4Frames
open Go Go.RowKit Go.ChangeShapes Go.WideShapes Go.ChangeAt Ck Kp
set_option linter.unusedVariables false

theorem own : ownKnob Tryz.prog.godebug = none := by kernel_rfl
theorem laidOut : laidOutB Tryz.prog = true := by kernel_rfl
theorem readable : (Tryz.f3.params.toList.all fun t => Tryz.prog.readableRec t && decide (t < Tryz.prog.types.size)) = true := by kernel_rfl
/-- What the row lists. -/
def laid : List (String × DataW Unit) := Rows.walFramesRow.laid
theorem tab_of {W : World} (h : laidMetH Tryz.prog laid W) : We.Tab W := by
  rw [MakeChecks.laidMetH_plain _ _ _ (by kernel_rfl)] at h
  exact Lib.tabIs_of_head (t := 215) (e := 123) (n := 20) We.tab_g (by kernel_rfl) (by kernel_rfl) (by kernel_rfl) (by kernel_rfl) (by kernel_rfl) (laidMet.tail (laidMet.tail h))
theorem door_met (os : Os) (args : Array Value) : laidMetH Tryz.prog laid ((World.doorLaid Tryz.prog 400 os).forCall (fun _ _ => 0) ⟨#[], args, []⟩).memory :=
  laidMetH_of_parts3 (fuel := 8) (laidMet_of_run' 8 (by kernel_rfl) (by kernel_rfl)) (by kernel_rfl) (by kernel_rfl)

set_option maxRecDepth 100000 in
theorem contract (H : Type) (enc : TypeId × Value → H) (W : World) (base : Nat) (args : Array Value) (ds gs : List (DataW H)) (before : List MemPlace)
    (hval : ∀ (j : Nat) t v, Tryz.f3.params[j]? = some t → args[j]? = some v → Value.okWide Tryz.prog W .any base t v)
    (hW : DataW.Whole enc Tryz.prog Tryz.f3.params.toList Rows.walFramesSpec.vars false W args.toList ds gs before)
    (hz : (DataW.weightsEach Tryz.prog (Tryz.f3.params.toList ++ Rows.walFramesSpec.plain.varTypes Tryz.prog) (ds ++ gs)).all (· ≤ reachBytes) = true) (hL : laidMetH Tryz.prog laid W) :
    Calls Tryz.prog 3 args W fun e W' => ∃ v, e = .returned v ∧ Rows.walFramesSpec.post enc Tryz.prog Tryz.f3 false true false false W args v W' := by
  have hW' := hW
  obtain ⟨p, q, hA0, hV, rfl, hfz, hnd⟩ := hW
  have hA : DataW.TrodAll enc Tryz.prog W 0 (fun _ => true) true Tryz.f3.params.toList args.toList ds p := hA0
  rw [Tryz.params3] at hA hval hz
  obtain ⟨v0, v1, d0, d1, p0, p1, rfl, rfl, rfl, h0, h1⟩ := trodAll_two hA
  obtain ⟨rfl, rfl⟩ := trodVars_none hV
  obtain ⟨A0, n0, c0, rfl⟩ := okWide_slice Tryz.underlying22 (hval 0 22 v0 rfl rfl)
  obtain ⟨f0, hf0⟩ := h0
  obtain ⟨b, hb0, hl0⟩ := open_bytesW hf0
  have hn0 : n0 = b.length := by obtain ⟨A, c, hv, _⟩ := hb0; exact (Value.slice.inj hv).2.1
  subst hn0
  obtain ⟨A1, n1, c1, rfl⟩ := okWide_slice Tryz.underlying22 (hval 1 22 v1 rfl rfl)
  obtain ⟨f1, hf1⟩ := h1
  obtain ⟨x, hb1, hl1⟩ := open_bytesW hf1
  have hr1 := hl1 _ (reach_of hz (j := 1) rfl rfl)
  have hn1 : n1 = x.length := by obtain ⟨A, c, hv, _⟩ := hb1; exact (Value.slice.inj hv).2.1
  subst hn1
  simp only [List.append_nil] at hW'
  refine (Yf.frames_law W _ _ A0 A1 c0 c1 b x (tab_of hL) hb0 hb1 (by omega)).mono fun e W' ⟨he, hg⟩ => ⟨_, he, ?_⟩
  exact law_post laidOut readable rfl rfl Tryz.underlying4 hW' rfl rfl rfl hg

set_option maxRecDepth 100000 in
theorem lifted (os : Os) (started : os.Started) (H : Type) (enc : TypeId × Value → H) :
    ReturnsInHanded {} Tryz.checked os 3 .any (fun w args => (Rows.walFramesSpec.pre enc Tryz.prog Tryz.f3 [] false w args ∧ laidMetH Tryz.prog laid w) ∧ sizedMet enc Tryz.prog Tryz.f3 (OpenSpec.ofChange Rows.walFramesSpec) false w args)
      (Rows.walFramesSpec.post enc Tryz.prog Tryz.f3 false true false false) := by
  refine returnsInHanded_of_change_and (C := Tryz.checked) (X := fun w _ => laidMetH Tryz.prog laid w) (fun _ _ _ hh h => h.of_heap hh) own started (by kernel_rfl) Tryz.func3
    (ChangeSpec.witness_shaped (enc := enc) (C := Tryz.checked) (os := os) (X := fun w _ => laidMetH Tryz.prog laid w) false (World.doorLaid Tryz.prog 400 os) #[.slice none 0 0, .slice none 0 0] 8 rfl (World.shaped_of_RefB (by kernel_rfl) (by kernel_rfl)) (by kernel_rfl) (by kernel_rfl) (by kernel_rfl) (door_met os _)) ?_
  intro W base args ds gs before hval hW _ hz hL _
  exact contract H enc W base args ds gs before hval hW hz hL

theorem row_holds : Rows.WalFramesSaid :=
  OpenClaim.holds_of_wide 3 Tryz.f3 rfl rfl rfl rfl rfl rfl rfl ⟨rfl, rfl, rfl, rfl, rfl⟩ rfl rfl rfl rfl rfl (by kernel_rfl) Tryz.func3 (by kernel_rfl)
    (of_decide_eq_true (by kernel_rfl)) (by unfold Func.isWrapper; first | (rw [if_pos (by decide +kernel)]; kernel_rfl) | (rw [if_neg (by decide +kernel)]; exact ⟨rfl, rfl⟩))
    (fun os started H enc _ => lifted os started H enc)

theorem proved : Rows.WalFramesCardSaid :=
  Claim7.holds_tied_plain_at .later [] [.data, .data, .data, .sentinel, .sentinel] true (true, "0fec2a51443b1fef6fd5493d02ca5677c791d6a1991a9bcdb9d0b11b211f3f4e") true
    row_holds (fun _ h => by cases h) (by kernel_rfl) (fun _ h => by cases h) walFrames_row_tie rfl ⟨rfl, rfl⟩ (by kernel_rfl) rfl
    (fun f fn hf hfn => by
      obtain rfl : f = 3 := Option.some.inj ((show Tryz.prog.funcNamed "bulla/bullalaw04.WalFrames" = some 3 by kernel_rfl).symm.trans hf) |>.symm
      obtain rfl : fn = Tryz.f3 := (Option.some.inj (Tryz.func3.symm.trans hfn)).symm
      exact ⟨by kernel_rfl, fun j t ht => by
        rw [Tryz.params3] at ht
        have hm : t ∈ [22, 22] := by simpa using Array.mem_of_getElem? ht
        have hall : ([22, 22].all fun u => !Tryz.prog.wantsStandIn u) = true := by kernel_rfl
        exact (show Tryz.prog.wantsStandIn t = false by simpa using List.all_eq_true.1 hall t hm)⟩)
    (by kernel_rfl)

end Go.Proofs.YtdkjimfehipeaaaGreatDoor.L4Frames

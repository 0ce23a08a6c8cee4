import Derived.Test.YtdkjimfehipeaaaGreatDoorT14
/-
  Contract of the document's Unframe, for layer 4.
-/
namespace Go.Proofs.YtdkjimfehipeaaaGreatDoor.Vt
open Go Go.RowKit Ck Kw Ga Wc Wf Wa Wb Wd Vr Vs Cf Cj
attribute [local go_sem ↓] Go.wp_at_zero Go.wp_at_succ
set_option linter.unusedVariables false

/-- No frame: no record. -/
def NoRec (w : World) (e : Ending) (w' : World) : Prop := e = .returned (.tuple #[.slice none 0 0, .int .i64 0, .bool false]) ∧ Below w.heap.size w w'

set_option maxRecDepth 100000 in
set_option maxHeartbeats 4000000 in
theorem runframe_err (w : World) (X : Nat → Prop) (A : Option Addr) (c : Nat) (b : Bs) (h : Sl w X 1 (.slice A b.length c) b.length (BVs b)) (hb : b.length ≤ 140737488355328) (he : (Cm.bytesS (b, 0) 524288).2.2 ≠ 0) :
    Calls Tryz.prog 11 #[.slice A b.length c] w (NoRec w) := by
  have HR := Lib.hid (rread_any w X _ b.length b h)
  have HE := Lib.hid he
  clear h he
  go_enter Tryz.func11, Tryz.ntmps11
  go_wp2_with fail
  refine HR.out.mono ?_
  rintro e w1 ⟨rfl, hr1, hb1⟩
  have HB1 := Lib.hid hb1
  have HBY := Lib.hid (Co.rbytes_any w1 X w.heap.size (b, 0) hr1 524288 (by omega) (by omega) hb)
  clear hr1 hb1
  go_wp2_with fail
  refine HBY.out.mono ?_
  rintro e w2 ⟨v, rfl, ho, hg, A2, n2, c2, hd2, hs2, hgd⟩
  have d0 := hd2.cell 0
  have d1 := hd2.cell 1
  simp only [List.getElem?_toArray, List.getElem?_cons_zero, List.getElem?_cons_succ] at d0 d1
  have hne : ((Cm.bytesS (b, 0) 524288).2.2 == 0) = false := by rw [beq_eq_false_iff_ne]; exact HE.out
  have HG := Lib.hid hg
  obtain ⟨ee, hee⟩ : ∃ ee, ee = (Cm.bytesS (b, 0) 524288).2.2 := ⟨_, rfl⟩
  rw [← hee] at d1 hne
  clear hd2 hs2 hgd ho hg hee HBY
  go_wp2_with fail
  go_ret3
  exact ⟨rfl, HB1.out.grown HG.out HB1.out.size (fun k hk => by injection hk with hk; omega)⟩

theorem rsum_at (w : World) (X : Nat → Prop) (A : Option Addr) (c n : Nat) (l : Bs) (hn : l.length = n) (h : Sl w X 1 (.slice A n c) n (BVs l)) :
    Calls Tryz.prog 14 #[.slice A n c] w fun e w' => e = .returned (.int .u32 (sum l : Int)) ∧ w = w' := by
  subst hn
  exact rsum_any w X A c l h
theorem bytesS_good {b : Bs} (h : (Cm.bytesS (b, 0) 524288).2.2 = 0) : ∃ x rest, Cm.bytesS (b, 0) 524288 = (x, (rest, 0)) ∧ rest.length ≤ b.length := by
  have h1 := Cm.bytesS_len (b, 0) 524288
  generalize Cm.bytesS (b, 0) 524288 = q at h h1 ⊢
  obtain ⟨x, rest, e⟩ := q
  simp only at h h1
  subst h
  exact ⟨x, rest, rfl, h1⟩

set_option maxRecDepth 100000 in
set_option maxHeartbeats 4000000 in
theorem runframe_short (w : World) (X : Nat → Prop) (A : Option Addr) (c : Nat) (b x rest : Bs) (h : Sl w X 1 (.slice A b.length c) b.length (BVs b)) (hb : b.length ≤ 140737488355328) (he : Cm.bytesS (b, 0) 524288 = (x, (rest, 0))) (hrl : rest.length ≤ b.length) (h4 : rest.length < 4) :
    Calls Tryz.prog 11 #[.slice A b.length c] w (NoRec w) := by
  have HR := Lib.hid (rread_any w X _ b.length b h)
  have HE := Lib.hid he
  have HTK : Hid (Cm.takeS (rest, 0) 4 = ([], ([], 10))) := Lib.hid (by rw [Cm.takeS, if_neg (by simp), if_neg (by omega), if_pos (by show (rest.length : Int) < 4; omega)])
  clear h he
  go_enter Tryz.func11, Tryz.ntmps11
  go_wp2_with fail
  refine HR.out.mono ?_
  rintro e w1 ⟨rfl, hr1, hb1⟩
  have HB1 := Lib.hid hb1
  have HBY := Lib.hid (Co.rbytes_any w1 X w.heap.size (b, 0) hr1 524288 (by omega) (by omega) hb)
  rw [HE.out] at HBY
  clear hr1 hb1
  go_wp2_with fail
  refine HBY.out.mono ?_
  rintro e w2 ⟨v, rfl, ho, hg, hr2⟩
  have HTA := Lib.hid (Co.rtake_any w2 X w.heap.size (rest, 0) hr2 4 (by simp only; omega))
  rw [HTK.out] at HTA
  obtain ⟨A2, n2, c2, hd2, hs2, hgd⟩ := hr2
  have hn2 : n2 = rest.length := by obtain ⟨A, c, _, h, _⟩ := hs2; rw [BVs_len] at h; simp only at h; omega
  have d0 := hd2.cell 0
  have d1 := hd2.cell 1
  simp only [List.getElem?_toArray, List.getElem?_cons_zero, List.getElem?_cons_succ] at d0 d1
  have HG := Lib.hid hg
  clear hd2 hs2 hgd ho hg HBY
  go_wp2_with fail
  refine HTA.out.mono ?_
  rintro e w3 ⟨v4, rfl, -, hg3, A3, n3, c3, hd3, -, -⟩
  have e1 := hd3.cell 1
  simp only [List.getElem?_toArray, List.getElem?_cons_zero, List.getElem?_cons_succ] at e1
  have HG3 := Lib.hid hg3
  clear hd3 hg3 HTA
  go_wp2_with fail
  go_ret3
  exact ⟨rfl, (HB1.out.grown HG.out HB1.out.size (fun k hk => by injection hk with hk; omega)).grown HG3.out (by have := HB1.out.size; have := HG.out.size; omega) (fun k hk => by injection hk with hk; omega)⟩

/-- The number that four bytes are. -/
def n4 (a b c d : UInt8) : Nat := a.toNat + 256 * b.toNat + 65536 * c.toNat + 16777216 * d.toNat
theorem n4_bits (a b c d : UInt8) : bits .or .u32 (bits .or .u32 (bits .or .u32 (a.toNat : Int) ((b.toNat : Int) * 256)) ((c.toNat : Int) * 65536)) ((d.toNat : Int) * 16777216) = (n4 a b c d : Int) := by
  have ha := a.toNat_lt
  have hb := b.toNat_lt
  have hc := c.toNat_lt
  have hd := d.toNat_lt
  have o1 : a.toNat ||| b.toNat * 256 = a.toNat + 256 * b.toNat := by
    have := Nat.shiftLeft_add_eq_or_of_lt (i := 8) (b := a.toNat) (by omega) b.toNat
    rw [Nat.shiftLeft_eq] at this
    rw [Nat.or_comm, ← this]; omega
  have o2 : (a.toNat + 256 * b.toNat) ||| c.toNat * 65536 = a.toNat + 256 * b.toNat + 65536 * c.toNat := by
    have := Nat.shiftLeft_add_eq_or_of_lt (i := 16) (b := a.toNat + 256 * b.toNat) (by omega) c.toNat
    rw [Nat.shiftLeft_eq] at this
    rw [Nat.or_comm, ← this]; omega
  have o3 : (a.toNat + 256 * b.toNat + 65536 * c.toNat) ||| d.toNat * 16777216 = n4 a b c d := by
    have := Nat.shiftLeft_add_eq_or_of_lt (i := 24) (b := a.toNat + 256 * b.toNat + 65536 * c.toNat) (by omega) d.toNat
    rw [Nat.shiftLeft_eq] at this
    rw [Nat.or_comm, ← this]; unfold n4; omega
  rw [show (b.toNat : Int) * 256 = ((b.toNat * 256 : Nat) : Int) by omega, u32_or_nat _ _ (by omega) (by omega), o1]
  rw [show (c.toNat : Int) * 65536 = ((c.toNat * 65536 : Nat) : Int) by omega, u32_or_nat _ _ (by omega) (by omega), o2]
  rw [show (d.toNat : Int) * 16777216 = ((d.toNat * 16777216 : Nat) : Int) by omega, u32_or_nat _ _ (by omega) (by omega), o3]
theorem own_four {w : World} {base : Nat} {v : Value} {a b c d : UInt8} (h : w.ownsRow base 5 1 v 4 (BVs [a, b, c, d])) : ∃ g cap, v = .slice (some ⟨g, 0, none⟩) 4 cap ∧ w.cell? ⟨g, 0, none⟩ = some (.int .u8 (a.toNat : Int)) ∧ w.cell? ⟨g, 1, none⟩ = some (.int .u8 (b.toNat : Int)) ∧ w.cell? ⟨g, 2, none⟩ = some (.int .u8 (c.toNat : Int)) ∧ w.cell? ⟨g, 3, none⟩ = some (.int .u8 (d.toNat : Int)) := by
  rcases h.2 with ⟨_, h0⟩ | ⟨g, cap, cur, rfl, hb, hg, hnc, hcm, hsz, ht⟩
  · omega
  · have cell : ∀ (j : Nat) (x : Value), (BVs [a, b, c, d])[j]? = some x → w.cell? ⟨g, j, none⟩ = some x := fun j x hx => by
      have hj : j < 4 * 1 := by have := (List.getElem?_eq_some_iff.1 hx).1; simpa [BVs] using this
      rw [← ht, List.getElem?_take, if_pos hj] at hx
      rw [cell_of_row w g j cur _ (0, 0) hg]
      simpa using hx
    exact ⟨g, cap, rfl, cell 0 _ rfl, cell 1 _ rfl, cell 2 _ rfl, cell 3 _ rfl⟩

set_option maxRecDepth 100000 in
set_option maxHeartbeats 8000000 in
theorem runframe_four (w : World) (X : Nat → Prop) (A : Option Addr) (c : Nat) (b x rest t : Bs) (s0 s1 s2 s3 : UInt8) (h : Sl w X 1 (.slice A b.length c) b.length (BVs b)) (hb : b.length ≤ 140737488355328) (he : Cm.bytesS (b, 0) 524288 = (x, (rest, 0))) (hrl : rest.length ≤ b.length) (h4 : rest = s0 :: s1 :: s2 :: s3 :: t) :
    Calls Tryz.prog 11 #[.slice A b.length c] w fun e w' => (sum (b.take (b.length - rest.length)) = n4 s0 s1 s2 s3 ∧ ∃ A' c', e = .returned (.tuple #[.slice A' x.length c', .int .i64 ((b.length - rest.length + 4 : Nat) : Int), .bool true]) ∧ w'.ownsRow w.heap.size 5 1 (.slice A' x.length c') x.length (BVs x) ∧ Below w.heap.size w w') ∨ (sum (b.take (b.length - rest.length)) ≠ n4 s0 s1 s2 s3 ∧ NoRec w e w') := by
  have HR := Lib.hid (rread_any w X _ b.length b h)
  have HE := Lib.hid he
  have HTK : Hid (Cm.takeS (rest, 0) 4 = ([s0, s1, s2, s3], (t, 0))) := Lib.hid (by rw [Cm.takeS, if_neg (by simp), if_neg (by omega), if_neg (by rw [h4]; simp only [List.length_cons]; omega), h4]; rfl)
  obtain ⟨en, hen⟩ : ∃ en, en = b.length - rest.length := ⟨_, rfl⟩
  have hc : b.length ≤ c := by obtain ⟨A0, c0, hv, _, hc, _⟩ := h; injection hv with _ _ e; omega
  have hut := fun W => Ga.slice_upto A b.length c en (by omega) W
  have sut : Sl w X 1 (.slice A (b.take en).length c) (b.take en).length (BVs (b.take en)) := by
    rw [List.length_take, Nat.min_eq_left (by omega), show BVs (b.take en) = (BVs b).take (en * 1) by simp [BVs]]
    exact h.upto (by omega)
  rw [List.length_take, Nat.min_eq_left (show en ≤ b.length by omega)] at sut
  have HTL : Hid ((b.take en).length = en) := Lib.hid (by rw [List.length_take]; omega)
  have HST := Lib.hid sut
  have hws : IntKind.i64.wrap ((b.length : Int) - (rest.length : Int)) = (en : Int) := by rw [wrap64 (by omega) (by omega)]; omega
  have hw4 : IntKind.i64.wrap ((en : Int) + 4) = (en : Int) + 4 := wrap64 (by omega) (by omega)
  have HEN := Lib.hid hen
  have hrb : rest.length ≤ 140737488355328 := by omega
  rw [← hen]
  clear h he sut hen hc h4
  go_enter Tryz.func11, Tryz.ntmps11
  go_wp2_with fail
  refine HR.out.mono ?_
  rintro e w1 ⟨rfl, hr1, hb1⟩
  have HB1 := Lib.hid hb1
  have HLT := Lib.hid hr1.lt
  have HBY := Lib.hid (Co.rbytes_any w1 X w.heap.size (b, 0) hr1 524288 (by omega) (by omega) hb)
  rw [HE.out] at HBY
  clear hr1 hb1
  go_wp2_with fail
  refine HBY.out.mono ?_
  rintro e w2 ⟨v, rfl, ho, hg, hr2⟩
  obtain ⟨Ax, cx, rfl⟩ := own_shape ho
  simp only at ho
  have HO := Lib.hid ho
  have HTA := Lib.hid (Co.rtake_any w2 X w.heap.size (rest, 0) hr2 4 (by simp only; omega))
  rw [HTK.out] at HTA
  obtain ⟨A2, n2, c2, hd2, hs2, hgd⟩ := hr2
  have hn2 : n2 = rest.length := by obtain ⟨A, c, _, h, _⟩ := hs2; rw [BVs_len] at h; simp only at h; omega
  subst hn2
  have d0 := hd2.cell 0
  have d1 := hd2.cell 1
  simp only [List.getElem?_toArray, List.getElem?_cons_zero, List.getElem?_cons_succ] at d0 d1
  have HG := Lib.hid hg
  clear hd2 hs2 hgd ho hg HBY
  go_wp2_with fail
  refine HTA.out.mono ?_
  rintro e w3 ⟨v4, rfl, ho4, hg3, A3, n3, c3, hd3, -, -⟩
  have e1 := hd3.cell 1
  simp only [List.getElem?_toArray, List.getElem?_cons_zero, List.getElem?_cons_succ] at e1
  obtain ⟨g4, cap4, rfl, q0, q1, q2, q3⟩ := own_four ho4
  have HG3 := Lib.hid hg3
  clear hd3 hg3 HTA ho4
  have HB3 : Hid (Below w.heap.size w w3) := Lib.hid ((HB1.out.grown HG.out HB1.out.size (fun k hk => by injection hk with hk; omega)).grown HG3.out (by have := HB1.out.size; have := HG.out.size; omega) (fun k hk => by injection hk with hk; omega))
  obtain ⟨su, hsu⟩ : ∃ su, su = sum (b.take en) := ⟨_, rfl⟩
  have HSQ : Hid (∀ n, Calls Tryz.prog 14 #[.slice A en c] (w3.drewN n) fun e w'' => e = .returned (.int .u32 (su : Int)) ∧ ∃ m, w'' = w3.drewN m) := Lib.hid fun n => Calls.quiet_of_same ((rsum_at _ X A c en (b.take en) HTL.out ((HST.out.after HB3.out).drewN n)).mono fun _ _ h => ⟨by rw [hsu]; exact h.1, h.2.symm⟩)
  have HSU := Lib.hid hsu
  have b0 := s0.toNat_lt
  have b1 := s1.toNat_lt
  have b2 := s2.toNat_lt
  have b3 := s3.toNat_lt
  have m0 : (s0.toNat : Int) % 4294967296 = (s0.toNat : Int) := by omega
  have m1 : (s1.toNat : Int) % 4294967296 = (s1.toNat : Int) := by omega
  have m2 : (s2.toNat : Int) % 4294967296 = (s2.toNat : Int) := by omega
  have m3 : (s3.toNat : Int) % 4294967296 = (s3.toNat : Int) := by omega
  have k1 : (s1.toNat : Int) * 256 % 4294967296 = (s1.toNat : Int) * 256 := by omega
  have k2 : (s2.toNat : Int) * 65536 % 4294967296 = (s2.toNat : Int) * 65536 := by omega
  have k3 : (s3.toNat : Int) * 16777216 % 4294967296 = (s3.toNat : Int) * 16777216 := by omega
  have hnb := n4_bits s0 s1 s2 s3
  clear hsu b0 b1 b2 b3
  go_wp2_with fail
  go_quiet ((go_at_call 14; exact HSQ.out _))
  by_cases hq : su = n4 s0 s1 s2 s3
  · have hq1 : ((su : Int) == (n4 s0 s1 s2 s3 : Int)) = true := by rw [hq]; exact beq_self_eq_true _
    go_wp2_with fail
    go_ret3
    have h2 : w2.heap.size ≤ w3.heap.size := HG3.out.size
    have ho3 := own_ch HO.out (Ch.of_grown (S := fun k => k = w.heap.size) HG3.out (fun k hk _ => by injection hk with hk; exact hk.symm)) (fun k hk e => by have := (HO.out.lt k hk).1; have := HLT.out; omega)
    have hbd := below_drewN (Below.refl w3.heap.size w3) nq
    exact .inl ⟨by rw [← HSU.out, hq], Ax, cx, rfl, own_base (own_below ho3 hbd) HB1.out.size, HB3.out.trans (hbd.mono HB3.out.size)⟩
  · have hq1 : ((su : Int) == (n4 s0 s1 s2 s3 : Int)) = false := by rw [beq_eq_false_iff_ne]; omega
    go_wp2_with fail
    go_ret3
    have hbd := below_drewN (Below.refl w3.heap.size w3) nq
    exact .inr ⟨by rw [← HSU.out]; exact hq, rfl, HB3.out.trans (hbd.mono HB3.out.size)⟩

end Go.Proofs.YtdkjimfehipeaaaGreatDoor.Vt

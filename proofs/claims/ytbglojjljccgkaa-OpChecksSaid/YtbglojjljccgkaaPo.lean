/-
  Layer 6 (op): the contracts of Put and PutResult, the document's PutResult, and the walk of the statement OpBytes.
-/
import Derived.Test.YtbglojjljccgkaaPn
import Derived.Test.YtbglojjljccgkaaPj
import Derived.Test.YtbglojjljccgkaaPl
import Derived.Test.YtbglojjljccgkaaGa
import Derived.Lib.MinMax
import Derived.Deep.RegionHeld3
namespace Go.Proofs.Ytbglojjljccgkaa.Po
open Go Go.RowKit Ck Kw Ca Cb Cc Cd Ci Pm Pa Pe Pf Pg Ph Ppi Pj Kx Pk Pl Pn
attribute [local go_sem ↓] Go.wp_at_zero Go.wp_at_succ
set_option linter.unusedVariables false

theorem two_new {W : World} {X : Nat → Prop} {t : TypeId} {va vb : Value} {a b : Tx} (ha : Sl W X 1 va a.length (BVs a)) (hb : Sl W X 1 vb b.length (BVs b)) (hX : ¬ X W.heap.size) :
    Ls (W.alloc (.cells #[va, vb] t)) X (.slice (some ⟨W.heap.size, 0, none⟩) 2 2) [a, b] := by
  refine ⟨[va, vb], ⟨_, _, rfl, rfl, Nat.le_refl _, by simp only [maxLen]; omega, fun _ => ⟨_, rfl, by simp, hX, fun j u hu => ?_⟩⟩, fun i hi => ?_⟩
  · have h2 : (⟨W.heap.size, 0, none⟩ : Addr).add j = ⟨W.heap.size, j, none⟩ := by unfold Addr.add; split <;> simp_all
    rw [h2, Blk.cell (Blk.new W t _) j]
    simpa using hu
  · have hi2 : i = 0 ∨ i = 1 := by simp at hi; omega
    rcases hi2 with rfl | rfl
    · exact ⟨va, rfl, ha.alloc _⟩
    · exact ⟨vb, rfl, hb.alloc _⟩

set_option maxRecDepth 100000 in
set_option maxHeartbeats 1000000 in
theorem put_any (o : O) (v : Value) (X Y : Nat → Prop) (vb : Value) (nb : Nat) (b : Tx) (w : World) (h : OI w X v o) (hl : o.recs.length ≤ 140737488355328) (hb : Sl w Y 1 vb nb (BVs b)) (hbl : b.length ≤ 140737488351232) :
    Calls Try.prog 23 #[vb, v] w fun e w' => Made w 5 (b ++ form o) e w' := by
  have hnb : nb = b.length := by obtain ⟨_, _, _, h, _⟩ := hb; rw [BVs_len] at h; omega
  subst hnb
  obtain ⟨A, c, rfl, hls⟩ := h
  have hls1 := hls.after (rk_start w o A c).below
  have HB := Lib.hid (bytes_any o (OV o A c) X _ ⟨A, c, rfl, hls1⟩ hl)
  have HC := Lib.hid (rk_start w o A c)
  have HSB := Lib.hid hb
  have hfl := form_len o
  clear hls hls1
  obtain ⟨Ab, cb, rfl, -⟩ := hb
  unfold OV at HB ⊢
  go_enter Try.func23, Try.ntmps23
  go_wp2_with fail
  refine HB.out.mono ?_
  rintro e w2 ⟨v2, rfl, hown2, hb2⟩
  obtain ⟨A2, c2, rfl⟩ := own_shape hown2
  have HB2 := Lib.hid (HC.out.below.trans (hb2.mono HC.out.below.size))
  have HL : Hid (Ls (w2.alloc (.cells #[.slice Ab b.length cb, .slice A2 (form o).length c2] 32)) (fun _ => False) (.slice (some ⟨w2.heap.size, 0, none⟩) 2 2) [b, form o]) := Lib.hid (two_new ((HSB.out.after HB2.out).weaken (fun _ _ h => h.elim)) (Sl.of_own hown2 (fun _ _ _ h => h)) (fun h => h))
  have HB3 : Hid (Below w.heap.size w (w2.alloc (.cells #[.slice Ab b.length cb, .slice A2 (form o).length c2] 32))) := Lib.hid (HB2.out.alloc HB2.out.size _)
  clear hown2 hb2
  go_wp2_with fail
  refine (concat_any _ _ _ _ [b, form o] HL.out (by simp) (by simp; omega)).mono ?_
  rintro e w4 ⟨v4, rfl, hown4, hb4⟩
  have HO4 := Lib.hid hown4
  have HB4 := Lib.hid (HB3.out.trans (hb4.mono HB3.out.size))
  clear hown4 hb4
  go_wp2_with fail
  go_ret
  refine ⟨v4, rfl, ?_, HB4.out⟩
  have := own_base HO4.out HB3.out.size
  simpa using this

theorem max_nat (e : Int) (he : e ≤ 9223372036854775807) : ∃ n : Nat, max e 0 = (n : Int) ∧ max 0 e = (n : Int) ∧ n ≤ 9223372036854775807 := by
  refine ⟨(max e 0).toNat, ?_, ?_, ?_⟩ <;> omega

set_option maxRecDepth 100000 in
set_option maxHeartbeats 1000000 in
theorem putres_any (Y : Nat → Prop) (vb : Value) (nb : Nat) (b : Tx) (e f : Int) (w : World) (hb : Sl w Y 1 vb nb (BVs b)) (hbl : b.length ≤ 140737488351232) (he : e ≤ 9223372036854775807) (hf : f ≤ 9223372036854775807) :
    Calls Try.prog 25 #[vb, .agg #[.int .i64 e, .int .i64 f]] w fun e' w' => Made w 5 (b ++ resB e f) e' w' := by
  have hnb : nb = b.length := by obtain ⟨_, _, _, h, _⟩ := hb; rw [BVs_len] at h; omega
  subst hnb
  obtain ⟨n, hn, -, hn63⟩ := max_nat e he
  obtain ⟨m, hm, -, hm63⟩ := max_nat f hf
  have HR : Hid (resB e f = Cm.enc n ++ Cm.enc m) := Lib.hid (by rw [resB, hn, hm, Int.toNat_natCast, Int.toNat_natCast])
  have hwn := wrap_u64' n (by omega)
  have hwm := wrap_u64' m (by omega)
  have ln := Cm.enc_len n
  have HN := Lib.hid hn63
  have HM := Lib.hid hm63
  have HSB := Lib.hid hb
  have HW0 : Hid (Below w.heap.size w (w.alloc (.cells #[.int .i64 e, .int .i64 f] 35))) := Lib.hid ((Below.refl _ w).alloc (Nat.le_refl _) _)
  have HK0 : Hid (Blk (w.alloc (.cells #[.int .i64 e, .int .i64 f] 35)) w.heap.size 35 #[.int .i64 e, .int .i64 f]) := Lib.hid (Blk.new _ _ _)
  clear hn63 hm63 he hf hb
  go_enter Try.func25, Try.ntmps25
  go_wp2_with fail
  refine (putnum_any Y vb b.length b n _ (HSB.out.after HW0.out) (by omega) (by have := HN.out; omega)).mono ?_
  rintro e1 w1 ⟨v1, rfl, hown1, hb1⟩
  have HO1 := Lib.hid hown1
  have HB1 := Lib.hid (HW0.out.trans (hb1.mono HW0.out.size))
  have hk1 := HK0.out.below hb1 HK0.out.lt
  have k0 := hk1.cell 0
  have k1 := hk1.cell 1
  simp only [List.getElem?_toArray, List.getElem?_cons_zero, List.getElem?_cons_succ] at k0 k1
  clear hown1 hb1 hk1
  go_wp2_with fail
  refine (putnum_any (fun _ => False) v1 _ (b ++ Cm.enc n) m _ (Sl.of_own HO1.out (fun _ _ _ h => h)) (by rw [List.length_append]; omega) (by have := HM.out; omega)).mono ?_
  rintro e2 w2 ⟨v2, rfl, hown2, hb2⟩
  have HO2 := Lib.hid hown2
  have HB2 := Lib.hid (HB1.out.trans (hb2.mono HB1.out.size))
  clear hown2 hb2
  go_wp2_with fail
  go_ret
  refine ⟨v2, rfl, ?_, HB2.out⟩
  rw [HR.out, ← List.append_assoc]
  exact own_base HO2.out HB1.out.size

set_option maxRecDepth 100000 in
set_option maxHeartbeats 2000000 in
theorem rputres_any (Y : Nat → Prop) (vb : Value) (nb : Nat) (b : Tx) (e f : Int) (w : World) (hb : Sl w Y 1 vb nb (BVs b)) (hbl : b.length ≤ 140737488351232) (he : e ≤ 9223372036854775807) (hf : f ≤ 9223372036854775807) :
    Calls Try.prog 26 #[vb, .agg #[.int .i64 e, .int .i64 f]] w fun e' w' => Made w 5 (b ++ resB e f) e' w' := by
  have hnb : nb = b.length := by obtain ⟨_, _, _, h, _⟩ := hb; rw [BVs_len] at h; omega
  subst hnb
  obtain ⟨n, hn', hn, hn63⟩ := max_nat e he
  obtain ⟨m, hm', hm, hm63⟩ := max_nat f hf
  have HR : Hid (resB e f = Cm.enc n ++ Cm.enc m) := Lib.hid (by rw [resB, hn', hm', Int.toNat_natCast, Int.toNat_natCast])
  have hwn := wrap_u64' n (by omega)
  have hwm := wrap_u64' m (by omega)
  have ln := Cm.enc_len n
  have hw0 : Below w.heap.size w (w.alloc (.cells #[.int .i64 e, .int .i64 f] 35)) := (Below.refl _ w).alloc (Nat.le_refl _) _
  have hk0 : Blk (w.alloc (.cells #[.int .i64 e, .int .i64 f] 35)) w.heap.size 35 #[.int .i64 e, .int .i64 f] := Blk.new _ _ _
  have HSB := Lib.hid hb
  have HN := Lib.hid hn63
  have HM := Lib.hid hm63
  clear hn63 hm63 he hf hb hn' hm'
  go_enter Try.func26, Try.ntmps26
  go_wp2_with fail
  generalize w.alloc (.cells #[.int .i64 e, .int .i64 f] 35) = w0 at hw0 hk0 ⊢
  have HC1 := Lib.hid (rputnum_any Y vb b.length b n w0.drew (HSB.out.after (below_drewN hw0 1)) (by omega) (by have := HN.out; omega))
  have HC2 : Hid (∀ w1 v1, w1.ownsRow w0.heap.size 5 1 v1 (b ++ Cm.enc n).length (BVs (b ++ Cm.enc n)) → Calls Try.prog 54 #[v1, .int .u64 (m : Int)] w1 fun e w' => Made w1 5 (b ++ Cm.enc n ++ Cm.enc m) e w') := Lib.hid fun w1 v1 ho => rputnum_any (fun _ => False) v1 _ (b ++ Cm.enc n) m w1 (Sl.of_own ho (fun _ _ _ h => h)) (by rw [List.length_append]; omega) (by have := HM.out; omega)
  have j0 := hk0.cell 0
  have j1 := hk0.cell 1
  simp only [List.getElem?_toArray, List.getElem?_cons_zero, List.getElem?_cons_succ] at j0 j1
  have HK0 := Lib.hid hk0
  have HW0 := Lib.hid hw0
  clear hk0 hw0
  have tok1 : True := trivial
  go_region_held3 (fun w' => w'.cell? ⟨w.heap.size, 0, none⟩ = some (.int .i64 e) ∧ w'.cell? ⟨w.heap.size, 1, none⟩ = some (.int .i64 f)) (first | exact ⟨j0, j1⟩ | exact ⟨k0, k1⟩ | exact ⟨q0, q1⟩)
    (first
    | (go_at_call 54; have _t := tok1; clear tok1 _t; refine HC1.out.mono ?_; rintro e1 w1 ⟨v1, rfl, hown1, hb1⟩; have hk1 := (show Blk w0.drew _ _ _ from HK0.out).below hb1 HK0.out.lt; have k0 := hk1.cell 0; have k1 := hk1.cell 1; simp only [List.getElem?_toArray, List.getElem?_cons_zero, List.getElem?_cons_succ] at k0 k1; have HK1 := Lib.hid hk1; have HO1 := Lib.hid hown1; have HB1 := Lib.hid hb1; clear hk1 hown1 hb1)
    | (go_at_call 54; refine (HC2.out _ _ HO1.out).mono ?_; rintro e2 w2 ⟨v2, rfl, hown2, hb2⟩; have hk2 := HK1.out.below hb2 HK1.out.lt; have q0 := hk2.cell 0; have q1 := hk2.cell 1; simp only [List.getElem?_toArray, List.getElem?_cons_zero, List.getElem?_cons_succ] at q0 q1; have HO2 := Lib.hid hown2; have HB2 := Lib.hid hb2; clear hk2 hown2 hb2))
  all_goals
    go_wp2_with fail
    go_ret
    have b1 : Below w0.heap.size w0 w1 := Ga.below_of_drew HB1.out
    refine ⟨v2, rfl, ?_, HW0.out.trans ((b1.trans (HB2.out.mono b1.size)).mono HW0.out.size)⟩
    rw [HR.out, ← List.append_assoc]
    exact own_base HO2.out (Nat.le_trans HW0.out.size b1.size)

end Go.Proofs.Ytbglojjljccgkaa.Po

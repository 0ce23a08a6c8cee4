/-
  Layer 6 (op): the document's own Put, kind by kind, and its Bytes.
-/
import Derived.Test.YtebjjkhiniccgaaGreatPk
import Derived.Test.YtebjjkhiniccgaaGreatW3
namespace Go.Proofs.YtebjjkhiniccgaaGreat.Pn
set_option linter.unusedSimpArgs false
open Go Go.RowKit Ck Kw Ca Cb Cc Cd Ci Pm Pa Pe Pf Pg Ph Ppi Kx Pk
set_option linter.unusedVariables false

/-- The operation stands there, and a row of the call's own. -/
structure RB (w0 : World) (g1 : Nat) (o : O) (A : Option Addr) (c : Nat) (v : Value) (l : Tx) (W : World) : Prop where
  rk : RK w0 g1 o A c W
  row : W.ownsRow w0.heap.size 5 1 v l.length (BVs l)
theorem RB.put {w0 W W1 W2 : World} {g1 : Nat} {o : O} {A : Option Addr} {c : Nat} {v' : Value} {l' : Tx} (h : RK w0 g1 o A c W) (b1 : Below W.heap.size W W1) (hown : W2.ownsRow W1.heap.size 5 1 v' l'.length (BVs l')) (b2 : Below W1.heap.size W1 W2) : RB w0 g1 o A c v' l' W2 := by
  have b : Below W.heap.size W W2 := b1.trans (b2.mono b1.size)
  exact ⟨h.later b, own_base hown (Nat.le_trans h.below.size b1.size)⟩
/-- What Put leaves of an operation that may be. -/
def Putted (w : World) (b : Tx) (o : O) (e : Ending) (w' : World) : Prop := Made w 5 (b ++ raw o) e w'
theorem putted_of {w W : World} {g1 : Nat} {o : O} {A : Option Addr} {c : Nat} {v : Value} {b l : Tx} (h : RB w g1 o A c v l W) (hl : b ++ raw o = l) : Putted w b o (.returned v) W := by
  subst hl
  exact ⟨v, rfl, h.row, h.rk.below⟩

set_option maxRecDepth 100000 in
set_option maxHeartbeats 1000000 in
theorem rput_no (o : O) (A : Option Addr) (c : Nat) (X : Nat → Prop) (vb : Value) (w : World) (hl : o.recs.length ≤ 140737488355328) (hls : Ls w X (.slice A o.recs.length c) o.recs) (hc : check o ≠ 0) :
    Calls Tryz.prog 84 #[vb, OV o A c] w fun e w' => e = .returned vb ∧ Below w.heap.size w w' := by
  have hls1 := hls.after (rk_start w o A c).below
  have HCH := Lib.hid (rcheck_any o (OV o A c) X _ ⟨A, c, rfl, hls1⟩ hl)
  have HC := Lib.hid (rk_start w o A c)
  generalize check o = q at *
  have q1 : (q == 0) = false := beq_eq_false_iff_ne.2 hc
  have q2 : (q != 0) = true := by rw [bne, q1]; rfl
  clear hls hls1 hc
  unfold OV at HCH ⊢
  go_enter Tryz.func84, Tryz.ntmps84
  go_wp2_with fail
  refine HCH.out.mono ?_
  rintro e w2 ⟨rfl, hb2⟩
  have HC2 := Lib.hid (HC.out.later hb2)
  clear hb2
  go_wp2_with fail
  go_ret
  exact ⟨rfl, HC2.out.below⟩

set_option maxRecDepth 100000 in
set_option maxHeartbeats 4000000 in
theorem rput_0 (o : O) (A : Option Addr) (c : Nat) (X Y : Nat → Prop) (vb : Value) (nb : Nat) (b : Tx) (hk : o.kind = 0) (w : World) (hl : o.recs.length ≤ 140737488355328) (hls : Ls w X (.slice A o.recs.length c) o.recs) (hb : Sl w Y 1 vb nb (BVs b)) (hbl : b.length ≤ 140737488351232) (hc : check o = 0) :
    Calls Tryz.prog 84 #[vb, OV o A c] w (Putted w b o) := by
  have hnb : nb = b.length := by obtain ⟨_, _, _, h, _⟩ := hb; rw [BVs_len] at h; omega
  subst hnb
  have hls1 := hls.after (rk_start w o A c).below
  have HCH := Lib.hid (rcheck_any o (OV o A c) X _ ⟨A, c, rfl, hls1⟩ hl)
  rw [hc] at HCH
  have HC := Lib.hid (rk_start w o A c)
  obtain ⟨lT, lG, lO, lR⟩ := check_lens hc
  rw [hk] at lT lG lO lR
  have HLS := Lib.hid hls
  have HSB := Lib.hid hb
  have HRF := Lib.hid (rfields_any 0)
  have HRAW : Hid (raw o = Cm.enc 0 ++ ([] ++ ([] ++ ([] ++ [])))) := Lib.hid (by
    unfold raw
    rw [hk]
    rfl)
  clear hls hls1 hc lT lG lO lR hb
  obtain ⟨kind, topic, group, off, recs⟩ := o
  simp only at hk
  subst hk
  unfold OV at HCH ⊢
  simp only at HLS HCH hl ⊢
  go_enter Tryz.func84, Tryz.ntmps84
  go_wp2_with fail
  refine HCH.out.mono ?_
  rintro e w2 ⟨rfl, hb2⟩
  have HC2 := Lib.hid (HC.out.later hb2)
  clear hb2
  obtain ⟨a0, a1, a2, a3, a4⟩ := HC2.out.op.cells
  simp only at a0 a1 a2 a3 a4
  go_wp2_with fail
  refine (HRF.out _).mono ?_
  rintro e w3 ⟨he, rfl⟩
  have he : e = .returned (.tuple #[.bool false, .bool false, .bool false, .bool false]) := he
  subst he
  go_wp2_with fail
  refine (rputnum_any Y vb b.length b 0 _ (HSB.out.after HC2.out.below) (by omega) (by omega)).mono ?_
  rintro e w4 ⟨v4, rfl, hown4, hb4⟩
  have HK4 := Lib.hid (RB.put HC2.out (Below.refl _ _) hown4 hb4)
  clear hown4 hb4 a0 a1 a2 a3 a4
  obtain ⟨a0, a1, a2, a3, a4⟩ := HK4.out.rk.op.cells
  simp only at a0 a1 a2 a3 a4
  have hl4 := Cm.enc_len 0
  go_wp2_with fail
  go_ret
  exact putted_of HK4.out (by rw [HRAW.out]; simp only [List.append_assoc, List.append_nil, List.nil_append, Int.toNat_natCast])

set_option maxRecDepth 100000 in
set_option maxHeartbeats 4000000 in
theorem rput_1 (o : O) (A : Option Addr) (c : Nat) (X Y : Nat → Prop) (vb : Value) (nb : Nat) (b : Tx) (hk : o.kind = 1) (w : World) (hl : o.recs.length ≤ 140737488355328) (hls : Ls w X (.slice A o.recs.length c) o.recs) (hb : Sl w Y 1 vb nb (BVs b)) (hbl : b.length ≤ 140737488351232) (hc : check o = 0) :
    Calls Tryz.prog 84 #[vb, OV o A c] w (Putted w b o) := by
  have hnb : nb = b.length := by obtain ⟨_, _, _, h, _⟩ := hb; rw [BVs_len] at h; omega
  subst hnb
  have hls1 := hls.after (rk_start w o A c).below
  have HCH := Lib.hid (rcheck_any o (OV o A c) X _ ⟨A, c, rfl, hls1⟩ hl)
  rw [hc] at HCH
  have HC := Lib.hid (rk_start w o A c)
  obtain ⟨lT, lG, lO, lR⟩ := check_lens hc
  rw [hk] at lT lG lO lR
  have HLS := Lib.hid hls
  have HSB := Lib.hid hb
  have HRF := Lib.hid (rfields_any 1)
  have HRAW : Hid (raw o = Cm.enc 1 ++ (Cm.encB o.topic ++ ([] ++ ([] ++ [])))) := Lib.hid (by
    unfold raw
    rw [hk]
    rfl)
  have tl := lT rfl
  clear hls hls1 hc lT lG lO lR hb
  obtain ⟨kind, topic, group, off, recs⟩ := o
  simp only at hk
  subst hk
  unfold OV at HCH ⊢
  simp only at HLS HCH hl tl ⊢
  go_enter Tryz.func84, Tryz.ntmps84
  go_wp2_with fail
  refine HCH.out.mono ?_
  rintro e w2 ⟨rfl, hb2⟩
  have HC2 := Lib.hid (HC.out.later hb2)
  clear hb2
  obtain ⟨a0, a1, a2, a3, a4⟩ := HC2.out.op.cells
  simp only at a0 a1 a2 a3 a4
  go_wp2_with fail
  refine (HRF.out _).mono ?_
  rintro e w3 ⟨he, rfl⟩
  have he : e = .returned (.tuple #[.bool true, .bool false, .bool false, .bool false]) := he
  subst he
  go_wp2_with fail
  refine (rputnum_any Y vb b.length b 1 _ (HSB.out.after HC2.out.below) (by omega) (by omega)).mono ?_
  rintro e w4 ⟨v4, rfl, hown4, hb4⟩
  have HK4 := Lib.hid (RB.put HC2.out (Below.refl _ _) hown4 hb4)
  clear hown4 hb4 a0 a1 a2 a3 a4
  obtain ⟨a0, a1, a2, a3, a4⟩ := HK4.out.rk.op.cells
  simp only at a0 a1 a2 a3 a4
  have hl4 := Cm.enc_len 1
  have kc5 := conv_bytes topic
  have HO5 := Lib.hid (bytesWorld_out w4 topic (by omega))
  have HB5 := Lib.hid (bytesWorld_below w4 5 ⟨topic.toArray⟩)
  have le5 := Cm.enc_len topic.length
  go_wp2_with fail
  refine (rputbytes_any (fun _ => False) (fun _ => False) v4 _ _ _ (b ++ Cm.enc 1) topic _ ((Sl.of_own HK4.out.row (fun _ _ _ h => h)).after HB5.out) (HO5.out.sl (fun _ _ _ h => h)) (by (try simp only [List.length_append, Cm.encB_len]); omega) (by (try simp only [List.length_append, Cm.encB_len]); omega)).mono ?_
  rintro e w5 ⟨v5, rfl, hown, hb⟩
  have HK5 := Lib.hid (RB.put HK4.out.rk HB5.out hown hb)
  clear hown hb kc5 a0 a1 a2 a3 a4
  obtain ⟨a0, a1, a2, a3, a4⟩ := HK5.out.rk.op.cells
  simp only at a0 a1 a2 a3 a4
  go_wp2_with fail
  go_ret
  exact putted_of HK5.out (by rw [HRAW.out]; simp only [List.append_assoc, List.append_nil, List.nil_append, Int.toNat_natCast])

set_option maxRecDepth 100000 in
set_option maxHeartbeats 4000000 in
theorem rput_2 (o : O) (A : Option Addr) (c : Nat) (X Y : Nat → Prop) (vb : Value) (nb : Nat) (b : Tx) (hk : o.kind = 2) (w : World) (hl : o.recs.length ≤ 140737488355328) (hls : Ls w X (.slice A o.recs.length c) o.recs) (hb : Sl w Y 1 vb nb (BVs b)) (hbl : b.length ≤ 140737488351232) (hc : check o = 0) :
    Calls Tryz.prog 84 #[vb, OV o A c] w (Putted w b o) := by
  have hnb : nb = b.length := by obtain ⟨_, _, _, h, _⟩ := hb; rw [BVs_len] at h; omega
  subst hnb
  have hls1 := hls.after (rk_start w o A c).below
  have HCH := Lib.hid (rcheck_any o (OV o A c) X _ ⟨A, c, rfl, hls1⟩ hl)
  rw [hc] at HCH
  have HC := Lib.hid (rk_start w o A c)
  obtain ⟨lT, lG, lO, lR⟩ := check_lens hc
  rw [hk] at lT lG lO lR
  have HLS := Lib.hid hls
  have HSB := Lib.hid hb
  have HRF := Lib.hid (rfields_any 2)
  have HRAW : Hid (raw o = Cm.enc 2 ++ (Cm.encB o.topic ++ ([] ++ ([] ++ Cm.encL o.recs)))) := Lib.hid (by
    unfold raw
    rw [hk]
    rfl)
  have tl := lT rfl
  obtain ⟨r1, r4, rx, rl⟩ := lR rfl
  clear hls hls1 hc lT lG lO lR hb
  obtain ⟨kind, topic, group, off, recs⟩ := o
  simp only at hk
  subst hk
  unfold OV at HCH ⊢
  simp only at HLS HCH hl tl r1 r4 rx rl ⊢
  go_enter Tryz.func84, Tryz.ntmps84
  go_wp2_with fail
  refine HCH.out.mono ?_
  rintro e w2 ⟨rfl, hb2⟩
  have HC2 := Lib.hid (HC.out.later hb2)
  clear hb2
  obtain ⟨a0, a1, a2, a3, a4⟩ := HC2.out.op.cells
  simp only at a0 a1 a2 a3 a4
  go_wp2_with fail
  refine (HRF.out _).mono ?_
  rintro e w3 ⟨he, rfl⟩
  have he : e = .returned (.tuple #[.bool true, .bool false, .bool false, .bool true]) := he
  subst he
  go_wp2_with fail
  refine (rputnum_any Y vb b.length b 2 _ (HSB.out.after HC2.out.below) (by omega) (by omega)).mono ?_
  rintro e w4 ⟨v4, rfl, hown4, hb4⟩
  have HK4 := Lib.hid (RB.put HC2.out (Below.refl _ _) hown4 hb4)
  clear hown4 hb4 a0 a1 a2 a3 a4
  obtain ⟨a0, a1, a2, a3, a4⟩ := HK4.out.rk.op.cells
  simp only at a0 a1 a2 a3 a4
  have hl4 := Cm.enc_len 2
  have kc5 := conv_bytes topic
  have HO5 := Lib.hid (bytesWorld_out w4 topic (by omega))
  have HB5 := Lib.hid (bytesWorld_below w4 5 ⟨topic.toArray⟩)
  have le5 := Cm.enc_len topic.length
  go_wp2_with fail
  refine (rputbytes_any (fun _ => False) (fun _ => False) v4 _ _ _ (b ++ Cm.enc 2) topic _ ((Sl.of_own HK4.out.row (fun _ _ _ h => h)).after HB5.out) (HO5.out.sl (fun _ _ _ h => h)) (by (try simp only [List.length_append, Cm.encB_len]); omega) (by (try simp only [List.length_append, Cm.encB_len]); omega)).mono ?_
  rintro e w5 ⟨v5, rfl, hown, hb⟩
  have HK5 := Lib.hid (RB.put HK4.out.rk HB5.out hown hb)
  clear hown hb kc5 a0 a1 a2 a3 a4
  obtain ⟨a0, a1, a2, a3, a4⟩ := HK5.out.rk.op.cells
  simp only at a0 a1 a2 a3 a4
  have le6 := Cm.enc_len recs.length
  go_wp2_with fail
  refine (rputnum_any (fun _ => False) v5 _ (b ++ Cm.enc 2 ++ Cm.encB topic) recs.length _ (Sl.of_own HK5.out.row (fun _ _ _ h => h)) (by (try simp only [List.length_append, Cm.encB_len]); omega) (by omega)).mono ?_
  rintro e w6 ⟨v6, rfl, hown, hb⟩
  have HK6 := Lib.hid (RB.put HK5.out.rk (Below.refl _ _) hown hb)
  clear hown hb a0 a1 a2 a3 a4
  obtain ⟨a0, a1, a2, a3, a4⟩ := HK6.out.rk.op.cells
  simp only at a0 a1 a2 a3 a4
  have HX := Lib.hid rx
  clear rx
  clear a0 a1 a2 a3 a4
  go_wp2_with fail
  go_loopw [0, 9] (fun u i wr => ∃ k : Nat, k ≤ recs.length ∧ i = .int .i64 k ∧ RB w w.heap.size ⟨2, topic, group, off, recs⟩ A c u (b ++ Cm.enc 2 ++ Cm.encB topic ++ Cm.enc recs.length ++ Cm.encP (recs.take k)) wr) (fun _ i _ => recs.length - (intOf i).toNat)
  case atStart => exact ⟨0, Nat.zero_le _, rfl, by simpa [Cm.encP] using HK6.out⟩
  case round =>
    obtain ⟨k, hk, rfl, hrb⟩ := hrel
    obtain ⟨a0, a1, a2, a3, a4⟩ := hrb.rk.op.cells
    simp only at a0 a1 a2 a3 a4
    have HRB := Lib.hid hrb
    have hle := Cm.encP_le recs k
    clear hrb
    by_cases hlt : k < recs.length
    · have htk := Lib.hid (Cm.encP_take hlt)
      have hpl := Lib.hid (HX.out _ (List.getElem_mem hlt))
      have hle2 := Cm.encP_le recs (k + 1)
      obtain ⟨ad, Bq, d, rfl, hcell, hxs⟩ := (HLS.out.after HRB.out.rk.below).at_ hlt
      have HXS := Lib.hid hxs
      clear hxs
      go_wp2_with fail
      refine (rputbytes_any (fun _ => False) X _ _ _ _ _ recs[k] _ (Sl.of_own HRB.out.row (fun _ _ _ h => h)) HXS.out (by simp only [List.length_append, Cm.encB_len]; omega) (by have := hpl.out; simp only [List.length_append, Cm.encB_len]; omega)).mono ?_
      rintro e w9 ⟨v9, rfl, hown, hb⟩
      have HR9 := Lib.hid (RB.put HRB.out.rk (Below.refl _ _) hown hb)
      clear hown hb
      obtain ⟨q0, q1, q2, q3, q4⟩ := HR9.out.rk.op.cells
      simp only at q0 q1 q2 q3 q4
      clear a0 a1 a2 a3 a4 hcell
      go_wp2_with fail
      go_roundw
      case rel => exact ⟨k + 1, by omega, by go_num, by rw [htk.out, ← List.append_assoc]; exact HR9.out⟩
      case measure => simp [intOf]; omega
    · have hke : k = recs.length := by omega
      have HE : Hid (Cm.encP (recs.take k) = Cm.encP recs) := Lib.hid (by rw [hke, List.take_length])
      go_wp2_with fail
      go_ret
      exact putted_of HRB.out (by rw [HRAW.out, HE.out]; simp only [Cm.encL, List.append_assoc, List.append_nil, List.nil_append])

set_option maxRecDepth 100000 in
set_option maxHeartbeats 4000000 in
theorem rput_3 (o : O) (A : Option Addr) (c : Nat) (X Y : Nat → Prop) (vb : Value) (nb : Nat) (b : Tx) (hk : o.kind = 3) (w : World) (hl : o.recs.length ≤ 140737488355328) (hls : Ls w X (.slice A o.recs.length c) o.recs) (hb : Sl w Y 1 vb nb (BVs b)) (hbl : b.length ≤ 140737488351232) (hc : check o = 0) :
    Calls Tryz.prog 84 #[vb, OV o A c] w (Putted w b o) := by
  have hnb : nb = b.length := by obtain ⟨_, _, _, h, _⟩ := hb; rw [BVs_len] at h; omega
  subst hnb
  have hls1 := hls.after (rk_start w o A c).below
  have HCH := Lib.hid (rcheck_any o (OV o A c) X _ ⟨A, c, rfl, hls1⟩ hl)
  rw [hc] at HCH
  have HC := Lib.hid (rk_start w o A c)
  obtain ⟨lT, lG, lO, lR⟩ := check_lens hc
  rw [hk] at lT lG lO lR
  have HLS := Lib.hid hls
  have HSB := Lib.hid hb
  have HRF := Lib.hid (rfields_any 3)
  have HRAW : Hid (raw o = Cm.enc 3 ++ (Cm.encB o.topic ++ (Cm.encB o.group ++ (Cm.enc o.off.toNat ++ [])))) := Lib.hid (by
    unfold raw
    rw [hk]
    rfl)
  have tl := lT rfl
  have gl := lG rfl
  obtain ⟨ol, oh⟩ := lO rfl
  clear hls hls1 hc lT lG lO lR hb
  obtain ⟨kind, topic, group, off, recs⟩ := o
  simp only at hk
  subst hk
  unfold OV at HCH ⊢
  simp only at HLS HCH hl tl gl ol oh ⊢
  go_enter Tryz.func84, Tryz.ntmps84
  go_wp2_with fail
  refine HCH.out.mono ?_
  rintro e w2 ⟨rfl, hb2⟩
  have HC2 := Lib.hid (HC.out.later hb2)
  clear hb2
  obtain ⟨a0, a1, a2, a3, a4⟩ := HC2.out.op.cells
  simp only at a0 a1 a2 a3 a4
  go_wp2_with fail
  refine (HRF.out _).mono ?_
  rintro e w3 ⟨he, rfl⟩
  have he : e = .returned (.tuple #[.bool true, .bool true, .bool true, .bool false]) := he
  subst he
  go_wp2_with fail
  refine (rputnum_any Y vb b.length b 3 _ (HSB.out.after HC2.out.below) (by omega) (by omega)).mono ?_
  rintro e w4 ⟨v4, rfl, hown4, hb4⟩
  have HK4 := Lib.hid (RB.put HC2.out (Below.refl _ _) hown4 hb4)
  clear hown4 hb4 a0 a1 a2 a3 a4
  obtain ⟨a0, a1, a2, a3, a4⟩ := HK4.out.rk.op.cells
  simp only at a0 a1 a2 a3 a4
  have hl4 := Cm.enc_len 3
  have kc5 := conv_bytes topic
  have HO5 := Lib.hid (bytesWorld_out w4 topic (by omega))
  have HB5 := Lib.hid (bytesWorld_below w4 5 ⟨topic.toArray⟩)
  have le5 := Cm.enc_len topic.length
  go_wp2_with fail
  refine (rputbytes_any (fun _ => False) (fun _ => False) v4 _ _ _ (b ++ Cm.enc 3) topic _ ((Sl.of_own HK4.out.row (fun _ _ _ h => h)).after HB5.out) (HO5.out.sl (fun _ _ _ h => h)) (by (try simp only [List.length_append, Cm.encB_len]); omega) (by (try simp only [List.length_append, Cm.encB_len]); omega)).mono ?_
  rintro e w5 ⟨v5, rfl, hown, hb⟩
  have HK5 := Lib.hid (RB.put HK4.out.rk HB5.out hown hb)
  clear hown hb kc5 a0 a1 a2 a3 a4
  obtain ⟨a0, a1, a2, a3, a4⟩ := HK5.out.rk.op.cells
  simp only at a0 a1 a2 a3 a4
  have kc6 := conv_bytes group
  have HO6 := Lib.hid (bytesWorld_out w5 group (by omega))
  have HB6 := Lib.hid (bytesWorld_below w5 5 ⟨group.toArray⟩)
  have le6 := Cm.enc_len group.length
  go_wp2_with fail
  refine (rputbytes_any (fun _ => False) (fun _ => False) v5 _ _ _ (b ++ Cm.enc 3 ++ Cm.encB topic) group _ ((Sl.of_own HK5.out.row (fun _ _ _ h => h)).after HB6.out) (HO6.out.sl (fun _ _ _ h => h)) (by (try simp only [List.length_append, Cm.encB_len]); omega) (by (try simp only [List.length_append, Cm.encB_len]); omega)).mono ?_
  rintro e w6 ⟨v6, rfl, hown, hb⟩
  have HK6 := Lib.hid (RB.put HK5.out.rk HB6.out hown hb)
  clear hown hb kc6 a0 a1 a2 a3 a4
  obtain ⟨a0, a1, a2, a3, a4⟩ := HK6.out.rk.op.cells
  simp only at a0 a1 a2 a3 a4
  obtain ⟨z, rfl⟩ := Int.eq_ofNat_of_zero_le ol
  have hw7 := wrap_u64' z (by omega)
  have OH := Lib.hid oh
  clear ol oh
  have le7 := Cm.enc_len z
  go_wp2_with fail
  refine (rputnum_any (fun _ => False) v6 _ (b ++ Cm.enc 3 ++ Cm.encB topic ++ Cm.encB group) z _ (Sl.of_own HK6.out.row (fun _ _ _ h => h)) (by (try simp only [List.length_append, Cm.encB_len]); omega) (by have := OH.out; omega)).mono ?_
  rintro e w7 ⟨v7, rfl, hown, hb⟩
  have HK7 := Lib.hid (RB.put HK6.out.rk (Below.refl _ _) hown hb)
  clear hown hb a0 a1 a2 a3 a4
  obtain ⟨a0, a1, a2, a3, a4⟩ := HK7.out.rk.op.cells
  simp only at a0 a1 a2 a3 a4
  go_wp2_with fail
  go_ret
  exact putted_of HK7.out (by rw [HRAW.out]; simp only [List.append_assoc, List.append_nil, List.nil_append, Int.toNat_natCast])

set_option maxRecDepth 100000 in
set_option maxHeartbeats 4000000 in
theorem rput_4 (o : O) (A : Option Addr) (c : Nat) (X Y : Nat → Prop) (vb : Value) (nb : Nat) (b : Tx) (hk : o.kind = 4) (w : World) (hl : o.recs.length ≤ 140737488355328) (hls : Ls w X (.slice A o.recs.length c) o.recs) (hb : Sl w Y 1 vb nb (BVs b)) (hbl : b.length ≤ 140737488351232) (hc : check o = 0) :
    Calls Tryz.prog 84 #[vb, OV o A c] w (Putted w b o) := by
  have hnb : nb = b.length := by obtain ⟨_, _, _, h, _⟩ := hb; rw [BVs_len] at h; omega
  subst hnb
  have hls1 := hls.after (rk_start w o A c).below
  have HCH := Lib.hid (rcheck_any o (OV o A c) X _ ⟨A, c, rfl, hls1⟩ hl)
  rw [hc] at HCH
  have HC := Lib.hid (rk_start w o A c)
  obtain ⟨lT, lG, lO, lR⟩ := check_lens hc
  rw [hk] at lT lG lO lR
  have HLS := Lib.hid hls
  have HSB := Lib.hid hb
  have HRF := Lib.hid (rfields_any 4)
  have HRAW : Hid (raw o = Cm.enc 4 ++ (Cm.encB o.topic ++ ([] ++ (Cm.enc o.off.toNat ++ [])))) := Lib.hid (by
    unfold raw
    rw [hk]
    rfl)
  have tl := lT rfl
  obtain ⟨ol, oh⟩ := lO rfl
  clear hls hls1 hc lT lG lO lR hb
  obtain ⟨kind, topic, group, off, recs⟩ := o
  simp only at hk
  subst hk
  unfold OV at HCH ⊢
  simp only at HLS HCH hl tl ol oh ⊢
  go_enter Tryz.func84, Tryz.ntmps84
  go_wp2_with fail
  refine HCH.out.mono ?_
  rintro e w2 ⟨rfl, hb2⟩
  have HC2 := Lib.hid (HC.out.later hb2)
  clear hb2
  obtain ⟨a0, a1, a2, a3, a4⟩ := HC2.out.op.cells
  simp only at a0 a1 a2 a3 a4
  go_wp2_with fail
  refine (HRF.out _).mono ?_
  rintro e w3 ⟨he, rfl⟩
  have he : e = .returned (.tuple #[.bool true, .bool false, .bool true, .bool false]) := he
  subst he
  go_wp2_with fail
  refine (rputnum_any Y vb b.length b 4 _ (HSB.out.after HC2.out.below) (by omega) (by omega)).mono ?_
  rintro e w4 ⟨v4, rfl, hown4, hb4⟩
  have HK4 := Lib.hid (RB.put HC2.out (Below.refl _ _) hown4 hb4)
  clear hown4 hb4 a0 a1 a2 a3 a4
  obtain ⟨a0, a1, a2, a3, a4⟩ := HK4.out.rk.op.cells
  simp only at a0 a1 a2 a3 a4
  have hl4 := Cm.enc_len 4
  have kc5 := conv_bytes topic
  have HO5 := Lib.hid (bytesWorld_out w4 topic (by omega))
  have HB5 := Lib.hid (bytesWorld_below w4 5 ⟨topic.toArray⟩)
  have le5 := Cm.enc_len topic.length
  go_wp2_with fail
  refine (rputbytes_any (fun _ => False) (fun _ => False) v4 _ _ _ (b ++ Cm.enc 4) topic _ ((Sl.of_own HK4.out.row (fun _ _ _ h => h)).after HB5.out) (HO5.out.sl (fun _ _ _ h => h)) (by (try simp only [List.length_append, Cm.encB_len]); omega) (by (try simp only [List.length_append, Cm.encB_len]); omega)).mono ?_
  rintro e w5 ⟨v5, rfl, hown, hb⟩
  have HK5 := Lib.hid (RB.put HK4.out.rk HB5.out hown hb)
  clear hown hb kc5 a0 a1 a2 a3 a4
  obtain ⟨a0, a1, a2, a3, a4⟩ := HK5.out.rk.op.cells
  simp only at a0 a1 a2 a3 a4
  obtain ⟨z, rfl⟩ := Int.eq_ofNat_of_zero_le ol
  have hw6 := wrap_u64' z (by omega)
  have OH := Lib.hid oh
  clear ol oh
  have le6 := Cm.enc_len z
  go_wp2_with fail
  refine (rputnum_any (fun _ => False) v5 _ (b ++ Cm.enc 4 ++ Cm.encB topic) z _ (Sl.of_own HK5.out.row (fun _ _ _ h => h)) (by (try simp only [List.length_append, Cm.encB_len]); omega) (by have := OH.out; omega)).mono ?_
  rintro e w6 ⟨v6, rfl, hown, hb⟩
  have HK6 := Lib.hid (RB.put HK5.out.rk (Below.refl _ _) hown hb)
  clear hown hb a0 a1 a2 a3 a4
  obtain ⟨a0, a1, a2, a3, a4⟩ := HK6.out.rk.op.cells
  simp only at a0 a1 a2 a3 a4
  go_wp2_with fail
  go_ret
  exact putted_of HK6.out (by rw [HRAW.out]; simp only [List.append_assoc, List.append_nil, List.nil_append, Int.toNat_natCast])

/-- What Put leaves. -/
def Behind (w : World) (X : Nat → Prop) (l : Tx) (e : Ending) (w' : World) : Prop := ∃ v, e = .returned v ∧ Sl w' (fun k => X k ∧ k < w.heap.size) 1 v l.length (BVs l) ∧ Below w.heap.size w w'
theorem behind_of {w w' : World} {X : Nat → Prop} {l : Tx} {e : Ending} (h : Made w 5 l e w') : Behind w X l e w' := by
  obtain ⟨v, rfl, hown, hb⟩ := h
  exact ⟨v, rfl, Sl.of_own hown (fun k hk _ hx => by omega), hb⟩
theorem rput_any (o : O) (v : Value) (X Y : Nat → Prop) (vb : Value) (nb : Nat) (b : Tx) (w : World) (h : OI w X v o) (hl : o.recs.length ≤ 140737488355328) (hb : Sl w Y 1 vb nb (BVs b)) (hbl : b.length ≤ 140737488351232) : Calls Tryz.prog 84 #[vb, v] w (Behind w Y (b ++ form o)) := by
  obtain ⟨A, c, rfl, hls⟩ := h
  by_cases hc : check o = 0
  · have hf : form o = raw o := by rw [form, if_neg (by omega)]
    rw [hf]
    have key : Calls Tryz.prog 84 #[vb, OV o A c] w (Putted w b o) := by
      rcases kind_cases (check_ok hc).1 with h | h | h | h | h
      · exact rput_0 o A c X Y vb nb b h w hl hls hb hbl hc
      · exact rput_1 o A c X Y vb nb b h w hl hls hb hbl hc
      · exact rput_2 o A c X Y vb nb b h w hl hls hb hbl hc
      · exact rput_3 o A c X Y vb nb b h w hl hls hb hbl hc
      · exact rput_4 o A c X Y vb nb b h w hl hls hb hbl hc
    exact key.mono fun e w' h => behind_of h
  · have hf : form o = [] := by rw [form, if_pos hc]
    rw [hf, List.append_nil]
    have hnb : nb = b.length := by obtain ⟨_, _, _, h, _⟩ := hb; rw [BVs_len] at h; omega
    subst hnb
    refine (rput_no o A c X vb w hl hls hc).mono ?_
    rintro e w' ⟨rfl, hb2⟩
    exact ⟨vb, rfl, (hb.after hb2).weaken (fun k _ h => h.1), hb2⟩

end Go.Proofs.YtebjjkhiniccgaaGreat.Pn

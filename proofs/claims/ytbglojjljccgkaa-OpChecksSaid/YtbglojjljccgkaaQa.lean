/-
  Layer 6 (op): slices.Clone at bytes; the walk of the statement OpBytes.
-/
import Derived.Test.YtbglojjljccgkaaPo
import Derived.Test.YtbglojjljccgkaaQf
namespace Go.Proofs.Ytbglojjljccgkaa.Qa
open Go Go.RowKit Ck Kw Ca Cb Cc Cd Ci Pm Pa Pe Pf Pg Ph Ppi Pj Kx Pk Pl Pn Po Pp Qs Qf
attribute [local go_sem ↓] Go.wp_at_zero Go.wp_at_succ
set_option linter.unusedVariables false

set_option maxHeartbeats 400000 in
theorem sclb_any (X : Nat → Prop) (v : Value) (n : Nat) (b : List UInt8) (w : World) (hv : Sl w X 1 v n (BVs b)) (hn : n ≤ 140737488355328) :
    Calls Try.prog 21 #[v] w fun e w' => Made w 5 b e w' := by
  have hnl : n = b.length := by obtain ⟨A, c, _, h, _⟩ := hv; rw [BVs_len] at h; omega
  subst hnl
  obtain ⟨i0, hi0, hz0, hz1, hz2⟩ := info_parts info_u8
  have hv' := hv
  obtain ⟨A, c, rfl, -⟩ := hv'
  have heq := fun (W : World) => Lib.run_eql_slice_nil (P := Try.prog) W 32 5 A b.length c 0 0 Try.underlying32
  rcases A with _ | ad
  · obtain ⟨h0, _⟩ := hv.none_
    have hb : b = [] := List.eq_nil_of_length_eq_zero h0
    subst hb
    simp only [List.length_nil] at heq
    clear hv h0
    go_enter Try.func21, Try.ntmps21
    go_wp2
    go_ret
    exact ⟨_, rfl, World.ownsRow_nil _ _ _ _, Below.refl _ _⟩
  · go_enter Try.func21, Try.ntmps21
    go_wp2_with (at_builtin; refine wpList_append_sl _ rfl (.tmp 5) (.tmp 6) _ rfl w.heap.size 5 i0 _ 1 1 Try.underlying32 hi0 hz0 hz1 hz2 rfl (by omega) (.slice (some ⟨w.heap.size, 0, none⟩) 0 0) 0 [] rfl (World.ownsRow_made w #[] 0 (Nat.le_refl _) (by simp only [maxLen]; omega) rfl) X _ b.length (BVs b) rfl (hv.alloc _) (BVs_one _) (by simp only [maxLen]; omega) (by omega) (by simp) ?_; intro v2 w2 happ)
    go_ret
    refine ⟨v2, rfl, by simpa using happ.1, ?_⟩
    exact ((Below.refl _ _).alloc (Nat.le_refl _) _).grown happ.2.1 (by simp) (by simp [Value.ownBlock])


theorem eq_same (w : World) (X Y : Nat → Prop) (va vb : Value) (n m : Nat) (l : List UInt8) (ha : Sl w X 1 va n (BVs l)) (hb : Sl w Y 1 vb m (BVs l)) :
    Calls Try.prog 22 #[va, vb] w fun e w' => e = .returned (.bool true) ∧ w = w' :=
  (equal_any w X Y va vb n m l l ha hb).mono fun e w' h => ⟨by rw [h.1, beq_self_eq_true], h.2⟩

/-- What stands there: the operation, the result, the bytes. -/
structure ST (w0 : World) (o : O) (A : Option Addr) (c : Nat) (e f : Int) (vb : Value) (b : Tx) (W : World) : Prop where
  below : Below w0.heap.size w0 W
  op : OB W w0.heap.size o A c
  res : Blk W (w0.heap.size + 1) 35 #[.int .i64 e, .int .i64 f]
  ls : Ls W (fun k => w0.heap.size ≤ k) (.slice A o.recs.length c) o.recs
  b : Sl W (fun k => w0.heap.size ≤ k) 1 vb b.length (BVs b)
section
variable {w0 W W' : World} {o : O} {A : Option Addr} {c : Nat} {e f : Int} {vb : Value} {b : Tx}
theorem ST.later (h : ST w0 o A c e f vb b W) (hb : Below W.heap.size W W') : ST w0 o A c e f vb b W' :=
  ⟨h.below.trans (hb.mono h.below.size), Blk.below h.op hb (Blk.lt h.op), h.res.below hb h.res.lt, h.ls.after hb, h.b.after hb⟩
theorem ST.drew (h : ST w0 o A c e f vb b W) : ST w0 o A c e f vb b W.drew := ⟨below_drewN h.below 1, h.op, h.res, h.ls, h.b⟩
theorem ST.oi (h : ST w0 o A c e f vb b W) : OI W (fun k => w0.heap.size ≤ k) (OV o A c) o := ⟨A, c, rfl, h.ls⟩
theorem vb_drew {v : Value} {l : Tx} (h : VB w0 v l W) : VB w0 v l W.drew := ⟨below_drewN h.below 1, h.row⟩
theorem ST.cells (h : ST w0 o A c e f vb b W) : W.cell? ⟨w0.heap.size, 0, none⟩ = some (.int .i64 o.kind) ∧ W.cell? ⟨w0.heap.size, 1, none⟩ = some (.string ⟨o.topic.toArray⟩) ∧ W.cell? ⟨w0.heap.size, 2, none⟩ = some (.string ⟨o.group.toArray⟩) ∧ W.cell? ⟨w0.heap.size, 3, none⟩ = some (.int .i64 o.off) ∧ W.cell? ⟨w0.heap.size, 4, none⟩ = some (.slice A o.recs.length c) ∧
    W.cell? ⟨w0.heap.size + 1, 0, none⟩ = some (.int .i64 e) ∧ W.cell? ⟨w0.heap.size + 1, 1, none⟩ = some (.int .i64 f) :=
  ⟨h.op.cells.1, h.op.cells.2.1, h.op.cells.2.2.1, h.op.cells.2.2.2.1, h.op.cells.2.2.2.2, h.res.cell 0, h.res.cell 1⟩
end
theorem st_start {w : World} {o : O} {A : Option Addr} {c : Nat} {e f : Int} {vb : Value} {b : Tx} (hls : Ls w (fun k => w.heap.size ≤ k) (.slice A o.recs.length c) o.recs) (hb : Sl w (fun k => w.heap.size ≤ k) 1 vb b.length (BVs b)) :
    ST w o A c e f vb b ((w.alloc (.cells (OC o A c) 27)).alloc (.cells #[.int .i64 e, .int .i64 f] 35)) := by
  have b1 : Below w.heap.size w (w.alloc (.cells (OC o A c) 27)) := (Below.refl _ w).alloc (Nat.le_refl _) _
  have b2 : Below w.heap.size w ((w.alloc (.cells (OC o A c) 27)).alloc (.cells #[.int .i64 e, .int .i64 f] 35)) := b1.alloc b1.size _
  exact ⟨b2, Blk.alloc (Blk.new w _ _) _, Blk.new_at (by simp) rfl, hls.after b2, hb.after b2⟩
theorem vb_made {w0 W W' : World} {v : Value} {l : Tx} (hB : Below w0.heap.size w0 W) (hown : W'.ownsRow W.heap.size 5 1 v l.length (BVs l)) (hb : Below W.heap.size W W') : VB w0 v l W' :=
  ⟨hB.trans (hb.mono hB.size), Sl.of_own hown (fun k h1 _ h2 => by have := hB.size; omega)⟩

set_option maxRecDepth 100000 in
set_option maxHeartbeats 4000000 in
theorem opbytes_any (w : World) (Ab : Option Addr) (cb : Nat) (b : Tx) (o : O) (vo : Value) (e f : Int) (hb : Sl w (fun k => w.heap.size ≤ k) 1 (.slice Ab b.length cb) b.length (BVs b)) (ho : OI w (fun k => w.heap.size ≤ k) vo o) (hbl : b.length ≤ 140737488351232) (hlo : o.recs.length * 24 ≤ 140737488351232) (he : e ≤ 9223372036854775807) (hf : f ≤ 9223372036854775807) :
    Calls Try.prog 5 #[.slice Ab b.length cb, vo, .agg #[.int .i64 e, .int .i64 f]] w fun e' w' => e' = .returned (.bool true) ∧ Below w.heap.size w w' := by
  obtain ⟨A, c, rfl, hls⟩ := ho
  have HT0 := Lib.hid (st_start (e := e) (f := f) hls hb)
  have HLO : Hid (o.recs.length ≤ 140737488355328) := Lib.hid (by omega)
  have HBL := Lib.hid hbl
  have HE := Lib.hid he
  have HF := Lib.hid hf
  have hcc : (check o == check o) = true := beq_self_eq_true _
  have HFL := Lib.hid (form_len o)
  clear hls hb hlo he hf hbl
  unfold OV
  go_enter Try.func5, Try.ntmps5
  go_wp2_with fail
  refine (bytes_any o _ _ _ HT0.out.oi HLO.out).mono ?_
  rintro e1 w1 ⟨p, rfl, hown1, hb1⟩
  obtain ⟨Ap, cp, rfl⟩ := own_shape hown1
  have HT1 := Lib.hid (HT0.out.later hb1)
  have HP1 := Lib.hid (vb_made HT0.out.below hown1 hb1)
  obtain ⟨a0, a1, a2, a3, a4, -, -⟩ := HT1.out.cells
  clear hown1 hb1
  go_wp2_with fail
  refine (rbytes_any o _ _ _ HT1.out.oi HLO.out).mono ?_
  rintro e2 w2 ⟨q, rfl, hsq, hb2⟩
  obtain ⟨Aq, cq, rfl, -⟩ := id hsq
  have HT2 := Lib.hid (HT1.out.later hb2)
  have HP2 := Lib.hid (HP1.out.later hb2)
  have HQ2 := Lib.hid hsq
  clear hb2 a0 a1 a2 a3 a4 hsq
  go_wp2_with fail
  refine (sclb_any _ _ _ b _ HT2.out.b (by have := HBL.out; omega)).mono ?_
  rintro e3 w3 ⟨was, rfl, hown3, hb3⟩
  obtain ⟨Aw, cw, rfl⟩ := own_shape hown3
  have HT3 := Lib.hid (HT2.out.later hb3)
  have HP3 := Lib.hid (HP2.out.later hb3)
  have HQ3 := Lib.hid (HQ2.out.after hb3)
  have HW3 := Lib.hid (vb_made HT2.out.below hown3 hb3)
  clear hown3 hb3
  go_wp2_with fail
  have HD3 := Lib.hid HT3.out.drew
  obtain ⟨l6, hl6⟩ : ∃ l : Tx, l = b ++ form o := ⟨_, rfl⟩
  obtain ⟨l8, hl8⟩ : ∃ l : Tx, l = b ++ resB e f := ⟨_, rfl⟩
  have HL6 := Lib.hid hl6
  have HL8 := Lib.hid hl8
  clear hl6 hl8
  have tok1 : True := trivial
  have tok2 : True := trivial
  have tok3 : True := trivial
  have tok4 : True := trivial
  go_region_held3 (fun w' => w'.cell? ⟨w.heap.size, 0, none⟩ = some (.int .i64 o.kind) ∧ w'.cell? ⟨w.heap.size, 1, none⟩ = some (.string ⟨o.topic.toArray⟩) ∧ w'.cell? ⟨w.heap.size, 2, none⟩ = some (.string ⟨o.group.toArray⟩) ∧ w'.cell? ⟨w.heap.size, 3, none⟩ = some (.int .i64 o.off) ∧ w'.cell? ⟨w.heap.size, 4, none⟩ = some (.slice A o.recs.length c) ∧ w'.cell? ⟨w.heap.size + 1, 0, none⟩ = some (.int .i64 e) ∧ w'.cell? ⟨w.heap.size + 1, 1, none⟩ = some (.int .i64 f))
    (first | exact HD3.out.cells | exact HT4.out.cells | exact HT5.out.cells | exact HT6.out.cells | exact HT7.out.cells | exact HT8.out.cells)
    (first
    | (go_at_call 9; refine (begun_any _).mono ?_; rintro e4 w4 ⟨rfl, hb4⟩; have HT4 := Lib.hid (HD3.out.later hb4); have HP4 := Lib.hid ((vb_drew HP3.out).later hb4); have HQ4 := Lib.hid (HQ3.out.drew.after hb4); have HW4 := Lib.hid ((vb_drew HW3.out).later hb4); clear hb4)
    | (go_at_call 22; have _t := tok1; clear tok1 _t; refine (eq_same _ _ _ _ _ _ _ (form o) HP4.out.row HQ4.out).mono ?_; rintro e5 wx ⟨rfl, rfl⟩)
    | (go_at_call 23; refine (put_any o _ _ _ _ _ b _ HT4.out.oi HLO.out HT4.out.b HBL.out).mono ?_; rintro e5 w5 ⟨r5, rfl, hown5, hb5⟩; rw [← HL6.out] at hown5; obtain ⟨A5, c5, rfl⟩ := own_shape hown5; have HT5 := Lib.hid (HT4.out.later hb5); have HR5 := Lib.hid (vb_made HT4.out.below hown5 hb5); have HW5 := Lib.hid (HW4.out.later hb5); clear hown5 hb5)
    | (go_at_call 24; refine (rput_any o _ _ _ _ _ b _ HT5.out.oi HLO.out HW5.out.row HBL.out).mono ?_; rintro e6 w6 ⟨r6, rfl, hs6, hb6⟩; rw [← HL6.out] at hs6; obtain ⟨A6, c6, rfl, -⟩ := id hs6; have HT6 := Lib.hid (HT5.out.later hb6); have HR6 := Lib.hid (HR5.out.later hb6); have HS6 := Lib.hid hs6; have HW6 := Lib.hid (HW5.out.later hb6); clear hs6 hb6)
    | (go_at_call 22; have _t := tok2; clear tok2 _t; refine (eq_same _ _ _ _ _ _ _ l6 HR6.out.row HS6.out).mono ?_; rintro e7 wx ⟨rfl, rfl⟩)
    | (go_at_call 25; refine (putres_any _ _ _ b e f _ HT6.out.b HBL.out HE.out HF.out).mono ?_; rintro e7 w7 ⟨r7, rfl, hown7, hb7⟩; rw [← HL8.out] at hown7; obtain ⟨A7, c7, rfl⟩ := own_shape hown7; have HT7 := Lib.hid (HT6.out.later hb7); have HR7 := Lib.hid (vb_made HT6.out.below hown7 hb7); have HW7 := Lib.hid (HW6.out.later hb7); clear hown7 hb7)
    | (go_at_call 26; refine (rputres_any _ _ _ b e f _ HW7.out.row HBL.out HE.out HF.out).mono ?_; rintro e8 w8 ⟨r8, rfl, hown8, hb8⟩; rw [← HL8.out] at hown8; obtain ⟨A8, c8, rfl⟩ := own_shape hown8; have HT8 := Lib.hid (HT7.out.later hb8); have HR8 := Lib.hid (HR7.out.later hb8); have HS8 := Lib.hid (vb_made HT7.out.below hown8 hb8); have HW8 := Lib.hid (HW7.out.later hb8); clear hown8 hb8)
    | (go_at_call 22; have _t := tok3; clear tok3 _t; refine (eq_same _ _ _ _ _ _ _ l8 HR8.out.row HS8.out.row).mono ?_; rintro e9 wx ⟨rfl, rfl⟩)
    | (go_at_call 22; have _t := tok4; clear tok4 _t; refine (eq_same _ _ _ _ _ _ _ b HT8.out.b HW8.out.row).mono ?_; rintro e9 wx ⟨rfl, rfl⟩))
  all_goals
    go_wp2_with fail
    go_ret
    exact ⟨rfl, HT8.out.below⟩

end Go.Proofs.Ytbglojjljccgkaa.Qa

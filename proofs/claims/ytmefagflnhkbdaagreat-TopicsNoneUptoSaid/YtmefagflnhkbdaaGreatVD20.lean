/-
  Layer 7: what topics that no call made answer.
-/
import Derived.Test.YtmefagflnhkbdaaGreatVD19
import Derived.Test.YtmefagflnhkbdaaGreatVD14
import Derived.Test.YtmefagflnhkbdaaGreatVD10
import Derived.Test.YtmefagflnhkbdaaGreatVD04
import Derived.Outline
import Derived.Test.YtmefagflnhkbdaaGreatVD17
import Derived.Lib.MinMax
import Derived.Test.YtmefagflnhkbdaaGreatVD01
import Derived.Test.YtmefagflnhkbdaaGreatRows
import Derived.Maps.OwnSet
import Derived.Maps.StringElems
import Derived.Deep.QuietTactic
import Derived.BigQuiet
namespace Go.Proofs.YtmefagflnhkbdaaGreat.Xn
set_option linter.unusedSimpArgs false
open Go Go.RowKit Ck Kw Ga Kf Pm Pe Tm Tn Tq Aa Aj Ai Ag Xl
attribute [local go_sem ↓] Go.wp_at_zero Go.wp_at_succ
set_option linter.unusedVariables false
set_option maxRecDepth 100000

/-- Two results, the second a struct in a cell of its own. -/
theorem results_tmp_row {P : Program} {fn : Func} {p q : Tmp} {ty : TypeId} (h : fn.results = #[.tmp q, .cell p ty]) (tmps : Array Value) (w : World) (g : Nat) (t : TypeId) (cs : Array Value) (fr : Nat × Nat) (d : TypeDesc)
    (hp : tmps.getD p undef = .pointer (some ⟨g, 0, none⟩)) (hg : w.heap[g]? = some (.cells cs t fr))
    (hu : P.underlying ty = some d) (hd : (match d with | .struct _ | .array _ _ => true | _ => false) = true) (hi : (P.info? ty).map (·.size) = some cs.size) :
    (results fn tmps).run P w = .ok (.tuple #[tmps.getD q undef, .agg cs]) w := by
  have hp' : tmps[p]?.getD undef = .pointer (some ⟨g, 0, none⟩) := by simpa using hp
  simp [results, h, hp', asAddr, run_loadVar_row w g t ty cs fr d hg hu hd hi]
theorem apply_un (w : World) (v : Value) (client time : Int) (o : O) (A : Option Addr) (c : Nat) (h : Un w v) :
    Calls Tryz.prog 9 #[v, RV client time o A c] w fun e w' => e = .returned (.tuple #[.agg #[.int .i64 2, .int .i64 0], .slice none 0 0, .bool false]) ∧ Below w.heap.size w w' := by
  have HAK := Lib.hid (ak_new w client time o A c)
  have HM := Lib.hid (made_un _ v (h.later (HAK.out.below.mono (Nat.le_refl _))))
  have hr := HAK.out.res
  have r0 := hr.cell 0
  have r1 := hr.cell 1
  have f0 := hr.frozen 0
  have f1 := hr.frozen 1
  simp only [List.getElem?_toArray, List.getElem?_cons_zero, List.getElem?_cons_succ] at r0 r1
  clear hr h
  unfold RV
  unfold RC at HAK HM r0 r1 f0 f1 ⊢
  go_enter Tryz.func9, Tryz.ntmps9
  go_wp2_with fail
  refine HM.out.mono ?_
  rintro e w1 ⟨rfl, rfl⟩
  go_wp2_with fail
  refine bodyPost_ret (results_row_tmp2 rfl _ _ (w.heap.size + 1) 30 #[.int .i64 2, .int .i64 0] (0, 0) _ rfl (Blk.new_at (by simp) rfl) Tryz.underlying30 rfl Ai.size_res) rfl ?_
  exact ⟨rfl, (op_below w _).trans ((op_below _ _).mono (by simp))⟩
theorem last_un (w : World) (v : Value) (k : Int) (h : Un w v) :
    Calls Tryz.prog 13 #[v, .int .i64 k] w fun e w' => e = .returned (.tuple #[.int .i64 0, .agg #[.int .i64 0, .int .i64 0]]) ∧ Below w.heap.size w w' := by
  have hb := op_below w (.cells #[.int .i64 0, .int .i64 0] 30)
  have hr : Blk (w.alloc (.cells #[.int .i64 0, .int .i64 0] 30)) w.heap.size 30 #[.int .i64 0, .int .i64 0] := Blk.new _ _ _
  have HR := Lib.hid hr
  have HM := Lib.hid (made_un _ v (h.later hb))
  have r0 := hr.cell 0
  have r1 := hr.cell 1
  have f0 := hr.frozen 0
  have f1 := hr.frozen 1
  simp only [List.getElem?_toArray, List.getElem?_cons_zero, List.getElem?_cons_succ] at r0 r1
  have HB := Lib.hid hb
  clear hb h hr
  go_enter Tryz.func13, Tryz.ntmps13
  go_wp2_with fail
  refine HM.out.mono ?_
  rintro e w1 ⟨rfl, rfl⟩
  go_wp2_with fail
  refine bodyPost_ret (results_tmp_row rfl _ _ w.heap.size 30 #[.int .i64 0, .int .i64 0] (0, 0) _ rfl (Blk.new_at rfl rfl) Tryz.underlying30 rfl Ai.size_res) rfl ?_
  exact ⟨rfl, HB.out⟩
theorem bounds_un (w : World) (v : Value) (s : ByteArray) (h : Un w v) :
    Calls Tryz.prog 22 #[v, .string s] w fun e w' => e = .returned (.tuple #[.int .i64 0, .int .i64 0, .int .i64 2]) ∧ w = w' := by
  have HF := Lib.hid (find_un w v s h)
  clear h
  go_enter Tryz.func22, Tryz.ntmps22
  go_wp2_with fail
  refine HF.out.mono ?_
  rintro e w2 ⟨rfl, rfl⟩
  go_wp2_with fail
  go_ret3
  exact ⟨rfl, rfl⟩
theorem get_un (w : World) (v : Value) (s : ByteArray) (k : Int) (h : Un w v) :
    Calls Tryz.prog 23 #[v, .string s, .int .i64 k] w fun e w' => e = .returned (.tuple #[.slice none 0 0, .int .i64 2]) ∧ w = w' := by
  have HF := Lib.hid (find_un w v s h)
  clear h
  go_enter Tryz.func23, Tryz.ntmps23
  go_wp2_with fail
  refine HF.out.mono ?_
  rintro e w2 ⟨rfl, rfl⟩
  go_wp2_with fail
  go_ret2
  exact ⟨rfl, rfl⟩
theorem comm_un (w : World) (v : Value) (s g : ByteArray) (h : Un w v) :
    Calls Tryz.prog 24 #[v, .string s, .string g] w fun e w' => e = .returned (.tuple #[.int .i64 0, .int .i64 2]) ∧ w = w' := by
  have HF := Lib.hid (find_un w v s h)
  clear h
  go_enter Tryz.func24, Tryz.ntmps24
  go_wp2_with fail
  refine HF.out.mono ?_
  rintro e w2 ⟨rfl, rfl⟩
  go_wp2_with fail
  go_ret2
  exact ⟨rfl, rfl⟩
theorem groups_un (w : World) (v : Value) (s : ByteArray) (h : Un w v) :
    Calls Tryz.prog 27 #[v, .string s] w fun e w' => e = .returned (.slice none 0 0) ∧ w = w' := by
  have HF := Lib.hid (find_un w v s h)
  clear h
  go_enter Tryz.func27, Tryz.ntmps27
  go_wp2_with fail
  refine HF.out.mono ?_
  rintro e w2 ⟨rfl, rfl⟩
  go_wp2_with fail
  go_ret
  exact ⟨rfl, rfl⟩
theorem names_un (w : World) (v : Value) (h : Un w v) :
    Calls Tryz.prog 26 #[v] w fun e w' => e = .returned (.slice none 0 0) ∧ w = w' := by
  have HF := Lib.hid (made_un w v h)
  clear h
  go_enter Tryz.func26, Tryz.ntmps26
  go_wp2_with fail
  refine HF.out.mono ?_
  rintro e w2 ⟨rfl, rfl⟩
  go_wp2_with fail
  go_ret
  exact ⟨rfl, rfl⟩
theorem bytes_un (w : World) (v : Value) (h : Un w v) :
    Calls Tryz.prog 17 #[v] w fun e w' => e = .returned (.slice none 0 0) ∧ w = w' := by
  have HF := Lib.hid (made_un w v h)
  clear h
  go_enter Tryz.func17, Tryz.ntmps17
  go_wp2_with fail
  refine HF.out.mono ?_
  rintro e w2 ⟨rfl, rfl⟩
  go_wp2_with fail
  go_ret
  exact ⟨rfl, rfl⟩
theorem digest_un (w : World) (v u : Value) (h : Un w v) :
    Calls Tryz.prog 19 #[v, u] w fun e w' => e = .returned (.int .i64 0) ∧ w = w' := by
  have HF := Lib.hid (made_un w v h)
  clear h
  go_enter Tryz.func19, Tryz.ntmps19
  go_wp2_with fail
  refine HF.out.mono ?_
  rintro e w2 ⟨rfl, rfl⟩
  go_wp2_with fail
  go_ret
  exact ⟨rfl, rfl⟩
theorem clone_un (w : World) (v : Value) (h : Un w v) :
    Calls Tryz.prog 14 #[v] w fun e w' => e = .returned (.pointer none) ∧ w = w' := by
  have HF := Lib.hid (made_un w v h)
  clear h
  go_enter Tryz.func14, Tryz.ntmps14
  go_wp2_with fail
  refine HF.out.mono ?_
  rintro e w2 ⟨rfl, rfl⟩
  go_wp2_with fail
  go_ret
  exact ⟨rfl, rfl⟩
end Go.Proofs.YtmefagflnhkbdaaGreat.Xn

/-
  Contracts of the program's topics: putNum, putBytes.
-/
namespace Go.Proofs.YtmefagflnhkbdaaGreat.Bp
set_option linter.unusedSimpArgs false
open Go Go.RowKit Ck Kw Ca Cb Ga Pk
attribute [local go_sem ↓] Go.wp_at_zero Go.wp_at_succ
set_option linter.unusedVariables false

theorem none_sl (w : World) : Sl w (fun _ => False) 1 (.slice none 0 0) 0 (BVs []) := Sl.of_own (World.ownsRow_nil w 0 5 1) (fun _ _ _ h => h)

set_option maxRecDepth 100000 in
set_option maxHeartbeats 1000000 in
theorem pnum_any (B : Nat) (v : Value) (n : Nat) (b : List UInt8) (w : World) (hown : w.ownsRow B 5 1 v b.length (BVs b)) (hB : B ≤ w.heap.size) (hl : b.length ≤ 140737488355318) (hn : n < 9223372036854775808) :
    Calls Tryz.prog 49 #[v, .int .i64 (n : Int)] w fun e w' => Onto w B 5 v (b ++ Cm.enc n) e w' := by
  have hlen := Cm.enc_len n
  obtain ⟨i0, hi0, hz0, hz1, hz2⟩ := info_parts Cb.info_u8
  have hw := wrap_u64' n (by omega)
  have HP := Lib.hid (putnum_any (fun _ => False) (.slice none 0 0) 0 [] n w (none_sl w) (by omega) (by omega))
  obtain ⟨A0, c0, rfl⟩ := own_shape hown
  have HO := Lib.hid hown
  clear hown
  go_enter Tryz.func49, Tryz.ntmps49
  go_wp2_with fail
  refine HP.out.mono ?_
  rintro e w1 ⟨v1, rfl, ho1, hb1⟩
  simp only [List.nil_append] at ho1
  obtain ⟨A1, c1, rfl⟩ := own_shape ho1
  have HO1 := Lib.hid ho1
  have HB1 := Lib.hid hb1
  clear ho1 hb1
  go_wp2_with (at_builtin; refine wpList_append_sl _ rfl (.tmp 5) (.tmp 8) _ rfl B 5 i0 _ 1 1 Tryz.underlying49 hi0 hz0 hz1 hz2 rfl (by omega) _ b.length (BVs b) rfl (own_below HO.out HB1.out) (fun _ => False) _ (Cm.enc n).length (BVs (Cm.enc n)) rfl (Sl.of_own HO1.out (fun _ _ _ h => h)) (BVs_one _) (by simp only [maxLen]; omega) (by omega) (Nat.le_trans hB HB1.out.size) ?_; intro v2 w2 happ)
  go_ret
  exact Onto.of HB1.out happ

set_option maxRecDepth 100000 in
set_option maxHeartbeats 1000000 in
theorem pbytes_any (B : Nat) (X : Nat → Prop) (v vx : Value) (k : Nat) (b x : List UInt8) (w : World) (hown : w.ownsRow B 5 1 v b.length (BVs b)) (hB : B ≤ w.heap.size) (hx : Sl w X 1 vx k (BVs x)) (hl : b.length ≤ 140737488355300) (hk : b.length + x.length ≤ 140737488355300) :
    Calls Tryz.prog 50 #[v, vx] w fun e w' => Onto w B 5 v (b ++ Cm.encB x) e w' := by
  have hkl : k = x.length := by obtain ⟨A, c, _, h, _⟩ := hx; rw [BVs_len] at h; omega
  obtain ⟨Ax, cx, rfl⟩ : ∃ A c, vx = .slice A k c := by obtain ⟨A, c, h, _⟩ := hx; exact ⟨A, c, h⟩
  subst hkl
  have hlen := Cm.enc_len x.length
  have HBL := Lib.hid (Cm.encB_len x)
  obtain ⟨i0, hi0, hz0, hz1, hz2⟩ := info_parts Cb.info_u8
  have HP := Lib.hid (putbytes_any X (.slice none 0 0) (.slice Ax x.length cx) 0 x.length [] x w (Sl.nil w X 1) hx (by omega) (by omega))
  obtain ⟨A0, c0, rfl⟩ := own_shape hown
  have HO := Lib.hid hown
  clear hown
  go_enter Tryz.func50, Tryz.ntmps50
  go_wp2_with fail
  refine HP.out.mono ?_
  rintro e w1 ⟨v1, rfl, ho1, hb1⟩
  simp only [List.nil_append] at ho1
  obtain ⟨A1, c1, rfl⟩ := own_shape ho1
  have HO1 := Lib.hid ho1
  have HB1 := Lib.hid hb1
  clear ho1 hb1
  go_wp2_with (at_builtin; refine wpList_append_sl _ rfl (.tmp 5) (.tmp 7) _ rfl B 5 i0 _ 1 1 Tryz.underlying49 hi0 hz0 hz1 hz2 rfl (by omega) _ b.length (BVs b) rfl (own_below HO.out HB1.out) (fun _ => False) _ (Cm.encB x).length (BVs (Cm.encB x)) rfl (Sl.of_own HO1.out (fun _ _ _ h => h)) (BVs_one _) (by have := HBL.out; simp only [maxLen]; omega) (by have := HBL.out; omega) (Nat.le_trans hB HB1.out.size) ?_; intro v2 w2 happ)
  go_ret
  exact Onto.of HB1.out happ
end Go.Proofs.YtmefagflnhkbdaaGreat.Bp

/-
  Layer 7: the bytes of a placed record, both sides.
-/
namespace Go.Proofs.YtmefagflnhkbdaaGreat.Xo
set_option linter.unusedSimpArgs false
open Go Go.RowKit Ck Cd Kw Ga Kf Kx Pm Pe Tm Tn Tq Aa Bp Xj
attribute [local go_sem ↓] Go.wp_at_zero Go.wp_at_succ
set_option linter.unusedVariables false
set_option maxRecDepth 100000

abbrev Pl3 := Tx × Int × Tx
def plQ (x : Pl3) : Tx := Cm.encB x.1 ++ Cm.enc (max x.2.1 0).toNat ++ Cm.encB x.2.2
def P3 (x : Pl3) (u : Value) : Array Value := #[.string ⟨x.1.toArray⟩, .int .i64 x.2.1, u]
set_option maxHeartbeats 8000000 in
theorem plbytes_any (w : World) (X : Nat → Prop) (x : Pl3) (u : Value) (hu : Sl w X 1 u x.2.2.length (BVs x.2.2)) (h1 : x.1.length ≤ 1048576) (h2 : x.2.2.length ≤ 1048576) (h3 : x.2.1 ≤ 9223372036854775807) :
    Calls Tryz.prog 28 #[.agg (P3 x u)] w fun e w' => ∃ v, e = .returned v ∧ w'.ownsRow w.heap.size 5 1 v (plQ x).length (BVs (plQ x)) ∧ Below w.heap.size w w' := by
  obtain ⟨tx, off, rc⟩ := x
  simp only at h1 h2 h3 hu
  obtain ⟨Ar, cr, rfl, -⟩ := id hu
  have hb0 := op_below w (.cells (P3 (tx, off, rc) (.slice Ar rc.length cr)) 69)
  have hg0 : Blk (w.alloc (.cells (P3 (tx, off, rc) (.slice Ar rc.length cr)) 69)) w.heap.size 69 (P3 (tx, off, rc) (.slice Ar rc.length cr)) := Blk.new w _ _
  have HB0 := Lib.hid hb0
  have HG0 := Lib.hid hg0
  have HU := Lib.hid hu
  obtain ⟨m, hm⟩ : ∃ m : Nat, max off 0 = (m : Int) := ⟨(max off 0).toNat, by omega⟩
  have hm2 : m < 9223372036854775808 := by omega
  have HPL : Hid (plQ (tx, off, rc) = ([] ++ Cm.encB tx) ++ Cm.enc m ++ Cm.encB rc) := Lib.hid (by
    unfold plQ
    simp only [hm, Int.toNat_natCast, List.nil_append, List.append_assoc])
  have c0 : (w.alloc (.cells (P3 (tx, off, rc) (.slice Ar rc.length cr)) 69)).cell? ⟨w.heap.size, 0, none⟩ = some (.string ⟨tx.toArray⟩) := hg0.cell 0
  have hcv := conv_bytes tx
  generalize hW : w.alloc (.cells (P3 (tx, off, rc) (.slice Ar rc.length cr)) 69) = W at *
  have HO5 := Lib.hid (bytesWorld_out W tx (by omega))
  have HB5 := Lib.hid (bytesWorld_below W 5 ⟨tx.toArray⟩)
  have HP1 := Lib.hid (pbytes_any w.heap.size (fun _ => False) (.slice none 0 0) _ _ [] tx (Lib.bytesWorld W 5 ⟨tx.toArray⟩) (World.ownsRow_nil _ _ _ _) (Nat.le_trans hb0.size HB5.out.size) (HO5.out.sl (X := fun _ => False) (fun _ _ _ h => h)) (by simp) (by simp; omega))
  clear hb0 hg0 hu
  unfold P3 at *
  have hlt := HG0.out.lt
  go_enter Tryz.func28, Tryz.ntmps28
  go_wp2_with fail
  refine HP1.out.mono ?_
  rintro e w1 ⟨v1, rfl, ho1, hg1, -⟩
  have hb1 : Below w.heap.size w w1 := (HB0.out.trans (HB5.out.mono HB0.out.size)).grown hg1 (Nat.le_trans HB0.out.size HB5.out.size) (fun g hg => by simp [Value.ownBlock] at hg)
  have hk1 : Blk w1 w.heap.size 69 #[.string ⟨tx.toArray⟩, .int .i64 off, .slice Ar rc.length cr] := (HG0.out.below HB5.out hlt).grown hg1 (fun e => by simp [Value.ownBlock] at e)
  have hu1 := HU.out.after hb1
  obtain ⟨A1, c1', rfl⟩ := own_shape ho1
  have c1 : w1.cell? ⟨w.heap.size, 1, none⟩ = some (.int .i64 off) := hk1.cell 1
  have HK1 := Lib.hid hk1
  have HU1 := Lib.hid hu1
  have HO1 := Lib.hid ho1
  have HB1 := Lib.hid hb1
  have HP2 := Lib.hid (pnum_any w.heap.size (.slice A1 (([] : List UInt8) ++ Cm.encB tx).length c1') m ([] ++ Cm.encB tx) w1 ho1 hb1.size (by have := (Cm.encB_len tx); have := (Cm.enc_len tx.length).1; simp only [List.nil_append]; omega) hm2)
  have HL1 := Lib.hid (show (([] : List UInt8) ++ Cm.encB tx).length ≤ 1048600 by have := (Cm.encB_len tx); have := (Cm.enc_len tx.length).1; simp only [List.nil_append]; omega)
  clear c0 hk1 hu1 ho1 hb1 hg1 HP1 hcv HO5 HB5 hlt HG0
  generalize ([] : List UInt8) ++ Cm.encB tx = b1 at *
  go_wp2_with fail
  refine HP2.out.mono ?_
  rintro e w2 ⟨v2, rfl, ho2, hg2, hv2⟩
  have hk2 := HK1.out.grown hg2 (fun e => own_far HO1.out HK1.out (by decide) e.symm)
  have hb2 := HB1.out.grown hg2 HB1.out.size (fun g hg => (HO1.out.lt g hg).1)
  have hu2 := HU.out.after hb2
  obtain ⟨A2, c2', rfl⟩ := own_shape ho2
  have e0 : w2.cell? ⟨w.heap.size, 2, none⟩ = some (.slice Ar rc.length cr) := hk2.cell 2
  have HO2 := Lib.hid ho2
  have HB2 := Lib.hid hb2
  have HL2 := Lib.hid (show (b1 ++ Cm.enc m).length ≤ 1048620 by have := HL1.out; have := (Cm.enc_len m).1; simp only [List.length_append]; omega)
  have HP3 := Lib.hid (pbytes_any w.heap.size X (.slice A2 (b1 ++ Cm.enc m).length c2') (.slice Ar rc.length cr) rc.length (b1 ++ Cm.enc m) rc w2 ho2 hb2.size hu2 (by have := HL2.out; omega) (by have := HL2.out; omega))
  clear c1 hk2 hu2 ho2 hb2 hg2 HP2 HK1 HU1
  generalize b1 ++ Cm.enc m = b2 at *
  go_wp2_with fail
  refine HP3.out.mono ?_
  rintro e w3 ⟨v3, rfl, ho3, hg3, hv3⟩
  have HO3 := Lib.hid ho3
  have HB3 := Lib.hid (HB2.out.grown hg3 HB2.out.size (fun g hg => (HO2.out.lt g hg).1))
  clear ho3 hg3 hv3 HP3
  go_wp2_with fail
  go_ret
  rw [HPL.out]
  exact ⟨_, rfl, HO3.out, HB3.out⟩
theorem rput_any (X : Nat → Prop) (v : Value) (n k : Nat) (b : List UInt8) (w : World) (hv : Sl w X 1 v n (BVs b)) (hn : n ≤ 140737488355318) (hk : k < 9223372036854775808) :
    Calls Tryz.prog 64 #[v, .int .i64 (k : Int)] w fun e w' => Made w 5 (b ++ Cm.enc k) e w' := by
  have HR := Lib.hid (rputnum_any X v n b k w hv hn (by omega))
  go_enter Tryz.func64, Tryz.ntmps64
  go_wp2_with fail
  refine HR.out.mono ?_
  rintro e w1 ⟨v1, rfl, ho, hb⟩
  have HO := Lib.hid ho
  have HB := Lib.hid hb
  clear ho hb
  go_wp2_with fail
  go_ret
  exact ⟨_, rfl, HO.out, HB.out⟩
set_option maxHeartbeats 8000000 in
theorem rplbytes_any (w : World) (X : Nat → Prop) (x : Pl3) (u : Value) (hu : Sl w X 1 u x.2.2.length (BVs x.2.2)) (h1 : x.1.length ≤ 1048576) (h2 : x.2.2.length ≤ 1048576) (h3 : x.2.1 ≤ 9223372036854775807) :
    Calls Tryz.prog 29 #[.agg (P3 x u)] w fun e w' => ∃ v, e = .returned v ∧ w'.ownsRow w.heap.size 5 1 v (plQ x).length (BVs (plQ x)) ∧ Below w.heap.size w w' := by
  obtain ⟨tx, off, rc⟩ := x
  simp only at h1 h2 h3 hu
  obtain ⟨Ar, cr, rfl, -⟩ := id hu
  have hb0 := op_below w (.cells (P3 (tx, off, rc) (.slice Ar rc.length cr)) 69)
  have hg0 : Blk (w.alloc (.cells (P3 (tx, off, rc) (.slice Ar rc.length cr)) 69)) w.heap.size 69 (P3 (tx, off, rc) (.slice Ar rc.length cr)) := Blk.new w _ _
  have HB0 := Lib.hid hb0
  have HG0 := Lib.hid hg0
  have HU := Lib.hid hu
  obtain ⟨m, hm⟩ : ∃ m : Nat, max off 0 = (m : Int) := ⟨(max off 0).toNat, by omega⟩
  have hm2 : m < 9223372036854775808 := by omega
  have HPL : Hid (plQ (tx, off, rc) = ([] ++ Cm.encB tx) ++ Cm.enc m ++ Cm.encB rc) := Lib.hid (by
    unfold plQ
    simp only [hm, Int.toNat_natCast, List.nil_append, List.append_assoc])
  have c0 : (w.alloc (.cells (P3 (tx, off, rc) (.slice Ar rc.length cr)) 69)).cell? ⟨w.heap.size, 0, none⟩ = some (.string ⟨tx.toArray⟩) := hg0.cell 0
  have hcv := conv_bytes tx
  generalize hW : w.alloc (.cells (P3 (tx, off, rc) (.slice Ar rc.length cr)) 69) = W at *
  have HO5 := Lib.hid (bytesWorld_out W tx (by omega))
  have HB5 := Lib.hid (bytesWorld_below W 5 ⟨tx.toArray⟩)
  have HP1 := Lib.hid (rputbytes_any (fun _ => False) (fun _ => False) (.slice none 0 0) _ 0 _ [] tx (Lib.bytesWorld W 5 ⟨tx.toArray⟩) (Sl.nil _ _ _) (HO5.out.sl (X := fun _ => False) (fun _ _ _ h => h)) (by omega) (by omega))
  clear hb0 hg0 hu
  unfold P3 at *
  have hlt := HG0.out.lt
  go_enter Tryz.func29, Tryz.ntmps29
  go_wp2_with fail
  refine HP1.out.mono ?_
  rintro e w1 ⟨v1, rfl, ho1, hb1'⟩
  have hb1 : Below w.heap.size w w1 := HB0.out.trans ((HB5.out.mono HB0.out.size).trans (hb1'.mono (Nat.le_trans HB0.out.size HB5.out.size)))
  have hk1 : Blk w1 w.heap.size 69 #[.string ⟨tx.toArray⟩, .int .i64 off, .slice Ar rc.length cr] := (HG0.out.below HB5.out hlt).below hb1' (Nat.lt_of_lt_of_le hlt HB5.out.size)
  have hl1 : (([] : List UInt8) ++ Cm.encB tx).length ≤ 1048600 := by have := (Cm.encB_len tx); have := (Cm.enc_len tx.length).1; simp only [List.nil_append]; omega
  obtain ⟨A1, c1', rfl⟩ := own_shape ho1
  have q1 : w1.cell? ⟨w.heap.size, 1, none⟩ = some (.int .i64 off) := hk1.cell 1
  have q2 : w1.cell? ⟨w.heap.size, 2, none⟩ = some (.slice Ar rc.length cr) := hk1.cell 2
  have HK1 := Lib.hid hk1
  have HU1 := Lib.hid (HU.out.after hb1)
  have HO1 := Lib.hid ho1
  have HB1 := Lib.hid hb1
  have HL1 := Lib.hid hl1
  generalize ([] : List UInt8) ++ Cm.encB tx = b1 at *
  clear c0 hk1 ho1 hb1 hb1' HP1 hcv HO5 HB5 hlt HG0 hl1
  obtain ⟨b2, hb2e⟩ : ∃ b2 : List UInt8, b2 = b1 ++ Cm.enc m := ⟨_, rfl⟩
  have HL2 : Hid (b2.length ≤ 1048620) := Lib.hid (by rw [hb2e]; have := HL1.out; have := (Cm.enc_len m).1; simp only [List.length_append]; omega)
  have HPUT : Hid (Calls Tryz.prog 64 #[.slice A1 b1.length c1', .int .i64 (m : Int)] w1.drew fun e w' => Made w1.drew 5 b2 e w') := Lib.hid (by
    rw [hb2e]
    exact rput_any (fun _ => False) (.slice A1 b1.length c1') b1.length m b1 w1.drew (show Sl w1.drew _ _ _ _ _ from Sl.of_own (X := fun _ => False) HO1.out (fun _ _ _ h => h)) (by have := HL1.out; omega) hm2)
  have d1 : w1.drew.cell? ⟨w.heap.size, 1, none⟩ = some (.int .i64 off) := q1
  have d2 : w1.drew.cell? ⟨w.heap.size, 2, none⟩ = some (.slice Ar rc.length cr) := q2
  have HPL2 : Hid (plQ (tx, off, rc) = b2 ++ Cm.encB rc) := Lib.hid (by rw [HPL.out, hb2e])
  clear hb2e HPL
  go_wp2_with fail
  go_region_held3 (fun w' => w'.cell? ⟨w.heap.size, 1, none⟩ = some (.int .i64 off) ∧ w'.cell? ⟨w.heap.size, 2, none⟩ = some (.slice Ar rc.length cr)) (first | with_reducible exact ⟨q1, q2⟩ | with_reducible exact ⟨d1, d2⟩ | with_reducible exact ⟨j1, j2⟩ | with_reducible exact ⟨k1, k2⟩)
    (first
      | (go_at_call 64; refine HPUT.out.mono ?_; rintro e w2 ⟨v2, rfl, ho2, hb2⟩; obtain ⟨A2, c2', rfl⟩ := own_shape ho2; have hb2' : Below w1.heap.size w1 w2 := (below_drew0 w1).trans hb2; have hk2 := HK1.out.below hb2' HK1.out.lt; have j1 : w2.cell? ⟨w.heap.size, 1, none⟩ = some (.int .i64 off) := hk2.cell 1; have j2 : w2.cell? ⟨w.heap.size, 2, none⟩ = some (.slice Ar rc.length cr) := hk2.cell 2)
      | (go_at_call 63; refine Calls.mono (rputbytes_any (fun _ => False) X (.slice A2 b2.length c2') (.slice Ar rc.length cr) b2.length rc.length b2 rc w2 (Sl.of_own (X := fun _ => False) ho2 (fun _ _ _ h => h)) (HU1.out.after hb2') (by have := HL2.out; omega) (by have := HL2.out; omega)) ?_; rintro e w3 ⟨v3, rfl, ho3, hb3⟩; have hk3 := hk2.below hb3 hk2.lt; have k1 : w3.cell? ⟨w.heap.size, 1, none⟩ = some (.int .i64 off) := hk3.cell 1; have k2 : w3.cell? ⟨w.heap.size, 2, none⟩ = some (.slice Ar rc.length cr) := hk3.cell 2))
  all_goals
    have HE := Lib.hid (And.intro ho3 (And.intro hb2' hb3))
    clear ho3 hb2' hb3 ho2 hb2 hk2 hk3 j1 j2 k1 k2
    go_wp2_with fail
    go_ret
    rw [HPL2.out]
    obtain ⟨ho3, hb2', hb3⟩ := HE.out
    have z1 := HB1.out.size
    have z2 := hb2'.size
    exact ⟨_, rfl, own_base ho3 (by omega), HB1.out.trans ((hb2'.mono z1).trans (hb3.mono (by omega)))⟩
end Go.Proofs.YtmefagflnhkbdaaGreat.Xo

/-
  Plain mathematics of layer 2 (ideal): the number of a text in a list of texts; what Sum answers and leaves; lists without repeats.
-/
namespace Go.Proofs.YtmefagflnhkbdaaGreat.Im
set_option linter.unusedSimpArgs false
set_option linter.unusedVariables false

abbrev Tx := List UInt8
/-- The number of a text among those, from 1 on; 0: it isn't there. -/
def num : List Tx → Tx → Nat
  | [], _ => 0
  | t :: L, s => if t = s then 1 else if num L s = 0 then 0 else num L s + 1

theorem num_cons (t : Tx) (L : List Tx) (s : Tx) : num (t :: L) s = if t = s then 1 else if num L s = 0 then 0 else num L s + 1 := rfl
theorem num_left : ∀ (L K : List Tx) (s : Tx), num L s ≠ 0 → num (L ++ K) s = num L s
  | [], _, s, h => absurd rfl h
  | t :: L, K, s, h => by
    have ih := num_left L K s
    rw [List.cons_append]
    rw [num_cons] at h
    rw [num_cons, num_cons t L]
    by_cases ht : t = s
    · rw [if_pos ht, if_pos ht]
    · rw [if_neg ht] at h
      rw [if_neg ht, if_neg ht]
      by_cases h0 : num L s = 0
      · rw [if_pos h0] at h; exact absurd rfl h
      · rw [ih h0]
theorem num_right : ∀ (L K : List Tx) (s : Tx), num L s = 0 → num (L ++ K) s = if num K s = 0 then 0 else L.length + num K s
  | [], K, s, _ => by
    by_cases h : num K s = 0 <;> simp [h]
  | t :: L, K, s, h => by
    have ih := num_right L K s
    rw [List.cons_append]
    rw [num_cons] at h ⊢
    by_cases ht : t = s
    · rw [if_pos ht] at h; cases h
    · rw [if_neg ht] at h
      rw [if_neg ht]
      by_cases h0 : num L s = 0
      · rw [ih h0]
        by_cases hk : num K s = 0
        · simp [hk]
        · rw [if_neg hk, if_neg hk, if_neg (by omega)]
          simp only [List.length_cons]; omega
      · rw [if_neg h0] at h; cases h
theorem num_one (t s : Tx) : num [t] s = if t = s then 1 else 0 := by
  by_cases h : t = s <;> simp [num, h]
theorem num_snoc (L : List Tx) (t s : Tx) : num (L ++ [t]) s = if num L s ≠ 0 then num L s else if t = s then L.length + 1 else 0 := by
  by_cases h : num L s = 0
  · rw [num_right L [t] s h, num_one]
    by_cases ht : t = s <;> simp [h, ht]
  · rw [num_left L [t] s h, if_pos h]

/-- Is it there? (A word of its own: the walk leaves it whole.) -/
def isIn (L : List Tx) (s : Tx) : Bool := decide (num L s ≠ 0)
/-- What Sum leaves, and what it answers. -/
def add (L : List Tx) (s : Tx) : List Tx := if num L s ≠ 0 then L else if 1048576 ≤ L.length then L else L ++ [s]
end Go.Proofs.YtmefagflnhkbdaaGreat.Im

/-
  Words for memory, for layer 2 (ideal) and any layer above: a change of some blocks and new ones; a slice of strings; the program's table and the document's; the program's ledger and the document's.
-/
namespace Go.Proofs.YtmefagflnhkbdaaGreat.Ik
set_option linter.unusedSimpArgs false
set_option linter.unusedVariables false
set_option maxRecDepth 100000
open Go Go.RowKit Ck Kw Im

/-- The map's datum tells each text's number. -/
def Nums (D : DataW Unit) (L : List Tx) : Prop :=
  ∀ s : Tx, Maps.has D (.string s) = isIn L s ∧ D.atKey (.string s) (.lit (.int .i64 0)) = .lit (.int .i64 (num L s : Int))
theorem Nums.empty : Nums (.map []) [] := fun _ => ⟨rfl, rfl⟩
theorem strKey (s : Tx) : WideAt.IsKeyLit (.string s) := trivial
theorem Nums.put {D : DataW Unit} {L : List Tx} {t : Tx} (h : Nums D L) (hD : Maps.IsMap D) (hk : WideAt.IsKeyLit (.string t)) (h0 : num L t = 0) : Nums (D.put (.string t) (.lit (.int .i64 ((L.length : Int) + 1)))) (L ++ [t]) := by
  intro s
  rw [num_snoc]
  by_cases hs : s = t
  · subst hs
    rw [Maps.has_put_same hD hk, Maps.atKey_put_same hD hk, isIn, num_snoc, h0]
    simp
  · have hne : (Lit.string s) ≠ Lit.string t := fun e => hs (by injection e)
    rw [Maps.has_put_other hne, Maps.atKey_put_other hne, (h s).1, (h s).2]
    have ht : ¬ t = s := fun e => hs e.symm
    rw [isIn, isIn, num_snoc]
    by_cases hn : num L s = 0 <;> simp [hn, ht]

section
/-- Block p is a table of these texts; all its blocks are in S. -/
def Tb (w : World) (S : Nat → Prop) (p : Nat) (L : List Tx) : Prop :=
  ∃ m tv D, Blk w p 163 #[.map (some m), tv] ∧ w.ownsMap Tryz.prog 9 (plainElem Tryz.prog 58) m L.length D ∧ Nums D L ∧ w.ownsRow 0 9 1 tv L.length (L.map SV) ∧
    S p ∧ S m ∧ (∀ g, tv.ownBlock = some g → S g) ∧ (∀ l ∈ L, l.length ≤ 140737488355328) ∧ L.length ≤ 1048576
/-- Block p is the document's table of these texts; all its blocks are in S. -/
def Rf (w : World) (S : Nat → Prop) (p : Nat) (L : List Tx) : Prop :=
  ∃ lv, Blk w p 63 #[lv] ∧ S p ∧ Ls w (fun k => ¬ S k ∨ k = p) lv L ∧ (∀ l ∈ L, l.length ≤ 140737488355328) ∧ L.length ≤ 1048576
theorem Tb.ch {S T : Nat → Prop} {w w' : World} {p : Nat} {L : List Tx} (h : Tb w S p L) (c : Ch T w w') (hd : ∀ k, S k → T k → False) : Tb w' S p L := by
  obtain ⟨m, tv, D, h1, h2, h3, h4, h5, h6, h7, h8⟩ := h
  exact ⟨m, tv, D, h1.ch c (fun ht => hd _ h5 ht), map_ch h2 c (fun ht => hd _ h6 ht), h3, own_ch h4 c (fun g hg ht => hd _ (h7 g hg) ht), h5, h6, h7, h8⟩
theorem Tb.weaken {S T : Nat → Prop} {w : World} {p : Nat} {L : List Tx} (h : Tb w S p L) (hd : ∀ k, S k → T k) : Tb w T p L := by
  obtain ⟨m, tv, D, h1, h2, h3, h4, h5, h6, h7, h8⟩ := h
  exact ⟨m, tv, D, h1, h2, h3, h4, hd _ h5, hd _ h6, fun g hg => hd _ (h7 g hg), h8⟩
theorem Tb.drewN {S : Nat → Prop} {w : World} {p : Nat} {L : List Tx} (h : Tb w S p L) (n : Nat) : Tb (w.drewN n) S p L := h
theorem Rf.ch {S T : Nat → Prop} {w w' : World} {p : Nat} {L : List Tx} (h : Rf w S p L) (c : Ch T w w') (hd : ∀ k, S k → T k → False) : Rf w' S p L := by
  obtain ⟨lv, h1, h2, h3, h4⟩ := h
  exact ⟨lv, h1.ch c (fun ht => hd _ h2 ht), h2, h3.ch c (fun k _ ht => .inl (fun hs => hd _ hs ht)), h4⟩
theorem Rf.drewN {S : Nat → Prop} {w : World} {p : Nat} {L : List Tx} (h : Rf w S p L) (n : Nat) : Rf (w.drewN n) S p L := h
end

end Go.Proofs.YtmefagflnhkbdaaGreat.Ik

/-
  Contracts of the program's table that only read: made, Look, Len, Open.
-/
namespace Go.Proofs.YtmefagflnhkbdaaGreat.Ia
set_option linter.unusedSimpArgs false
set_option linter.unusedVariables false
set_option maxRecDepth 100000
open Go Go.RowKit Ck Im Kw Ik

theorem law_str : Maps.Keyed Tryz.prog 9 := Maps.string_keyed Tryz.underlying9
end Go.Proofs.YtmefagflnhkbdaaGreat.Ia

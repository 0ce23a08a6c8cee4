import Derived.Test.YtebjjkhiniccgaaGreatPk
import Derived.Test.YtebjjkhiniccgaaGreatPn
import Derived.Test.YtebjjkhiniccgaaGreatPj
import Derived.Test.YtebjjkhiniccgaaGreatGa
import Derived.Lib.MinMax
import Derived.Deep.RegionHeld3
import Derived.Test.YtebjjkhiniccgaaGreatQs
/-
  Layer 6 (op): the contract of bullalaw06.begun; the walk of the statement OpNames.
-/
namespace Go.Proofs.YtebjjkhiniccgaaGreat.Pl
set_option linter.unusedSimpArgs false
open Go Go.RowKit Ck Kw Ca Cb Cc Ci Pm Pa Pb Pc Pd Pe Pf Pg Ph Ppi Kx Pk
set_option linter.unusedVariables false

/-- The operation that begun asks about. -/
def o0 : O := ⟨2, [116], [], 0, [[9]]⟩
theorem form0 : form o0 = [2, 1, 116, 1, 1, 9] := by decide +kernel
theorem check0 : check o0 = 0 := by decide +kernel
def W0 (w : World) : World := (w.alloc (.cells #[.int .u8 9] 5)).alloc (.cells #[.slice (some ⟨w.heap.size, 0, none⟩) 1 1] 112)
theorem w0_below (w : World) : Below w.heap.size w (W0 w) := ((Below.refl _ w).alloc (Nat.le_refl _) _).alloc (by simp) _
theorem oi0 (w : World) : OI (W0 w) (fun _ => False) (OV o0 (some ⟨w.heap.size + 1, 0, none⟩) 1) o0 := by
  refine ⟨_, _, rfl, [.slice (some ⟨w.heap.size, 0, none⟩) 1 1], ?_, fun i hi => ?_⟩
  · have h := one_newv (w.alloc (.cells #[.int .u8 9] 5)) (fun _ => False) 112 (.slice (some ⟨w.heap.size, 0, none⟩) 1 1) (fun h => h)
    have h2 : Sl (W0 w) (fun _ => False) 1 (.slice (some ⟨w.heap.size + 1, 0, none⟩) 1 1) 1 [.slice (some ⟨w.heap.size, 0, none⟩) 1 1] := by simpa [W0] using h
    exact h2
  · have hi0 : i = 0 := by simp [o0] at hi; omega
    subst hi0
    refine ⟨_, rfl, ?_⟩
    have h := Sl_lit w (fun _ => False) 5 [9] (cs := #[.int .u8 9]) (n := 1) rfl rfl (by omega) (fun h => h)
    exact h.alloc _
theorem six_new (w : World) : Sl (w.alloc (.cells #[.int .u8 2, .int .u8 1, .int .u8 116, .int .u8 1, .int .u8 1, .int .u8 9] 5)) (fun _ => False) 1 (.slice (some ⟨w.heap.size, 0, none⟩) 6 6) 6 (BVs [2, 1, 116, 1, 1, 9]) :=
  Sl_lit w (fun _ => False) 5 [2, 1, 116, 1, 1, 9] rfl rfl (by omega) (fun h => h)

end Go.Proofs.YtebjjkhiniccgaaGreat.Pl

/-
  Layer 6 (op): the contracts of Put and PutResult, the document's PutResult, and the walk of the statement OpBytes.
-/
namespace Go.Proofs.YtebjjkhiniccgaaGreat.Po
set_option linter.unusedSimpArgs false
open Go Go.RowKit Ck Kw Ca Cb Cc Cd Ci Pm Pa Pe Pf Pg Ph Ppi Pj Kx Pk Pl Pn
attribute [local go_sem ↓] Go.wp_at_zero Go.wp_at_succ
set_option linter.unusedVariables false

theorem two_new {W : World} {X : Nat → Prop} {t : TypeId} {va vb : Value} {a b : Tx} (ha : Sl W X 1 va a.length (BVs a)) (hb : Sl W X 1 vb b.length (BVs b)) (hX : ¬ X W.heap.size) :
    Ls (W.alloc (.cells #[va, vb] t)) X (.slice (some ⟨W.heap.size, 0, none⟩) 2 2) [a, b] := by
  refine ⟨[va, vb], ⟨_, _, rfl, rfl, Nat.le_refl _, by simp only [maxLen]; omega, fun _ => ⟨_, rfl, by simp, hX, fun j u hu => ?_⟩⟩, fun i hi => ?_⟩
  · have h2 : (⟨W.heap.size, 0, none⟩ : Addr).add j = ⟨W.heap.size, j, none⟩ := by unfold Addr.add; split <;> simp_all
    rw [h2, Blk.cell (Blk.new W t _) j]
    simpa using hu
  · have hi2 : i = 0 ∨ i = 1 := by simp at hi; omega
    rcases hi2 with rfl | rfl
    · exact ⟨va, rfl, ha.alloc _⟩
    · exact ⟨vb, rfl, hb.alloc _⟩

set_option maxRecDepth 100000 in
set_option maxHeartbeats 1000000 in
theorem put_any (o : O) (v : Value) (X Y : Nat → Prop) (vb : Value) (nb : Nat) (b : Tx) (w : World) (h : OI w X v o) (hl : o.recs.length ≤ 140737488355328) (hb : Sl w Y 1 vb nb (BVs b)) (hbl : b.length ≤ 140737488351232) :
    Calls Tryz.prog 74 #[vb, v] w fun e w' => Made w 5 (b ++ form o) e w' := by
  have hnb : nb = b.length := by obtain ⟨_, _, _, h, _⟩ := hb; rw [BVs_len] at h; omega
  subst hnb
  obtain ⟨A, c, rfl, hls⟩ := h
  have hls1 := hls.after (rk_start w o A c).below
  have HB := Lib.hid (bytes_any o (OV o A c) X _ ⟨A, c, rfl, hls1⟩ hl)
  have HC := Lib.hid (rk_start w o A c)
  have HSB := Lib.hid hb
  have hfl := form_len o
  clear hls hls1
  obtain ⟨Ab, cb, rfl, -⟩ := hb
  unfold OV at HB ⊢
  go_enter Tryz.func74, Tryz.ntmps74
  go_wp2_with fail
  refine HB.out.mono ?_
  rintro e w2 ⟨v2, rfl, hown2, hb2⟩
  obtain ⟨A2, c2, rfl⟩ := own_shape hown2
  have HB2 := Lib.hid (HC.out.below.trans (hb2.mono HC.out.below.size))
  have HL : Hid (Ls (w2.alloc (.cells #[.slice Ab b.length cb, .slice A2 (form o).length c2] 22)) (fun _ => False) (.slice (some ⟨w2.heap.size, 0, none⟩) 2 2) [b, form o]) := Lib.hid (two_new ((HSB.out.after HB2.out).weaken (fun _ _ h => h.elim)) (Sl.of_own hown2 (fun _ _ _ h => h)) (fun h => h))
  have HB3 : Hid (Below w.heap.size w (w2.alloc (.cells #[.slice Ab b.length cb, .slice A2 (form o).length c2] 22))) := Lib.hid (HB2.out.alloc HB2.out.size _)
  clear hown2 hb2
  go_wp2_with fail
  refine (concat_any _ _ _ _ [b, form o] HL.out (by simp) (by simp; omega)).mono ?_
  rintro e w4 ⟨v4, rfl, hown4, hb4⟩
  have HO4 := Lib.hid hown4
  have HB4 := Lib.hid (HB3.out.trans (hb4.mono HB3.out.size))
  clear hown4 hb4
  go_wp2_with fail
  go_ret
  refine ⟨v4, rfl, ?_, HB4.out⟩
  have := own_base HO4.out HB3.out.size
  simpa using this

theorem max_nat (e : Int) (he : e ≤ 9223372036854775807) : ∃ n : Nat, max e 0 = (n : Int) ∧ max 0 e = (n : Int) ∧ n ≤ 9223372036854775807 := by
  refine ⟨(max e 0).toNat, ?_, ?_, ?_⟩ <;> omega

end Go.Proofs.YtebjjkhiniccgaaGreat.Po

/-
  Layer 6 (op): bytes.HasPrefix; the walk of the statement OpApart.
-/
namespace Go.Proofs.YtebjjkhiniccgaaGreat.Qf
set_option linter.unusedSimpArgs false
open Go Go.RowKit Ck Kw Ca Cb Ci Pm Pa Pe Pf Pg Ph Ppi Pk Pl Pp Qs
set_option linter.unusedVariables false

def pre (k l : Tx) : Bool := decide (k <+: l)
theorem pre_take {k l : Tx} : pre k l = (l.take k.length == k) := by
  rw [Bool.eq_iff_iff]
  simp only [pre, decide_eq_true_eq, beq_iff_eq]
  exact ⟨fun h => (List.prefix_iff_eq_take.1 h).symm, fun h => List.prefix_iff_eq_take.2 h.symm⟩
/-- A row of new bytes, kept. -/
structure VB (w0 : World) (v : Value) (l : Tx) (W : World) : Prop where
  below : Below w0.heap.size w0 W
  row : Sl W (fun k => k < w0.heap.size) 1 v l.length (BVs l)
theorem VB.later {w0 W W' : World} {v : Value} {l : Tx} (h : VB w0 v l W) (b : Below W.heap.size W W') : VB w0 v l W' := ⟨h.below.trans (b.mono h.below.size), h.row.after b⟩

end Go.Proofs.YtebjjkhiniccgaaGreat.Qf

/-
  Layer 6 (op): slices.Clone at bytes; the walk of the statement OpBytes.
-/
namespace Go.Proofs.YtebjjkhiniccgaaGreat.Qa
set_option linter.unusedSimpArgs false
open Go Go.RowKit Ck Kw Ca Cb Cc Cd Ci Pm Pa Pe Pf Pg Ph Ppi Pj Kx Pk Pl Pn Po Pp Qs Qf
attribute [local go_sem ↓] Go.wp_at_zero Go.wp_at_succ
set_option linter.unusedVariables false

set_option maxHeartbeats 400000 in
theorem sclb_any (X : Nat → Prop) (v : Value) (n : Nat) (b : List UInt8) (w : World) (hv : Sl w X 1 v n (BVs b)) (hn : n ≤ 140737488355328) :
    Calls Tryz.prog 112 #[v] w fun e w' => Made w 5 b e w' := by
  have hnl : n = b.length := by obtain ⟨A, c, _, h, _⟩ := hv; rw [BVs_len] at h; omega
  subst hnl
  obtain ⟨i0, hi0, hz0, hz1, hz2⟩ := info_parts info_u8
  have hv' := hv
  obtain ⟨A, c, rfl, -⟩ := hv'
  have heq := fun (W : World) => Lib.run_eql_slice_nil (P := Tryz.prog) W 22 5 A b.length c 0 0 Tryz.underlying22
  rcases A with _ | ad
  · obtain ⟨h0, _⟩ := hv.none_
    have hb : b = [] := List.eq_nil_of_length_eq_zero h0
    subst hb
    simp only [List.length_nil] at heq
    clear hv h0
    go_enter Tryz.func112, Tryz.ntmps112
    go_wp2
    go_ret
    exact ⟨_, rfl, World.ownsRow_nil _ _ _ _, Below.refl _ _⟩
  · go_enter Tryz.func112, Tryz.ntmps112
    go_wp2_with (at_builtin; refine wpList_append_sl _ rfl (.tmp 5) (.tmp 6) _ rfl w.heap.size 5 i0 _ 1 1 Tryz.underlying22 hi0 hz0 hz1 hz2 rfl (by omega) (.slice (some ⟨w.heap.size, 0, none⟩) 0 0) 0 [] rfl (World.ownsRow_made w #[] 0 (Nat.le_refl _) (by simp only [maxLen]; omega) rfl) X _ b.length (BVs b) rfl (hv.alloc _) (BVs_one _) (by simp only [maxLen]; omega) (by omega) (by simp) ?_; intro v2 w2 happ)
    go_ret
    refine ⟨v2, rfl, by simpa using happ.1, ?_⟩
    exact ((Below.refl _ _).alloc (Nat.le_refl _) _).grown happ.2.1 (by simp) (by simp [Value.ownBlock])


section
variable {w0 W W' : World} {o : O} {A : Option Addr} {c : Nat} {e f : Int} {vb : Value} {b : Tx}
theorem vb_drew {v : Value} {l : Tx} (h : VB w0 v l W) : VB w0 v l W.drew := ⟨below_drewN h.below 1, h.row⟩
end
theorem vb_made {w0 W W' : World} {v : Value} {l : Tx} (hB : Below w0.heap.size w0 W) (hown : W'.ownsRow W.heap.size 5 1 v l.length (BVs l)) (hb : Below W.heap.size W W') : VB w0 v l W' :=
  ⟨hB.trans (hb.mono hB.size), Sl.of_own hown (fun k h1 _ h2 => by have := hB.size; omega)⟩

end Go.Proofs.YtebjjkhiniccgaaGreat.Qa

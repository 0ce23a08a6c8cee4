/-
  Contracts of bytes.Clone and bytes.Equal; cuts of a slice of bytes; for any layer.
-/
import Derived.Test.YtebjjkhiniccgaaGreatKw
import Derived.Lib.SliceRun
import Derived.Lib.MinMax
import Derived.Lib.SlBytesConst
import Derived.Deep.QuietTactic
import Derived.BigQuiet
import Derived.Deep.RegionWith
import Derived.Deep.RegionHeld3
import Derived.Deep.RegionLaw
import Derived.Deep.DrawnRows
import Derived.Deep.AppendLies
import Derived.Laws.CopyOwn
namespace Go.Proofs.YtebjjkhiniccgaaGreat.Ga
set_option linter.unusedSimpArgs false
set_option linter.unusedVariables false
open Go Go.RowKit Ck Kw

theorem info_u8 : (Tryz.prog.info? 5).map (fun i => (i.zero, i.size, i.bytes)) = some (some (.int .u8 0), 1, 1) := by kernel_rfl
set_option maxHeartbeats 400000 in
theorem clone_any (X : Nat → Prop) (v : Value) (n : Nat) (b : List UInt8) (w : World) (hv : Sl w X 1 v n (BVs b)) (hn : n ≤ 549755813888) :
    Calls Tryz.prog 111 #[v] w fun e w' => Made w 5 b e w' := by
  have hnl : n = b.length := by obtain ⟨A, c, _, h, _⟩ := hv; rw [BVs_len] at h; omega
  subst hnl
  obtain ⟨i0, hi0, hz0, hz1, hz2⟩ := info_parts info_u8
  have hv' := hv
  obtain ⟨A, c, rfl, -⟩ := hv'
  have heq := fun (W : World) => Lib.run_eql_slice_nil (P := Tryz.prog) W 22 5 A b.length c 0 0 Tryz.underlying22
  rcases A with _ | ad
  · obtain ⟨h0, _⟩ := hv.none_
    have hb : b = [] := List.eq_nil_of_length_eq_zero h0
    subst hb
    simp only [List.length_nil] at heq
    clear hv h0
    go_enter Tryz.func111, Tryz.ntmps111
    go_wp2
    go_ret
    exact ⟨_, rfl, World.ownsRow_nil _ _ _ _, Below.refl _ _⟩
  · go_enter Tryz.func111, Tryz.ntmps111
    go_wp2_with (at_builtin; refine wpList_append_sl _ rfl (.tmp 5) (.tmp 6) _ rfl w.heap.size 5 i0 _ 1 1 Tryz.underlying22 hi0 hz0 hz1 hz2 rfl (by omega) (.slice (some ⟨w.heap.size, 0, none⟩) 0 0) 0 [] rfl (World.ownsRow_made w #[] 0 (Nat.le_refl _) (by simp only [maxLen]; omega) rfl) X _ b.length (BVs b) rfl (hv.alloc _) (BVs_one _) (by simp only [maxLen]; omega) (by omega) (by simp) ?_; intro v2 w2 happ)
    go_ret
    refine ⟨v2, rfl, by simpa using happ.1, ?_⟩
    exact ((Below.refl _ _).alloc (Nat.le_refl _) _).grown happ.2.1 (by simp) (by simp [Value.ownBlock])

theorem clone_sh (X : Nat → Prop) (v : Value) (n : Nat) (b : List UInt8) (w : World) (hv : Sl w X 1 v n (BVs b)) (hn : n ≤ 549755813888) :
    Calls Tryz.prog 111 #[v] w fun e w' => ∃ A c, e = .returned (.slice A b.length c) ∧ w'.ownsRow w.heap.size 5 1 (.slice A b.length c) b.length (BVs b) ∧ Below w.heap.size w w' := by
  refine (clone_any X v n b w hv hn).mono ?_
  rintro e w' ⟨v2, rfl, ho, hb⟩
  obtain ⟨A, c, rfl⟩ := own_shape ho
  exact ⟨A, c, rfl, ho, hb⟩

theorem below_of_drew {B : Nat} {w w2 : World} (h : Below B w.drew w2) : Below B w w2 := ⟨h.os, h.tape, h.output, h.size, h.block⟩
theorem ch_of_drew {S : Nat → Prop} {w w2 : World} (h : Ch S w.drew w2) : Ch S w w2 := ⟨h.os, h.tape, h.output, h.size, h.block⟩

theorem wrap64 {z : Int} (h : -9223372036854775808 ≤ z) (h' : z ≤ 9223372036854775807) : IntKind.i64.wrap z = z := by
  simp [IntKind.wrap, IntKind.bits, IntKind.signed]
  split <;> omega

theorem ch_of_drewN {S : Nat → Prop} {w w2 : World} {n : Nat} (h : Ch S (w.drewN n).drew w2) : Ch S w w2 := ⟨h.os, h.tape, h.output, h.size, h.block⟩
theorem up_mono {S : Nat → Prop} {a b c : World} (h : b.heap.size ≤ c.heap.size) {k : Nat} (hk : Up S a b k) : Up S a c k := by
  rcases hk with hk | ⟨h1, h2⟩
  · exact .inl hk
  · exact .inr ⟨h1, by omega⟩
theorem up_two {S : Nat → Prop} {a b c : World} (h : a.heap.size ≤ b.heap.size) (h' : b.heap.size ≤ c.heap.size) {k : Nat} (hk : Up (Up S a b) b c k) : Up S a c k := by
  rcases hk with hk | ⟨h1, h2⟩
  · exact up_mono h' hk
  · exact .inr ⟨by omega, h2⟩
theorem ch_two {S : Nat → Prop} {a b c : World} (h : Ch S a b) (h' : Ch (Up S a b) b c) : Ch S a c :=
  h.trans h' (fun k hk hu => by
    rcases hu with hu | ⟨h1, _⟩
    · exact hu
    · omega)

/-- A cut from k on, and a cut up to k, of a slice of bytes. -/
theorem slice_from (A : Option Addr) (n c k : Nat) (hk : k ≤ n) (hc : n ≤ c) : ∃ A', (∀ W : World, (Instr.slice 22 (.slice A n c) (some (.int .i64 (k : Int))) none none).run Tryz.prog W = .ok (.slice A' (n - k) (c - k)) W) ∧ (∀ ad, A = some ad → k < n → A' = some (ad.add (k * 1))) := by
  have he : ∀ W : World, (sizeOf (Tryz.prog.elem 22)).run Tryz.prog W = .ok 1 W := fun _ => by kernel_rfl
  refine ⟨if c = k then A else A.map (·.add (k * 1)), fun W => ?_, ?_⟩
  · rw [run_slice_l W 22 A n c (by kernel_rfl) .i64 k (by omega) (by omega), he]
    rfl
  · rintro ad rfl hlt
    rw [if_neg (by omega)]
    rfl
theorem slice_upto (A : Option Addr) (n c k : Nat) (hk : k ≤ c) (W : World) : (Instr.slice 22 (.slice A n c) none (some (.int .i64 (k : Int))) none).run Tryz.prog W = .ok (.slice A k c) W := by
  have he : ∀ W : World, (sizeOf (Tryz.prog.elem 22)).run Tryz.prog W = .ok 1 W := fun _ => by kernel_rfl
  rw [run_slice_h W 22 A n c (by kernel_rfl) .i64 k (by omega) (by omega), he]
  simp only [Result.andThen_ok, sliced, Int.toNat_natCast]
  congr 2
  by_cases h0 : c = 0
  · simp [h0]
  · cases A <;> simp [h0, Addr.add]

end Go.Proofs.YtebjjkhiniccgaaGreat.Ga

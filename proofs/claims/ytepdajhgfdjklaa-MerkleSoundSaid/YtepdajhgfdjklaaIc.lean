/-
  Contracts of slices.Clone at three types, of maps.Clone at two.
-/
import Derived.Test.YtepdajhgfdjklaaIb
import Derived.Shelf.SlMaps.Clone
namespace Go.Proofs.Ytepdajhgfdjklaa.Ic
open Go Go.RowKit Ck Im Ik Ia Ib

set_option maxHeartbeats 400000 in
theorem clone_strs (X : Nat → Prop) (v : Value) (n : Nat) (xs : List Value) (w : World) (hv : Sl w X 1 v n xs) (h1 : ∀ u ∈ xs, u.oneCell' = true) (hn : n * 16 ≤ 140737488355328) :
    Calls Try.prog 56 #[v] w fun e w' => ∃ A c, e = .returned (.slice A n c) ∧ w'.ownsRow w.heap.size 9 1 (.slice A n c) n xs ∧ Below w.heap.size w w' := by
  obtain ⟨i0, hi0, hz0, hz1, hz2⟩ := info_parts info_str
  have hv' := hv
  obtain ⟨A, c, rfl, hxl, -⟩ := hv'
  have heq := fun (W : World) => Lib.run_eql_slice_nil (P := Try.prog) W 62 9 A n c 0 0 Try.underlying62
  rcases A with _ | ad
  · obtain ⟨h0, rfl⟩ := hv.none_
    subst h0
    clear hv h1 hxl
    go_enter Try.func56, Try.ntmps56
    go_wp2
    go_ret
    exact ⟨_, _, rfl, World.ownsRow_nil _ _ _ _, Below.refl _ _⟩
  · have HX := Lib.hid hxl
    clear hxl
    go_enter Try.func56, Try.ntmps56
    go_wp2_with (at_builtin; refine wpList_append_sh _ rfl (.tmp 5) (.tmp 6) _ rfl w.heap.size 9 i0 _ 1 16 Try.underlying62 hi0 hz0 hz1 hz2 rfl (by omega) (.slice (some ⟨w.heap.size, 0, none⟩) 0 0) 0 [] rfl (World.ownsRow_made w #[] 0 (Nat.le_refl _) (by simp only [maxLen]; omega) rfl) X _ n xs rfl (hv.alloc _) h1 (by simp only [maxLen]; omega) (by omega) (by simp) ?_; intro A2 c2 w2 happ)
    go_ret
    obtain ⟨ho, hg, hr⟩ := happ
    rw [Nat.zero_add] at hr
    refine ⟨A2, c2, by simp, by simpa using ho, ?_⟩
    exact ((Below.refl _ _).alloc (Nat.le_refl _) _).grown hg (by simp) (by simp [Value.ownBlock])

set_option maxHeartbeats 400000 in
set_option maxRecDepth 100000 in
theorem mclone_strs (w : World) (b : Nat) (es : Array MapEntry) (clock : Nat) (hb : w.heap[b]? = some (.map es clock)) :
    Calls Try.prog 55 #[.map (some b)] w fun e w' => e = .returned (.map (some w.heap.size)) ∧ w.alloc (.map es clock) = w' := by
  have hq := fun W => run_eql_map_nil_sl (P := Try.prog) W 61 _ _ (some b) Try.underlying61
  have HB := Lib.hid hb
  clear hb
  go_enter Try.func55, Try.ntmps55
  go_wp2
  rw [run_callFunc_extern Try.func58 (by kernel_rfl) (by kernel_rfl) (by kernel_rfl) (e := Extern.MapsClone.clone) (by kernel_rfl), run_maps_clone_sl w 61 HB.out]
  simp only [Result.andThen]
  rw [Oper.upon_value]
  go_wp2
  rw [run_typeAssert_map_sl _ 61 20 _ _ _ Try.underlying61]
  simp only [Result.andThen]
  rw [Oper.upon_value]
  go_wp2
  go_ret
  exact ⟨rfl, rfl⟩

end Go.Proofs.Ytepdajhgfdjklaa.Ic

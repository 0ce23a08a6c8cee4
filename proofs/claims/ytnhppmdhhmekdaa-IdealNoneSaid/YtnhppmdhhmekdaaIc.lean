/-
  Contracts of slices.Clone at three types, of maps.Clone at two.
-/
import Derived.Test.YtnhppmdhhmekdaaIb
import Derived.Shelf.SlMaps.Clone
namespace Go.Proofs.Ytnhppmdhhmekdaa.Ic
open Go Go.RowKit Ck Im Ik Ia Ib

theorem info_sign : (Try.prog.info? 50).map (fun i => (i.zero, i.size, i.bytes)) = some (some (.agg #[.int .i64 0, .int .i64 0]), 2, 16) := by kernel_rfl

set_option maxHeartbeats 400000 in
theorem clone_bytes (X : Nat → Prop) (v : Value) (n : Nat) (xs : List Value) (w : World) (hv : Sl w X 1 v n xs) (h1 : ∀ u ∈ xs, u.oneCell' = true) (hn : n * 1 ≤ 140737488355328) :
    Calls Try.prog 12 #[v] w fun e w' => ∃ A c, e = .returned (.slice A n c) ∧ w'.ownsRow w.heap.size 5 1 (.slice A n c) n xs ∧ Below w.heap.size w w' := by
  obtain ⟨i0, hi0, hz0, hz1, hz2⟩ := info_parts info_u8
  have hv' := hv
  obtain ⟨A, c, rfl, hxl, -⟩ := hv'
  have heq := fun (W : World) => Lib.run_eql_slice_nil (P := Try.prog) W 24 5 A n c 0 0 Try.underlying24
  rcases A with _ | ad
  · obtain ⟨h0, rfl⟩ := hv.none_
    subst h0
    clear hv h1 hxl
    go_enter Try.func12, Try.ntmps12
    go_wp2
    go_ret
    exact ⟨_, _, rfl, World.ownsRow_nil _ _ _ _, Below.refl _ _⟩
  · have HX := Lib.hid hxl
    clear hxl
    go_enter Try.func12, Try.ntmps12
    go_wp2_with (at_builtin; refine wpList_append_sh _ rfl (.tmp 5) (.tmp 6) _ rfl w.heap.size 5 i0 _ 1 1 Try.underlying24 hi0 hz0 hz1 hz2 rfl (by omega) (.slice (some ⟨w.heap.size, 0, none⟩) 0 0) 0 [] rfl (World.ownsRow_made w #[] 0 (Nat.le_refl _) (by simp only [maxLen]; omega) rfl) X _ n xs rfl (hv.alloc _) h1 (by simp only [maxLen]; omega) (by omega) (by simp) ?_; intro A2 c2 w2 happ)
    go_ret
    obtain ⟨ho, hg, hr⟩ := happ
    rw [Nat.zero_add] at hr
    refine ⟨A2, c2, by simp, by simpa using ho, ?_⟩
    exact ((Below.refl _ _).alloc (Nat.le_refl _) _).grown hg (by simp) (by simp [Value.ownBlock])

set_option maxHeartbeats 400000 in
theorem clone_strs (X : Nat → Prop) (v : Value) (n : Nat) (xs : List Value) (w : World) (hv : Sl w X 1 v n xs) (h1 : ∀ u ∈ xs, u.oneCell' = true) (hn : n * 16 ≤ 140737488355328) :
    Calls Try.prog 36 #[v] w fun e w' => ∃ A c, e = .returned (.slice A n c) ∧ w'.ownsRow w.heap.size 9 1 (.slice A n c) n xs ∧ Below w.heap.size w w' := by
  obtain ⟨i0, hi0, hz0, hz1, hz2⟩ := info_parts info_str
  have hv' := hv
  obtain ⟨A, c, rfl, hxl, -⟩ := hv'
  have heq := fun (W : World) => Lib.run_eql_slice_nil (P := Try.prog) W 63 9 A n c 0 0 Try.underlying63
  rcases A with _ | ad
  · obtain ⟨h0, rfl⟩ := hv.none_
    subst h0
    clear hv h1 hxl
    go_enter Try.func36, Try.ntmps36
    go_wp2
    go_ret
    exact ⟨_, _, rfl, World.ownsRow_nil _ _ _ _, Below.refl _ _⟩
  · have HX := Lib.hid hxl
    clear hxl
    go_enter Try.func36, Try.ntmps36
    go_wp2_with (at_builtin; refine wpList_append_sh _ rfl (.tmp 5) (.tmp 6) _ rfl w.heap.size 9 i0 _ 1 16 Try.underlying63 hi0 hz0 hz1 hz2 rfl (by omega) (.slice (some ⟨w.heap.size, 0, none⟩) 0 0) 0 [] rfl (World.ownsRow_made w #[] 0 (Nat.le_refl _) (by simp only [maxLen]; omega) rfl) X _ n xs rfl (hv.alloc _) h1 (by simp only [maxLen]; omega) (by omega) (by simp) ?_; intro A2 c2 w2 happ)
    go_ret
    obtain ⟨ho, hg, hr⟩ := happ
    rw [Nat.zero_add] at hr
    refine ⟨A2, c2, by simp, by simpa using ho, ?_⟩
    exact ((Below.refl _ _).alloc (Nat.le_refl _) _).grown hg (by simp) (by simp [Value.ownBlock])

set_option maxHeartbeats 400000 in
theorem clone_signs (X : Nat → Prop) (v : Value) (n : Nat) (xs : List Value) (w : World) (hv : Sl w X 2 v n xs) (h1 : ∀ u ∈ xs, u.oneCell' = true) (hn : n * 16 ≤ 140737488355328) :
    Calls Try.prog 40 #[v] w fun e w' => ∃ A c, e = .returned (.slice A n c) ∧ w'.ownsRow w.heap.size 50 2 (.slice A n c) n xs ∧ Below w.heap.size w w' := by
  obtain ⟨i0, hi0, hz0, hz1, hz2⟩ := info_parts info_sign
  have hv' := hv
  obtain ⟨A, c, rfl, hxl, -⟩ := hv'
  have heq := fun (W : World) => Lib.run_eql_slice_nil (P := Try.prog) W 48 50 A n c 0 0 Try.underlying48
  rcases A with _ | ad
  · obtain ⟨h0, rfl⟩ := hv.none_
    subst h0
    clear hv h1 hxl
    go_enter Try.func40, Try.ntmps40
    go_wp2
    go_ret
    exact ⟨_, _, rfl, World.ownsRow_nil _ _ _ _, Below.refl _ _⟩
  · have HX := Lib.hid hxl
    clear hxl
    go_enter Try.func40, Try.ntmps40
    go_wp2_with (at_builtin; refine wpList_append_sh _ rfl (.tmp 5) (.tmp 6) _ rfl w.heap.size 50 i0 _ 2 16 Try.underlying48 hi0 hz0 hz1 hz2 rfl (by omega) (.slice (some ⟨w.heap.size, 0, none⟩) 0 0) 0 [] rfl (World.ownsRow_made w #[] 0 (Nat.le_refl _) (by simp only [maxLen]; omega) rfl) X _ n xs rfl (hv.alloc _) h1 (by simp only [maxLen]; omega) (by omega) (by simp) ?_; intro A2 c2 w2 happ)
    go_ret
    obtain ⟨ho, hg, hr⟩ := happ
    rw [Nat.zero_add] at hr
    refine ⟨A2, c2, by simp, by simpa using ho, ?_⟩
    exact ((Below.refl _ _).alloc (Nat.le_refl _) _).grown hg (by simp) (by simp [Value.ownBlock])

set_option maxHeartbeats 400000 in
theorem mclone_strs (w : World) (b : Nat) (es : Array MapEntry) (clock : Nat) (hb : w.heap[b]? = some (.map es clock)) :
    Calls Try.prog 35 #[.map (some b)] w fun e w' => e = .returned (.map (some w.heap.size)) ∧ w.alloc (.map es clock) = w' := by
  have hq := fun W => run_eql_map_nil_sl (P := Try.prog) W 62 _ _ (some b) Try.underlying62
  have HB := Lib.hid hb
  clear hb
  go_enter Try.func35, Try.ntmps35
  go_wp2
  rw [run_callFunc_extern Try.func41 (by kernel_rfl) (by kernel_rfl) (by kernel_rfl) (e := Extern.MapsClone.clone) (by kernel_rfl), run_maps_clone_sl w 62 HB.out]
  simp only [Result.andThen]
  rw [Oper.upon_value]
  go_wp2
  rw [run_typeAssert_map_sl _ 62 20 _ _ _ Try.underlying62]
  simp only [Result.andThen]
  rw [Oper.upon_value]
  go_wp2
  go_ret
  exact ⟨rfl, rfl⟩

set_option maxHeartbeats 400000 in
theorem mclone_signs (w : World) (b : Nat) (es : Array MapEntry) (clock : Nat) (hb : w.heap[b]? = some (.map es clock)) :
    Calls Try.prog 39 #[.map (some b)] w fun e w' => e = .returned (.map (some w.heap.size)) ∧ w.alloc (.map es clock) = w' := by
  have hq := fun W => run_eql_map_nil_sl (P := Try.prog) W 67 _ _ (some b) Try.underlying67
  have HB := Lib.hid hb
  clear hb
  go_enter Try.func39, Try.ntmps39
  go_wp2
  rw [run_callFunc_extern Try.func41 (by kernel_rfl) (by kernel_rfl) (by kernel_rfl) (e := Extern.MapsClone.clone) (by kernel_rfl), run_maps_clone_sl w 67 HB.out]
  simp only [Result.andThen]
  rw [Oper.upon_value]
  go_wp2
  rw [run_typeAssert_map_sl _ 67 20 _ _ _ Try.underlying67]
  simp only [Result.andThen]
  rw [Oper.upon_value]
  go_wp2
  go_ret
  exact ⟨rfl, rfl⟩

end Go.Proofs.Ytnhppmdhhmekdaa.Ic

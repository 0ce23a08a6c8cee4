import Derived.Test.YtdkjimfehipeaaaGreatDoorZUc
/-
  Contract of layer 4's law's kept, of a log that no call made.
-/
namespace Go.Proofs.YtdkjimfehipeaaaGreatDoor.Ud
open Go Go.RowKit Go.Shelf Ck Kw Kr Ga Wi Wj Ub Uc
attribute [local go_sem ↓] Go.wp_at_zero Go.wp_at_succ
attribute [local go_sem] Oper.semAt_some
set_option linter.unusedVariables false

theorem results_bool1 {fn : Func} {p : Tmp} (h : fn.results = #[.cell p 4]) (tmps : Array Value) (w : World) (g : Nat) (b : Bool)
    (hp : tmps.getD p undef = .pointer (some ⟨g, 0, none⟩)) (hc : w.cell? ⟨g, 0, none⟩ = some (.bool b)) :
    (results fn tmps).run Tryz.prog w = .ok (.bool b) w := by
  have hp' : tmps[p]?.getD undef = .pointer (some ⟨g, 0, none⟩) := by simpa using hp
  have ha : (isAgg 4).run Tryz.prog w = .ok false w := by kernel_rfl
  simp [results, h, hp', asAddr, loadVar]
  go_simp

set_option maxHeartbeats 4000000 in
set_option maxRecDepth 100000 in
theorem kept_none (w : World) (Bn : Nat) (mv : Option Nat) (hB : Blk w Bn 62 #[.slice none 0 0]) :
    Calls Tryz.prog 28 #[.func (.func 66) #[] #[.pointer (some ⟨Bn, 0, none⟩)], .map mv] w fun e w' => e = .returned (.bool true) ∧ Below w.heap.size w w' := by
  refine (callsIn_wide (n := 6)).1 ?_
  refine callsIn_of_wp_marks Tryz.func28 rfl trivial ?_ rfl
  simp only [Tryz.ntmps28, List.size_toArray, List.length_cons, List.length_nil, Nat.reduceAdd, Nat.reduceSub, Array.replicate_succ, Array.replicate_zero, List.push_toArray, List.append_toArray, List.nil_append, List.cons_append]
  have k1 : Blk ((w.alloc (.cells #[.map mv] 39)).alloc (.cells #[.bool false] 4)) (w.heap.size + 1) 4 #[.bool false] := Blk.new_at (by simp) rfl
  have hal : Below w.heap.size w ((w.alloc (.cells #[.map mv] 39)).alloc (.cells #[.bool false] 4)) := ((Below.refl _ w).alloc (Nat.le_refl _) _).alloc (by simp) _
  have hsz : ((w.alloc (.cells #[.map mv] 39)).alloc (.cells #[.bool false] 4)).heap.size = w.heap.size + 2 := by simp
  have hB3 := hB.below hal hB.lt
  have hBn := hB.lt
  gi_wp2_with fail
  generalize ((w.alloc (.cells #[.map mv] 39)).alloc (.cells #[.bool false] 4)) = w3 at k1 hal hsz hB3 ⊢
  have HSEQ := Lib.hid (all_none (β := Unit) 5 (by omega) (fun _ _ args _ => args.size = 2) (fun k => w3.heap.size ≤ k) w3 Bn hB3 (by omega) (fun k hk => hk))
  have HK := Lib.hid k1
  have HAL := Lib.hid hal
  clear k1 hal hB3 hB
  refine wpIn_rangeR rfl (by omega) (gf := 66) (lb := #[.pointer (some ⟨Bn, 0, none⟩)]) rfl trivial (enters_of Tryz.func66 (by kernel_rfl) rfl) HSEQ.out (fun k hk => hk)
    (fun B p args W hh => hh) (fun p args W W' hh c => hh)
    (fun _ _ => True) (fun _ _ _ => False) (fun k W W' hh _ c => trivial) (fun cc k W W' hh _ c => hh) trivial (fun args => match args with | ⟨[x, y]⟩ => { tmps := #[.func (.func 66) #[] #[.pointer (some ⟨Bn, 0, none⟩)], .map mv, undef, .pointer (some ⟨w.heap.size, 0, none⟩), .pointer (some ⟨w.heap.size + 1, 0, none⟩), x, y, .func (.func 66) #[] #[.pointer (some ⟨Bn, 0, none⟩)], x, y, undef, undef, undef, undef, undef, undef], defers := [] } | _ => { tmps := #[], defers := [] }) ?assign ?body ?done ?stop
  case assign =>
    intro l args W K hsz hK
    obtain ⟨x, y, rfl⟩ := two_of hsz
    gi_wp2_with fail
    exact hK
  case body => intro l k hk; simp at hk
  case done =>
    intro W hcw _ hd
    have hk := HK.out.ch hcw (by omega)
    have e0 := hk.frozen 0
    have c0 := hk.cell 0
    simp only [List.getElem?_toArray, List.getElem?_cons_zero] at c0
    have HK4 := Lib.hid hk
    have HCW := Lib.hid hcw
    have HD := Lib.hid hd
    clear hk hcw hd
    gi_wp2_with fail
    have hlt : w3.heap.size < W.heap.size := (Array.getElem?_eq_some_iff.1 HD.out).1
    have cs := (Ch.refl (fun k => k = w.heap.size + 1) W).setCell (p := ⟨w.heap.size + 1, 0, none⟩) (fun _ => rfl) (.bool true)
    refine ⟨by simp, .inl ⟨_, _, rfl, run_takeDeferred ((cs.block w3.heap.size hlt (by omega)).trans HD.out), ?_⟩⟩
    have hk5 := HK4.out.set_ 0 (.bool true)
    have hk6 := hk5.ch (ch_putObj _ w3.heap.size (.deferred none)) (by omega)
    have d0 := hk6.cell 0
    simp at d0
    refine ⟨_, results_bool1 rfl _ _ (w.heap.size + 1) true rfl d0, rfl, ?_⟩
    have c2 := ((HCW.out.mono (T := fun k => w.heap.size ≤ k) (fun k _ h => by omega)).trans (cs.mono (T := fun k => w.heap.size ≤ k) (fun k _ h => by omega)) (fun _ _ h => h)).trans ((ch_putObj _ w3.heap.size (.deferred none)).mono (T := fun k => w.heap.size ≤ k) (fun k _ h => by omega)) (fun _ _ h => h)
    exact HAL.out.trans (c2.below (fun k hk h => by omega) (by omega))
  case stop => intro cc k W hk hcw hf; exact hf.elim

end Go.Proofs.YtdkjimfehipeaaaGreatDoor.Ud

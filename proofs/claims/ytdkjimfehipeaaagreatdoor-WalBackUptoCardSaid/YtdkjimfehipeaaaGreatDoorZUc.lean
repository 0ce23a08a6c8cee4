import Derived.Test.YtdkjimfehipeaaaGreatDoorZUb
/-
  Contracts of layer 4: All of a log that no call made, and kept of it.
-/
namespace Go.Proofs.YtdkjimfehipeaaaGreatDoor.Uc
open Go Go.RowKit Ck Kw Kr Ga Wi Ub
attribute [local go_sem ↓] Go.wp_at_zero Go.wp_at_succ
set_option linter.unusedVariables false

set_option maxHeartbeats 4000000 in
set_option maxRecDepth 100000 in
theorem all_none {β : Type} (n : Nat) (hn : 2 ≤ n) (R : Nat → β → Array Value → World → Prop) (S : Nat → Prop) (w : World) (Bn : Nat) (hB : Blk w Bn 62 #[.slice none 0 0]) (hBS : ¬ S Bn) (hSn : ∀ k, w.heap.size ≤ k → S k) :
    SeqR Fence.wide n Tryz.prog 66 #[.pointer (some ⟨Bn, 0, none⟩)] R S ([] : List β) w := by
  intro l J Jx W hW hsz hJ hJx hY h0
  have hal : Below W.heap.size W (W.alloc (.cells #[.func (.yield l) #[] #[]] 106)) := (Below.refl _ W).alloc (Nat.le_refl _) _
  have hb := (hB.below hW hB.lt).below hal (hB.below hW hB.lt).lt
  have c0 := hb.cell 0
  simp only [List.getElem?_toArray, List.getElem?_cons_zero] at c0
  have HJ := Lib.hid (hJ 0 W _ h0 hal)
  have HAL := Lib.hid hal
  clear hB hJ hY hJx hal hb h0
  refine callsIn_of_wp Tryz.func66 rfl trivial ?_ rfl
  simp only [Tryz.ntmps66, List.size_toArray, List.length_cons, List.length_nil, Nat.reduceAdd, Nat.reduceSub, Array.replicate_succ, Array.replicate_zero, List.push_toArray, List.append_toArray, List.nil_append, List.cons_append]
  gi_wp2
  gi_loopw [9] (fun i wr => i = .int .i64 0 ∧ wr = (W.alloc (.cells #[.func (.yield l) #[] #[]] 106))) (fun _ _ => 0)
  case atStart => exact ⟨rfl, rfl⟩
  case round =>
    obtain ⟨rfl, rfl⟩ := hrel
    gi_wp2
    refine bodyPost_end (results_none rfl _ _ _) rfl ?_
    exact ⟨⟨_, rfl⟩, Ch.of_below HAL.out (Nat.le_refl _), .inl HJ.out⟩

end Go.Proofs.YtdkjimfehipeaaaGreatDoor.Uc

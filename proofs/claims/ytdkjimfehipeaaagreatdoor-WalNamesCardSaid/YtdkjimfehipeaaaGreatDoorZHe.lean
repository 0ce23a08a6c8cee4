import Derived.Test.YtdkjimfehipeaaaGreatDoorZHd
/-
  The document's Open: on an empty disk; at a bad name or size.
-/
namespace Go.Proofs.YtdkjimfehipeaaaGreatDoor.He
open Go Go.RowKit Ck Kw Ga Dm Dw Da Db Dc Dd De Df Dg Dh Di Dj Ra Rb Rc Rd Re Rf Rg Wc Wf Wa Wb Wd Wn We Kx Wg Wq Vr Vs Ha Hc Hd
attribute [local go_sem ↓] Go.wp_at_zero Go.wp_at_succ
set_option linter.unusedVariables false

set_option maxRecDepth 100000 in
set_option maxHeartbeats 1000000 in
theorem rnumbers_none (w : World) (T : Nat → Prop) (q g room : Nat) (cs : Array Value) (hb : Blk w g 117 cs) (hc : cs[0]? = some (.pointer (some ⟨q, 0, none⟩))) (hk : Rk w T q [] room false) :
    Calls Tryz.prog 71 #[.pointer (some ⟨g, 0, none⟩)] w fun e w' => e = .returned (.slice none 0 0) ∧ Below w.heap.size w w' := by
  have b0 := hb.cell 0
  rw [hc] at b0
  have HLI := Lib.hid (rlist_any w T q [] room false hk)
  clear hb hc hk
  go_enter Tryz.func71, Tryz.ntmps71
  go_wp2_with fail
  refine HLI.out.mono ?_
  rintro e w1 ⟨A, c, rfl, ho, hb1⟩
  simp only [List.length_nil]
  have HB := Lib.hid hb1
  clear ho hb1 HLI
  go_wp2_with fail
  go_loopw [3, 5] (fun u i wr => u = .slice none 0 0 ∧ i = .int .i64 0 ∧ wr = w1) (fun _ _ _ => 0)
  case atStart => exact ⟨rfl, rfl, rfl⟩
  case round =>
    obtain ⟨rfl, rfl, rfl⟩ := hrel
    go_wp2_with fail
    go_ret
    exact ⟨rfl, HB.out⟩

set_option maxRecDepth 100000 in
set_option maxHeartbeats 1000000 in
/-- A size, or a name's length, that may not be. -/
theorem ropen_bad (w : World) (T : Nat → Prop) (q room : Nat) (name : Tx) (most : Int) (hk : Rk w T q [] room false) (hn : name.length ≤ 140737488351232) (h : name.length < 1 ∨ 16 < name.length ∨ most < 64 ∨ 4194304 < most) :
    Calls Tryz.prog 38 #[.pointer (some ⟨q, 0, none⟩), .string ⟨name.toArray⟩, .int .i64 most] w fun e w' => e = .returned (.tuple #[.pointer none, .int .i64 1]) ∧ w = w' := by
  have b2 : w.cell? ⟨q, 2, none⟩ = some (.bool false) := by
    obtain ⟨l, lv, _, hP⟩ := hk
    exact hP.blk.cell 2
  have hsz : (ByteArray.mk name.toArray).size = name.length := by show name.toArray.size = _; simp
  clear hk
  by_cases h1 : (name.length : Int) < 1
  · go_enter Tryz.func38, Tryz.ntmps38
    go_wp2
    go_ret2
    exact ⟨rfl, rfl⟩
  by_cases h2 : (16 : Int) < (name.length : Int)
  · go_enter Tryz.func38, Tryz.ntmps38
    go_wp2
    go_ret2
    exact ⟨rfl, rfl⟩
  by_cases h3 : most < 64
  · go_enter Tryz.func38, Tryz.ntmps38
    go_wp2
    go_ret2
    exact ⟨rfl, rfl⟩
  have h4 : 4194304 < most := by omega
  go_enter Tryz.func38, Tryz.ntmps38
  go_wp2
  go_ret2
  exact ⟨rfl, rfl⟩

end Go.Proofs.YtdkjimfehipeaaaGreatDoor.He

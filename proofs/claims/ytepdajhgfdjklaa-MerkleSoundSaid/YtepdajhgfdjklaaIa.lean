/-
  Contracts of the program's table that only read: made, Look, Len, Open.
-/
import Derived.Test.YtepdajhgfdjklaaIk
import Derived.Deep.QuietTactic
import Derived.BigQuiet
namespace Go.Proofs.Ytepdajhgfdjklaa.Ia
open Go Go.RowKit Ck Im Ik

theorem made_yes (w : World) (S : Nat → Prop) (p : Nat) (L : List Tx) (h : Tb w S p L) :
    Calls Try.prog 37 #[.pointer (some ⟨p, 0, none⟩)] w fun e w' => e = .returned (.bool true) ∧ w = w' := by
  obtain ⟨m, tv, D, h1, -⟩ := h
  have c0 : w.cell? ⟨p, 0, none⟩ = some (.map (some m)) := h1.cell 0
  have hq := fun W => run_neq_map_nil (P := Try.prog) W 61 9 28 (some m) Try.underlying61
  clear h1
  go_enter Try.func37, Try.ntmps37
  go_wp2
  go_ret
  exact ⟨rfl, rfl⟩
theorem made_nil (w : World) : Calls Try.prog 37 #[.pointer none] w fun e w' => e = .returned (.bool false) ∧ w = w' := by
  go_enter Try.func37, Try.ntmps37
  go_wp2
  go_ret
  exact ⟨rfl, rfl⟩
theorem made_no (w : World) (p : Nat) (tv : Value) (h : Blk w p 64 #[.map none, tv]) : Calls Try.prog 37 #[.pointer (some ⟨p, 0, none⟩)] w fun e w' => e = .returned (.bool false) ∧ w = w' := by
  have c0 : w.cell? ⟨p, 0, none⟩ = some (.map none) := h.cell 0
  have hq := fun W => run_neq_map_nil (P := Try.prog) W 61 9 28 none Try.underlying61
  clear h
  go_enter Try.func37, Try.ntmps37
  go_wp2
  go_ret
  exact ⟨rfl, rfl⟩

theorem len_yes (w : World) (S : Nat → Prop) (p : Nat) (L : List Tx) (h : Tb w S p L) :
    Calls Try.prog 17 #[.pointer (some ⟨p, 0, none⟩)] w fun e w' => e = .returned (.int .i64 L.length) ∧ w = w' := by
  have hm := made_yes w S p L h
  obtain ⟨m, tv, D, h1, -, -, hown, -⟩ := h
  obtain ⟨A, c, rfl⟩ := own_shape hown
  have c1 : w.cell? ⟨p, 1, none⟩ = some (.slice A L.length c) := h1.cell 1
  have HM := Lib.hid hm
  clear h1 hm hown
  go_enter Try.func17, Try.ntmps17
  go_wp2_with (go_at_call 37; refine HM.out.mono ?_; rintro e w' ⟨rfl, rfl⟩)
  go_ret
  exact ⟨rfl, rfl⟩
theorem len_nil (w : World) : Calls Try.prog 17 #[.pointer none] w fun e w' => e = .returned (.int .i64 0) ∧ w = w' := by
  go_enter Try.func17, Try.ntmps17
  go_wp2_with (go_at_call 37; refine (made_nil _).mono ?_; rintro e w' ⟨rfl, rfl⟩)
  go_ret
  exact ⟨rfl, rfl⟩
theorem len_no (w : World) (p : Nat) (tv : Value) (h : Blk w p 64 #[.map none, tv]) : Calls Try.prog 17 #[.pointer (some ⟨p, 0, none⟩)] w fun e w' => e = .returned (.int .i64 0) ∧ w = w' := by
  have HH := Lib.hid h
  clear h
  go_enter Try.func17, Try.ntmps17
  go_wp2_with (go_at_call 37; refine (made_no _ _ _ HH.out).mono ?_; rintro e w' ⟨rfl, rfl⟩)
  go_ret
  exact ⟨rfl, rfl⟩

theorem law_str : Maps.Keyed Try.prog 9 := Maps.string_keyed Try.underlying9
theorem zero_digest (w : World) : (zeroValue 28).run Try.prog w = .ok (.int .i64 0) w := by kernel_rfl

/-- The map's look-up, in the document's words. -/
theorem run_look {w : World} {m n : Nat} {D : DataW Unit} {L : List Tx} (h : w.ownsMap Try.prog 9 (plainElem Try.prog 28) m n D) (hN : Nums D L) (s : Tx) (hs : s.length ≤ maxLen) :
    (Instr.lookup 61 (.map (some m)) (.string ⟨s.toArray⟩) true).run Try.prog w = .ok (.tuple #[.int .i64 (num L s : Int), .bool (isIn L s)]) w := by
  obtain ⟨v, ps, hrun, hv⟩ := h.look_ok law_str Try.underlying61 (zero_digest w) (zd := .lit (.int .i64 0)) (zp := []) (plainElem_int Try.underlying28 (by decide)) (key := .string ⟨s.toArray⟩) (kl := .string s)
    (by have := _root_.Go.WideMaps.keyOf_string_mk (P := Try.prog) Try.underlying9 (s := ⟨s.toArray⟩) (show s.toArray.size ≤ maxLen by simpa using hs); simpa using this)
  rw [(hN s).2] at hv
  obtain ⟨c, rfl, hc, _⟩ := plainElem_int_inv Try.underlying28 hv
  have hc : (DataW.lit (.int .i64 (num L s : Int)) : DataW Unit) = .lit (.int .i64 c) := congrArg Prod.fst hc
  injection hc with hc
  injection hc with _ hc
  rw [hrun, (hN s).1, hc]

set_option maxHeartbeats 400000 in
theorem look_yes (w : World) (S X : Nat → Prop) (p : Nat) (L : List Tx) (A : Option Addr) (c : Nat) (b : Tx) (h : Tb w S p L) (hb : Sl w X 1 (.slice A b.length c) b.length (BVs b)) (hl : b.length ≤ 140737488355328) :
    Calls Try.prog 45 #[.pointer (some ⟨p, 0, none⟩), .slice A b.length c] w fun e w' => e = .returned (.tuple #[.int .i64 (num L b : Int), .bool (isIn L b)]) ∧ ∃ n, w' = w.drewN n := by
  have hm := made_yes w S p L h
  obtain ⟨m, tv, D, h1, hown, hN, -⟩ := h
  have c0 : w.cell? ⟨p, 0, none⟩ = some (.map (some m)) := h1.cell 0
  have e1 := fun nq : Nat => run_convert_sl (P := Try.prog) (w.drewN nq) X 41 9 5 A c b Try.underlying41 Try.underlying5 Try.underlying9 (hb.drewN nq)
  have e2 := fun nq : Nat => run_look (w := w.drewN nq) (hown : (w.drewN nq).ownsMap _ _ _ _ _ _) hN b (by simp only [maxLen]; omega)
  have HM := Lib.hid hm
  clear h1 hm hown hN
  go_enter Try.func45, Try.ntmps45
  go_wp2_with (go_at_call 37; refine HM.out.mono ?_; rintro e w' ⟨rfl, rfl⟩)
  go_quiet (fail)
  go_wp2
  go_ret2
  exact ⟨rfl, _, rfl⟩
theorem look_nil (w : World) (v : Value) : Calls Try.prog 45 #[.pointer none, v] w fun e w' => e = .returned (.tuple #[.int .i64 0, .bool false]) ∧ w = w' := by
  go_enter Try.func45, Try.ntmps45
  go_wp2_with (go_at_call 37; refine (made_nil _).mono ?_; rintro e w' ⟨rfl, rfl⟩)
  go_ret2
  exact ⟨rfl, rfl⟩
theorem look_no (w : World) (p : Nat) (tv v : Value) (h : Blk w p 64 #[.map none, tv]) : Calls Try.prog 45 #[.pointer (some ⟨p, 0, none⟩), v] w fun e w' => e = .returned (.tuple #[.int .i64 0, .bool false]) ∧ w = w' := by
  have HH := Lib.hid h
  clear h
  go_enter Try.func45, Try.ntmps45
  go_wp2_with (go_at_call 37; refine (made_no _ _ _ HH.out).mono ?_; rintro e w' ⟨rfl, rfl⟩)
  go_ret2
  exact ⟨rfl, rfl⟩

end Go.Proofs.Ytepdajhgfdjklaa.Ia

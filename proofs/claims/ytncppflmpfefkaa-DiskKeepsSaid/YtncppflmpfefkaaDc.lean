/-
  Contracts of the program's disk: made, ready, find, New, Off, Restart.
-/
import Derived.Test.YtncppflmpfefkaaDb
namespace Go.Proofs.Ytncppflmpfefkaa.Dc
open Go Go.RowKit Ck Kw Ga Dm Dw Da Db
attribute [local go_sem ↓] Go.wp_at_zero Go.wp_at_succ
set_option linter.unusedVariables false

/-- A disk, laid open. -/
structure Parts (w : World) (S : Nat → Prop) (p m : Nat) (L : List Fl) (room : Nat) (off : Bool) (D : DataW Unit) (G : Tx → Nat) (T : Tx → Nat → Prop) : Prop where
  blk : Blk w p 62 #[.map (some m), .int .i64 (room : Int), .bool off]
  sp : S p
  own : w.ownsMap Try.prog 9 ptrElem m 64 D
  tells : TellsD D L G
  sm : S m ∧ m ≠ p
  file : ∀ f ∈ L, Fw w (T f.n) (G f.n) f.b f.d
  sub : ∀ f ∈ L, ∀ k, T f.n k → S k ∧ k ≠ p ∧ k ≠ m ∧ k < w.heap.size
  apart : ∀ f ∈ L, ∀ h ∈ L, f.n ≠ h.n → ∀ k, T f.n k → T h.n k → False
  good : GoodL L room
section
variable {w w' : World} {S X : Nat → Prop} {p m room : Nat} {L : List Fl} {off : Bool} {D : DataW Unit} {G : Tx → Nat} {T : Tx → Nat → Prop}
theorem Parts.shut (h : Parts w S p m L room off D G T) : Dk w S p L room off :=
  ⟨m, h.blk, h.sp, ⟨D, G, T, h.own, h.tells, h.sm, h.file, fun f hf k hk => ⟨⟨(h.sub f hf k hk).1, (h.sub f hf k hk).2.1⟩, (h.sub f hf k hk).2.2⟩, h.apart⟩, h.good⟩
theorem _root_.Go.Proofs.Ytncppflmpfefkaa.Dw.Dk.opened (h : Dk w S p L room off) : ∃ m D G T, Parts w S p m L room off D G T := by
  obtain ⟨m, h1, h2, ⟨D, G, T, h3, h4, h5, h6, h7, h8⟩, h9⟩ := h
  exact ⟨m, D, G, T, h1, h2, h3, h4, h5, h6, fun f hf k hk => ⟨(h7 f hf k hk).1.1, (h7 f hf k hk).1.2, (h7 f hf k hk).2⟩, h8, h9⟩
theorem Parts.ch (h : Parts w S p m L room off D G T) (c : Ch X w w') (hd : ∀ k, S k → X k → False) : Parts w' S p m L room off D G T :=
  ⟨h.blk.ch c (fun ht => hd _ h.sp ht), h.sp, map_ch h.own c (fun ht => hd _ h.sm.1 ht), h.tells, h.sm, fun f hf => (h.file f hf).ch c (fun k hk ht => hd _ (h.sub f hf k hk).1 ht), fun f hf k hk => ⟨(h.sub f hf k hk).1, (h.sub f hf k hk).2.1, (h.sub f hf k hk).2.2.1, Nat.lt_of_lt_of_le (h.sub f hf k hk).2.2.2 c.size⟩, h.apart, h.good⟩
theorem Parts.later (h : Parts w S p m L room off D G T) (b : Below w.heap.size w w') : Parts w' S p m L room off D G T :=
  h.ch (Ch.of_below (S := fun _ => False) b (Nat.le_refl _)) (fun _ _ h => h)
theorem Parts.drewN (h : Parts w S p m L room off D G T) (n : Nat) : Parts (w.drewN n) S p m L room off D G T := ⟨h.1, h.2, h.3, h.4, h.5, h.6, h.7, h.8, h.9⟩
theorem Parts.set_off (h : Parts w S p m L room off D G T) (off' : Bool) : Parts (w.setCell ⟨p, 2, none⟩ (.bool off')) S p m L room off' D G T :=
  have c : Ch (fun k => k = p) w (w.setCell ⟨p, 2, none⟩ (.bool off')) := (Ch.refl (fun k => k = p) w).setCell (p := ⟨p, 2, none⟩) (fun _ => rfl) _
  ⟨h.blk.set_ 2 _, h.sp, map_ch h.own c h.sm.2, h.tells, h.sm, fun f hf => (h.file f hf).ch c (fun k hk e => (h.sub f hf k hk).2.1 e), fun f hf k hk => ⟨(h.sub f hf k hk).1, (h.sub f hf k hk).2.1, (h.sub f hf k hk).2.2.1, Nat.lt_of_lt_of_le (h.sub f hf k hk).2.2.2 c.size⟩, h.apart, h.good⟩
end

/-- A disk that no call made. -/
def Un (w : World) (v : Value) : Prop := v = .pointer none ∨ ∃ p, v = .pointer (some ⟨p, 0, none⟩) ∧ Blk w p 62 #[.map none, .int .i64 0, .bool false]
theorem Un.later {w w' : World} {v : Value} (h : Un w v) (b : Below w.heap.size w w') : Un w' v := by
  rcases h with h | ⟨p, h, hb⟩
  · exact .inl h
  · exact .inr ⟨p, h, hb.below b hb.lt⟩

theorem made_un (w : World) (v : Value) (h : Un w v) : Calls Try.prog 47 #[v] w fun e w' => e = .returned (.bool false) ∧ w = w' := by
  rcases h with rfl | ⟨p, rfl, h⟩
  · go_enter Try.func47, Try.ntmps47
    go_wp2
    go_ret
    exact ⟨rfl, rfl⟩
  · have c0 : w.cell? ⟨p, 0, none⟩ = some (.map none) := h.cell 0
    have hq := fun W => run_neq_map_nil (P := Try.prog) W 60 9 69 none Try.underlying60
    clear h
    go_enter Try.func47, Try.ntmps47
    go_wp2
    go_ret
    exact ⟨rfl, rfl⟩
theorem made_on (w : World) (S : Nat → Prop) (p : Nat) (L : List Fl) (room : Nat) (off : Bool) (h : Dk w S p L room off) :
    Calls Try.prog 47 #[.pointer (some ⟨p, 0, none⟩)] w fun e w' => e = .returned (.bool true) ∧ w = w' := by
  obtain ⟨m, h1, -⟩ := h
  have c0 : w.cell? ⟨p, 0, none⟩ = some (.map (some m)) := h1.cell 0
  have hq := fun W => run_neq_map_nil (P := Try.prog) W 60 9 69 (some m) Try.underlying60
  clear h1
  go_enter Try.func47, Try.ntmps47
  go_wp2
  go_ret
  exact ⟨rfl, rfl⟩

theorem ready_un (w : World) (v : Value) (h : Un w v) : Calls Try.prog 49 #[v] w fun e w' => e = .returned (.int .i64 2) ∧ w = w' := by
  have H := Lib.hid h
  clear h
  go_enter Try.func49, Try.ntmps49
  go_wp2_with (go_at_call 47; refine (made_un _ _ H.out).mono ?_; rintro e w' ⟨rfl, rfl⟩)
  go_ret
  exact ⟨rfl, rfl⟩
theorem ready_on (w : World) (S : Nat → Prop) (p : Nat) (L : List Fl) (room : Nat) (off : Bool) (h : Dk w S p L room off) :
    Calls Try.prog 49 #[.pointer (some ⟨p, 0, none⟩)] w fun e w' => e = .returned (.int .i64 (if off then 32 else 0)) ∧ w = w' := by
  have H := Lib.hid h
  obtain ⟨m, h1, -⟩ := h
  have c2 : w.cell? ⟨p, 2, none⟩ = some (.bool off) := h1.cell 2
  clear h1
  cases off
  all_goals
    go_enter Try.func49, Try.ntmps49
    go_wp2_with (go_at_call 47; refine (made_on _ _ _ _ _ _ H.out).mono ?_; rintro e w' ⟨rfl, rfl⟩)
    go_ret
    exact ⟨rfl, rfl⟩

/-- The map's look-up. -/
theorem run_look {w : World} {m : Nat} {D : DataW Unit} {L : List Fl} {G : Tx → Nat} (h : w.ownsMap Try.prog 9 ptrElem m 64 D) (hT : TellsD D L G) (s : Tx) (hs : s.length ≤ 140737488355328) :
    (Instr.lookup 60 (.map (some m)) (.string ⟨s.toArray⟩) true).run Try.prog w = .ok (.tuple #[PV (if isIn L s then some (G s) else none), .bool (isIn L s)]) w := by
  obtain ⟨v, ps, hrun, hv⟩ := h.look_ok law_str Try.underlying60 (zero_ptr w) (zd := .nil) (zp := []) ptrElem_nil (key_str s (by simp only [maxLen]; omega))
  rw [hT.1 s] at hrun
  rw [hrun]
  by_cases hi : isIn L s = true
  · obtain ⟨f, hf, rfl⟩ := isIn_iff.1 hi
    rw [hT.2 f hf] at hv
    rw [ptrElem_at hv, if_pos hi]
    rfl
  · have hi' : isIn L s = false := by simpa using hi
    rw [has_atKey (by rw [hT.1 s]; exact hi')] at hv
    obtain ⟨o, rfl, hz⟩ := ptrElem_inv hv
    cases o with
    | none => rw [if_neg hi]
    | some g =>
      have h1 := congrArg Prod.fst hz
      cases h1

theorem find_un (w : World) (v : Value) (s : ByteArray) (h : Un w v) : Calls Try.prog 50 #[v, .string s] w fun e w' => e = .returned (.tuple #[.pointer none, .int .i64 2]) ∧ w = w' := by
  have H := Lib.hid h
  clear h
  go_enter Try.func50, Try.ntmps50
  go_wp2_with (go_at_call 49; refine (ready_un _ _ H.out).mono ?_; rintro e w' ⟨rfl, rfl⟩)
  go_ret2
  exact ⟨rfl, rfl⟩
theorem find_off (w : World) (S : Nat → Prop) (p : Nat) (L : List Fl) (room : Nat) (s : ByteArray) (h : Dk w S p L room true) :
    Calls Try.prog 50 #[.pointer (some ⟨p, 0, none⟩), .string s] w fun e w' => e = .returned (.tuple #[.pointer none, .int .i64 32]) ∧ w = w' := by
  have H := Lib.hid h
  clear h
  go_enter Try.func50, Try.ntmps50
  go_wp2_with (go_at_call 49; refine (ready_on _ _ _ _ _ _ H.out).mono ?_; rintro e w' ⟨rfl, rfl⟩)
  go_ret2
  exact ⟨rfl, rfl⟩
theorem find_on (w : World) (S : Nat → Prop) (p m : Nat) (L : List Fl) (room : Nat) (D : DataW Unit) (G : Tx → Nat) (T : Tx → Nat → Prop) (s : Tx) (hs : s.length ≤ 140737488355328) (h : Parts w S p m L room false D G T) :
    Calls Try.prog 50 #[.pointer (some ⟨p, 0, none⟩), .string ⟨s.toArray⟩] w fun e w' => e = .returned (.tuple #[PV (if isIn L s then some (G s) else none), .int .i64 (if isIn L s then 0 else 4)]) ∧ w = w' := by
  have H := Lib.hid h.shut
  have c0 : w.cell? ⟨p, 0, none⟩ = some (.map (some m)) := h.blk.cell 0
  have e2 := run_look h.own h.tells s hs
  clear h
  by_cases hi : isIn L s = true
  · rw [hi] at e2 ⊢
    rw [if_pos rfl] at e2 ⊢
    rw [if_pos rfl]
    unfold PV at e2 ⊢
    simp only [Option.map_some] at e2 ⊢
    clear hi
    go_enter Try.func50, Try.ntmps50
    go_wp2_with (go_at_call 49; refine (ready_on _ _ _ _ _ _ H.out).mono ?_; rintro e w' ⟨rfl, rfl⟩)
    go_ret2
    exact ⟨rfl, rfl⟩
  · have hi : isIn L s = false := by simpa using hi
    rw [hi] at e2 ⊢
    rw [if_neg (by simp)] at e2 ⊢
    rw [if_neg (by simp)]
    unfold PV at e2 ⊢
    simp only [Option.map_none] at e2 ⊢
    clear hi
    go_enter Try.func50, Try.ntmps50
    go_wp2_with (go_at_call 49; refine (ready_on _ _ _ _ _ _ H.out).mono ?_; rintro e w' ⟨rfl, rfl⟩)
    go_ret2
    exact ⟨rfl, rfl⟩

theorem off_un (w : World) (v : Value) (h : Un w v) : Calls Try.prog 16 #[v] w fun e w' => e = .returned (.bool false) ∧ w = w' := by
  have H := Lib.hid h
  clear h
  go_enter Try.func16, Try.ntmps16
  go_wp2_with (go_at_call 47; refine (made_un _ _ H.out).mono ?_; rintro e w' ⟨rfl, rfl⟩)
  go_ret
  exact ⟨rfl, rfl⟩
theorem off_on (w : World) (S : Nat → Prop) (p : Nat) (L : List Fl) (room : Nat) (off : Bool) (h : Dk w S p L room off) :
    Calls Try.prog 16 #[.pointer (some ⟨p, 0, none⟩)] w fun e w' => e = .returned (.bool off) ∧ w = w' := by
  have H := Lib.hid h
  obtain ⟨m, h1, -⟩ := h
  have c2 : w.cell? ⟨p, 2, none⟩ = some (.bool off) := h1.cell 2
  clear h1
  go_enter Try.func16, Try.ntmps16
  go_wp2_with (go_at_call 47; refine (made_on _ _ _ _ _ _ H.out).mono ?_; rintro e w' ⟨rfl, rfl⟩)
  go_ret
  exact ⟨rfl, rfl⟩
theorem restart_un (w : World) (v : Value) (h : Un w v) : Calls Try.prog 21 #[v] w fun e w' => e = .returned (.int .i64 2) ∧ w = w' := by
  have H := Lib.hid h
  clear h
  go_enter Try.func21, Try.ntmps21
  go_wp2_with (go_at_call 47; refine (made_un _ _ H.out).mono ?_; rintro e w' ⟨rfl, rfl⟩)
  go_ret
  exact ⟨rfl, rfl⟩
theorem restart_on (w : World) (S : Nat → Prop) (p : Nat) (L : List Fl) (room : Nat) (off : Bool) (h : Dk w S p L room off) :
    Calls Try.prog 21 #[.pointer (some ⟨p, 0, none⟩)] w fun e w' => e = .returned (.int .i64 (if off then 0 else 1)) ∧ Dk w' S p L room false ∧ Ch S w w' := by
  have H := Lib.hid h
  obtain ⟨m, h1, -⟩ := h
  have c2 : w.cell? ⟨p, 2, none⟩ = some (.bool off) := h1.cell 2
  have f2 := h1.frozen 2
  clear h1
  cases off
  · go_enter Try.func21, Try.ntmps21
    go_wp2_with (go_at_call 47; refine (made_on _ _ _ _ _ _ H.out).mono ?_; rintro e w' ⟨rfl, rfl⟩)
    go_ret
    exact ⟨rfl, H.out, Ch.refl _ _⟩
  · go_enter Try.func21, Try.ntmps21
    go_wp2_with (go_at_call 47; refine (made_on _ _ _ _ _ _ H.out).mono ?_; rintro e w' ⟨rfl, rfl⟩)
    go_ret
    obtain ⟨m, D, G, T, hP⟩ := H.out.opened
    exact ⟨rfl, (hP.set_off false).shut, (Ch.refl S w).setCell (fun _ => hP.sp) _⟩

theorem new_bad (w : World) (z : Int) (h : z < 0 ∨ 4194304 < z) : Calls Try.prog 8 #[.int .i64 z] w fun e w' => e = .returned (.tuple #[.pointer none, .int .i64 1]) ∧ w = w' := by
  by_cases h0 : z < 0
  · go_enter Try.func8, Try.ntmps8
    go_wp2
    go_ret2
    exact ⟨rfl, rfl⟩
  · have h1 : 4194304 < z := by omega
    go_enter Try.func8, Try.ntmps8
    go_wp2
    go_ret2
    exact ⟨rfl, rfl⟩
theorem dk_none {W : World} {S : Nat → Prop} {p m room : Nat} (hb : Blk W p 62 #[.map (some m), .int .i64 (room : Int), .bool false]) (ho : W.ownsMap Try.prog 9 ptrElem m 64 (.map [])) (hp : S p) (hm : S m) (hne : m ≠ p) (hr : room ≤ 4194304) : Dk W S p [] room false :=
  Parts.shut (m := m) (D := .map []) (G := fun _ => 0) (T := fun _ _ => False) ⟨hb, hp, ho, ⟨fun _ => rfl, (fun f hf => (nomatch hf))⟩, ⟨hm, hne⟩, (fun f hf => (nomatch hf)), (fun f hf => (nomatch hf)), (fun f hf => (nomatch hf)), ⟨by simp, by simp, by simp [used], hr, (fun f hf => (nomatch hf)), (fun f hf => (nomatch hf))⟩⟩
theorem new_ok (w : World) (room : Nat) (h : room ≤ 4194304) : Calls Try.prog 8 #[.int .i64 (room : Int)] w fun e w' => ∃ p, e = .returned (.tuple #[.pointer (some ⟨p, 0, none⟩), .int .i64 0]) ∧ Dk w' (New w w') p [] room false ∧ Below w.heap.size w w' := by
  have hmm := @run_makeMap Try.prog
  have h0 : ¬ (room : Int) < 0 := by omega
  have h1 : ¬ 4194304 < (room : Int) := by omega
  go_enter Try.func8, Try.ntmps8
  go_wp2
  go_ret2
  refine ⟨_, rfl, ?_, ?_⟩
  · exact dk_none (m := w.heap.size) (Blk.new_at (by simp) rfl) (((World.ownsMap_made w _ _ _).alloc _).mono (by omega)) ⟨by simp, by simp⟩ ⟨Nat.le_refl _, by simp; omega⟩ (by simp) h
  · exact ((Below.refl _ w).alloc (Nat.le_refl _) _).alloc (by simp) _

end Go.Proofs.Ytncppflmpfefkaa.Dc

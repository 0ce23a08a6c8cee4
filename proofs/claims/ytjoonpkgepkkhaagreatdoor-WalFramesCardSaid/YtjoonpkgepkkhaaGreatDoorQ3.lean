import Derived.Test.YtjoonpkgepkkhaaGreatDoorQ2
import Derived.Sort.KeysCollected
import Derived.Shelf.SlGeneric
import Derived.Shelf.SlIter.Nil
import Derived.Shelf.SortM.Plain
import Derived.Shelf.SortM.SortNone
import Derived.Shelf.Strconv.Itoa4
import Derived.Shelf.Strconv.ParseIntPublic10
import Derived.Shelf.Strings.Prefix
import Derived.Ground.GgzProg
import Derived.Ground.SlgmProg
import Derived.Test.YtjoonpkgepkkhaaGreatDoorProg
import Derived.WalkSmall
import Derived.RegionTactic
import Derived.Lib.ConvBytes
/-
  Contracts of the program's disk: made, ready, find, New, Off, Restart.
-/
namespace Go.Proofs.YtjoonpkgepkkhaaGreatDoor.Dc
open Go Go.RowKit Ck Kw Ga Dm Dw Da Db
attribute [local go_sem ↓] Go.wp_at_zero Go.wp_at_succ
set_option linter.unusedVariables false

/-- A disk, laid open. -/
structure Parts (w : World) (S : Nat → Prop) (p m : Nat) (L : List Fl) (room : Nat) (off : Bool) (D : DataW Unit) (G : Tx → Nat) (T : Tx → Nat → Prop) : Prop where
  blk : Blk w p 86 #[.map (some m), .int .i64 (room : Int), .bool off]
  sp : S p
  own : w.ownsMap Tryz.prog 9 ptrElem m 64 D
  tells : TellsD D L G
  sm : S m ∧ m ≠ p
  file : ∀ f ∈ L, Fw w (T f.n) (G f.n) f.b f.d
  sub : ∀ f ∈ L, ∀ k, T f.n k → S k ∧ k ≠ p ∧ k ≠ m ∧ k < w.heap.size
  apart : ∀ f ∈ L, ∀ h ∈ L, f.n ≠ h.n → ∀ k, T f.n k → T h.n k → False
  good : GoodL L room
section
variable {w w' : World} {S X : Nat → Prop} {p m room : Nat} {L : List Fl} {off : Bool} {D : DataW Unit} {G : Tx → Nat} {T : Tx → Nat → Prop}
theorem Parts.shut (h : Parts w S p m L room off D G T) : Dk w S p L room off :=
  ⟨m, h.blk, h.sp, ⟨D, G, T, h.own, h.tells, h.sm, h.file, fun f hf k hk => ⟨⟨(h.sub f hf k hk).1, (h.sub f hf k hk).2.1⟩, (h.sub f hf k hk).2.2⟩, h.apart⟩, h.good⟩
theorem _root_.Go.Proofs.YtjoonpkgepkkhaaGreatDoor.Dw.Dk.opened (h : Dk w S p L room off) : ∃ m D G T, Parts w S p m L room off D G T := by
  obtain ⟨m, h1, h2, ⟨D, G, T, h3, h4, h5, h6, h7, h8⟩, h9⟩ := h
  exact ⟨m, D, G, T, h1, h2, h3, h4, h5, h6, fun f hf k hk => ⟨(h7 f hf k hk).1.1, (h7 f hf k hk).1.2, (h7 f hf k hk).2⟩, h8, h9⟩
theorem Parts.ch (h : Parts w S p m L room off D G T) (c : Ch X w w') (hd : ∀ k, S k → X k → False) : Parts w' S p m L room off D G T :=
  ⟨h.blk.ch c (fun ht => hd _ h.sp ht), h.sp, map_ch h.own c (fun ht => hd _ h.sm.1 ht), h.tells, h.sm, fun f hf => (h.file f hf).ch c (fun k hk ht => hd _ (h.sub f hf k hk).1 ht), fun f hf k hk => ⟨(h.sub f hf k hk).1, (h.sub f hf k hk).2.1, (h.sub f hf k hk).2.2.1, Nat.lt_of_lt_of_le (h.sub f hf k hk).2.2.2 c.size⟩, h.apart, h.good⟩
theorem Parts.later (h : Parts w S p m L room off D G T) (b : Below w.heap.size w w') : Parts w' S p m L room off D G T :=
  h.ch (Ch.of_below (S := fun _ => False) b (Nat.le_refl _)) (fun _ _ h => h)
theorem Parts.drewN (h : Parts w S p m L room off D G T) (n : Nat) : Parts (w.drewN n) S p m L room off D G T := ⟨h.1, h.2, h.3, h.4, h.5, h.6, h.7, h.8, h.9⟩
theorem Parts.set_off (h : Parts w S p m L room off D G T) (off' : Bool) : Parts (w.setCell ⟨p, 2, none⟩ (.bool off')) S p m L room off' D G T :=
  have c : Ch (fun k => k = p) w (w.setCell ⟨p, 2, none⟩ (.bool off')) := (Ch.refl (fun k => k = p) w).setCell (p := ⟨p, 2, none⟩) (fun _ => rfl) _
  ⟨h.blk.set_ 2 _, h.sp, map_ch h.own c h.sm.2, h.tells, h.sm, fun f hf => (h.file f hf).ch c (fun k hk e => (h.sub f hf k hk).2.1 e), fun f hf k hk => ⟨(h.sub f hf k hk).1, (h.sub f hf k hk).2.1, (h.sub f hf k hk).2.2.1, Nat.lt_of_lt_of_le (h.sub f hf k hk).2.2.2 c.size⟩, h.apart, h.good⟩
end

/-- A disk that no call made. -/
def Un (w : World) (v : Value) : Prop := v = .pointer none ∨ ∃ p, v = .pointer (some ⟨p, 0, none⟩) ∧ Blk w p 86 #[.map none, .int .i64 0, .bool false]
theorem Un.later {w w' : World} {v : Value} (h : Un w v) (b : Below w.heap.size w w') : Un w' v := by
  rcases h with h | ⟨p, h, hb⟩
  · exact .inl h
  · exact .inr ⟨p, h, hb.below b hb.lt⟩

theorem made_un (w : World) (v : Value) (h : Un w v) : Calls Tryz.prog 64 #[v] w fun e w' => e = .returned (.bool false) ∧ w = w' := by
  rcases h with rfl | ⟨p, rfl, h⟩
  · go_enter Tryz.func64, Tryz.ntmps64
    go_wp2
    go_ret
    exact ⟨rfl, rfl⟩
  · have c0 : w.cell? ⟨p, 0, none⟩ = some (.map none) := h.cell 0
    have hq := fun W => run_neq_map_nil (P := Tryz.prog) W 84 9 102 none Tryz.underlying84
    clear h
    go_enter Tryz.func64, Tryz.ntmps64
    go_wp2
    go_ret
    exact ⟨rfl, rfl⟩
theorem made_on (w : World) (S : Nat → Prop) (p : Nat) (L : List Fl) (room : Nat) (off : Bool) (h : Dk w S p L room off) :
    Calls Tryz.prog 64 #[.pointer (some ⟨p, 0, none⟩)] w fun e w' => e = .returned (.bool true) ∧ w = w' := by
  obtain ⟨m, h1, -⟩ := h
  have c0 : w.cell? ⟨p, 0, none⟩ = some (.map (some m)) := h1.cell 0
  have hq := fun W => run_neq_map_nil (P := Tryz.prog) W 84 9 102 (some m) Tryz.underlying84
  clear h1
  go_enter Tryz.func64, Tryz.ntmps64
  go_wp2
  go_ret
  exact ⟨rfl, rfl⟩

theorem ready_un (w : World) (v : Value) (h : Un w v) : Calls Tryz.prog 61 #[v] w fun e w' => e = .returned (.int .i64 2) ∧ w = w' := by
  have H := Lib.hid h
  clear h
  go_enter Tryz.func61, Tryz.ntmps61
  go_wp2_with (go_at_call 64; refine (made_un _ _ H.out).mono ?_; rintro e w' ⟨rfl, rfl⟩)
  go_ret
  exact ⟨rfl, rfl⟩
theorem ready_on (w : World) (S : Nat → Prop) (p : Nat) (L : List Fl) (room : Nat) (off : Bool) (h : Dk w S p L room off) :
    Calls Tryz.prog 61 #[.pointer (some ⟨p, 0, none⟩)] w fun e w' => e = .returned (.int .i64 (if off then 32 else 0)) ∧ w = w' := by
  have H := Lib.hid h
  obtain ⟨m, h1, -⟩ := h
  have c2 : w.cell? ⟨p, 2, none⟩ = some (.bool off) := h1.cell 2
  clear h1
  cases off
  all_goals
    go_enter Tryz.func61, Tryz.ntmps61
    go_wp2_with (go_at_call 64; refine (made_on _ _ _ _ _ _ H.out).mono ?_; rintro e w' ⟨rfl, rfl⟩)
    go_ret
    exact ⟨rfl, rfl⟩

/-- The map's look-up. -/
theorem run_look {w : World} {m : Nat} {D : DataW Unit} {L : List Fl} {G : Tx → Nat} (h : w.ownsMap Tryz.prog 9 ptrElem m 64 D) (hT : TellsD D L G) (s : Tx) (hs : s.length ≤ 140737488355328) :
    (Instr.lookup 84 (.map (some m)) (.string ⟨s.toArray⟩) true).run Tryz.prog w = .ok (.tuple #[PV (if isIn L s then some (G s) else none), .bool (isIn L s)]) w := by
  obtain ⟨v, ps, hrun, hv⟩ := h.look_ok law_str Tryz.underlying84 (zero_ptr w) (zd := .nil) (zp := []) ptrElem_nil (key_str s (by simp only [maxLen]; omega))
  rw [hT.1 s] at hrun
  rw [hrun]
  by_cases hi : isIn L s = true
  · obtain ⟨f, hf, rfl⟩ := isIn_iff.1 hi
    rw [hT.2 f hf] at hv
    rw [ptrElem_at hv, if_pos hi]
    rfl
  · have hi' : isIn L s = false := by simpa using hi
    rw [has_atKey (by rw [hT.1 s]; exact hi')] at hv
    obtain ⟨o, rfl, hz⟩ := ptrElem_inv hv
    cases o with
    | none => rw [if_neg hi]
    | some g =>
      have h1 := congrArg Prod.fst hz
      cases h1

theorem find_un (w : World) (v : Value) (s : ByteArray) (h : Un w v) : Calls Tryz.prog 68 #[v, .string s] w fun e w' => e = .returned (.tuple #[.pointer none, .int .i64 2]) ∧ w = w' := by
  have H := Lib.hid h
  clear h
  go_enter Tryz.func68, Tryz.ntmps68
  go_wp2_with (go_at_call 61; refine (ready_un _ _ H.out).mono ?_; rintro e w' ⟨rfl, rfl⟩)
  go_ret2
  exact ⟨rfl, rfl⟩
theorem find_off (w : World) (S : Nat → Prop) (p : Nat) (L : List Fl) (room : Nat) (s : ByteArray) (h : Dk w S p L room true) :
    Calls Tryz.prog 68 #[.pointer (some ⟨p, 0, none⟩), .string s] w fun e w' => e = .returned (.tuple #[.pointer none, .int .i64 32]) ∧ w = w' := by
  have H := Lib.hid h
  clear h
  go_enter Tryz.func68, Tryz.ntmps68
  go_wp2_with (go_at_call 61; refine (ready_on _ _ _ _ _ _ H.out).mono ?_; rintro e w' ⟨rfl, rfl⟩)
  go_ret2
  exact ⟨rfl, rfl⟩
theorem find_on (w : World) (S : Nat → Prop) (p m : Nat) (L : List Fl) (room : Nat) (D : DataW Unit) (G : Tx → Nat) (T : Tx → Nat → Prop) (s : Tx) (hs : s.length ≤ 140737488355328) (h : Parts w S p m L room false D G T) :
    Calls Tryz.prog 68 #[.pointer (some ⟨p, 0, none⟩), .string ⟨s.toArray⟩] w fun e w' => e = .returned (.tuple #[PV (if isIn L s then some (G s) else none), .int .i64 (if isIn L s then 0 else 4)]) ∧ w = w' := by
  have H := Lib.hid h.shut
  have c0 : w.cell? ⟨p, 0, none⟩ = some (.map (some m)) := h.blk.cell 0
  have e2 := run_look h.own h.tells s hs
  clear h
  by_cases hi : isIn L s = true
  · rw [hi] at e2 ⊢
    rw [if_pos rfl] at e2 ⊢
    rw [if_pos rfl]
    unfold PV at e2 ⊢
    simp only [Option.map_some] at e2 ⊢
    clear hi
    go_enter Tryz.func68, Tryz.ntmps68
    go_wp2_with (go_at_call 61; refine (ready_on _ _ _ _ _ _ H.out).mono ?_; rintro e w' ⟨rfl, rfl⟩)
    go_ret2
    exact ⟨rfl, rfl⟩
  · have hi : isIn L s = false := by simpa using hi
    rw [hi] at e2 ⊢
    rw [if_neg (by simp)] at e2 ⊢
    rw [if_neg (by simp)]
    unfold PV at e2 ⊢
    simp only [Option.map_none] at e2 ⊢
    clear hi
    go_enter Tryz.func68, Tryz.ntmps68
    go_wp2_with (go_at_call 61; refine (ready_on _ _ _ _ _ _ H.out).mono ?_; rintro e w' ⟨rfl, rfl⟩)
    go_ret2
    exact ⟨rfl, rfl⟩

theorem restart_un (w : World) (v : Value) (h : Un w v) : Calls Tryz.prog 27 #[v] w fun e w' => e = .returned (.int .i64 2) ∧ w = w' := by
  have H := Lib.hid h
  clear h
  go_enter Tryz.func27, Tryz.ntmps27
  go_wp2_with (go_at_call 64; refine (made_un _ _ H.out).mono ?_; rintro e w' ⟨rfl, rfl⟩)
  go_ret
  exact ⟨rfl, rfl⟩
theorem restart_on (w : World) (S : Nat → Prop) (p : Nat) (L : List Fl) (room : Nat) (off : Bool) (h : Dk w S p L room off) :
    Calls Tryz.prog 27 #[.pointer (some ⟨p, 0, none⟩)] w fun e w' => e = .returned (.int .i64 (if off then 0 else 1)) ∧ Dk w' S p L room false ∧ Ch S w w' := by
  have H := Lib.hid h
  obtain ⟨m, h1, -⟩ := h
  have c2 : w.cell? ⟨p, 2, none⟩ = some (.bool off) := h1.cell 2
  have f2 := h1.frozen 2
  clear h1
  cases off
  · go_enter Tryz.func27, Tryz.ntmps27
    go_wp2_with (go_at_call 64; refine (made_on _ _ _ _ _ _ H.out).mono ?_; rintro e w' ⟨rfl, rfl⟩)
    go_ret
    exact ⟨rfl, H.out, Ch.refl _ _⟩
  · go_enter Tryz.func27, Tryz.ntmps27
    go_wp2_with (go_at_call 64; refine (made_on _ _ _ _ _ _ H.out).mono ?_; rintro e w' ⟨rfl, rfl⟩)
    go_ret
    obtain ⟨m, D, G, T, hP⟩ := H.out.opened
    exact ⟨rfl, (hP.set_off false).shut, (Ch.refl S w).setCell (fun _ => hP.sp) _⟩

theorem new_bad (w : World) (z : Int) (h : z < 0 ∨ 4194304 < z) : Calls Tryz.prog 16 #[.int .i64 z] w fun e w' => e = .returned (.tuple #[.pointer none, .int .i64 1]) ∧ w = w' := by
  by_cases h0 : z < 0
  · go_enter Tryz.func16, Tryz.ntmps16
    go_wp2
    go_ret2
    exact ⟨rfl, rfl⟩
  · have h1 : 4194304 < z := by omega
    go_enter Tryz.func16, Tryz.ntmps16
    go_wp2
    go_ret2
    exact ⟨rfl, rfl⟩
theorem dk_none {W : World} {S : Nat → Prop} {p m room : Nat} (hb : Blk W p 86 #[.map (some m), .int .i64 (room : Int), .bool false]) (ho : W.ownsMap Tryz.prog 9 ptrElem m 64 (.map [])) (hp : S p) (hm : S m) (hne : m ≠ p) (hr : room ≤ 4194304) : Dk W S p [] room false :=
  Parts.shut (m := m) (D := .map []) (G := fun _ => 0) (T := fun _ _ => False) ⟨hb, hp, ho, ⟨fun _ => rfl, (fun f hf => (nomatch hf))⟩, ⟨hm, hne⟩, (fun f hf => (nomatch hf)), (fun f hf => (nomatch hf)), (fun f hf => (nomatch hf)), ⟨by simp, by simp, by simp [used], hr, (fun f hf => (nomatch hf)), (fun f hf => (nomatch hf))⟩⟩
theorem new_ok (w : World) (room : Nat) (h : room ≤ 4194304) : Calls Tryz.prog 16 #[.int .i64 (room : Int)] w fun e w' => ∃ p, e = .returned (.tuple #[.pointer (some ⟨p, 0, none⟩), .int .i64 0]) ∧ Dk w' (New w w') p [] room false ∧ Below w.heap.size w w' := by
  have hmm := @run_makeMap Tryz.prog
  have h0 : ¬ (room : Int) < 0 := by omega
  have h1 : ¬ 4194304 < (room : Int) := by omega
  go_enter Tryz.func16, Tryz.ntmps16
  go_wp2
  go_ret2
  refine ⟨_, rfl, ?_, ?_⟩
  · exact dk_none (m := w.heap.size) (Blk.new_at (by simp) rfl) (((World.ownsMap_made w _ _ _).alloc _).mono (by omega)) ⟨by simp, by simp⟩ ⟨Nat.le_refl _, by simp; omega⟩ (by simp) h
  · exact ((Below.refl _ w).alloc (Nat.le_refl _) _).alloc (by simp) _

end Go.Proofs.YtjoonpkgepkkhaaGreatDoor.Dc

/-
  Contracts of the program's disk: Used, Room.
-/
namespace Go.Proofs.YtjoonpkgepkkhaaGreatDoor.Dd
open Go Go.RowKit Go.Maps Ck Kw Ga Dm Dw Da Db Dc
attribute [local go_sem ↓] Go.wp_at_zero Go.wp_at_succ
set_option linter.unusedVariables false

theorem used_filter_all (L : List Fl) (P : Fl → Bool) (h : ∀ f ∈ L, P f = true) : used (L.filter P) = used L := by rw [List.filter_eq_self.2 h]
theorem used_none (L : List Fl) (P : Fl → Bool) (h : ∀ f ∈ L, P f = false) : used (L.filter P) = 0 := by
  rw [List.filter_eq_nil_iff.2 (fun f hf => by rw [h f hf]; simp)]
  rfl
theorem used_strike {L : List Fl} (hn : (L.map (·.n)).Nodup) {f : Fl} (hf : f ∈ L) (P : Tx → Bool) (hp : P f.n = true) :
    used (L.filter (fun h => P h.n)) = f.b.length + used (L.filter (fun h => P h.n && !(h.n == f.n))) := by
  induction L with
  | nil => cases hf
  | cons x L ih =>
    rw [List.map_cons, List.nodup_cons] at hn
    by_cases hx : x.n = f.n
    · have hxf : x = f := by
        rcases List.mem_cons.1 hf with h | h
        · exact h.symm
        · exact absurd (List.mem_map.2 ⟨f, h, hx.symm⟩) hn.1
      subst hxf
      have hrest : ∀ h ∈ L, (h.n == x.n) = false := fun h hh => by
        rw [beq_eq_false_iff_ne]
        intro e
        exact hn.1 (List.mem_map.2 ⟨h, hh, e⟩)
      have e1 : L.filter (fun h => P h.n && !(h.n == x.n)) = L.filter (fun h => P h.n) := List.filter_congr (fun h hh => by rw [hrest h hh]; simp)
      rw [List.filter_cons_of_pos (by exact hp), List.filter_cons_of_neg (by simp), e1]
      rfl
    · have hf' : f ∈ L := by
        rcases List.mem_cons.1 hf with h | h
        · exact absurd (by rw [h]) hx
        · exact h
      have := ih hn.2 hf'
      have hxb : (x.n == f.n) = false := by rw [beq_eq_false_iff_ne]; exact hx
      by_cases hpx : P x.n = true
      · rw [List.filter_cons_of_pos (by exact hpx), List.filter_cons_of_pos (by simp [hpx, hxb])]
        simp only [used]
        omega
      · rw [List.filter_cons_of_neg (by exact hpx), List.filter_cons_of_neg (by simp [hpx])]
        exact this

theorem sameKey_str (a b : Tx) : (Lit.string a).sameKey (.string b) = (a == b) := by simp [Lit.sameKey]
theorem pv_at {c : Option Nat} {y : DataW Unit × List MemPlace} {g : Nat} (h : ptrElem (PV c) = some y) (hy : y.1 = .lit (.int .i64 (g : Int))) : c = some g := by
  cases c with
  | none =>
    have h' : ptrElem (.pointer none) = some y := h
    rw [ptrElem_nil] at h'
    injection h' with h'
    rw [← h'] at hy
    cases hy
  | some k =>
    have h' : ptrElem (.pointer (some ⟨k, 0, none⟩)) = some y := h
    rw [ptrElem_mk] at h'
    injection h' with h'
    rw [← h'] at hy
    simp at hy
    have : k = g := by omega
    rw [this]

/-- The next step of a loop over a disk's files. -/
theorem wpList_next_files (w : World) {ops : Array Oper} {rest : List Oper} {o : Oper} {a : Act} {Q : Exit → Act → World → Prop} (hg : o.guard = none) (it : Operand) (hop : o.op = Op.next it false)
    (b r n : Nat) (D : DataW Unit) (left : Lit → Bool) (cnt : Nat) (L : List Fl) (G : Tx → Nat) (hT : TellsD D L G)
    (hit : a.eval it = .pointer (some ⟨r, 0, none⟩)) (h : w.ranges Tryz.prog 9 ptrElem b r n D left cnt)
    (hDone : (∀ s : Tx, left (.string s) = false) → wpList Tryz.prog ops Q rest (a.put o.dst (.tuple #[.bool false])) w)
    (hMore : ∀ (f : Fl) (w' : World) (cnt' : Nat), f ∈ L → left (.string f.n) = true → w'.ranges Tryz.prog 9 ptrElem b r n D (fun z => left z && !z.sameKey (.string f.n)) cnt' → cnt' < cnt →
      w.grownBy w' (some r) → w'.heap.size = w.heap.size → (Instr.entry (.pointer (some ⟨r, 0, none⟩))).run Tryz.prog w' = .ok (.tuple #[.string ⟨f.n.toArray⟩, .pointer (some ⟨G f.n, 0, none⟩)]) w' → wpList Tryz.prog ops Q rest (a.put o.dst (.tuple #[.bool true, .string ⟨f.n.toArray⟩, .pointer (some ⟨G f.n, 0, none⟩)])) w') :
    wpList Tryz.prog ops Q (o :: rest) a w := by
  refine wpList_next_ranges w hg it hop 9 law_str ptrElem encStr PV (fun key kl hk => by obtain ⟨x, hx, _⟩ := Maps.keyOf_str Tryz.underlying9 hk; exact ⟨x, hx⟩) (fun v y hv => by obtain ⟨c, hc, _⟩ := ptrElem_inv hv; exact ⟨c, hc⟩) b r n D left cnt hit h (fun _ h0 => hDone (fun s => h0 _)) ?_
  intro x c kl y w' cnt' hkey hlk hv hat hrg hlt hgr hsz hen
  obtain ⟨x', ex, rfl, _⟩ := Maps.keyOf_str Tryz.underlying9 hkey
  obtain rfl : x = x' := encStr_inj ex
  have hin : isIn L x = true := by rw [← hT.1 x]; exact has_true_of_atKey hat
  obtain ⟨f, hf, rfl⟩ := isIn_iff.1 hin
  have hy : y.1 = .lit (.int .i64 (G f.n : Int)) := by rw [← hat .nil]; exact hT.2 f hf _
  obtain rfl := pv_at hv hy
  exact hMore f w' cnt' hf hlk hrg hlt hgr hsz hen

set_option maxRecDepth 100000 in
set_option maxHeartbeats 1000000 in
theorem used_on (w : World) (S : Nat → Prop) (p : Nat) (L : List Fl) (room : Nat) (off : Bool) (h : Dk w S p L room off) :
    Calls Tryz.prog 30 #[.pointer (some ⟨p, 0, none⟩)] w fun e w' => e = .returned (.int .i64 (used L : Int)) ∧ Below w.heap.size w w' := by
  have HM := Lib.hid (made_on w S p L room off h)
  obtain ⟨m, D, G, T, hP⟩ := h.opened
  have c0 : w.cell? ⟨p, 0, none⟩ = some (.map (some m)) := hP.blk.cell 0
  have hfit := hP.good.fits
  have hroom := hP.good.room
  have hin : ∀ f ∈ L, Maps.has D (.string f.n) = true := fun f hf => by rw [hP.tells.1]; exact isIn_iff.2 ⟨f, hf, rfl⟩
  have hstart := used_filter_all L (fun f => Maps.has D (.string f.n)) hin
  have HP := Lib.hid hP
  have HS := Lib.hid hstart
  clear h hP hin hstart
  go_enter Tryz.func30, Tryz.ntmps30
  go_wp2_with (first
    | (go_at_call 64; refine HM.out.mono ?_; rintro e w' ⟨rfl, rfl⟩)
    | (at_range; refine wpList_range_own _ rfl _ 84 rfl 9 102 law_str Tryz.underlying84 _ m 64 D rfl HP.out.own ?_; intro w0 hrg0 hg0 hs0))
  have hb0 : Below w.heap.size w w0 := below_of_grown hg0 (fun k hk => by cases hk)
  clear hg0 hs0
  go_frame
  go_loopw [3] (fun i wr => ∃ (left : Lit → Bool) (cnt acc : Nat), i = .int .i64 (acc : Int) ∧ acc + used (L.filter (fun f => left (.string f.n))) = used L ∧ wr.ranges Tryz.prog 9 ptrElem m w.heap.size 64 D left cnt ∧ Below w.heap.size w wr)
    (fun _ wr => wr.rangeLeft m w.heap.size)
  case atStart => exact ⟨_, _, 0, rfl, by rw [HS.out]; omega, hrg0, hb0⟩
  case round =>
    obtain ⟨left, cnt, acc, rfl, hacc, hrg, hbw⟩ := hrel
    go_wp2_with (at_next; refine wpList_next_files _ rfl _ rfl m w.heap.size 64 D left cnt L G HP.out.tells rfl hrg ?_ ?_)
    · intro h0
      have he : acc = used L := by rw [used_none L _ (fun f _ => h0 f.n)] at hacc; omega
      subst he
      clear hacc hrg
      go_wp2
      go_ret
      exact ⟨rfl, hbw⟩
    · intro f w1 cnt1 hf hl hrg1 hlt hg1 hs1 hen
      have hb1 : Below w.heap.size w w1 := hbw.grown hg1 hbw.size (fun g hg => by cases hg; exact Nat.le_refl _)
      have hst := used_strike HP.out.good.nodup hf (fun s => left (.string s)) hl
      obtain ⟨v, k1, ho, -⟩ := (HP.out.later hb1).file f hf
      obtain ⟨A, c, rfl⟩ := own_shape ho
      have d0 : w1.cell? ⟨G f.n, 0, none⟩ = some (.slice A f.b.length c) := k1.cell 0
      have hacc' : acc + f.b.length + used (L.filter (fun h => left (.string h.n) && !(h.n == f.n))) = used L := by
        have : used (L.filter (fun h => left (.string h.n))) = _ := hst
        omega
      have HA := Lib.hid hacc'
      have hbd : acc + f.b.length ≤ 4194304 := by omega
      have HR := Lib.hid hrg1
      have HRO := Lib.hid hrg
      clear hst k1 ho hacc hacc' hg1 hs1 hl hrg1 hrg
      go_wp2
      go_roundw
      case rel => exact ⟨_, cnt1, acc + f.b.length, by go_num, by simp only [sameKey_str]; exact HA.out, HR.out, hb1⟩
      case measure => rw [HR.out.left_eq, HRO.out.left_eq]; exact hlt

theorem used_un (w : World) (v : Value) (h : Un w v) : Calls Tryz.prog 30 #[v] w fun e w' => e = .returned (.int .i64 0) ∧ w = w' := by
  have H := Lib.hid h
  clear h
  go_enter Tryz.func30, Tryz.ntmps30
  go_wp2_with (go_at_call 64; refine (made_un _ _ H.out).mono ?_; rintro e w' ⟨rfl, rfl⟩)
  go_ret
  exact ⟨rfl, rfl⟩
theorem room_un (w : World) (v : Value) (h : Un w v) : Calls Tryz.prog 101 #[v] w fun e w' => e = .returned (.int .i64 0) ∧ w = w' := by
  have H := Lib.hid h
  clear h
  go_enter Tryz.func101, Tryz.ntmps101
  go_wp2_with (go_at_call 64; refine (made_un _ _ H.out).mono ?_; rintro e w' ⟨rfl, rfl⟩)
  go_ret
  exact ⟨rfl, rfl⟩
set_option maxHeartbeats 1000000 in
theorem room_on (w : World) (S : Nat → Prop) (p : Nat) (L : List Fl) (room : Nat) (off : Bool) (h : Dk w S p L room off) :
    Calls Tryz.prog 101 #[.pointer (some ⟨p, 0, none⟩)] w fun e w' => e = .returned (.int .i64 ((room : Int) - (used L : Int))) ∧ Below w.heap.size w w' := by
  have HM := Lib.hid (made_on w S p L room off h)
  have HU := Lib.hid (used_on w.drew S p L room off (h.drewN 1))
  obtain ⟨m, D, G, T, hP⟩ := h.opened
  have c1 : w.cell? ⟨p, 1, none⟩ = some (.int .i64 (room : Int)) := hP.blk.cell 1
  have hfit := hP.good.fits
  have hroom := hP.good.room
  have HP := Lib.hid hP
  clear h hP
  have hw1 : IntKind.i64.wrap ((room : Int) - (used L : Int)) = (room : Int) - (used L : Int) := wrap64 (by omega) (by omega)
  go_enter Tryz.func101, Tryz.ntmps101
  go_wp2_with (go_at_call 64; refine HM.out.mono ?_; rintro e w' ⟨rfl, rfl⟩)
  go_region_held3 (fun w' => w'.cell? ⟨p, 1, none⟩ = some (.int .i64 (room : Int))) (first | exact c1 | exact j1)
    (first
    | (go_at_call 30; refine HU.out.mono ?_; rintro e w1 ⟨rfl, hb1⟩; have j1 : w1.cell? ⟨p, 1, none⟩ = some (.int .i64 (room : Int)) := (HP.out.later (below_of_drew hb1)).blk.cell 1))
  all_goals
    go_wp2
    go_ret
    exact ⟨rfl, below_of_drew hb1⟩

end Go.Proofs.YtjoonpkgepkkhaaGreatDoor.Dd

/-
  Contracts of the program's disk: put, Append, Write.
-/
namespace Go.Proofs.YtjoonpkgepkkhaaGreatDoor.De
open Go Go.RowKit Go.Maps Ck Kw Ga Dm Dw Da Db Dc Dd
attribute [local go_sem ↓] Go.wp_at_zero Go.wp_at_succ
set_option linter.unusedVariables false

theorem isIn_names (L K : List Fl) (h : L.map (·.n) = K.map (·.n)) (s : Tx) : isIn L s = isIn K s := by
  have e : ∀ M : List Fl, isIn M s = (M.map (·.n)).any (· == s) := fun M => by rw [List.any_map]; rfl
  rw [e, e, h]
theorem mem_upd {L : List Fl} {s : Tx} {g : Fl → Fl} {f : Fl} (h : f ∈ upd L s g) : ∃ f0 ∈ L, f = if f0.n = s then g f0 else f0 := by
  obtain ⟨f0, h0, e⟩ := List.mem_map.1 h
  exact ⟨f0, h0, e.symm⟩
theorem upd_other {L : List Fl} {s : Tx} {g : Fl → Fl} (h : ∀ f ∈ L, f.n ≠ s) : upd L s g = L := by
  unfold upd
  rw [List.map_congr_left (g := id) (fun f hf => by rw [if_neg (h f hf)]; rfl), List.map_id]
theorem used_upd {L : List Fl} (hn : (L.map (·.n)).Nodup) {f : Fl} (hf : f ∈ L) (g : Fl → Fl) : used (upd L f.n g) + f.b.length = used L + (g f).b.length := by
  induction L with
  | nil => cases hf
  | cons x L ih =>
    rw [List.map_cons, List.nodup_cons] at hn
    by_cases hx : x.n = f.n
    · have hxf : x = f := by
        rcases List.mem_cons.1 hf with h | h
        · exact h.symm
        · exact absurd (List.mem_map.2 ⟨f, h, hx.symm⟩) hn.1
      subst hxf
      have : upd L x.n g = L := upd_other (fun h hh e => hn.1 (List.mem_map.2 ⟨h, hh, e⟩))
      show used ((if x.n = x.n then g x else x) :: upd L x.n g) + _ = _
      rw [this, if_pos rfl]
      simp only [used]
      omega
    · have hf' : f ∈ L := by
        rcases List.mem_cons.1 hf with h | h
        · exact absurd (by rw [h]) hx
        · exact h
      have := ih hn.2 hf'
      show used ((if x.n = f.n then g x else x) :: upd L f.n g) + _ = _
      rw [if_neg hx]
      simp only [used]
      omega

/-- A file of other bytes. -/
def setf (b : Tx) (d : Nat) (f : Fl) : Fl := ⟨f.n, b, d⟩
theorem good_upd {L : List Fl} {room : Nat} (h : GoodL L room) {f : Fl} (hf : f ∈ L) {b : Tx} {d : Nat} (hd : d ≤ b.length) (hu : used (upd L f.n (setf b d)) ≤ room) : GoodL (upd L f.n (setf b d)) room := by
  refine ⟨by rw [upd_names (g := setf b d) (fun _ => rfl)]; exact h.nodup, by simpa [upd] using h.few, hu, h.room, fun x hx => ?_, fun x hx => ?_⟩
  · obtain ⟨f0, h0, rfl⟩ := mem_upd hx
    split
    · exact h.name f0 h0
    · exact h.name f0 h0
  · obtain ⟨f0, h0, rfl⟩ := mem_upd hx
    split
    · exact hd
    · exact h.done f0 h0
theorem parts_put {w w' : World} {S : Nat → Prop} {p m room : Nat} {L : List Fl} {off : Bool} {D : DataW Unit} {G : Tx → Nat} {T : Tx → Nat → Prop} (h : Parts w S p m L room off D G T) {f : Fl} (hf : f ∈ L) {b : Tx} {d : Nat}
    (hF : Fw w' (Up (T f.n) w w') (G f.n) b d) (c : Ch (T f.n) w w') (hu : used (upd L f.n (setf b d)) ≤ room) :
    Parts w' (Up S w w') p m (upd L f.n (setf b d)) room off D G (fun s => if s = f.n then Up (T f.n) w w' else T s) := by
  have hnm := upd_names (L := L) (s := f.n) (g := setf b d) (fun _ => rfl)
  have hplt : p < w.heap.size := h.blk.lt
  have hmlt : m < w.heap.size := h.own.lt
  have hle : d ≤ b.length := by obtain ⟨v, _, _, _, _, _, h6⟩ := hF; exact h6
  refine ⟨h.blk.ch c (fun hk => (h.sub f hf _ hk).2.1 rfl), .inl h.sp, map_ch h.own c (fun hk => (h.sub f hf _ hk).2.2.1 rfl), ⟨fun s => ?_, fun x hx zd => ?_⟩, ⟨.inl h.sm.1, h.sm.2⟩, fun x hx => ?_, fun x hx k hk => ?_, fun x hx y hy hne k hk hk' => ?_, good_upd h.good hf hle hu⟩
  · rw [h.tells.1 s]
    exact isIn_names _ _ hnm.symm s
  · obtain ⟨f0, h0, rfl⟩ := mem_upd hx
    have e : (if f0.n = f.n then setf b d f0 else f0).n = f0.n := by split <;> rfl
    rw [e]
    exact h.tells.2 f0 h0 zd
  · obtain ⟨f0, h0, rfl⟩ := mem_upd hx
    by_cases hn : f0.n = f.n
    · rw [if_pos hn]
      show Fw w' (if f0.n = f.n then _ else _) (G f0.n) b d
      rw [if_pos hn, hn]
      exact hF
    · rw [if_neg hn]
      simp only [if_neg hn]
      exact (h.file f0 h0).ch c (fun k h1 h2 => h.apart f0 h0 f hf hn k h1 h2)
  · obtain ⟨f0, h0, rfl⟩ := mem_upd hx
    have e : (if f0.n = f.n then setf b d f0 else f0).n = f0.n := by split <;> rfl
    simp only [e] at hk
    by_cases hn : f0.n = f.n
    · rw [if_pos hn] at hk
      rcases hk with hk | ⟨h1, h2⟩
      · have := h.sub f hf k hk
        exact ⟨.inl this.1, this.2.1, this.2.2.1, Nat.lt_of_lt_of_le this.2.2.2 c.size⟩
      · exact ⟨.inr ⟨h1, h2⟩, by omega, by omega, h2⟩
    · rw [if_neg hn] at hk
      have := h.sub f0 h0 k hk
      exact ⟨.inl this.1, this.2.1, this.2.2.1, Nat.lt_of_lt_of_le this.2.2.2 c.size⟩
  · obtain ⟨f0, h0, rfl⟩ := mem_upd hx
    obtain ⟨f1, h1, rfl⟩ := mem_upd hy
    have e : ∀ z : Fl, (if z.n = f.n then setf b d z else z).n = z.n := fun z => by split <;> rfl
    simp only [e] at hk hk' hne
    by_cases hn0 : f0.n = f.n
    · by_cases hn1 : f1.n = f.n
      · exact hne (hn0.trans hn1.symm)
      · rw [if_pos hn0] at hk
        rw [if_neg hn1] at hk'
        rcases hk with hk | ⟨g1, g2⟩
        · exact h.apart f hf f1 h1 (fun e => hn1 e.symm) k hk hk'
        · have := (h.sub f1 h1 k hk').2.2.2
          omega
    · by_cases hn1 : f1.n = f.n
      · rw [if_neg hn0] at hk
        rw [if_pos hn1] at hk'
        rcases hk' with hk' | ⟨g1, g2⟩
        · exact h.apart f0 h0 f hf hn0 k hk hk'
        · have := (h.sub f0 h0 k hk).2.2.2
          omega
      · rw [if_neg hn0] at hk
        rw [if_neg hn1] at hk'
        exact h.apart f0 h0 f1 h1 hne k hk hk'

/-- Bytes put into a file from k on, if there is room. -/
def putS (L : List Fl) (room : Nat) (f : Fl) (k : Nat) (x : Tx) : List Fl × Nat :=
  if room + f.b.length < x.length + used L + k then (L, 30) else (upd L f.n (setf (wr f.b k x) (min f.d k)), 0)
def appS (L : List Fl) (room : Nat) (off : Bool) (s : Tx) (x : Tx) : List Fl × Nat :=
  if off then (L, 32) else match find L s with | none => (L, 4) | some f => putS L room f f.b.length x
def writeS (L : List Fl) (room : Nat) (off : Bool) (s : Tx) (z : Int) (x : Tx) : List Fl × Nat :=
  if off then (L, 32) else match find L s with | none => (L, 4) | some f => if z < 0 ∨ (f.b.length : Int) < z then (L, 1) else putS L room f z.toNat x
/-- What a call leaves that answers a code. -/
def Did (S : Nat → Prop) (p : Nat) (r : List Fl × Nat) (room : Nat) (off : Bool) (w : World) (e : Ending) (w' : World) : Prop :=
  e = .returned (.int .i64 (r.2 : Int)) ∧ Dk w' (Up S w w') p r.1 room off ∧ Ch S w w'
theorem did_refl {S : Nat → Prop} {p : Nat} {L : List Fl} {c room : Nat} {off : Bool} {w : World} (h : Dk w S p L room off) : Did S p (L, c) room off w (.returned (.int .i64 (c : Int))) w :=
  ⟨rfl, h.weaken (fun k hk => .inl hk), Ch.refl _ _⟩
theorem did_later {S : Nat → Prop} {p : Nat} {L : List Fl} {c room : Nat} {off : Bool} {w w' : World} (h : Dk w S p L room off) (b : Below w.heap.size w w') : Did S p (L, c) room off w (.returned (.int .i64 (c : Int))) w' :=
  ⟨rfl, (h.later b).weaken (fun k hk => .inl hk), Ch.of_below b (Nat.le_refl _)⟩

set_option maxRecDepth 100000 in
set_option maxHeartbeats 2000000 in
theorem put_on (w : World) (S X : Nat → Prop) (p m : Nat) (L : List Fl) (room : Nat) (D : DataW Unit) (G : Tx → Nat) (T : Tx → Nat → Prop) (h : Parts w S p m L room false D G T) (f : Fl) (hf : f ∈ L) (k : Nat) (hk : k ≤ f.b.length) (x : Tx) (B : Option Addr) (c : Nat)
    (hx : Sl w X 1 (.slice B x.length c) x.length (BVs x)) (hX : ∀ k, S k → X k) (hxl : x.length ≤ 140737488355328) :
    Calls Tryz.prog 69 #[.pointer (some ⟨p, 0, none⟩), .pointer (some ⟨G f.n, 0, none⟩), .int .i64 (k : Int), .slice B x.length c] w (Did S p (putS L room f k x) room false w) := by
  have HR := Lib.hid (room_on w.drew S p L room false (h.shut.drewN 1))
  have hF := h.file f hf
  obtain ⟨v, k1, ho, -, -, hfl, -⟩ := hF
  obtain ⟨A, c1, rfl⟩ := own_shape ho
  have c0 : w.cell? ⟨G f.n, 0, none⟩ = some (.slice A f.b.length c1) := k1.cell 0
  have hfit := h.good.fits
  have hroom := h.good.room
  have hw1 : IntKind.i64.wrap ((((room : Int) - (used L : Int)) + (f.b.length : Int)) - (k : Int)) = (((room : Int) - (used L : Int)) + (f.b.length : Int)) - (k : Int) := wrap64 (by omega) (by omega)
  have hw2 : IntKind.i64.wrap (((room : Int) - (used L : Int)) + (f.b.length : Int)) = ((room : Int) - (used L : Int)) + (f.b.length : Int) := wrap64 (by omega) (by omega)
  have HP := Lib.hid h
  have HX := Lib.hid (And.intro hx hX)
  have HK := Lib.hid hk
  have HFL := Lib.hid hfl
  have hG : Hid (∀ w1, Below w.drew.heap.size w.drew w1 → Blk w1 (G f.n) 108 #[.slice A f.b.length c1, .int .i64 (f.d : Int)]) := Lib.hid fun w1 hb => k1.below (below_of_drew hb) k1.lt
  by_cases hov : room + f.b.length < x.length + used L + k
  · have e : putS L room f k x = (L, 30) := by rw [putS, if_pos hov]
    have hgt : (((room : Int) - (used L : Int)) + (f.b.length : Int)) - (k : Int) < (x.length : Int) := by omega
    rw [e]
    clear h hx hX k1 ho hk hov e
    go_enter Tryz.func69, Tryz.ntmps69
    go_wp2_with fail
    go_region_held3 (fun w' => w'.cell? ⟨G f.n, 0, none⟩ = some (.slice A f.b.length c1)) (first | exact c0 | exact j0)
      (first
      | (go_at_call 101; refine HR.out.mono ?_; rintro e w1 ⟨rfl, hb1⟩; have j0 := (hG.out _ hb1).cell 0; simp only [List.getElem?_toArray, List.getElem?_cons_zero] at j0))
    all_goals
      go_wp2
      go_ret
      exact did_later HP.out.shut (below_of_drew hb1)
  · have e : putS L room f k x = (upd L f.n (setf (wr f.b k x) (min f.d k)), 0) := by rw [putS, if_neg hov]
    have hle : (x.length : Int) ≤ (((room : Int) - (used L : Int)) + (f.b.length : Int)) - (k : Int) := by omega
    have hnl := wr_len f.b k x hk
    have hu0 := used_upd h.good.nodup hf (setf (wr f.b k x) (min f.d k))
    have hum := used_mem hf
    have hu : used (upd L f.n (setf (wr f.b k x) (min f.d k))) ≤ room := by
      have : (setf (wr f.b k x) (min f.d k) f).b.length = (wr f.b k x).length := rfl
      omega
    have HU := Lib.hid hu
    have hkx : k + x.length ≤ 4194304 := by omega
    rw [e]
    clear h hx hX k1 ho hk hov e hnl hu0 hum hu
    go_enter Tryz.func69, Tryz.ntmps69
    go_wp2_with fail
    go_region_held3 (fun w' => w'.cell? ⟨G f.n, 0, none⟩ = some (.slice A f.b.length c1)) (first | exact c0 | exact j0)
      (first
      | (go_at_call 101; refine HR.out.mono ?_; rintro e w1 ⟨rfl, hb1⟩; have j0 := (hG.out _ hb1).cell 0; simp only [List.getElem?_toArray, List.getElem?_cons_zero] at j0))
    all_goals
      have hb1 := below_of_drew hb1
      have hP1 := HP.out.later hb1
      have HP1 := Lib.hid hP1
      have HB1 := Lib.hid hb1
      clear hP1 hb1
      go_wp2_with (go_at_call 102; refine (fput_any _ (T f.n) X (G f.n) f.d k f.b x B c HK.out (HP1.out.file f hf) (HX.out.1.after HB1.out) (fun q hq => HX.out.2 q (HP1.out.sub f hf q hq).1) hkx).mono ?_; rintro e w2 ⟨rfl, hF2, hC2⟩)
      go_ret
      have hP2 := parts_put HP1.out hf hF2 hC2 HU.out
      have hs1 := HB1.out.size
      refine ⟨rfl, hP2.shut.weaken (fun q hq => ?_), (Ch.of_below HB1.out (Nat.le_refl _)).trans (hC2.mono (T := S) (fun q _ hq => (HP1.out.sub f hf q hq).1)) (fun _ _ h => h)⟩
      rcases hq with hq | ⟨g1, g2⟩
      · exact .inl hq
      · exact .inr ⟨by omega, g2⟩

end Go.Proofs.YtjoonpkgepkkhaaGreatDoor.De

/-
  Contracts of the program's disk: Append, Write, Sync, Truncate, Synced, Get.
-/
namespace Go.Proofs.YtjoonpkgepkkhaaGreatDoor.Df
open Go Go.RowKit Go.Maps Ck Kw Ga Dm Dw Da Db Dc Dd De
attribute [local go_sem ↓] Go.wp_at_zero Go.wp_at_succ
set_option linter.unusedVariables false

/-- find, at a file that there is. -/
theorem find_in (w : World) (S : Nat → Prop) (p m : Nat) (L : List Fl) (room : Nat) (D : DataW Unit) (G : Tx → Nat) (T : Tx → Nat → Prop) (s : Tx) (hs : s.length ≤ 140737488355328) (h : Parts w S p m L room false D G T) (f : Fl) (hf : find L s = some f) :
    Calls Tryz.prog 68 #[.pointer (some ⟨p, 0, none⟩), .string ⟨s.toArray⟩] w fun e w' => e = .returned (.tuple #[.pointer (some ⟨G f.n, 0, none⟩), .int .i64 0]) ∧ w = w' := by
  have hc := find_on w S p m L room D G T s hs h
  have hi : isIn L s = true := by rw [isIn_find, hf]; rfl
  rw [hi, if_pos rfl, if_pos rfl, ← (find_some hf).2] at hc
  rw [← (find_some hf).2]
  exact hc
theorem find_out (w : World) (S : Nat → Prop) (p : Nat) (L : List Fl) (room : Nat) (s : Tx) (hs : s.length ≤ 140737488355328) (h : Dk w S p L room false) (hf : find L s = none) :
    Calls Tryz.prog 68 #[.pointer (some ⟨p, 0, none⟩), .string ⟨s.toArray⟩] w fun e w' => e = .returned (.tuple #[.pointer none, .int .i64 4]) ∧ w = w' := by
  obtain ⟨m, D, G, T, hP⟩ := h.opened
  have hc := find_on w S p m L room D G T s hs hP
  have hi : isIn L s = false := by rw [isIn_find, hf]; rfl
  rw [hi, if_neg (by simp), if_neg (by simp)] at hc
  exact hc
/-- find, where nothing comes of it. -/
theorem find_no (w : World) (S : Nat → Prop) (p : Nat) (L : List Fl) (room : Nat) (off : Bool) (s : Tx) (hs : s.length ≤ 140737488355328) (h : Dk w S p L room off) (c : Nat) (hc : (off = true ∧ c = 32) ∨ (off = false ∧ find L s = none ∧ c = 4)) :
    Calls Tryz.prog 68 #[.pointer (some ⟨p, 0, none⟩), .string ⟨s.toArray⟩] w fun e w' => e = .returned (.tuple #[.pointer none, .int .i64 (c : Int)]) ∧ w = w' := by
  rcases hc with ⟨rfl, rfl⟩ | ⟨rfl, hf, rfl⟩
  · exact find_off w S p L room _ h
  · exact find_out w S p L room s hs h hf
/-- What find may come to. -/
theorem find_cases (L : List Fl) (off : Bool) (s : Tx) : (∃ c : Nat, 2 < c ∧ c < 100 ∧ ((off = true ∧ c = 32) ∨ (off = false ∧ find L s = none ∧ c = 4))) ∨ (off = false ∧ ∃ f, find L s = some f) := by
  cases off
  · cases h : find L s with
    | none => exact .inl ⟨4, by omega, by omega, .inr ⟨rfl, rfl, rfl⟩⟩
    | some f => exact .inr ⟨rfl, f, rfl⟩
  · exact .inl ⟨32, by omega, by omega, .inl ⟨rfl, rfl⟩⟩

theorem app_no {L : List Fl} {room : Nat} {off : Bool} {s x : Tx} {c : Nat} (hc : (off = true ∧ c = 32) ∨ (off = false ∧ find L s = none ∧ c = 4)) : appS L room off s x = (L, c) := by
  rcases hc with ⟨rfl, rfl⟩ | ⟨rfl, hf, rfl⟩
  · rfl
  · rw [appS, hf]; rfl
theorem write_no {L : List Fl} {room : Nat} {off : Bool} {s x : Tx} {z : Int} {c : Nat} (hc : (off = true ∧ c = 32) ∨ (off = false ∧ find L s = none ∧ c = 4)) : writeS L room off s z x = (L, c) := by
  rcases hc with ⟨rfl, rfl⟩ | ⟨rfl, hf, rfl⟩
  · rfl
  · rw [writeS, hf]; rfl

theorem write_some {L : List Fl} {room : Nat} {s x : Tx} {z : Int} {f : Fl} (hf : find L s = some f) : writeS L room false s z x = if z < 0 ∨ (f.b.length : Int) < z then (L, 1) else putS L room f z.toNat x := by
  rw [writeS, hf]; rfl

set_option maxHeartbeats 1000000 in
theorem append_on (w : World) (S X : Nat → Prop) (p : Nat) (L : List Fl) (room : Nat) (off : Bool) (s : Tx) (hs : s.length ≤ 140737488355328) (h : Dk w S p L room off) (x : Tx) (B : Option Addr) (c : Nat)
    (hx : Sl w X 1 (.slice B x.length c) x.length (BVs x)) (hX : ∀ k, S k → X k) (hxl : x.length ≤ 140737488355328) :
    Calls Tryz.prog 55 #[.pointer (some ⟨p, 0, none⟩), .string ⟨s.toArray⟩, .slice B x.length c] w (Did S p (appS L room off s x) room off w) := by
  rcases find_cases L off s with ⟨q, hq1, hq2, hq⟩ | ⟨rfl, f, hf⟩
  · have HF := Lib.hid (find_no w S p L room off s hs h q hq)
    have H := Lib.hid h
    rw [app_no hq]
    have hne : ((q : Int) == 0) = false := by rw [beq_eq_false_iff_ne]; omega
    clear h hq hx hX
    go_enter Tryz.func55, Tryz.ntmps55
    go_wp2_with (go_at_call 68; refine HF.out.mono ?_; rintro e w' ⟨rfl, rfl⟩)
    go_ret
    exact did_refl H.out
  · have e : appS L room false s x = putS L room f f.b.length x := by rw [appS, hf]; rfl
    rw [e]
    obtain ⟨m, D, G, T, hP⟩ := h.opened
    have hfm := (find_some hf).1
    have HF := Lib.hid (find_in w S p m L room D G T s hs hP f hf)
    have HPU := Lib.hid (put_on w S X p m L room D G T hP f hfm f.b.length (Nat.le_refl _) x B c hx hX hxl)
    obtain ⟨v, k1, ho, -⟩ := hP.file f hfm
    obtain ⟨A, c1, rfl⟩ := own_shape ho
    have c0 : w.cell? ⟨G f.n, 0, none⟩ = some (.slice A f.b.length c1) := k1.cell 0
    clear h hP hx hX k1 ho hf e
    go_enter Tryz.func55, Tryz.ntmps55
    go_wp2_with (first
      | (go_at_call 68; refine HF.out.mono ?_; rintro e w' ⟨rfl, rfl⟩)
      | (go_at_call 69; refine HPU.out.mono ?_; rintro e w2 ⟨rfl, hD2⟩))
    go_ret
    exact ⟨rfl, hD2⟩

set_option maxHeartbeats 1000000 in
theorem write_on (w : World) (S X : Nat → Prop) (p : Nat) (L : List Fl) (room : Nat) (off : Bool) (s : Tx) (hs : s.length ≤ 140737488355328) (h : Dk w S p L room off) (z : Int) (x : Tx) (B : Option Addr) (c : Nat)
    (hx : Sl w X 1 (.slice B x.length c) x.length (BVs x)) (hX : ∀ k, S k → X k) (hxl : x.length ≤ 140737488355328) :
    Calls Tryz.prog 33 #[.pointer (some ⟨p, 0, none⟩), .string ⟨s.toArray⟩, .int .i64 z, .slice B x.length c] w (Did S p (writeS L room off s z x) room off w) := by
  rcases find_cases L off s with ⟨q, hq1, hq2, hq⟩ | ⟨rfl, f, hf⟩
  · have HF := Lib.hid (find_no w S p L room off s hs h q hq)
    have H := Lib.hid h
    rw [write_no hq]
    have hne : ((q : Int) == 0) = false := by rw [beq_eq_false_iff_ne]; omega
    clear h hq hx hX
    go_enter Tryz.func33, Tryz.ntmps33
    go_wp2_with (go_at_call 68; refine HF.out.mono ?_; rintro e w' ⟨rfl, rfl⟩)
    go_ret
    exact did_refl H.out
  · have H := Lib.hid h
    obtain ⟨m, D, G, T, hP⟩ := h.opened
    have hfm := (find_some hf).1
    have HF := Lib.hid (find_in w S p m L room D G T s hs hP f hf)
    have HPU : ∀ k : Nat, k ≤ f.b.length → _ := fun k hk => put_on w S X p m L room D G T hP f hfm k hk x B c hx hX hxl
    have HPU := Lib.hid HPU
    obtain ⟨v, k1, ho, -⟩ := hP.file f hfm
    obtain ⟨A, c1, rfl⟩ := own_shape ho
    have c0 : w.cell? ⟨G f.n, 0, none⟩ = some (.slice A f.b.length c1) := k1.cell 0
    by_cases h0 : z < 0
    · have e : writeS L room false s z x = (L, 1) := by rw [write_some hf, if_pos (.inl h0)]
      rw [e]
      clear h hP hx hX k1 ho hf e
      go_enter Tryz.func33, Tryz.ntmps33
      go_wp2_with (go_at_call 68; refine HF.out.mono ?_; rintro e w' ⟨rfl, rfl⟩)
      go_ret
      exact did_refl H.out
    · by_cases h1 : (f.b.length : Int) < z
      · have e : writeS L room false s z x = (L, 1) := by rw [write_some hf, if_pos (.inr h1)]
        rw [e]
        clear h hP hx hX k1 ho hf e
        go_enter Tryz.func33, Tryz.ntmps33
        go_wp2_with (go_at_call 68; refine HF.out.mono ?_; rintro e w' ⟨rfl, rfl⟩)
        go_ret
        exact did_refl H.out
      · obtain ⟨k, rfl⟩ : ∃ k : Nat, z = (k : Int) := ⟨z.toNat, by omega⟩
        have e : writeS L room false s (k : Int) x = putS L room f k x := by
          rw [write_some hf, if_neg (by omega)]
          rfl
        rw [e]
        have HK := Lib.hid (show k ≤ f.b.length by omega)
        clear h hP hx hX k1 ho hf e
        go_enter Tryz.func33, Tryz.ntmps33
        go_wp2_with (first
          | (go_at_call 68; refine HF.out.mono ?_; rintro e w' ⟨rfl, rfl⟩)
          | (go_at_call 69; refine (HPU.out k HK.out).mono ?_; rintro e w2 ⟨rfl, hD2⟩))
        go_ret
        exact ⟨rfl, hD2⟩

/-- What is written of a file in its place. -/
def updS (L : List Fl) (off : Bool) (s : Tx) (g : Fl → Fl) : List Fl × Nat := if off then (L, 32) else match find L s with | none => (L, 4) | some f => (upd L f.n (setf (g f).b (g f).d), 0)
def truncS (L : List Fl) (off : Bool) (s : Tx) (z : Int) : List Fl × Nat :=
  if off then (L, 32) else match find L s with | none => (L, 4) | some f => if z < 0 ∨ (f.b.length : Int) < z then (L, 1) else (upd L f.n (setf (f.b.take z.toNat) (min f.d z.toNat)), 0)
def syncS (L : List Fl) (off : Bool) (s : Tx) : List Fl × Nat := if off then (L, 32) else match find L s with | none => (L, 4) | some f => (upd L f.n (setf f.b f.b.length), 0)
theorem sync_no {L : List Fl} {off : Bool} {s : Tx} {c : Nat} (hc : (off = true ∧ c = 32) ∨ (off = false ∧ find L s = none ∧ c = 4)) : syncS L off s = (L, c) := by
  rcases hc with ⟨rfl, rfl⟩ | ⟨rfl, hf, rfl⟩
  · rfl
  · rw [syncS, hf]; rfl
theorem trunc_no {L : List Fl} {off : Bool} {s : Tx} {z : Int} {c : Nat} (hc : (off = true ∧ c = 32) ∨ (off = false ∧ find L s = none ∧ c = 4)) : truncS L off s z = (L, c) := by
  rcases hc with ⟨rfl, rfl⟩ | ⟨rfl, hf, rfl⟩
  · rfl
  · rw [truncS, hf]; rfl
theorem trunc_some {L : List Fl} {s : Tx} {z : Int} {f : Fl} (hf : find L s = some f) : truncS L false s z = if z < 0 ∨ (f.b.length : Int) < z then (L, 1) else (upd L f.n (setf (f.b.take z.toNat) (min f.d z.toNat)), 0) := by
  rw [truncS, hf]; rfl
theorem used_le {L : List Fl} (hn : (L.map (·.n)).Nodup) {f : Fl} (hf : f ∈ L) {b : Tx} {d : Nat} (hb : b.length ≤ f.b.length) : used (upd L f.n (setf b d)) ≤ used L := by
  have h1 := used_upd hn hf (setf b d)
  have h2 : (setf b d f).b.length = b.length := rfl
  omega

theorem sync_on (w : World) (S : Nat → Prop) (p : Nat) (L : List Fl) (room : Nat) (off : Bool) (s : Tx) (hs : s.length ≤ 140737488355328) (h : Dk w S p L room off) :
    Calls Tryz.prog 34 #[.pointer (some ⟨p, 0, none⟩), .string ⟨s.toArray⟩] w (Did S p (syncS L off s) room off w) := by
  rcases find_cases L off s with ⟨q, hq1, hq2, hq⟩ | ⟨rfl, f, hf⟩
  · have HF := Lib.hid (find_no w S p L room off s hs h q hq)
    have H := Lib.hid h
    rw [sync_no hq]
    have hne : ((q : Int) == 0) = false := by rw [beq_eq_false_iff_ne]; omega
    clear h hq
    go_enter Tryz.func34, Tryz.ntmps34
    go_wp2_with (go_at_call 68; refine HF.out.mono ?_; rintro e w' ⟨rfl, rfl⟩)
    go_ret
    exact did_refl H.out
  · have e : syncS L false s = (upd L f.n (setf f.b f.b.length), 0) := by rw [syncS, hf]; rfl
    rw [e]
    obtain ⟨m, D, G, T, hP⟩ := h.opened
    have HF := Lib.hid (find_in w S p m L room D G T s hs hP f hf)
    have hf := (find_some hf).1
    have HP := Lib.hid hP
    have HM := Lib.hid hf
    clear h hP hf e
    go_enter Tryz.func34, Tryz.ntmps34
    go_wp2_with (first
      | (go_at_call 68; refine HF.out.mono ?_; rintro e w' ⟨rfl, rfl⟩)
      | (go_at_call 70; refine (fsync_any _ _ _ _ _ (HP.out.file f HM.out)).mono ?_; rintro e w2 ⟨rfl, hF2, hC2⟩))
    go_ret
    have hu := used_le HP.out.good.nodup HM.out (b := f.b) (d := f.b.length) (Nat.le_refl _)
    exact ⟨rfl, (parts_put HP.out HM.out (hF2.weaken (fun k hk => .inl hk)) hC2 (Nat.le_trans hu HP.out.good.fits)).shut, hC2.mono (fun q _ hq => (HP.out.sub f HM.out q hq).1)⟩

set_option maxHeartbeats 1000000 in
theorem trunc_on (w : World) (S : Nat → Prop) (p : Nat) (L : List Fl) (room : Nat) (off : Bool) (s : Tx) (hs : s.length ≤ 140737488355328) (h : Dk w S p L room off) (z : Int) :
    Calls Tryz.prog 124 #[.pointer (some ⟨p, 0, none⟩), .string ⟨s.toArray⟩, .int .i64 z] w (Did S p (truncS L off s z) room off w) := by
  rcases find_cases L off s with ⟨q, hq1, hq2, hq⟩ | ⟨rfl, f, hf⟩
  · have HF := Lib.hid (find_no w S p L room off s hs h q hq)
    have H := Lib.hid h
    rw [trunc_no hq]
    have hne : ((q : Int) == 0) = false := by rw [beq_eq_false_iff_ne]; omega
    clear h hq
    go_enter Tryz.func124, Tryz.ntmps124
    go_wp2_with (go_at_call 68; refine HF.out.mono ?_; rintro e w' ⟨rfl, rfl⟩)
    go_ret
    exact did_refl H.out
  · obtain ⟨m, D, G, T, hP⟩ := h.opened
    have HF := Lib.hid (find_in w S p m L room D G T s hs hP f hf)
    have hfm := (find_some hf).1
    have HP := Lib.hid hP
    have HM := Lib.hid hfm
    have H := Lib.hid h
    obtain ⟨v, k1, ho, -⟩ := hP.file f hfm
    obtain ⟨A, c1, rfl⟩ := own_shape ho
    have c0 : w.cell? ⟨G f.n, 0, none⟩ = some (.slice A f.b.length c1) := k1.cell 0
    by_cases h0 : z < 0
    · have e : truncS L false s z = (L, 1) := by rw [trunc_some hf, if_pos (.inl h0)]
      rw [e]
      clear h hP k1 ho hf e hfm
      go_enter Tryz.func124, Tryz.ntmps124
      go_wp2_with (go_at_call 68; refine HF.out.mono ?_; rintro e w' ⟨rfl, rfl⟩)
      go_ret
      exact did_refl H.out
    · by_cases h1 : (f.b.length : Int) < z
      · have e : truncS L false s z = (L, 1) := by rw [trunc_some hf, if_pos (.inr h1)]
        rw [e]
        clear h hP k1 ho hf e hfm
        go_enter Tryz.func124, Tryz.ntmps124
        go_wp2_with (go_at_call 68; refine HF.out.mono ?_; rintro e w' ⟨rfl, rfl⟩)
        go_ret
        exact did_refl H.out
      · obtain ⟨k, rfl⟩ : ∃ k : Nat, z = (k : Int) := ⟨z.toNat, by omega⟩
        have e : truncS L false s (k : Int) = (upd L f.n (setf (f.b.take k) (min f.d k)), 0) := by
          rw [trunc_some hf, if_neg (by omega)]
          rfl
        rw [e]
        have HK := Lib.hid (show k ≤ f.b.length by omega)
        clear h hP k1 ho hf e hfm
        go_enter Tryz.func124, Tryz.ntmps124
        go_wp2_with (first
          | (go_at_call 68; refine HF.out.mono ?_; rintro e w' ⟨rfl, rfl⟩)
          | (go_at_call 99; refine (fcut_any _ _ _ _ _ k HK.out (HP.out.file f HM.out)).mono ?_; rintro e w2 ⟨rfl, hF2, hC2⟩))
        go_ret
        have hu := used_le HP.out.good.nodup HM.out (b := f.b.take k) (d := min f.d k) (by rw [List.length_take]; omega)
        exact ⟨rfl, (parts_put HP.out HM.out hF2 hC2 (Nat.le_trans hu HP.out.good.fits)).shut, hC2.mono (fun q _ hq => (HP.out.sub f HM.out q hq).1)⟩

end Go.Proofs.YtjoonpkgepkkhaaGreatDoor.Df

/-
  Contracts of the program's disk: Synced, Get, Remove, Rename, Create.
-/
namespace Go.Proofs.YtjoonpkgepkkhaaGreatDoor.Dg
open Go Go.RowKit Go.Maps Ck Kw Ga Dm Dw Da Db Dc Dd De Df
attribute [local go_sem ↓] Go.wp_at_zero Go.wp_at_succ
set_option linter.unusedVariables false

def syncedS (L : List Fl) (off : Bool) (s : Tx) : Nat × Nat := if off then (0, 32) else match find L s with | none => (0, 4) | some f => (f.d, 0)
def getS (L : List Fl) (off : Bool) (s : Tx) : Tx × Nat := if off then ([], 32) else match find L s with | none => ([], 4) | some f => (f.b, 0)
theorem synced_no {L : List Fl} {off : Bool} {s : Tx} {c : Nat} (hc : (off = true ∧ c = 32) ∨ (off = false ∧ find L s = none ∧ c = 4)) : syncedS L off s = (0, c) := by
  rcases hc with ⟨rfl, rfl⟩ | ⟨rfl, hf, rfl⟩
  · rfl
  · rw [syncedS, hf]; rfl
theorem get_no {L : List Fl} {off : Bool} {s : Tx} {c : Nat} (hc : (off = true ∧ c = 32) ∨ (off = false ∧ find L s = none ∧ c = 4)) : getS L off s = ([], c) := by
  rcases hc with ⟨rfl, rfl⟩ | ⟨rfl, hf, rfl⟩
  · rfl
  · rw [getS, hf]; rfl

theorem synced_on (w : World) (S : Nat → Prop) (p : Nat) (L : List Fl) (room : Nat) (off : Bool) (s : Tx) (hs : s.length ≤ 140737488355328) (h : Dk w S p L room off) :
    Calls Tryz.prog 88 #[.pointer (some ⟨p, 0, none⟩), .string ⟨s.toArray⟩] w fun e w' => e = .returned (.tuple #[.int .i64 ((syncedS L off s).1 : Int), .int .i64 ((syncedS L off s).2 : Int)]) ∧ w = w' := by
  rcases find_cases L off s with ⟨q, hq1, hq2, hq⟩ | ⟨rfl, f, hf⟩
  · have HF := Lib.hid (find_no w S p L room off s hs h q hq)
    rw [synced_no hq]
    have hne : ((q : Int) == 0) = false := by rw [beq_eq_false_iff_ne]; omega
    clear h hq
    go_enter Tryz.func88, Tryz.ntmps88
    go_wp2_with (go_at_call 68; refine HF.out.mono ?_; rintro e w' ⟨rfl, rfl⟩)
    go_ret2
    exact ⟨rfl, rfl⟩
  · have e : syncedS L false s = (f.d, 0) := by rw [syncedS, hf]; rfl
    rw [e]
    obtain ⟨m, D, G, T, hP⟩ := h.opened
    have HF := Lib.hid (find_in w S p m L room D G T s hs hP f hf)
    have hfm := (find_some hf).1
    obtain ⟨v, k1, ho, -⟩ := hP.file f hfm
    have c1 : w.cell? ⟨G f.n, 1, none⟩ = some (.int .i64 (f.d : Int)) := k1.cell 1
    clear h hP k1 ho hf e
    go_enter Tryz.func88, Tryz.ntmps88
    go_wp2_with (go_at_call 68; refine HF.out.mono ?_; rintro e w' ⟨rfl, rfl⟩)
    go_ret2
    exact ⟨rfl, rfl⟩

/-- What Get hands back. -/
def Got (w : World) (r : Tx × Nat) (e : Ending) (w' : World) : Prop :=
  ∃ A c, e = .returned (.tuple #[.slice A r.1.length c, .int .i64 (r.2 : Int)]) ∧ w'.ownsRow w.heap.size 5 1 (.slice A r.1.length c) r.1.length (BVs r.1) ∧ Below w.heap.size w w'
theorem get_on (w : World) (S : Nat → Prop) (p : Nat) (L : List Fl) (room : Nat) (off : Bool) (s : Tx) (hs : s.length ≤ 140737488355328) (h : Dk w S p L room off) :
    Calls Tryz.prog 31 #[.pointer (some ⟨p, 0, none⟩), .string ⟨s.toArray⟩] w (Got w (getS L off s)) := by
  rcases find_cases L off s with ⟨q, hq1, hq2, hq⟩ | ⟨rfl, f, hf⟩
  · have HF := Lib.hid (find_no w S p L room off s hs h q hq)
    rw [get_no hq]
    have hne : ((q : Int) == 0) = false := by rw [beq_eq_false_iff_ne]; omega
    clear h hq
    go_enter Tryz.func31, Tryz.ntmps31
    go_wp2_with (go_at_call 68; refine HF.out.mono ?_; rintro e w' ⟨rfl, rfl⟩)
    go_ret2
    exact ⟨none, 0, rfl, World.ownsRow_nil _ _ _ _, Below.refl _ _⟩
  · have e : getS L false s = (f.b, 0) := by rw [getS, hf]; rfl
    rw [e]
    obtain ⟨m, D, G, T, hP⟩ := h.opened
    have HF := Lib.hid (find_in w S p m L room D G T s hs hP f hf)
    have hfm := (find_some hf).1
    have hlen := hP.good.len hfm
    obtain ⟨v, k1, ho, -⟩ := hP.file f hfm
    obtain ⟨A, c1, rfl⟩ := own_shape ho
    have c0 : w.cell? ⟨G f.n, 0, none⟩ = some (.slice A f.b.length c1) := k1.cell 0
    have HS := Lib.hid (Sl.of_own (X := fun _ => False) ho (fun _ _ _ h => h))
    clear h hP k1 ho hf e
    go_enter Tryz.func31, Tryz.ntmps31
    go_wp2_with (first
      | (go_at_call 68; refine HF.out.mono ?_; rintro e w' ⟨rfl, rfl⟩)
      | (go_at_call 44; refine (clone_sh _ _ _ f.b _ HS.out (by omega)).mono ?_; rintro e w2 ⟨A2, c2, rfl, ho2, hb2⟩))
    go_ret2
    exact ⟨A2, c2, rfl, ho2, hb2⟩

/-- The map has turned, and no file. -/
theorem parts_map {w w' : World} {S : Nat → Prop} {p m room : Nat} {L L' : List Fl} {off : Bool} {D D' : DataW Unit} {G : Tx → Nat} {T : Tx → Nat → Prop} (h : Parts w S p m L room off D G T) (c : Ch (fun k => k = m) w w')
    (ho : w'.ownsMap Tryz.prog 9 ptrElem m 64 D') (φ : Tx → Tx) (hT : TellsD D' L' (fun s => G (φ s))) (hg : GoodL L' room) (hL : ∀ f' ∈ L', ∃ f ∈ L, f.n = φ f'.n ∧ f.b = f'.b ∧ f.d = f'.d) (hi : ∀ f ∈ L', ∀ h ∈ L', φ f.n = φ h.n → f.n = h.n) :
    Parts w' S p m L' room off D' (fun s => G (φ s)) (fun s => T (φ s)) := by
  refine ⟨h.blk.ch c (fun e => h.sm.2 e.symm), h.sp, ho, hT, h.sm, fun f' hf' => ?_, fun f' hf' k hk => ?_, fun f' hf' h' hh' hne k hk hk' => ?_, hg⟩
  · obtain ⟨f, hf, e1, e2, e3⟩ := hL f' hf'
    rw [← e1, ← e2, ← e3]
    exact (h.file f hf).ch c (fun k hk e => (h.sub f hf k hk).2.2.1 e)
  · obtain ⟨f, hf, e1, -⟩ := hL f' hf'
    rw [← e1] at hk
    have := h.sub f hf k hk
    exact ⟨this.1, this.2.1, this.2.2.1, Nat.lt_of_lt_of_le this.2.2.2 c.size⟩
  · obtain ⟨f, hf, e1, -⟩ := hL f' hf'
    obtain ⟨g, hg', e2, -⟩ := hL h' hh'
    rw [← e1] at hk
    rw [← e2] at hk'
    exact h.apart f hf g hg' (fun e => hne (hi f' hf' h' hh' (by rw [← e1, ← e2, e]))) k hk hk'

theorem mem_del {L : List Fl} {s : Tx} {f : Fl} : f ∈ del L s ↔ f ∈ L ∧ f.n ≠ s := by
  unfold del
  rw [List.mem_filter]
  simp
theorem used_filter_le (L : List Fl) (P : Fl → Bool) : used (L.filter P) ≤ used L := by
  induction L with
  | nil => exact Nat.le_refl _
  | cons x L ih =>
    by_cases h : P x = true
    · rw [List.filter_cons_of_pos h]
      simp only [used]
      omega
    · rw [List.filter_cons_of_neg h]
      simp only [used]
      omega
theorem good_del {L : List Fl} {room : Nat} (h : GoodL L room) (s : Tx) : GoodL (del L s) room :=
  ⟨h.nodup.sublist (List.filter_sublist.map _), Nat.le_trans (List.length_filter_le _ _) h.few, Nat.le_trans (used_filter_le _ _) h.fits, h.room, fun f hf => h.name f (mem_del.1 hf).1, fun f hf => h.done f (mem_del.1 hf).1⟩
theorem isIn_del (L : List Fl) (s t : Tx) : isIn (del L s) t = (isIn L t && !(t == s)) := by
  rw [Bool.eq_iff_iff, isIn_iff, Bool.and_eq_true, isIn_iff]
  constructor
  · rintro ⟨f, hf, rfl⟩
    have := mem_del.1 hf
    exact ⟨⟨f, this.1, rfl⟩, by simpa using this.2⟩
  · rintro ⟨⟨f, hf, rfl⟩, hne⟩
    exact ⟨f, mem_del.2 ⟨hf, by simpa using hne⟩, rfl⟩
theorem strKey_ne {s t : Tx} (h : s ≠ t) : (Lit.string s) ≠ Lit.string t := fun e => h (by injection e)
theorem strKey (s : Tx) : WideAt.IsKeyLit (.string s) := trivial
theorem tells_del {D : DataW Unit} {L : List Fl} {G : Tx → Nat} (h : TellsD D L G) (s : Tx) : TellsD (D.del (.string s)) (del L s) G := by
  refine ⟨fun t => ?_, fun f hf zd => ?_⟩
  · rw [isIn_del]
    by_cases e : t = s
    · subst e
      rw [Maps.has_del_same]
      simp
    · rw [Maps.has_del_other (strKey_ne e), h.1 t]
      have : (t == s) = false := by rw [beq_eq_false_iff_ne]; exact e
      rw [this]
      simp
  · have := mem_del.1 hf
    rw [Maps.atKey_del_other (strKey_ne this.2)]
    exact h.2 f this.1 zd

def remS (L : List Fl) (off : Bool) (s : Tx) : List Fl × Nat := if off then (L, 32) else match find L s with | none => (L, 4) | some f => (del L f.n, 0)
theorem rem_no {L : List Fl} {off : Bool} {s : Tx} {c : Nat} (hc : (off = true ∧ c = 32) ∨ (off = false ∧ find L s = none ∧ c = 4)) : remS L off s = (L, c) := by
  rcases hc with ⟨rfl, rfl⟩ | ⟨rfl, hf, rfl⟩
  · rfl
  · rw [remS, hf]; rfl
theorem remove_on (w : World) (S : Nat → Prop) (p : Nat) (L : List Fl) (room : Nat) (off : Bool) (s : Tx) (hs : s.length ≤ 140737488355328) (h : Dk w S p L room off) :
    Calls Tryz.prog 59 #[.pointer (some ⟨p, 0, none⟩), .string ⟨s.toArray⟩] w (Did S p (remS L off s) room off w) := by
  rcases find_cases L off s with ⟨q, hq1, hq2, hq⟩ | ⟨rfl, f, hf⟩
  · have HF := Lib.hid (find_no w S p L room off s hs h q hq)
    have H := Lib.hid h
    rw [rem_no hq]
    have hne : ((q : Int) == 0) = false := by rw [beq_eq_false_iff_ne]; omega
    clear h hq
    go_enter Tryz.func59, Tryz.ntmps59
    go_wp2_with (go_at_call 68; refine HF.out.mono ?_; rintro e w' ⟨rfl, rfl⟩)
    go_ret
    exact did_refl H.out
  · have e : remS L false s = (del L s, 0) := by rw [remS, hf, ← (find_some hf).2]; rfl
    rw [e]
    obtain ⟨m, D, G, T, hP⟩ := h.opened
    have HF := Lib.hid (find_in w S p m L room D G T s hs hP f hf)
    have c0 : w.cell? ⟨p, 0, none⟩ = some (.map (some m)) := hP.blk.cell 0
    have HP := Lib.hid hP
    have hK := key_str s (by simp only [maxLen]; omega)
    have HK := Lib.hid hK
    clear h hP hf e hK
    go_enter Tryz.func59, Tryz.ntmps59
    go_wp2_with (first
      | (go_at_call 68; refine HF.out.mono ?_; rintro e w' ⟨rfl, rfl⟩)
      | (at_delete; refine wpList_delete_own _ rfl _ _ 84 9 rfl 102 law_str Tryz.underlying84 ptrElem m 64 D rfl HP.out.own _ _ rfl HK.out ?_; intro w1 hown1 hturn1))
    go_ret
    have hc : Ch (fun k => k = m) w w1 := Ch.of_grown hturn1.grown (fun g hg _ => (Option.some.inj hg).symm)
    have hP1 := parts_map HP.out hc hown1 (fun s => s) (tells_del HP.out.tells s) (good_del HP.out.good s) (fun f' hf' => ⟨f', (mem_del.1 hf').1, rfl, rfl, rfl⟩) (fun _ _ _ _ e => e)
    exact ⟨rfl, (Parts.shut hP1).weaken (fun k hk => Or.inl hk), hc.mono (fun k _ hk => by rw [hk]; exact HP.out.sm.1)⟩

end Go.Proofs.YtjoonpkgepkkhaaGreatDoor.Dg

/-
  DERIVED: THE SHELF's CONTRACTS AT THIS DUMP, IN PLAIN WORDS (tools/lay-plain.mjs out of 'YtjoonpkgepkkhaaGreatDoorShelf.lean', which tools/lay-shelf.mjs wrote): THE SAME DECLARATIONS UNDER THE SAME NAMES: 'import', 'namespace', 'open', 'def', 'theorem' AND NOTHING ELSE: no command of the shelf's: FOR A HAND-IN. Each laying: the table of numbers ('.._ren') and one theorem, a field a fact of the dump's own or the kernel's comparison; each contract: ONE APPLICATION.
-/
namespace Go.Proofs
open Go.Shelf
def Tryz.keys96_ren : Go.Shelf.Ren := ⟨fun | 7 => 96 | 10 => 131 | n => n, fun | 23 => 84 | 26 => 9 | 3 => 102 | 28 => 139 | 0 => 0 | 27 => 138 | 33 => 88 | 4 => 4 | n => n, fun | n => n⟩
theorem Tryz.keys96 : Go.Proofs.SlLaysZ.n7 Tryz.prog Tryz.keys96_ren := {
  mixed := by kernel_rfl
  f7 := ⟨Tryz.f96.name, by decide, Tryz.func96.trans (congrArg some (by kernel_rfl))⟩
  f10 := ⟨Tryz.f131.name, by decide, Tryz.func131.trans (congrArg some (by kernel_rfl))⟩
  t0 := Tryz.underlying0
  a0 := Tryz.isAgg0
  z0 := Tryz.sizeOf0
  v0 := Tryz.zeroValue0
  t4 := Tryz.underlying4
  a4 := Tryz.isAgg4
  z4 := Tryz.sizeOf4
  v4 := Tryz.zeroValue4
  t23 := Tryz.underlying84
  a23 := Tryz.isAgg84
  z23 := Tryz.sizeOf84
  v23 := Tryz.zeroValue84
  t26 := Tryz.underlying9
  a26 := Tryz.isAgg9
  z26 := Tryz.sizeOf9
  v26 := Tryz.zeroValue9
  t27 := Tryz.underlying138
  a27 := Tryz.isAgg138
  z27 := Tryz.sizeOf138
  v27 := Tryz.zeroValue138
  t28 := Tryz.underlying139
  a28 := Tryz.isAgg139
  z28 := Tryz.sizeOf139
  v28 := Tryz.zeroValue139
  t33 := Tryz.underlying88
  a33 := Tryz.isAgg88
  z33 := Tryz.sizeOf88
  v33 := Tryz.zeroValue88 }
def Tryz.sorted95_ren : Go.Shelf.Ren := ⟨fun | 6 => 95 | 8 => 129 | 9 => 130 | 11 => 154 | 13 => 128 | 12 => 155 | 23 => 152 | 24 => 153 | 14 => 173 | 15 => 174 | 16 => 175 | 17 => 176 | 18 => 177 | 19 => 178 | 20 => 179 | 21 => 180 | 22 => 181 | 25 => 192 | 26 => 168 | 27 => 169 | 28 => 193 | 29 => 194 | 30 => 195 | 31 => 199 | n => n, fun | 26 => 9 | 28 => 139 | 24 => 92 | 0 => 0 | 3 => 3 | 37 => 76 | 48 => 29 | 50 => 123 | 4 => 4 | 40 => 180 | 39 => 179 | 45 => 185 | 5 => 5 | 9 => 9 | 51 => 202 | 55 => 206 | 57 => 223 | 58 => 224 | 33 => 88 | n => n, fun | n => n⟩
theorem Tryz.sorted95 : Go.Proofs.SlLaysZ.n6 Tryz.prog Tryz.sorted95_ren := {
  mixed := by kernel_rfl
  f6 := ⟨Tryz.f95.name, by decide, Tryz.func95.trans (congrArg some (by kernel_rfl))⟩
  f8 := ⟨Tryz.f129.name, by decide, Tryz.func129.trans (congrArg some (by kernel_rfl))⟩
  f11 := ⟨Tryz.f154.name, by decide, Tryz.func154.trans (congrArg some (by kernel_rfl))⟩
  t0 := Tryz.underlying0
  a0 := Tryz.isAgg0
  z0 := Tryz.sizeOf0
  v0 := Tryz.zeroValue0
  t24 := Tryz.underlying92
  a24 := Tryz.isAgg92
  z24 := Tryz.sizeOf92
  v24 := Tryz.zeroValue92
  t26 := Tryz.underlying9
  a26 := Tryz.isAgg9
  z26 := Tryz.sizeOf9
  v26 := Tryz.zeroValue9
  t28 := Tryz.underlying139
  a28 := Tryz.isAgg139
  z28 := Tryz.sizeOf139
  v28 := Tryz.zeroValue139
  i26 := by kernel_rfl }
def Tryz.sort130_ren : Go.Shelf.Ren := ⟨fun | 6 => 130 | 8 => 128 | 9 => 155 | 19 => 152 | 20 => 153 | 21 => 173 | 22 => 174 | 23 => 175 | 24 => 176 | 25 => 177 | 26 => 178 | 27 => 179 | 28 => 180 | 29 => 181 | 36 => 192 | 31 => 168 | 32 => 169 | 37 => 193 | 38 => 194 | 39 => 195 | 41 => 199 | n => n, fun | 27 => 92 | 29 => 9 | 3 => 3 | 32 => 76 | 26 => 92 | 0 => 0 | 44 => 29 | 46 => 123 | 4 => 4 | 36 => 180 | 35 => 179 | 41 => 185 | 5 => 5 | 9 => 9 | 53 => 202 | 57 => 206 | 63 => 223 | 64 => 224 | n => n, fun | n => n⟩
theorem Tryz.sort130 : Go.Proofs.SlLaysM.n6 Tryz.prog Tryz.sort130_ren := {
  mixed := by kernel_rfl
  f6 := ⟨Tryz.f130.name, by decide, Tryz.func130.trans (congrArg some (by kernel_rfl))⟩
  f8 := Tryz.func128.trans (congrArg some (by kernel_rfl))
  f9 := ⟨Tryz.f155.name, by decide, Tryz.func155.trans (congrArg some (by kernel_rfl))⟩
  f19 := Tryz.func152.trans (congrArg some (by kernel_rfl))
  f20 := Tryz.func153.trans (congrArg some (by kernel_rfl))
  f21 := ⟨Tryz.f173.name, by decide, Tryz.func173.trans (congrArg some (by kernel_rfl))⟩
  f22 := ⟨Tryz.f174.name, by decide, Tryz.func174.trans (congrArg some (by kernel_rfl))⟩
  f23 := ⟨Tryz.f175.name, by decide, Tryz.func175.trans (congrArg some (by kernel_rfl))⟩
  f24 := ⟨Tryz.f176.name, by decide, Tryz.func176.trans (congrArg some (by kernel_rfl))⟩
  f25 := ⟨Tryz.f177.name, by decide, Tryz.func177.trans (congrArg some (by kernel_rfl))⟩
  f26 := ⟨Tryz.f178.name, by decide, Tryz.func178.trans (congrArg some (by kernel_rfl))⟩
  f27 := ⟨Tryz.f179.name, by decide, Tryz.func179.trans (congrArg some (by kernel_rfl))⟩
  f28 := ⟨Tryz.f180.name, by decide, Tryz.func180.trans (congrArg some (by kernel_rfl))⟩
  f29 := ⟨Tryz.f181.name, by decide, Tryz.func181.trans (congrArg some (by kernel_rfl))⟩
  f31 := Tryz.func168.trans (congrArg some (by kernel_rfl))
  f32 := Tryz.func169.trans (congrArg some (by kernel_rfl))
  f36 := ⟨Tryz.f192.name, by decide, Tryz.func192.trans (congrArg some (by kernel_rfl))⟩
  f37 := ⟨Tryz.f193.name, by decide, Tryz.func193.trans (congrArg some (by kernel_rfl))⟩
  f38 := ⟨Tryz.f194.name, by decide, Tryz.func194.trans (congrArg some (by kernel_rfl))⟩
  f39 := ⟨Tryz.f195.name, by decide, Tryz.func195.trans (congrArg some (by kernel_rfl))⟩
  f41 := ⟨Tryz.f199.name, by decide, Tryz.func199.trans (congrArg some (by kernel_rfl))⟩
  t0 := Tryz.underlying0
  a0 := Tryz.isAgg0
  z0 := Tryz.sizeOf0
  v0 := Tryz.zeroValue0
  t3 := Tryz.underlying3
  a3 := Tryz.isAgg3
  z3 := Tryz.sizeOf3
  v3 := Tryz.zeroValue3
  t4 := Tryz.underlying4
  a4 := Tryz.isAgg4
  z4 := Tryz.sizeOf4
  v4 := Tryz.zeroValue4
  t5 := Tryz.underlying5
  a5 := Tryz.isAgg5
  z5 := Tryz.sizeOf5
  v5 := Tryz.zeroValue5
  t9 := Tryz.underlying9
  a9 := Tryz.isAgg9
  z9 := Tryz.sizeOf9
  v9 := Tryz.zeroValue9
  t26 := Tryz.underlying92
  a26 := Tryz.isAgg92
  z26 := Tryz.sizeOf92
  v26 := Tryz.zeroValue92
  t27 := Tryz.underlying92
  a27 := Tryz.isAgg92
  z27 := Tryz.sizeOf92
  v27 := Tryz.zeroValue92
  t29 := Tryz.underlying9
  a29 := Tryz.isAgg9
  z29 := Tryz.sizeOf9
  v29 := Tryz.zeroValue9
  t32 := Tryz.underlying76
  a32 := Tryz.isAgg76
  z32 := Tryz.sizeOf76
  v32 := Tryz.zeroValue76
  t35 := Tryz.underlying179
  a35 := Tryz.isAgg179
  z35 := Tryz.sizeOf179
  v35 := Tryz.zeroValue179
  t36 := Tryz.underlying180
  a36 := Tryz.isAgg180
  z36 := Tryz.sizeOf180
  v36 := Tryz.zeroValue180
  t41 := Tryz.underlying185
  a41 := Tryz.isAgg185
  z41 := Tryz.sizeOf185
  v41 := Tryz.zeroValue185
  t44 := Tryz.underlying29
  a44 := Tryz.isAgg29
  z44 := Tryz.sizeOf29
  v44 := Tryz.zeroValue29
  t46 := Tryz.underlying123
  a46 := Tryz.isAgg123
  z46 := Tryz.sizeOf123
  v46 := Tryz.zeroValue123
  t53 := Tryz.underlying202
  a53 := Tryz.isAgg202
  z53 := Tryz.sizeOf202
  v53 := Tryz.zeroValue202
  t57 := Tryz.underlying206
  a57 := Tryz.isAgg206
  z57 := Tryz.sizeOf206
  v57 := Tryz.zeroValue206
  t63 := Tryz.underlying223
  a63 := Tryz.isAgg223
  z63 := Tryz.sizeOf223
  v63 := Tryz.zeroValue223
  t64 := Tryz.underlying224
  a64 := Tryz.isAgg224
  z64 := Tryz.sizeOf224
  v64 := Tryz.zeroValue224 }
def Tryz.sort94_ren : Go.Shelf.Ren := ⟨fun | 5 => 94 | 8 => 128 | 7 => 127 | 19 => 152 | 20 => 153 | 10 => 143 | 11 => 144 | 12 => 145 | 13 => 146 | 14 => 147 | 15 => 148 | 16 => 149 | 17 => 150 | 18 => 151 | 30 => 167 | 31 => 168 | 32 => 169 | 33 => 170 | 34 => 171 | 35 => 172 | 40 => 191 | n => n, fun | 23 => 90 | 25 => 2 | 3 => 3 | 32 => 76 | 22 => 90 | 0 => 0 | 44 => 29 | 46 => 123 | 4 => 4 | 36 => 180 | 35 => 179 | 41 => 185 | 5 => 5 | 9 => 9 | 53 => 202 | 57 => 206 | 63 => 223 | 64 => 224 | n => n, fun | n => n⟩
theorem Tryz.sort94 : Go.Proofs.SlLaysM.n5 Tryz.prog Tryz.sort94_ren := {
  mixed := by kernel_rfl
  f5 := ⟨Tryz.f94.name, by decide, Tryz.func94.trans (congrArg some (by kernel_rfl))⟩
  f7 := ⟨Tryz.f127.name, by decide, Tryz.func127.trans (congrArg some (by kernel_rfl))⟩
  f8 := Tryz.func128.trans (congrArg some (by kernel_rfl))
  f10 := ⟨Tryz.f143.name, by decide, Tryz.func143.trans (congrArg some (by kernel_rfl))⟩
  f11 := ⟨Tryz.f144.name, by decide, Tryz.func144.trans (congrArg some (by kernel_rfl))⟩
  f12 := ⟨Tryz.f145.name, by decide, Tryz.func145.trans (congrArg some (by kernel_rfl))⟩
  f13 := ⟨Tryz.f146.name, by decide, Tryz.func146.trans (congrArg some (by kernel_rfl))⟩
  f14 := ⟨Tryz.f147.name, by decide, Tryz.func147.trans (congrArg some (by kernel_rfl))⟩
  f15 := ⟨Tryz.f148.name, by decide, Tryz.func148.trans (congrArg some (by kernel_rfl))⟩
  f16 := ⟨Tryz.f149.name, by decide, Tryz.func149.trans (congrArg some (by kernel_rfl))⟩
  f17 := ⟨Tryz.f150.name, by decide, Tryz.func150.trans (congrArg some (by kernel_rfl))⟩
  f18 := ⟨Tryz.f151.name, by decide, Tryz.func151.trans (congrArg some (by kernel_rfl))⟩
  f19 := Tryz.func152.trans (congrArg some (by kernel_rfl))
  f20 := Tryz.func153.trans (congrArg some (by kernel_rfl))
  f30 := ⟨Tryz.f167.name, by decide, Tryz.func167.trans (congrArg some (by kernel_rfl))⟩
  f31 := Tryz.func168.trans (congrArg some (by kernel_rfl))
  f32 := Tryz.func169.trans (congrArg some (by kernel_rfl))
  f33 := ⟨Tryz.f170.name, by decide, Tryz.func170.trans (congrArg some (by kernel_rfl))⟩
  f34 := ⟨Tryz.f171.name, by decide, Tryz.func171.trans (congrArg some (by kernel_rfl))⟩
  f35 := ⟨Tryz.f172.name, by decide, Tryz.func172.trans (congrArg some (by kernel_rfl))⟩
  f40 := ⟨Tryz.f191.name, by decide, Tryz.func191.trans (congrArg some (by kernel_rfl))⟩
  t0 := Tryz.underlying0
  a0 := Tryz.isAgg0
  z0 := Tryz.sizeOf0
  v0 := Tryz.zeroValue0
  t3 := Tryz.underlying3
  a3 := Tryz.isAgg3
  z3 := Tryz.sizeOf3
  v3 := Tryz.zeroValue3
  t4 := Tryz.underlying4
  a4 := Tryz.isAgg4
  z4 := Tryz.sizeOf4
  v4 := Tryz.zeroValue4
  t5 := Tryz.underlying5
  a5 := Tryz.isAgg5
  z5 := Tryz.sizeOf5
  v5 := Tryz.zeroValue5
  t9 := Tryz.underlying9
  a9 := Tryz.isAgg9
  z9 := Tryz.sizeOf9
  v9 := Tryz.zeroValue9
  t22 := Tryz.underlying90
  a22 := Tryz.isAgg90
  z22 := Tryz.sizeOf90
  v22 := Tryz.zeroValue90
  t23 := Tryz.underlying90
  a23 := Tryz.isAgg90
  z23 := Tryz.sizeOf90
  v23 := Tryz.zeroValue90
  t25 := Tryz.underlying2
  a25 := Tryz.isAgg2
  z25 := Tryz.sizeOf2
  v25 := Tryz.zeroValue2
  t32 := Tryz.underlying76
  a32 := Tryz.isAgg76
  z32 := Tryz.sizeOf76
  v32 := Tryz.zeroValue76
  t35 := Tryz.underlying179
  a35 := Tryz.isAgg179
  z35 := Tryz.sizeOf179
  v35 := Tryz.zeroValue179
  t36 := Tryz.underlying180
  a36 := Tryz.isAgg180
  z36 := Tryz.sizeOf180
  v36 := Tryz.zeroValue180
  t41 := Tryz.underlying185
  a41 := Tryz.isAgg185
  z41 := Tryz.sizeOf185
  v41 := Tryz.zeroValue185
  t44 := Tryz.underlying29
  a44 := Tryz.isAgg29
  z44 := Tryz.sizeOf29
  v44 := Tryz.zeroValue29
  t46 := Tryz.underlying123
  a46 := Tryz.isAgg123
  z46 := Tryz.sizeOf123
  v46 := Tryz.zeroValue123
  t53 := Tryz.underlying202
  a53 := Tryz.isAgg202
  z53 := Tryz.sizeOf202
  v53 := Tryz.zeroValue202
  t57 := Tryz.underlying206
  a57 := Tryz.isAgg206
  z57 := Tryz.sizeOf206
  v57 := Tryz.zeroValue206
  t63 := Tryz.underlying223
  a63 := Tryz.isAgg223
  z63 := Tryz.sizeOf223
  v63 := Tryz.zeroValue223
  t64 := Tryz.underlying224
  a64 := Tryz.isAgg224
  z64 := Tryz.sizeOf224
  v64 := Tryz.zeroValue224 }
def Tryz.fmtInt_ren : Go.Shelf.Ren := ⟨fun | 173 => 120 | 246 => 137 | 283 => 157 | 284 => 158 | 285 => 159 | 286 => 160 | 129 => 153 | 317 => 182 | 318 => 183 | 319 => 184 | 320 => 185 | 337 => 196 | 338 => 197 | n => n, fun | 2 => 2 | 3 => 3 | 9 => 9 | 4 => 4 | 171 => 191 | 0 => 0 | 53 => 123 | 37 => 22 | 5 => 5 | 173 => 193 | 212 => 215 | 51 => 29 | 20 => 20 | 213 => 216 | 46 => 76 | 232 => 233 | 233 => 234 | n => n, fun | 17 => 0 | 18 => 3 | 19 => 4 | n => n⟩
theorem Tryz.fmtInt : Go.Proofs.LaysM.n173 Tryz.prog Tryz.fmtInt_ren := {
  mixed := by kernel_rfl
  f129 := Tryz.func153.trans (congrArg some (by kernel_rfl))
  f173 := Tryz.func120.trans (congrArg some (by kernel_rfl))
  f246 := Tryz.func137.trans (congrArg some (by kernel_rfl))
  f283 := Tryz.func157.trans (congrArg some (by kernel_rfl))
  f284 := Tryz.func158.trans (congrArg some (by kernel_rfl))
  f285 := Tryz.func159.trans (congrArg some (by kernel_rfl))
  f286 := Tryz.func160.trans (congrArg some (by kernel_rfl))
  f317 := Tryz.func182.trans (congrArg some (by kernel_rfl))
  f318 := Tryz.func183.trans (congrArg some (by kernel_rfl))
  f319 := Tryz.func184.trans (congrArg some (by kernel_rfl))
  f320 := Tryz.func185.trans (congrArg some (by kernel_rfl))
  f337 := Tryz.func196.trans (congrArg some (by kernel_rfl))
  f338 := Tryz.func197.trans (congrArg some (by kernel_rfl))
  t0 := Tryz.underlying0
  a0 := Tryz.isAgg0
  z0 := Tryz.sizeOf0
  v0 := Tryz.zeroValue0
  t2 := Tryz.underlying2
  a2 := Tryz.isAgg2
  z2 := Tryz.sizeOf2
  v2 := Tryz.zeroValue2
  t3 := Tryz.underlying3
  a3 := Tryz.isAgg3
  z3 := Tryz.sizeOf3
  v3 := Tryz.zeroValue3
  t4 := Tryz.underlying4
  a4 := Tryz.isAgg4
  z4 := Tryz.sizeOf4
  v4 := Tryz.zeroValue4
  t5 := Tryz.underlying5
  a5 := Tryz.isAgg5
  z5 := Tryz.sizeOf5
  v5 := Tryz.zeroValue5
  t9 := Tryz.underlying9
  a9 := Tryz.isAgg9
  z9 := Tryz.sizeOf9
  v9 := Tryz.zeroValue9
  t20 := Tryz.underlying20
  a20 := Tryz.isAgg20
  z20 := Tryz.sizeOf20
  v20 := Tryz.zeroValue20
  t37 := Tryz.underlying22
  a37 := Tryz.isAgg22
  z37 := Tryz.sizeOf22
  v37 := Tryz.zeroValue22
  t46 := Tryz.underlying76
  a46 := Tryz.isAgg76
  z46 := Tryz.sizeOf76
  v46 := Tryz.zeroValue76
  t51 := Tryz.underlying29
  a51 := Tryz.isAgg29
  z51 := Tryz.sizeOf29
  v51 := Tryz.zeroValue29
  t53 := Tryz.underlying123
  a53 := Tryz.isAgg123
  z53 := Tryz.sizeOf123
  v53 := Tryz.zeroValue123
  t171 := Tryz.underlying191
  a171 := Tryz.isAgg191
  z171 := Tryz.sizeOf191
  v171 := Tryz.zeroValue191
  t173 := Tryz.underlying193
  a173 := Tryz.isAgg193
  z173 := Tryz.sizeOf193
  v173 := Tryz.zeroValue193
  t212 := Tryz.underlying215
  a212 := Tryz.isAgg215
  z212 := Tryz.sizeOf215
  v212 := Tryz.zeroValue215
  t213 := Tryz.underlying216
  a213 := Tryz.isAgg216
  z213 := Tryz.sizeOf216
  t232 := Tryz.underlying233
  a232 := Tryz.isAgg233
  z232 := Tryz.sizeOf233
  v232 := Tryz.zeroValue233
  t233 := Tryz.underlying234
  a233 := Tryz.isAgg234
  z233 := Tryz.sizeOf234
  v233 := Tryz.zeroValue234
  g17 := by kernel_rfl
  g18 := by kernel_rfl
  g19 := by kernel_rfl
  i0 := by kernel_rfl
  i2 := by kernel_rfl
  i3 := by kernel_rfl
  i4 := by kernel_rfl
  i5 := by kernel_rfl
  i9 := by kernel_rfl
  i20 := by kernel_rfl
  i37 := by kernel_rfl
  i46 := by kernel_rfl
  i51 := by kernel_rfl
  i53 := by kernel_rfl
  i171 := by kernel_rfl
  i173 := by kernel_rfl
  i212 := by kernel_rfl
  i232 := by kernel_rfl
  i233 := by kernel_rfl
  m17 := by kernel_rfl
  m18 := by kernel_rfl
  m19 := by kernel_rfl }
def Tryz.parseInt_ren : Go.Shelf.Ren := ⟨fun | 174 => 125 | 247 => 140 | 245 => 141 | 287 => 161 | 279 => 162 | 280 => 163 | 281 => 164 | 282 => 165 | 321 => 186 | 322 => 187 | 316 => 188 | 171 => 190 | 205 => 189 | 243 => 198 | 246 => 137 | 283 => 157 | 284 => 158 | 285 => 159 | 286 => 160 | 129 => 153 | 317 => 182 | 318 => 183 | 319 => 184 | 320 => 185 | 337 => 196 | 338 => 197 | n => n, fun | 9 => 9 | 3 => 3 | 2 => 2 | 75 => 168 | 85 => 169 | 4 => 4 | 167 => 195 | 5 => 5 | 53 => 123 | 175 => 196 | 46 => 76 | 168 => 198 | 37 => 22 | 0 => 0 | 210 => 221 | 21 => 21 | 127 => 228 | 145 => 231 | 143 => 229 | 171 => 191 | 173 => 193 | 212 => 215 | 51 => 29 | 20 => 20 | 213 => 216 | 232 => 233 | 233 => 234 | 80 => 235 | n => n, fun | 15 => 1 | 16 => 2 | 17 => 0 | 18 => 3 | 19 => 4 | n => n⟩
theorem Tryz.parseInt : Go.Proofs.LaysC.n174 Tryz.prog Tryz.parseInt_ren := {
  mixed := by kernel_rfl
  f129 := Tryz.func153.trans (congrArg some (by kernel_rfl))
  f171 := Tryz.func190.trans (congrArg some (by kernel_rfl))
  f174 := Tryz.func125.trans (congrArg some (by kernel_rfl))
  f205 := Tryz.func189.trans (congrArg some (by kernel_rfl))
  f243 := Tryz.func198.trans (congrArg some (by kernel_rfl))
  f245 := Tryz.func141.trans (congrArg some (by kernel_rfl))
  f246 := Tryz.func137.trans (congrArg some (by kernel_rfl))
  f247 := Tryz.func140.trans (congrArg some (by kernel_rfl))
  f279 := Tryz.func162.trans (congrArg some (by kernel_rfl))
  f280 := Tryz.func163.trans (congrArg some (by kernel_rfl))
  f281 := Tryz.func164.trans (congrArg some (by kernel_rfl))
  f282 := Tryz.func165.trans (congrArg some (by kernel_rfl))
  f283 := Tryz.func157.trans (congrArg some (by kernel_rfl))
  f284 := Tryz.func158.trans (congrArg some (by kernel_rfl))
  f285 := Tryz.func159.trans (congrArg some (by kernel_rfl))
  f286 := Tryz.func160.trans (congrArg some (by kernel_rfl))
  f287 := Tryz.func161.trans (congrArg some (by kernel_rfl))
  f316 := Tryz.func188.trans (congrArg some (by kernel_rfl))
  f317 := Tryz.func182.trans (congrArg some (by kernel_rfl))
  f318 := Tryz.func183.trans (congrArg some (by kernel_rfl))
  f319 := Tryz.func184.trans (congrArg some (by kernel_rfl))
  f320 := Tryz.func185.trans (congrArg some (by kernel_rfl))
  f321 := Tryz.func186.trans (congrArg some (by kernel_rfl))
  f322 := Tryz.func187.trans (congrArg some (by kernel_rfl))
  f337 := Tryz.func196.trans (congrArg some (by kernel_rfl))
  f338 := Tryz.func197.trans (congrArg some (by kernel_rfl))
  t0 := Tryz.underlying0
  a0 := Tryz.isAgg0
  z0 := Tryz.sizeOf0
  v0 := Tryz.zeroValue0
  t2 := Tryz.underlying2
  a2 := Tryz.isAgg2
  z2 := Tryz.sizeOf2
  v2 := Tryz.zeroValue2
  t3 := Tryz.underlying3
  a3 := Tryz.isAgg3
  z3 := Tryz.sizeOf3
  v3 := Tryz.zeroValue3
  t4 := Tryz.underlying4
  a4 := Tryz.isAgg4
  z4 := Tryz.sizeOf4
  v4 := Tryz.zeroValue4
  t5 := Tryz.underlying5
  a5 := Tryz.isAgg5
  z5 := Tryz.sizeOf5
  v5 := Tryz.zeroValue5
  t9 := Tryz.underlying9
  a9 := Tryz.isAgg9
  z9 := Tryz.sizeOf9
  v9 := Tryz.zeroValue9
  t20 := Tryz.underlying20
  a20 := Tryz.isAgg20
  z20 := Tryz.sizeOf20
  v20 := Tryz.zeroValue20
  t21 := Tryz.underlying21
  a21 := Tryz.isAgg21
  z21 := Tryz.sizeOf21
  v21 := Tryz.zeroValue21
  t37 := Tryz.underlying22
  a37 := Tryz.isAgg22
  z37 := Tryz.sizeOf22
  v37 := Tryz.zeroValue22
  t46 := Tryz.underlying76
  a46 := Tryz.isAgg76
  z46 := Tryz.sizeOf76
  v46 := Tryz.zeroValue76
  t51 := Tryz.underlying29
  a51 := Tryz.isAgg29
  z51 := Tryz.sizeOf29
  v51 := Tryz.zeroValue29
  t53 := Tryz.underlying123
  a53 := Tryz.isAgg123
  z53 := Tryz.sizeOf123
  v53 := Tryz.zeroValue123
  t75 := Tryz.underlying168
  a75 := Tryz.isAgg168
  z75 := Tryz.sizeOf168
  v75 := Tryz.zeroValue168
  t85 := Tryz.underlying169
  a85 := Tryz.isAgg169
  z85 := Tryz.sizeOf169
  v85 := Tryz.zeroValue169
  t127 := Tryz.underlying228
  a127 := Tryz.isAgg228
  z127 := Tryz.sizeOf228
  v127 := Tryz.zeroValue228
  t143 := Tryz.underlying229
  a143 := Tryz.isAgg229
  z143 := Tryz.sizeOf229
  v143 := Tryz.zeroValue229
  t145 := Tryz.underlying231
  a145 := Tryz.isAgg231
  z145 := Tryz.sizeOf231
  v145 := Tryz.zeroValue231
  t167 := Tryz.underlying195
  a167 := Tryz.isAgg195
  z167 := Tryz.sizeOf195
  v167 := Tryz.zeroValue195
  t168 := Tryz.underlying198
  a168 := Tryz.isAgg198
  z168 := Tryz.sizeOf198
  v168 := Tryz.zeroValue198
  t171 := Tryz.underlying191
  a171 := Tryz.isAgg191
  z171 := Tryz.sizeOf191
  v171 := Tryz.zeroValue191
  t173 := Tryz.underlying193
  a173 := Tryz.isAgg193
  z173 := Tryz.sizeOf193
  v173 := Tryz.zeroValue193
  t175 := Tryz.underlying196
  a175 := Tryz.isAgg196
  z175 := Tryz.sizeOf196
  v175 := Tryz.zeroValue196
  t210 := Tryz.underlying221
  a210 := Tryz.isAgg221
  z210 := Tryz.sizeOf221
  v210 := Tryz.zeroValue221
  t212 := Tryz.underlying215
  a212 := Tryz.isAgg215
  z212 := Tryz.sizeOf215
  v212 := Tryz.zeroValue215
  t213 := Tryz.underlying216
  a213 := Tryz.isAgg216
  z213 := Tryz.sizeOf216
  t232 := Tryz.underlying233
  a232 := Tryz.isAgg233
  z232 := Tryz.sizeOf233
  v232 := Tryz.zeroValue233
  t233 := Tryz.underlying234
  a233 := Tryz.isAgg234
  z233 := Tryz.sizeOf234
  v233 := Tryz.zeroValue234
  g15 := by kernel_rfl
  g16 := by kernel_rfl
  g17 := by kernel_rfl
  g18 := by kernel_rfl
  g19 := by kernel_rfl
  t80 := Tryz.underlying235
  a80 := Tryz.isAgg235
  z80 := Tryz.sizeOf235
  v80 := Tryz.zeroValue235
  i0 := by kernel_rfl
  i2 := by kernel_rfl
  i3 := by kernel_rfl
  i4 := by kernel_rfl
  i5 := by kernel_rfl
  i9 := by kernel_rfl
  i20 := by kernel_rfl
  i21 := by kernel_rfl
  i37 := by kernel_rfl
  i46 := by kernel_rfl
  i51 := by kernel_rfl
  i53 := by kernel_rfl
  i75 := by kernel_rfl
  i80 := by kernel_rfl
  i85 := by kernel_rfl
  i127 := by kernel_rfl
  i143 := by kernel_rfl
  i145 := by kernel_rfl
  i167 := by kernel_rfl
  i168 := by kernel_rfl
  i171 := by kernel_rfl
  i173 := by kernel_rfl
  i175 := by kernel_rfl
  i210 := by kernel_rfl
  i212 := by kernel_rfl
  i232 := by kernel_rfl
  i233 := by kernel_rfl
  m15 := by kernel_rfl
  m16 := by kernel_rfl
  m17 := by kernel_rfl
  m18 := by kernel_rfl
  m19 := by kernel_rfl
  c0 := by kernel_rfl
  c2 := by kernel_rfl
  c3 := by kernel_rfl
  c4 := by kernel_rfl
  c5 := by kernel_rfl
  c9 := by kernel_rfl
  c20 := by kernel_rfl
  c21 := by kernel_rfl
  c37 := by kernel_rfl
  c46 := by kernel_rfl
  c51 := by kernel_rfl
  c53 := by kernel_rfl
  c75 := by kernel_rfl
  c80 := by kernel_rfl
  c85 := by kernel_rfl
  c127 := by kernel_rfl
  c143 := by kernel_rfl
  c145 := by kernel_rfl
  c167 := by kernel_rfl
  c168 := by kernel_rfl
  c171 := by kernel_rfl
  c173 := by kernel_rfl
  c175 := by kernel_rfl
  c210 := by kernel_rfl
  c212 := by kernel_rfl
  c213 := by kernel_rfl
  c232 := by kernel_rfl
  c233 := by kernel_rfl }
def Tryz.trimPrefix_ren : Go.Shelf.Ren := ⟨fun | 101 => 126 | 208 => 142 | 206 => 166 | n => n, fun | 9 => 9 | 4 => 4 | 3 => 3 | n => n, fun | n => n⟩
theorem Tryz.trimPrefix : Go.Proofs.Lays.n101 Tryz.prog Tryz.trimPrefix_ren := {
  mixed := by kernel_rfl
  f101 := Tryz.func126.trans (congrArg some (by kernel_rfl))
  f206 := Tryz.func166.trans (congrArg some (by kernel_rfl))
  f208 := Tryz.func142.trans (congrArg some (by kernel_rfl))
  t3 := Tryz.underlying3
  a3 := Tryz.isAgg3
  z3 := Tryz.sizeOf3
  v3 := Tryz.zeroValue3
  t4 := Tryz.underlying4
  a4 := Tryz.isAgg4
  z4 := Tryz.sizeOf4
  v4 := Tryz.zeroValue4
  t9 := Tryz.underlying9
  a9 := Tryz.isAgg9
  z9 := Tryz.sizeOf9
  v9 := Tryz.zeroValue9 }
end Go.Proofs

/-
  Contracts of layer 4's small functions: names of files, heads.
-/
namespace Go.Proofs.YtjoonpkgepkkhaaGreatDoor.We
open Go Go.RowKit Go.Shelf Ck Kw Ga Dm Dw Da Db Dc Dd De Df Dg Wc Wf Wa Wb Wd Wn
attribute [local go_sem ↓] Go.wp_at_zero Go.wp_at_succ
set_option linter.unusedVariables false

/-- The library's table of powers of ten is as its text lays it. -/
def Tab (w : World) : Prop := Lib.TabIs Tryz.prog w "internal/strconv.uint64pow10" .u64 Lib.pow10Tab
theorem tab_g : Tryz.prog.globalNamed "internal/strconv.uint64pow10" = some 0 := by kernel_rfl
section
variable {w w' : World}
theorem Tab.lt (h : Tab w) : 0 < w.heap.size := by
  unfold Tab Lib.TabIs World.var? at h
  rw [tab_g] at h
  simp only [Option.bind_some] at h
  rcases Nat.lt_or_ge 0 w.heap.size with h1 | h1
  · exact h1
  · rw [Array.getElem?_eq_none h1] at h
    cases h
theorem Tab.below {B : Nat} (h : Tab w) (hb : Below B w w') (hB : 0 < B) : Tab w' := var?_below hb tab_g hB h
theorem Tab.after (h : Tab w) (hb : Below w.heap.size w w') : Tab w' := h.below hb h.lt
theorem Tab.ch {S : Nat → Prop} (h : Tab w) (c : Ch S w w') (hS : ¬ S 0) : Tab w' := by
  have := c.block _ h.lt hS
  unfold Tab Lib.TabIs World.var? at h ⊢
  rw [tab_g] at h ⊢
  simp only [Option.bind_some] at h ⊢
  rw [this]
  exact h
end

theorem below_grow (w : World) (k : Nat) (os : Array Obj) : Below w.heap.size w (Sort.grow (w.drewN k) os) :=
  ⟨rfl, rfl, rfl, by simp [Sort.grow, World.drewN], fun i hi => by simp only [Sort.grow, World.drewN]; rw [Array.getElem?_append_left hi]⟩

set_option maxHeartbeats 1000000 in
theorem file_name (w : World) (name : Tx) (k : Nat) (hT : Tab w) (hk : k < 1000000000000000) (hn : name.length ≤ 1099511627776) :
    Calls Tryz.prog 89 #[.string ⟨name.toArray⟩, .int .i64 (k : Int)] w fun e w' => e = .returned (.string ⟨(nm name k).toArray⟩) ∧ Below w.heap.size w w' := by
  have HT := Lib.hid hT
  have hd := dec_len (k := k) 14 (by omega)
  have HI := Lib.hid (Lib.itoa_nonneg k)
  have hi : (Lib.itoa (k : Int)).length ≤ 15 := by rw [HI.out]; exact hd
  have hs : (ByteArray.mk name.toArray).size ≤ 1099511627776 := by show name.toArray.size ≤ _; simpa using hn
  clear hT hd
  go_enter Tryz.func89, Tryz.ntmps89
  go_wp2_with (go_at_call 120; refine (Any.strconv_FormatInt_10 Tryz.fmtInt (k : Int) (by omega) (by omega) _ HT.out).mono ?_; rintro e w2 ⟨rfl, n, os, rfl⟩)
  go_ret
  refine ⟨?_, below_grow w n os⟩
  show Ending.returned (.string _) = _
  rw [HI.out]
  unfold nm
  have : (ByteArray.mk name.toArray ++ ByteArray.mk #[46] ++ ByteArray.mk (Lib.decDigits k).toArray : ByteArray) = ⟨(name ++ [46] ++ Lib.decDigits k).toArray⟩ := by
    apply ByteArray.ext
    simp
  exact congrArg (fun z => Ending.returned (.string z)) this

theorem ready_on_ (w : World) (S : Nat → Prop) (p : Nat) (L : List Fl) (room : Nat) (h : Dk w S p L room false) (hg : find L [] = none) : Calls Tryz.prog 48 #[.pointer (some ⟨p, 0, none⟩)] w fun e w' => e = .returned (.int .i64 0) ∧ w = w' := by
  have H := Lib.hid h
  have HG := Lib.hid hg
  have he : (⟨#[]⟩ : ByteArray) = ⟨([] : Tx).toArray⟩ := rfl
  clear h hg
  have hc := synced_on w S p L room false [] (by simp) H.out
  rw [show syncedS L false [] = (0, 4) by simp [syncedS, HG.out]] at hc
  have HC := Lib.hid hc
  clear hc
  go_enter Tryz.func48, Tryz.ntmps48
  go_wp2_with (go_at_call 88; refine HC.out.mono ?_; rintro e w2 ⟨rfl, rfl⟩)
  go_ret
  exact ⟨rfl, rfl⟩

end Go.Proofs.YtjoonpkgepkkhaaGreatDoor.We

/-
  Bytes made out of a text, for any layer.
-/
namespace Go.Proofs.YtjoonpkgepkkhaaGreatDoor.Kx
open Go Go.RowKit Ck Kw Ga
/-- v is new bytes, made out of a text. -/
def Out (w : World) (base : Nat) (v : Value) (l : List UInt8) : Prop :=
  ∃ (g cap : Nat) (cs : Array Value) (z : Nat), v = .slice (some ⟨g, 0, none⟩) l.length cap ∧ base ≤ g ∧ w.heap[g]? = some (.cells cs 5 (z, z + 1)) ∧ l.length ≤ z ∧ l.length ≤ cap ∧ cap ≤ maxLen ∧ ∀ (j : Nat) (u : Value), (BVs l)[j]? = some u → cs[j]? = some u
theorem Out.sl {w : World} {base : Nat} {v : Value} {l : List UInt8} {X : Nat → Prop} (h : Out w base v l) (hX : ∀ k, base ≤ k → k < w.heap.size → ¬ X k) : Sl w X 1 v l.length (BVs l) := by
  obtain ⟨g, cap, cs, z, rfl, hb, hg, hz, hc, hm, hx⟩ := h
  have hlt := (Array.getElem?_eq_some_iff.1 hg).1
  refine ⟨_, _, rfl, by simp [BVs_len], hc, hm, fun _ => ⟨_, rfl, hlt, hX g hb hlt, fun j u hu => ?_⟩⟩
  have ha : (⟨g, 0, none⟩ : Addr).add j = ⟨g, j, none⟩ := by unfold Addr.add; split <;> simp_all
  rw [ha]
  simp only [World.cell?, hg]
  exact hx j u hu
theorem Out.ch {w w' : World} {base : Nat} {v : Value} {l : List UInt8} {S : Nat → Prop} (h : Out w base v l) (c : Ch S w w') (hS : ∀ k, base ≤ k → k < w.heap.size → ¬ S k) : Out w' base v l := by
  obtain ⟨g, cap, cs, z, rfl, hb, hg, r⟩ := h
  exact ⟨g, cap, cs, z, rfl, hb, (c.block g (Array.getElem?_eq_some_iff.1 hg).1 (hS g hb (Array.getElem?_eq_some_iff.1 hg).1)).trans hg, r⟩
theorem Out.base {w : World} {base b' : Nat} {v : Value} {l : List UInt8} (h : Out w base v l) (hb : b' ≤ base) : Out w b' v l := by
  obtain ⟨g, cap, cs, z, hv, h1, r⟩ := h
  exact ⟨g, cap, cs, z, hv, Nat.le_trans hb h1, r⟩
theorem bytesWorld_below (w : World) (e : TypeId) (s : ByteArray) : Below w.heap.size w (Lib.bytesWorld w e s) := by
  refine ⟨?_, ?_, ?_, by rw [Lib.bytesWorld_size]; omega, fun k hk => Lib.bytesWorld_at_old w e s k hk⟩ <;>
    (unfold Lib.bytesWorld World.freeze; split <;> rfl)
theorem bytesWorld_out (w : World) (l : List UInt8) (hl : l.length ≤ 140737488355328) : Out (Lib.bytesWorld w 5 ⟨l.toArray⟩) w.heap.size (.slice (some ⟨w.heap.size, 0, none⟩) l.length (grownCap w l.length 0 5)) l := by
  have hge := grownCap_ge w l.length 0 5
  refine ⟨w.heap.size, _, _, _, rfl, Nat.le_refl _, Lib.bytesWorld_at_new w 5 ⟨l.toArray⟩, ?_, hge, grownCap_le_maxLen w _ _ _ (by simp only [maxLen]; omega), fun j u hu => ?_⟩
  · show l.length ≤ ((l.toArray.map fun b : UInt8 => Value.int .u8 b.toNat) ++ Array.replicate _ _).size
    simp
  · have hj : j < l.length := by have := (List.getElem?_eq_some_iff.1 hu).1; rwa [BVs_len] at this
    show ((l.toArray.map fun b : UInt8 => Value.int .u8 b.toNat) ++ Array.replicate _ _)[j]? = some u
    rw [Array.getElem?_append_left (by simpa using hj)]
    rw [BVs_get hj] at hu
    simpa [hj] using hu
theorem conv_bytes (l : List UInt8) (W : World) : (convert 9 22 (.string ⟨l.toArray⟩)).run Tryz.prog W = .ok (.slice (some ⟨W.heap.size, 0, none⟩) l.length (grownCap W l.length 0 5)) (Lib.bytesWorld W 5 ⟨l.toArray⟩) := by
  have := Lib.run_convert_string_bytes (P := Tryz.prog) W 9 22 5 ⟨l.toArray⟩ Tryz.underlying9 Tryz.underlying22 Tryz.underlying5
  have hs : (⟨l.toArray⟩ : ByteArray).size = l.length := by show l.toArray.size = _; simp
  rw [hs] at this
  exact this

end Go.Proofs.YtjoonpkgepkkhaaGreatDoor.Kx

/-
  Contracts of layer 4's small functions: heads, names that may be.
-/
namespace Go.Proofs.YtjoonpkgepkkhaaGreatDoor.Wg
open Go Go.RowKit Go.Shelf Ck Kw Ga Dm Dw Da Db Dc Dd De Df Dg Wc Wf Wa Wb Wd Wn We Kx
attribute [local go_sem ↓] Go.wp_at_zero Go.wp_at_succ
set_option linter.unusedVariables false

/-- A segment's head. -/
def head (n : Nat) : Tx := frame (Cm.enc n)
/-- The number that a head tells; 0, if it tells none. -/
def fstOf (x : Tx) : Nat := if Cm.doneS (Cm.numS (x, 0) 9007199254740992).2 = 0 then (Cm.numS (x, 0) 9007199254740992).1 else 0
theorem fstOf_enc {n : Nat} (h : n ≤ 9007199254740992) : fstOf (Cm.enc n) = n := by
  have h1 := Cm.numS_enc (n := n) (m := 9007199254740992) (by omega) h []
  rw [List.append_nil] at h1
  unfold fstOf
  rw [h1]
  rfl
theorem head_len (n : Nat) : (head n).length ≤ 15 ∧ 6 ≤ (head n).length := by
  have h1 := Cm.enc_len n
  have h2 := frame_len (Cm.enc n)
  have h3 : (Cm.enc (Cm.enc n).length).length = 1 := by rw [Cm.enc_small (by omega)]; rfl
  unfold head
  omega

theorem wrap_u64 (n : Nat) (hn : n < 18446744073709551616) : IntKind.u64.wrap (n : Int) = (n : Int) := by
  simp [IntKind.wrap, IntKind.bits, IntKind.signed]
  omega
theorem head_big (w : World) (z : Int) (h : 9007199254740992 < z) : Calls Tryz.prog 97 #[.int .i64 z] w fun e w' => e = .returned (.tuple #[.slice none 0 0, .int .i64 6]) ∧ w = w' := by
  go_enter Tryz.func97, Tryz.ntmps97
  go_wp2
  go_ret2
  exact ⟨rfl, rfl⟩
set_option maxRecDepth 100000 in
set_option maxHeartbeats 1000000 in
theorem head_any (w : World) (n : Nat) (h : n ≤ 9007199254740992) : Calls Tryz.prog 97 #[.int .i64 (n : Int)] w fun e w' =>
    ∃ A c, e = .returned (.tuple #[.slice A (head n).length c, .int .i64 0]) ∧ w'.ownsRow w.heap.size 5 1 (.slice A (head n).length c) (head n).length (BVs (head n)) ∧ Below w.heap.size w w' := by
  have hl := Cm.enc_len n
  have hcv : IntKind.u64.wrap (n : Int) = (n : Int) := wrap_u64 n (by omega)
  have HL := Lib.hid hl
  clear hl
  go_enter Tryz.func97, Tryz.ntmps97
  go_wp2_with fail
  refine (Cb.putnum_any (fun _ => False) _ 0 [] n _ (Sl.nil _ _ _) (by omega) (by omega)).mono ?_
  rintro e w1 ⟨v1, rfl, ho1, hb1⟩
  obtain ⟨A1, c1, rfl⟩ := own_shape ho1
  rw [List.nil_append] at ho1 ⊢
  have HO := Lib.hid ho1
  have HB := Lib.hid hb1
  clear ho1 hb1
  go_wp2_with fail
  refine (frame_any _ (fun _ => False) A1 c1 (Cm.enc n) (Sl.of_own HO.out (fun _ _ _ h => h)) (by have := HL.out; omega)).mono ?_
  rintro e w2 ⟨A2, c2, rfl, ho2, hb2⟩
  have HO2 := Lib.hid ho2
  have HB2 := Lib.hid hb2
  clear ho2 hb2
  go_wp2_with fail
  go_ret2
  exact ⟨A2, c2, rfl, own_base HO2.out HB.out.size, HB.out.trans (HB2.out.mono HB.out.size)⟩

set_option maxRecDepth 100000 in
set_option maxHeartbeats 1000000 in
theorem first_any (w : World) (X : Nat → Prop) (A : Option Addr) (c : Nat) (x : Tx) (h : Sl w X 1 (.slice A x.length c) x.length (BVs x)) (hx : x.length ≤ 549755813888) :
    Calls Tryz.prog 122 #[.slice A x.length c] w fun e w' => e = .returned (.int .i64 (fstOf x : Int)) ∧ Below w.heap.size w w' := by
  have HS := Lib.hid h
  have hle := Cm.numS_le (x, 0) 9007199254740992
  clear h
  go_enter Tryz.func122, Tryz.ntmps122
  go_wp2_with fail
  refine (Ch.read_any _ X _ x.length x HS.out hx).mono ?_
  rintro e w2 ⟨g, rfl, hr2, hg2, hb2⟩
  have HR2 := Lib.hid hr2
  have HG2 := Lib.hid hg2
  have HB2 := Lib.hid hb2
  clear hr2 hg2 hb2
  go_wp2_with fail
  refine (Cg.num_any _ _ g _ HR2.out 9007199254740992).mono ?_
  rintro e w3 ⟨rfl, hg3, hr3⟩
  have HB3 : Hid (Below w.heap.size w w3) := Lib.hid (HB2.out.grown hg3 HB2.out.size (fun k hk => by injection hk with hk; subst hk; exact HG2.out))
  have HD := Lib.hid (Ch.done_any _ _ g _ hr3)
  clear hg3 hr3
  obtain ⟨nn, hnn⟩ : ∃ nn, nn = (Cm.numS (x, 0) 9007199254740992).1 := ⟨_, rfl⟩
  obtain ⟨dn, hdn⟩ : ∃ dn, dn = Cm.doneS (Cm.numS (x, 0) 9007199254740992).2 := ⟨_, rfl⟩
  rw [← hdn] at HD
  rw [← hnn] at hle ⊢
  have HF : Hid (fstOf x = if dn = 0 then nn else 0) := Lib.hid (by rw [hnn, hdn]; rfl)
  clear hnn hdn
  by_cases h0 : dn = 0
  · subst h0
    go_wp2_with (go_at_call 139; refine HD.out.mono ?_; rintro e w4 ⟨rfl, rfl⟩)
    go_ret
    exact ⟨by rw [HF.out]; rfl, HB3.out⟩
  · have h1 : (dn == 0) = false := by rw [beq_eq_false_iff_ne]; exact h0
    have HF2 : Hid (fstOf x = 0) := Lib.hid (by rw [HF.out, if_neg h0])
    clear HF
    go_wp2_with (go_at_call 139; refine HD.out.mono ?_; rintro e w4 ⟨rfl, rfl⟩)
    go_ret
    exact ⟨by rw [HF2.out]; rfl, HB3.out⟩

/-- A log may have that name. -/
def okName (s : Tx) : Bool := s.all (fun c => decide (97 ≤ c.toNat) && decide (c.toNat ≤ 122)) && decide (1 ≤ s.length) && decide (s.length ≤ 16)

def okC (c : UInt8) : Bool := decide (97 ≤ c.toNat) && decide (c.toNat ≤ 122)
theorem okName_of {s : Tx} : okName s = (s.all okC && decide (1 ≤ s.length) && decide (s.length ≤ 16)) := rfl

set_option maxRecDepth 100000 in
set_option maxHeartbeats 1000000 in
theorem isname_any (w : World) (s : Tx) (hs : s.length ≤ 140737488351232) : Calls Tryz.prog 49 #[.string ⟨s.toArray⟩] w fun e w' => e = .returned (.bool (okName s)) ∧ Below w.heap.size w w' := by
  have hconv := conv_bytes s
  have R := bytesWorld_out w s (by omega)
  have RB := bytesWorld_below w 5 ⟨s.toArray⟩
  have hsz : (ByteArray.mk s.toArray).size = s.length := by show s.toArray.size = _; simp
  have HSZ := Lib.hid hsz
  clear hsz
  go_enter Tryz.func49, Tryz.ntmps49
  go_wp2
  generalize Lib.bytesWorld w 5 ⟨s.toArray⟩ = w1 at R RB ⊢
  generalize grownCap w s.length 0 5 = cp at R ⊢
  have hsl : Sl w1 (fun _ => False) 1 (.slice (some ⟨w.heap.size, 0, none⟩) s.length cp) s.length (BVs s) := R.sl (fun _ _ _ h => h)
  have HSL := Lib.hid hsl
  have HRB := Lib.hid RB
  clear hconv R RB hsl
  go_loop [8] (fun i => ∃ k : Nat, k ≤ s.length ∧ i = .int .i64 k ∧ (s.take k).all okC = true) (fun i => s.length - (intOf i).toNat)
  case atStart => exact ⟨0, Nat.zero_le _, rfl, rfl⟩
  case round =>
    obtain ⟨k, hk, rfl, hall⟩ := hrel
    have HA := Lib.hid hall
    clear hall
    by_cases hlt : k < s.length
    · obtain ⟨ad, hA, hcell⟩ := Cf.Sl_at HSL.out hlt
      injection hA with hA
      subst hA
      have ha : (⟨w.heap.size, 0, none⟩ : Addr).add k = ⟨w.heap.size, k, none⟩ := by unfold Addr.add; split <;> simp_all
      rw [ha] at hcell
      clear ha
      have hbl := s[k].toNat_lt
      have HT := Lib.hid (List.take_succ_eq_append_getElem hlt)
      by_cases hc : okC s[k] = true
      · have hc2 := hc
        simp only [okC, Bool.and_eq_true, decide_eq_true_eq] at hc2
        obtain ⟨c1, c2⟩ := hc2
        have HC := Lib.hid hc
        have d1 : ¬ (s[k].toNat : Int) < 97 := by omega
        have d2 : ¬ 122 < (s[k].toNat : Int) := by omega
        clear hc
        go_wp2
        go_round
        case rel => exact ⟨k + 1, by omega, by go_num, by rw [HT.out, List.all_append, HA.out]; simpa using HC.out⟩
        case measure => simp [intOf]; omega
      · have hno : okName s = false := by
          cases h : okName s with
          | false => rfl
          | true =>
            rw [okName_of] at h
            simp only [Bool.and_eq_true, List.all_eq_true] at h
            exact absurd (h.1.1 _ (List.getElem_mem hlt)) hc
        have HNO := Lib.hid hno
        have hc2 : okC s[k] = false := by simpa using hc
        simp only [okC, Bool.and_eq_false_iff, decide_eq_false_iff_not] at hc2
        clear hc hno
        by_cases d1 : (s[k].toNat : Int) < 97
        · go_wp2
          go_ret
          exact ⟨by rw [HNO.out]; rfl, HRB.out⟩
        · have d2 : 122 < (s[k].toNat : Int) := by omega
          clear hc2
          go_wp2
          go_ret
          exact ⟨by rw [HNO.out]; rfl, HRB.out⟩
    · have hall : s.all okC = true := by have := HA.out; rwa [List.take_of_length_le (by omega)] at this
      have hok : okName s = (decide (1 ≤ s.length) && decide (s.length ≤ 16)) := by rw [okName_of, hall]; rfl
      have HOK := Lib.hid hok
      have hsz : (ByteArray.mk s.toArray).size = s.length := HSZ.out
      clear hok hall
      by_cases h1 : 1 ≤ s.length
      · by_cases h16 : s.length ≤ 16
        · have HV : Hid (okName s = true) := Lib.hid (by rw [HOK.out]; simp [h1, h16])
          have hd : decide ((s.length : Int) ≤ 16) = true := decide_eq_true (by omega)
          go_wp2
          go_ret
          exact ⟨by rw [HV.out, ← hd]; rfl, HRB.out⟩
        · have HV : Hid (okName s = false) := Lib.hid (by rw [HOK.out]; simp [h16])
          have hd : decide ((s.length : Int) ≤ 16) = false := decide_eq_false (by omega)
          go_wp2
          go_ret
          exact ⟨by rw [HV.out, ← hd]; rfl, HRB.out⟩
      · have HV : Hid (okName s = false) := Lib.hid (by rw [HOK.out]; simp [h1])
        go_wp2
        go_ret
        exact ⟨by rw [HV.out]; rfl, HRB.out⟩

end Go.Proofs.YtjoonpkgepkkhaaGreatDoor.Wg

/-
  Contracts of the program's disk: Create, Rename.
-/
namespace Go.Proofs.YtjoonpkgepkkhaaGreatDoor.Dh
open Go Go.RowKit Go.Maps Ck Kw Ga Dm Dw Da Db Dc Dd De Df Dg
attribute [local go_sem ↓] Go.wp_at_zero Go.wp_at_succ
set_option linter.unusedVariables false

theorem ins_perm (x : Fl) : ∀ L : List Fl, (ins x L).Perm (x :: L)
  | [] => List.Perm.refl _
  | f :: L => by
    rw [ins]
    split
    · exact ((ins_perm x L).cons f).trans (List.Perm.swap x f L)
    · exact List.Perm.refl _
theorem mem_ins {x f : Fl} {L : List Fl} : f ∈ ins x L ↔ f = x ∨ f ∈ L := by rw [(ins_perm x L).mem_iff, List.mem_cons]
theorem used_perm {L K : List Fl} (h : L.Perm K) : used L = used K := by
  induction h with
  | nil => rfl
  | cons x _ ih => simp only [used, ih]
  | swap x y l => simp only [used]; omega
  | trans _ _ h1 h2 => exact h1.trans h2
theorem isIn_ins (x : Fl) (L : List Fl) (t : Tx) : isIn (ins x L) t = (x.n == t || isIn L t) := by
  rw [Bool.eq_iff_iff, isIn_iff, Bool.or_eq_true, isIn_iff]
  constructor
  · rintro ⟨f, hf, rfl⟩
    rcases mem_ins.1 hf with rfl | hf
    · exact .inl (by simp)
    · exact .inr ⟨f, hf, rfl⟩
  · rintro (h | ⟨f, hf, rfl⟩)
    · exact ⟨x, mem_ins.2 (.inl rfl), by simpa using h⟩
    · exact ⟨f, mem_ins.2 (.inr hf), rfl⟩
theorem good_ins {L : List Fl} {room : Nat} (h : GoodL L room) {x : Fl} (hn : isIn L x.n = false) (hl : L.length < 64) (hu : x.b.length + used L ≤ room) (hx : x.n.length ≤ 140737488355328) (hd : x.d ≤ x.b.length) : GoodL (ins x L) room := by
  have hp := ins_perm x L
  refine ⟨?_, by rw [hp.length_eq, List.length_cons]; omega, by rw [used_perm hp]; exact hu, h.room, fun f hf => ?_, fun f hf => ?_⟩
  · rw [(hp.map (·.n)).nodup_iff, List.map_cons, List.nodup_cons]
    refine ⟨fun hm => ?_, h.nodup⟩
    obtain ⟨f, hf, e⟩ := List.mem_map.1 hm
    rw [isIn_iff.2 ⟨f, hf, e⟩] at hn
    cases hn
  · rcases mem_ins.1 hf with rfl | hf
    · exact hx
    · exact h.name f hf
  · rcases mem_ins.1 hf with rfl | hf
    · exact hd
    · exact h.done f hf

theorem names_perm {w : World} {m n : Nat} {D : DataW Unit} {L : List Fl} {G : Tx → Nat} (h : w.ownsMap Tryz.prog 9 ptrElem m n D) (hT : TellsD D L G) (hn : (L.map (·.n)).Nodup) : (L.map (·.n)).Perm (strKeys D) := by
  obtain ⟨es, hD, hpw, _⟩ := h.entries law_str
  obtain ⟨es', hD', hko⟩ := h.keysOf
  obtain rfl : es = es' := by rw [hD] at hD'; simpa using hD'
  subst hD
  refine perm_strKeys hpw (fun p hp => by obtain ⟨v, hv⟩ := hko p hp; obtain ⟨x, _, hx, _⟩ := Maps.keyOf_str Tryz.underlying9 hv; exact ⟨x, hx⟩) hn (fun x => ?_)
  rw [hT.1 x, isIn_iff, List.mem_map]
theorem size_names {w : World} {m n : Nat} {D : DataW Unit} {L : List Fl} {G : Tx → Nat} (h : w.ownsMap Tryz.prog 9 ptrElem m n D) (hT : TellsD D L G) (hn : (L.map (·.n)).Nodup) : Maps.size D = L.length := by
  have hp := (names_perm h hT hn).length_eq
  obtain ⟨es, rfl, _⟩ := h.entries law_str
  rw [List.length_map] at hp
  rw [hp]
  show es.length = (es.map _).length
  rw [List.length_map]
theorem own_tight {w : World} {m n : Nat} {D : DataW Unit} (h : w.ownsMap Tryz.prog 9 ptrElem m n D) : w.ownsMap Tryz.prog 9 ptrElem m (Maps.size D) D := by
  obtain ⟨es, clock, hb, F, hs, rfl⟩ := h
  exact ⟨es, clock, hb, F, by simp [Maps.size, length_sorted], rfl⟩

/-- A key more. -/
theorem has_put {D : DataW Unit} (hD : Maps.IsMap D) (t s : Tx) (d : DataW Unit) : Maps.has (D.put (.string t) d) (.string s) = (t == s || Maps.has D (.string s)) := by
  by_cases e : s = t
  · subst e
    rw [Maps.has_put_same hD (strKey s)]
    simp
  · rw [Maps.has_put_other (strKey_ne e)]
    have : (t == s) = false := by rw [beq_eq_false_iff_ne]; exact fun h => e h.symm
    rw [this, Bool.false_or]

def createS (L : List Fl) (off : Bool) (s : Tx) : List Fl × Nat :=
  if off then (L, 32) else if s = [] then (L, 1) else if isIn L s then (L, 31) else if 64 ≤ L.length then (L, 6) else (ins ⟨s, [], 0⟩ L, 0)

theorem parts_add {w w1 w2 : World} {S : Nat → Prop} {p m room g : Nat} {L : List Fl} {D : DataW Unit} {G : Tx → Nat} {T : Tx → Nat → Prop} {s : Tx} (h : Parts w S p m L room false D G T) (hs : s.length ≤ 140737488355328) (hi : isIn L s = false) (hl : L.length < 64)
    (hb : Below w.heap.size w w1) (hg : g = w.heap.size) (hk : Blk w1 g 108 #[.slice none 0 0, .int .i64 0]) (c : Ch (fun k => k = m) w1 w2) (ho : w2.ownsMap Tryz.prog 9 ptrElem m 64 (D.put (.string s) (.lit (.int .i64 (g : Int))))) :
    Parts w2 (Up S w w2) p m (ins ⟨s, [], 0⟩ L) room false (D.put (.string s) (.lit (.int .i64 (g : Int)))) (fun t => if t = s then g else G t) (fun t => if t = s then (fun k => k = g) else T t) := by
  have h1 := h.later hb
  have hs1 := hb.size
  have hs2 := c.size
  have hml : m < w.heap.size := h.own.lt
  have hpl : p < w.heap.size := h.blk.lt
  have hgl := hk.lt
  have hne : ∀ f ∈ L, f.n ≠ s := fun f hf e => by rw [isIn_iff.2 ⟨f, hf, e⟩] at hi; cases hi
  refine ⟨h1.blk.ch c (fun e => h.sm.2 e.symm), .inl h.sp, ho, ⟨fun t => ?_, fun f hf zd => ?_⟩, ⟨.inl h.sm.1, h.sm.2⟩, fun f hf => ?_, fun f hf k hk => ?_, fun f hf f' hf' hn k hk hk' => ?_, good_ins h.good hi hl (by simpa using h.good.fits) hs (Nat.zero_le _)⟩
  · rw [has_put h.own.isMap, isIn_ins, h.tells.1]
  · rcases mem_ins.1 hf with rfl | hf
    · rw [Maps.atKey_put_same h.own.isMap (strKey s)]
      simp
    · rw [Maps.atKey_put_other (strKey_ne (hne f hf))]
      simp only [if_neg (hne f hf)]
      exact h.tells.2 f hf zd
  · rcases mem_ins.1 hf with rfl | hf
    · simp only [if_pos]
      exact ⟨_, hk.ch c (fun e => by omega), World.ownsRow_nil _ _ _ _, rfl, fun k hk => by simp [Value.ownBlock] at hk, by simp, Nat.le_refl _⟩
    · simp only [if_neg (hne f hf)]
      exact (h1.file f hf).ch c (fun k hk e => (h1.sub f hf k hk).2.2.1 e)
  · rcases mem_ins.1 hf with rfl | hf
    · simp only [if_pos] at hk
      subst hk
      exact ⟨.inr ⟨by omega, by omega⟩, by omega, by omega, by omega⟩
    · simp only [if_neg (hne f hf)] at hk
      have := h.sub f hf k hk
      exact ⟨.inl this.1, this.2.1, this.2.2.1, by omega⟩
  · rcases mem_ins.1 hf with rfl | hf
    · rcases mem_ins.1 hf' with rfl | hf'
      · exact hn rfl
      · simp only [if_pos] at hk
        simp only [if_neg (hne f' hf')] at hk'
        have := (h.sub f' hf' k hk').2.2.2
        omega
    · simp only [if_neg (hne f hf)] at hk
      rcases mem_ins.1 hf' with rfl | hf'
      · simp only [if_pos] at hk'
        have := (h.sub f hf k hk).2.2.2
        omega
      · simp only [if_neg (hne f' hf')] at hk'
        exact h.apart f hf f' hf' hn k hk hk'

theorem str_ne {s : Tx} (h : s ≠ []) : s.isEmpty = false := by cases s with | nil => exact absurd rfl h | cons => rfl

set_option maxRecDepth 100000 in
set_option maxHeartbeats 1000000 in
theorem create_on (w : World) (S : Nat → Prop) (p : Nat) (L : List Fl) (room : Nat) (off : Bool) (s : Tx) (hs : s.length ≤ 140737488355328) (h : Dk w S p L room off) :
    Calls Tryz.prog 98 #[.pointer (some ⟨p, 0, none⟩), .string ⟨s.toArray⟩] w (Did S p (createS L off s) room off w) := by
  have HR := Lib.hid (ready_on w S p L room off h)
  have H := Lib.hid h
  cases off
  · by_cases h0 : s = []
    · subst h0
      clear h
      have e : createS L false [] = (L, 1) := rfl
      rw [e]
      go_enter Tryz.func98, Tryz.ntmps98
      go_wp2_with (go_at_call 61; refine HR.out.mono ?_; rintro e w' ⟨rfl, rfl⟩)
      go_ret
      exact did_refl H.out
    · obtain ⟨m, D, G, T, hP⟩ := h.opened
      have c0 : w.cell? ⟨p, 0, none⟩ = some (.map (some m)) := hP.blk.cell 0
      have e2 := run_look hP.own hP.tells s hs
      have hse := str_ne h0
      have hsz := size_names hP.own hP.tells hP.good.nodup
      have HP := Lib.hid hP
      by_cases hi : isIn L s = true
      · have e : createS L false s = (L, 31) := by rw [createS, if_neg (by simp), if_neg h0, if_pos hi]
        rw [e]
        rw [hi, if_pos rfl] at e2
        unfold PV at e2
        simp only [Option.map_some] at e2
        clear h hP hi e hsz h0
        go_enter Tryz.func98, Tryz.ntmps98
        go_wp2_with (go_at_call 61; refine HR.out.mono ?_; rintro e w' ⟨rfl, rfl⟩)
        go_ret
        exact did_refl H.out
      · have hi : isIn L s = false := by simpa using hi
        rw [hi, if_neg (by simp)] at e2
        unfold PV at e2
        simp only [Option.map_none] at e2
        by_cases hl : 64 ≤ L.length
        · have e : createS L false s = (L, 6) := by rw [createS, if_neg (by simp), if_neg h0, if_neg (by rw [hi]; simp), if_pos hl]
          rw [e]
          have hll : (64 : Int) ≤ (L.length : Int) := by omega
          have HSZ := Lib.hid hsz
          clear h hP hi e h0 hsz hl
          go_enter Tryz.func98, Tryz.ntmps98
          go_wp2_with (first
            | (go_at_call 61; refine HR.out.mono ?_; rintro e w' ⟨rfl, rfl⟩)
            | (at_len; refine wpList_len_own _ rfl _ 84 rfl 9 102 Tryz.underlying84 ptrElem m 64 D rfl HP.out.own ?_; rw [HSZ.out]))
          go_ret
          exact did_refl H.out
        · have e : createS L false s = (ins ⟨s, [], 0⟩ L, 0) := by rw [createS, if_neg (by simp), if_neg h0, if_neg (by rw [hi]; simp), if_neg hl]
          rw [e]
          have hll : (L.length : Int) < (64 : Int) := by omega
          have HSZ := Lib.hid hsz
          have HI := Lib.hid hi
          have HLL := Lib.hid hl
          have HK := Lib.hid (key_str s (by simp only [maxLen]; omega))
          have HT : Hid ((w.alloc (.cells #[.slice none 0 0, .int .i64 0] 108)).ownsMap Tryz.prog 9 ptrElem m (Maps.size D) D) := Lib.hid ((own_tight hP.own).alloc _)
          have hdl : Maps.size D < maxLen := by rw [hsz]; simp only [maxLen]; omega
          have HDL := Lib.hid hdl
          clear h hP hi e h0 hsz hl hdl
          go_enter Tryz.func98, Tryz.ntmps98
          go_wp2_with (first
            | (go_at_call 61; refine HR.out.mono ?_; rintro e w' ⟨rfl, rfl⟩)
            | (at_len; refine wpList_len_own _ rfl _ 84 rfl 9 102 Tryz.underlying84 ptrElem m 64 D rfl HP.out.own ?_; rw [HSZ.out])
            | (at_mapUpdate; refine wpList_mapUpdate_in (H := Unit) _ rfl _ _ _ 84 rfl 9 102 law_str Tryz.underlying84 ptrElem m (Maps.size D) D rfl HT.out HDL.out _ _ (.string s) rfl rfl HK.out (.lit (.int .i64 (w.heap.size : Int))) [] (ptrElem_mk _) ?_; intro w2 hmap2 hturn2))
          go_ret
          have hc : Ch (fun k => k = m) (w.alloc (.cells #[.slice none 0 0, .int .i64 0] 108)) w2 := Ch.of_grown hturn2.grown (fun g hg _ => (Option.some.inj hg).symm)
          have hb : Below w.heap.size w (w.alloc (.cells #[.slice none 0 0, .int .i64 0] 108)) := (Below.refl _ w).alloc (Nat.le_refl _) _
          have hP2 := parts_add HP.out hs HI.out (by have := HLL.out; omega) hb rfl (Blk.new _ _ _) hc (hmap2.mono (by have := HSZ.out; have := HLL.out; omega))
          exact ⟨rfl, hP2.shut, (Ch.of_below hb (Nat.le_refl _)).trans (hc.mono (T := S) (fun k _ hk => by rw [hk]; exact HP.out.sm.1)) (fun _ _ h => h)⟩
  · clear h
    have e : createS L true s = (L, 32) := rfl
    rw [e]
    go_enter Tryz.func98, Tryz.ntmps98
    go_wp2_with (go_at_call 61; refine HR.out.mono ?_; rintro e w' ⟨rfl, rfl⟩)
    go_ret
    exact did_refl H.out

end Go.Proofs.YtjoonpkgepkkhaaGreatDoor.Dh

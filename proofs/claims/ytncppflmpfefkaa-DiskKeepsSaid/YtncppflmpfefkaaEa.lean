/-
  What every operation keeps: the names rise; does, at any operation; the document's New.
-/
import Derived.Test.YtncppflmpfefkaaDt
import Derived.Test.YtncppflmpfefkaaDu
namespace Go.Proofs.Ytncppflmpfefkaa.Ea
open Go Go.RowKit Go.Maps Ck Kw Ga Dm Dw Da Db Dc Dd De Df Dg Dh Di Dj Ra Rb Rc Rd Re Rf Rg Rh Ri Rj Pw Dl Dq Ds Dt Du
attribute [local go_sem ↓] Go.wp_at_zero Go.wp_at_succ
set_option linter.unusedVariables false

theorem rises_nil : Rises [] := List.Pairwise.nil
theorem rises_map {L : List Fl} (h : Rises L) (g : Fl → Fl) (hg : ∀ f, (g f).n = f.n) : Rises (L.map g) := by
  unfold Rises at *
  rw [List.map_map]
  rw [List.map_congr_left (f := (fun x : Fl => x.n) ∘ g) (g := (·.n)) (fun f _ => hg f)]
  exact h
theorem rises_upd {L : List Fl} (h : Rises L) (s : Tx) (b : Tx) (d : Nat) : Rises (upd L s (setf b d)) :=
  rises_map h _ (fun f => by split <;> rfl)
theorem rises_filter {L : List Fl} (h : Rises L) (P : Fl → Bool) : Rises (L.filter P) := List.Pairwise.sublist (List.filter_sublist.map _) h
theorem mem_ins {x y : Fl} {L : List Fl} (h : y ∈ ins x L) : y = x ∨ y ∈ L := by
  induction L with
  | nil => simpa [ins] using h
  | cons f L ih =>
    unfold ins at h
    split at h
    · rcases List.mem_cons.1 h with rfl | h
      · exact .inr (List.mem_cons_self ..)
      · exact (ih h).imp id (List.mem_cons_of_mem _)
    · rcases List.mem_cons.1 h with rfl | h
      · exact .inl rfl
      · exact .inr h
theorem rises_ins {L : List Fl} (h : Rises L) (x : Fl) : Rises (ins x L) := by
  induction L with
  | nil => simp [ins, Rises]
  | cons f L ih =>
    have h' : (∀ y ∈ L, f.n ≤ y.n) ∧ Rises L := by
      have := List.pairwise_cons.1 (show List.Pairwise _ (f.n :: L.map (·.n)) from h)
      exact ⟨fun y hy => this.1 _ (List.mem_map_of_mem hy), this.2⟩
    unfold ins
    split
    · rename_i hlt
      refine List.pairwise_cons.2 ⟨fun s hs => ?_, ih h'.2⟩
      obtain ⟨y, hy, rfl⟩ := List.mem_map.1 hs
      rcases mem_ins hy with rfl | hy
      · exact List.le_of_lt hlt
      · exact h'.1 y hy
    · rename_i hlt
      have hle : x.n ≤ f.n := hlt
      refine List.pairwise_cons.2 ⟨fun s hs => ?_, h⟩
      obtain ⟨y, hy, rfl⟩ := List.mem_map.1 hs
      rcases List.mem_cons.1 hy with rfl | hy
      · exact hle
      · exact List.le_trans hle (h'.1 y hy)
theorem rises_put {L : List Fl} (h : Rises L) (room : Nat) (f : Fl) (k : Nat) (x : Tx) : Rises (putS L room f k x).1 := by
  unfold putS
  split
  · exact h
  · exact rises_upd h _ _ _
theorem step_rises {room : Nat} (o : On) {st : List Fl × Bool} (h : Rises st.1) : Rises (Dq.step room o st).1 := by
  obtain ⟨L, off⟩ := st
  unfold Dq.step
  split
  · show Rises (createS L off o.n).1
    unfold createS
    repeat' split
    all_goals first | exact h | exact rises_ins h _
  split
  · show Rises (appS L room off o.n o.b).1
    unfold appS
    repeat' split
    all_goals first | exact h | exact rises_put h _ _ _ _
  split
  · show Rises (writeS L room off o.n o.a o.b).1
    unfold writeS
    repeat' split
    all_goals first | exact h | exact rises_put h _ _ _ _
  split
  · show Rises (syncS L off o.n).1
    unfold syncS
    repeat' split
    all_goals first | exact h | exact rises_upd h _ _ _
  split
  · show Rises (renS L off o.n o.t).1
    unfold renS
    repeat' split
    all_goals first | exact h | exact rises_ins (rises_filter (rises_filter h _) _) _
  split
  · show Rises (truncS L off o.n o.a).1
    unfold truncS
    repeat' split
    all_goals first | exact h | exact rises_upd h _ _ _
  split
  · show Rises (remS L off o.n).1
    unfold remS
    repeat' split
    all_goals first | exact h | exact rises_filter h _
  split
  · show Rises (crashS L off o.a).1
    unfold crashS
    repeat' split
    all_goals first | exact h | exact rises_map h _ (fun f => rfl)
  split
  · exact h
  · exact h

/-- An operation as a value. -/
def OV (o : On) (B : Option Addr) (c : Nat) : Value := .agg #[.int .i64 o.z, .string ⟨o.n.toArray⟩, .string ⟨o.t.toArray⟩, .int .i64 o.a, .slice B o.b.length c]

set_option maxRecDepth 100000 in
set_option maxHeartbeats 2000000 in
theorem does_other (K : Nat → Prop) (w : World) (p q : Nat) (L : List Fl) (room : Nat) (off : Bool) (z : Int) (n t : Tx) (a : Int) (b : Tx) (B : Option Addr) (c : Nat) (hz : z < 0 ∨ 8 < z) (h : Both K w p q L L room off off) :
    Calls Try.prog 10 #[.pointer (some ⟨p, 0, none⟩), .pointer (some ⟨q, 0, none⟩), .agg #[.int .i64 z, .string ⟨n.toArray⟩, .string ⟨t.toArray⟩, .int .i64 a, .slice B b.length c]] w fun e w' => e = .returned (.bool true) ∧ Both K w' p q L L room off off ∧ Ch (fun k => ¬ K k) w w' := by
  have hw0 : Below w.heap.size w (w.alloc (.cells #[.int .i64 z, .string ⟨n.toArray⟩, .string ⟨t.toArray⟩, .int .i64 a, .slice B b.length c] 33)) := (Below.refl _ w).alloc (Nat.le_refl _) _
  have HB0 := Lib.hid (both_later h hw0)
  have HW0 := Lib.hid hw0
  have z0 : (z == 0) = false := by rw [beq_eq_false_iff_ne]; omega
  have z1 : (z == 1) = false := by rw [beq_eq_false_iff_ne]; omega
  have z2 : (z == 2) = false := by rw [beq_eq_false_iff_ne]; omega
  have z3 : (z == 3) = false := by rw [beq_eq_false_iff_ne]; omega
  have z4 : (z == 4) = false := by rw [beq_eq_false_iff_ne]; omega
  have z5 : (z == 5) = false := by rw [beq_eq_false_iff_ne]; omega
  have z6 : (z == 6) = false := by rw [beq_eq_false_iff_ne]; omega
  have z7 : (z == 7) = false := by rw [beq_eq_false_iff_ne]; omega
  have z8 : (z == 8) = false := by rw [beq_eq_false_iff_ne]; omega
  clear h hw0 hz
  go_enter Try.func10, Try.ntmps10
  go_wp2_with fail
  go_ret
  exact ⟨rfl, HB0.out, Ch.of_below HW0.out (Nat.le_refl _)⟩

theorem does_any (K : Nat → Prop) (w : World) (p q : Nat) (L : List Fl) (room : Nat) (off : Bool) (o : On) (B : Option Addr) (c : Nat) (ho : wfO o) (hb : Sl w (fun k => ¬ K k) 1 (.slice B o.b.length c) o.b.length (BVs o.b)) (h : Both K w p q L L room off off) :
    Calls Try.prog 10 #[.pointer (some ⟨p, 0, none⟩), .pointer (some ⟨q, 0, none⟩), OV o B c] w fun e w' => e = .returned (.bool true) ∧ Both K w' p q (Dq.step room o (L, off)).1 (Dq.step room o (L, off)).1 room (Dq.step room o (L, off)).2 (Dq.step room o (L, off)).2 ∧ Ch (fun k => ¬ K k) w w' := by
  obtain ⟨z, n, t, a, b⟩ := o
  by_cases h0 : z = 0
  · subst h0; exact does_Create K w p q L room off n t a b B c ho hb h
  by_cases h1 : z = 1
  · subst h1; exact does_Append K w p q L room off n t a b B c ho hb h
  by_cases h2 : z = 2
  · subst h2; exact does_Write K w p q L room off n t a b B c ho hb h
  by_cases h3 : z = 3
  · subst h3; exact does_Sync K w p q L room off n t a b B c ho hb h
  by_cases h4 : z = 4
  · subst h4; exact does_Rename K w p q L room off n t a b B c ho hb h
  by_cases h5 : z = 5
  · subst h5; exact does_Truncate K w p q L room off n t a b B c ho hb h
  by_cases h6 : z = 6
  · subst h6; exact does_Remove K w p q L room off n t a b B c ho hb h
  by_cases h7 : z = 7
  · subst h7; exact does_Crash K w p q L room off n t a b B c ho hb h
  by_cases h8 : z = 8
  · subst h8; exact does_Restart K w p q L room off n t a b B c ho hb h
  have e : Dq.step room ⟨z, n, t, a, b⟩ (L, off) = (L, off) := by simp only [Dq.step, h0, h1, h2, h3, h4, h5, h6, h7, h8, if_false]
  rw [e]
  exact does_other K w p q L room off z n t a b B c (by omega) h

theorem rk_none {w : World} {S : Nat → Prop} {q room : Nat} (hb : Blk w q 42 #[.slice none 0 0, .int .i64 (room : Int), .bool false]) (hq : S q) (hr : room ≤ 4194304) : Rk w S q [] room false :=
  ⟨[], .slice none 0 0, rfl, hb, ⟨rfl, .inl ⟨rfl, rfl⟩⟩, hq, (fun k hk => by cases hk), (fun x hx => (nomatch hx)), ⟨by simp, by simp, by simp [used], hr, (fun f hf => (nomatch hf)), (fun f hf => (nomatch hf))⟩⟩
theorem rnew_ok (w : World) (room : Nat) (h : room ≤ 4194304) : Calls Try.prog 9 #[.int .i64 (room : Int)] w fun e w' => ∃ q, e = .returned (.tuple #[.pointer (some ⟨q, 0, none⟩), .int .i64 0]) ∧ Rk w' (New w w') q [] room false ∧ Below w.heap.size w w' := by
  have h0 : ¬ (room : Int) < 0 := by omega
  have h1 : ¬ 4194304 < (room : Int) := by omega
  go_enter Try.func9, Try.ntmps9
  go_wp2
  go_ret2
  exact ⟨_, rfl, rk_none (Blk.new _ _ _) ⟨Nat.le_refl _, by simp⟩ h, (Below.refl _ w).alloc (Nat.le_refl _) _⟩
theorem rnew_bad (w : World) (z : Int) (h : z < 0 ∨ 4194304 < z) : Calls Try.prog 9 #[.int .i64 z] w fun e w' => e = .returned (.tuple #[.pointer none, .int .i64 1]) ∧ w = w' := by
  by_cases h0 : z < 0
  · go_enter Try.func9, Try.ntmps9
    go_wp2
    go_ret2
    exact ⟨rfl, rfl⟩
  · have h1 : 4194304 < z := by omega
    go_enter Try.func9, Try.ntmps9
    go_wp2
    go_ret2
    exact ⟨rfl, rfl⟩

end Go.Proofs.Ytncppflmpfefkaa.Ea

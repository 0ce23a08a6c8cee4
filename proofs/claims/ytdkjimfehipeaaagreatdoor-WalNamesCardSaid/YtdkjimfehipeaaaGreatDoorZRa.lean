import Derived.Test.YtdkjimfehipeaaaGreatDoorT14
/-
  Words for memory and contracts of the document's disk: at, may, Used, Synced, Get, Restart.
-/
namespace Go.Proofs.YtdkjimfehipeaaaGreatDoor.Ra
open Go Go.RowKit Go.Maps Ck Kw Ga Dm Dw Da Db Dc Dd De Df Dg Dh Di
attribute [local go_sem ↓] Go.wp_at_zero Go.wp_at_succ
set_option linter.unusedVariables false

/-- A file's cells; files' cells. -/
def FC (x : Fl × Value) : List Value := [SV x.1.n, x.2, .int .i64 (x.1.d : Int)]
def FCs (l : List (Fl × Value)) : List Value := l.flatMap FC
theorem FCs_cons (x : Fl × Value) (l : List (Fl × Value)) : FCs (x :: l) = FC x ++ FCs l := rfl
theorem FCs_len (l : List (Fl × Value)) : (FCs l).length = l.length * 3 := by
  induction l with
  | nil => rfl
  | cons x l ih => rw [FCs_cons, List.length_append, ih, List.length_cons]; simp [FC]; omega
theorem FCs_app (l k : List (Fl × Value)) : FCs (l ++ k) = FCs l ++ FCs k := by simp [FCs]
theorem FCs_get (l : List (Fl × Value)) (i : Nat) (hi : i < l.length) (j : Nat) (hj : j < 3) : (FCs l)[i * 3 + j]? = (FC l[i])[j]? := by
  induction l generalizing i with
  | nil => exact absurd hi (by simp)
  | cons x l ih =>
    have hx : (FC x).length = 3 := rfl
    rw [FCs_cons]
    cases i with
    | zero => rw [List.getElem?_append_left (by omega)]; simp
    | succ i =>
      rw [List.getElem?_append_right (by omega), hx, show (i + 1) * 3 + j - 3 = i * 3 + j from by omega]
      exact ih i (by simpa using hi)
theorem FCs_take (l : List (Fl × Value)) (i : Nat) : FCs (l.take i) = (FCs l).take (i * 3) := by
  induction l generalizing i with
  | nil => simp [FCs]
  | cons x l ih =>
    have hx : (FC x).length = 3 := rfl
    cases i with
    | zero => simp [FCs]
    | succ i => rw [List.take_succ_cons, FCs_cons, FCs_cons, ih, List.take_append, hx, List.take_of_length_le (l := FC x) (by omega), show (i + 1) * 3 - 3 = i * 3 from by omega]
theorem FCs_drop (l : List (Fl × Value)) (i : Nat) : FCs (l.drop i) = (FCs l).drop (i * 3) := by
  induction l generalizing i with
  | nil => simp [FCs]
  | cons x l ih =>
    have hx : (FC x).length = 3 := rfl
    cases i with
    | zero => simp
    | succ i => rw [List.drop_succ_cons, FCs_cons, ih, List.drop_append, hx, List.drop_of_length_le (l := FC x) (by omega), show (i + 1) * 3 - 3 = i * 3 from by omega, List.nil_append]

/-- Block q is the document's disk of these files, laid open. -/
structure RParts (w : World) (S : Nat → Prop) (q : Nat) (l : List (Fl × Value)) (most : Nat) (down : Bool) (lv : Value) : Prop where
  blk : Blk w q 114 #[lv, .int .i64 (most : Int), .bool down]
  row : w.ownsRow 0 153 3 lv l.length (FCs l)
  sq : S q
  slv : ∀ k, lv.ownBlock = some k → S k
  bytes : ∀ x ∈ l, Sl w (fun k => ¬ S k ∨ k = q ∨ lv.ownBlock = some k) 1 x.2 x.1.b.length (BVs x.1.b)
  good : GoodL (l.map (·.1)) most
/-- Block q is the document's disk of these files; all its blocks are in S. -/
def Rk (w : World) (S : Nat → Prop) (q : Nat) (L : List Fl) (most : Nat) (down : Bool) : Prop := ∃ l lv, l.map (·.1) = L ∧ RParts w S q l most down lv
section
variable {w w' : World} {S T : Nat → Prop} {q most : Nat} {l : List (Fl × Value)} {L : List Fl} {down : Bool} {lv : Value}
theorem RParts.ch (h : RParts w S q l most down lv) (c : Ch T w w') (hd : ∀ k, S k → T k → False) : RParts w' S q l most down lv :=
  ⟨h.blk.ch c (fun ht => hd _ h.sq ht), own_ch h.row c (fun k hk ht => hd _ (h.slv k hk) ht), h.sq, h.slv, fun x hx => (h.bytes x hx).ch c (fun k _ ht => .inl (fun hs => hd _ hs ht)), h.good⟩
theorem RParts.weaken (h : RParts w S q l most down lv) (hd : ∀ k, S k → T k) : RParts w T q l most down lv :=
  ⟨h.blk, h.row, hd _ h.sq, fun k hk => hd _ (h.slv k hk), fun x hx => (h.bytes x hx).weaken (fun k _ hk => hk.imp (fun hn hs => hn (hd k hs)) id), h.good⟩
theorem Rk.ch (h : Rk w S q L most down) (c : Ch T w w') (hd : ∀ k, S k → T k → False) : Rk w' S q L most down := by
  obtain ⟨l, lv, e, h⟩ := h
  exact ⟨l, lv, e, h.ch c hd⟩
theorem Rk.weaken (h : Rk w S q L most down) (hd : ∀ k, S k → T k) : Rk w T q L most down := by
  obtain ⟨l, lv, e, h⟩ := h
  exact ⟨l, lv, e, h.weaken hd⟩
theorem Rk.later (h : Rk w S q L most down) (b : Below w.heap.size w w') : Rk w' S q L most down :=
  h.ch (Ch.of_below (S := fun _ => False) b (Nat.le_refl _)) (fun _ _ h => h)
theorem RParts.later (h : RParts w S q l most down lv) (b : Below w.heap.size w w') : RParts w' S q l most down lv :=
  h.ch (Ch.of_below (S := fun _ => False) b (Nat.le_refl _)) (fun _ _ h => h)
theorem Rk.good (h : Rk w S q L most down) : GoodL L most := by
  obtain ⟨l, lv, rfl, h⟩ := h
  exact h.good
theorem Rk.drewN (h : Rk w S q L most down) (n : Nat) : Rk (w.drewN n) S q L most down := by
  obtain ⟨l, lv, e, h⟩ := h
  exact ⟨l, lv, e, ⟨h.1, h.2, h.3, h.4, h.5, h.6⟩⟩

/-- The cells of the i-th file. -/
structure FlAt (w : World) (ad : Addr) (i : Nat) (x : Fl × Value) : Prop where
  a0 : w.cell? (ad.add (i * 3)) = some (.string ⟨x.1.n.toArray⟩)
  a1 : w.cell? ⟨(ad.add (i * 3)).block, (ad.add (i * 3)).off + 1, none⟩ = some x.2
  a2 : w.cell? ⟨(ad.add (i * 3)).block, (ad.add (i * 3)).off + 2, none⟩ = some (.int .i64 (x.1.d : Int))
  f0 : w.frozen? (ad.add (i * 3)) = false
  f1 : w.frozen? ⟨(ad.add (i * 3)).block, (ad.add (i * 3)).off + 1, none⟩ = false
  f2 : w.frozen? ⟨(ad.add (i * 3)).block, (ad.add (i * 3)).off + 2, none⟩ = false
theorem add_zero {ad : Addr} (h : ad = ⟨ad.block, 0, none⟩) (i : Nat) : ad.add i = ⟨ad.block, i, none⟩ := by
  obtain ⟨g, o, s⟩ := ad
  injection h with _ h1 h2
  subst h1; subst h2
  unfold Addr.add
  split <;> simp_all
theorem RParts.shape (h : RParts w S q l most down lv) : ∃ A c, lv = .slice A l.length c ∧ l.length ≤ c := by
  obtain ⟨A, c, rfl⟩ := own_shape h.row
  obtain ⟨A0, c0, hv, _, hc, _⟩ := Sl.of_own (X := fun _ => False) h.row (fun _ _ _ h => h)
  have := (Value.slice.inj hv).2.2
  exact ⟨A, c, rfl, by omega⟩
theorem RParts.at_ {A : Option Addr} {c i : Nat} (h : RParts w S q l most down (.slice A l.length c)) (hi : i < l.length) : ∃ ad, A = some ad ∧ ad = ⟨ad.block, 0, none⟩ ∧ ad.block ≠ q ∧ FlAt w ad i l[i] := by
  have hfar := own_far h.row h.blk (by decide)
  rcases h.row.2 with ⟨_, h0⟩ | ⟨g, cap, cur, hv, hb, hr, h1, h2, h3, h4⟩
  · omega
  · obtain ⟨e1, _, _⟩ := Value.slice.inj hv
    subst e1
    have hcell : ∀ j, j < 3 → w.cell? ⟨g, i * 3 + j, none⟩ = (FC l[i])[j]? := fun j hj => by
      rw [cell_of_row w g _ cur _ (0, 0) hr, ← FCs_get l i hi j hj, ← h4, List.getElem?_take, if_pos (by omega)]
      simp
    have hfz : ∀ j, w.frozen? ⟨g, j, none⟩ = false := fun j => by simp [World.frozen?, hr]
    refine ⟨⟨g, 0, none⟩, rfl, rfl, fun e => hfar (by show some g = some q; rw [← e]), ?_⟩
    have ha := add_zero (ad := ⟨g, 0, none⟩) rfl (i * 3)
    refine ⟨?_, ?_, ?_, ?_, ?_, ?_⟩ <;> rw [ha]
    · exact hcell 0 (by omega)
    · exact hcell 1 (by omega)
    · exact hcell 2 (by omega)
    · exact hfz _
    · exact hfz _
    · exact hfz _
end

theorem find_first {L : List Fl} {s : Tx} {k : Nat} (hk : k < L.length) (h0 : ∀ j, j < k → ∀ f, L[j]? = some f → f.n ≠ s) (h : L[k].n = s) : find L s = some L[k] := by
  unfold find
  rw [List.find?_eq_some_iff_getElem]
  refine ⟨by simpa using h, k, hk, rfl, fun j hj => ?_⟩
  have := h0 j hj L[j] (List.getElem?_eq_getElem (by omega))
  simpa using this
theorem find_never {L : List Fl} {s : Tx} (h0 : ∀ j, j < L.length → ∀ f, L[j]? = some f → f.n ≠ s) : find L s = none := by
  unfold find
  rw [List.find?_eq_none]
  intro f hf
  obtain ⟨j, hj, e⟩ := List.mem_iff_getElem.1 hf
  have := h0 j hj f (by rw [List.getElem?_eq_getElem hj, e])
  simpa using this

theorem rows_len {L : List Fl} {l : List (Fl × Value)} (h : l.map (·.1) = L) : L.length = l.length := by rw [← h, List.length_map]
theorem rows_at {L : List Fl} {l : List (Fl × Value)} (h : l.map (·.1) = L) {k : Nat} (hk : k < l.length) : L[k]? = some l[k].1 := by rw [← h]; simp [hk]
theorem rows_eq {L : List Fl} {l : List (Fl × Value)} (h : l.map (·.1) = L) {i : Nat} {f : Fl} (hi : L[i]? = some f) (hlt : i < l.length) : l[i].1 = f := by
  have := rows_at h hlt
  rw [hi] at this
  exact (Option.some.inj this).symm
theorem rows_lt {L : List Fl} {l : List (Fl × Value)} (h : l.map (·.1) = L) {i : Nat} {f : Fl} (hi : L[i]? = some f) : i < l.length := by
  rw [← rows_len h]
  exact (List.getElem?_eq_some_iff.1 hi).1
theorem find_at {L : List Fl} {s : Tx} {k : Nat} {f : Fl} (hk : L[k]? = some f) (h0 : ∀ j, j < k → ∀ f, L[j]? = some f → f.n ≠ s) (h : f.n = s) : find L s = some f := by
  obtain ⟨hl, e⟩ := List.getElem?_eq_some_iff.1 hk
  rw [← e]
  exact find_first hl h0 (by rw [e]; exact h)

set_option maxHeartbeats 400000 in
theorem rat_any (w : World) (S : Nat → Prop) (q : Nat) (L : List Fl) (most : Nat) (down : Bool) (s : Tx) (h : Rk w S q L most down) :
    Calls Tryz.prog 134 #[.pointer (some ⟨q, 0, none⟩), .string ⟨s.toArray⟩] w fun e w' => (∃ z, e = .returned (.int .i64 z) ∧ ((∃ (i : Nat) (f : Fl), find L s = some f ∧ L[i]? = some f ∧ z = i) ∨ (find L s = none ∧ z = -1))) ∧ w = w' := by
  obtain ⟨l, lv, hL, hP⟩ := h
  have hfew := hP.good.few
  rw [List.length_map] at hfew
  obtain ⟨A, c, rfl, -⟩ := hP.shape
  have c0 : w.cell? ⟨q, 0, none⟩ = some (.slice A l.length c) := hP.blk.cell 0
  have HP := Lib.hid hP
  have HL := Lib.hid hL
  clear hP hL
  go_enter Tryz.func134, Tryz.ntmps134
  go_wp2
  go_loop [5] (fun i => ∃ k : Nat, k ≤ l.length ∧ i = .int .i64 k ∧ ∀ j, j < k → ∀ f, L[j]? = some f → f.n ≠ s) (fun i => l.length - (intOf i).toNat)
  case atStart => exact ⟨0, Nat.zero_le _, rfl, fun j hj => absurd hj (by omega)⟩
  case round =>
    obtain ⟨k, hk, rfl, hz⟩ := hrel
    have HZ := Lib.hid hz
    clear hz
    by_cases hlt : k < l.length
    · obtain ⟨ad, rfl, -, -, hf⟩ := HP.out.at_ hlt
      have a0 := hf.a0
      clear hf
      by_cases heq : l[k].1.n = s
      · have hbq : (l[k].1.n == s) = true := by rw [heq]; exact beq_self_eq_true _
        have HF := Lib.hid (find_at (rows_at HL.out hlt) HZ.out heq)
        clear heq
        go_wp2
        go_ret
        exact ⟨⟨_, rfl, .inl ⟨k, _, HF.out, rows_at HL.out hlt, rfl⟩⟩, rfl⟩
      · have hbq : (l[k].1.n == s) = false := by rw [beq_eq_false_iff_ne]; exact heq
        have HE := Lib.hid heq
        clear heq
        go_wp2
        go_round
        case rel =>
          refine ⟨k + 1, by omega, by go_num, fun j hj f hf => ?_⟩
          by_cases hjk : j < k
          · exact HZ.out j hjk f hf
          · obtain rfl : j = k := by omega
            rw [rows_at HL.out hlt] at hf
            injection hf with hf
            rw [← hf]
            exact HE.out
        case measure => simp [intOf]; omega
    · have hke : k = l.length := by omega
      have HN := Lib.hid (find_never (L := L) (s := s) (fun j hj => HZ.out j (by rw [rows_len HL.out] at hj; omega)))
      go_wp2
      go_ret
      exact ⟨⟨_, rfl, .inr ⟨HN.out, rfl⟩⟩, rfl⟩

/-- may, where nothing comes of it. -/
theorem rmay_no (w : World) (S : Nat → Prop) (q : Nat) (L : List Fl) (most : Nat) (down : Bool) (s : Tx) (h : Rk w S q L most down) (c : Nat) (hc : (down = true ∧ c = 32) ∨ (down = false ∧ find L s = none ∧ c = 4)) :
    Calls Tryz.prog 114 #[.pointer (some ⟨q, 0, none⟩), .string ⟨s.toArray⟩] w fun e w' => e = .returned (.tuple #[.int .i64 0, .int .i64 (c : Int)]) ∧ w = w' := by
  have HA := Lib.hid (rat_any w S q L most down s h)
  obtain ⟨l, lv, hL, hP⟩ := h
  have c2 : w.cell? ⟨q, 2, none⟩ = some (.bool down) := hP.blk.cell 2
  clear hP
  rcases hc with ⟨rfl, rfl⟩ | ⟨rfl, hf, rfl⟩
  · go_enter Tryz.func114, Tryz.ntmps114
    go_wp2
    go_ret2
    exact ⟨rfl, rfl⟩
  · go_enter Tryz.func114, Tryz.ntmps114
    go_wp2_with (go_at_call 134; refine HA.out.mono ?_; rintro e w' ⟨⟨z, rfl, hz⟩, rfl⟩; (obtain rfl : z = -1 := by rcases hz with ⟨i, f, h1, _⟩ | ⟨_, h1⟩; (rw [hf] at h1; cases h1); exact h1); clear hz)
    go_ret2
    exact ⟨rfl, rfl⟩
theorem rmay_in (w : World) (S : Nat → Prop) (q : Nat) (L : List Fl) (most : Nat) (s : Tx) (h : Rk w S q L most false) (f : Fl) (hf : find L s = some f) :
    Calls Tryz.prog 114 #[.pointer (some ⟨q, 0, none⟩), .string ⟨s.toArray⟩] w fun e w' => (∃ i : Nat, L[i]? = some f ∧ e = .returned (.tuple #[.int .i64 (i : Int), .int .i64 0])) ∧ w = w' := by
  have HA := Lib.hid (rat_any w S q L most false s h)
  obtain ⟨l, lv, hL, hP⟩ := h
  have c2 : w.cell? ⟨q, 2, none⟩ = some (.bool false) := hP.blk.cell 2
  clear hP
  go_enter Tryz.func114, Tryz.ntmps114
  go_wp2_with (go_at_call 134; refine HA.out.mono ?_; rintro e w' ⟨⟨z, rfl, hz⟩, rfl⟩; (obtain ⟨i, hi, rfl⟩ : ∃ i : Nat, L[i]? = some f ∧ z = i := by rcases hz with ⟨i, f', h1, h2, h3⟩ | ⟨h1, _⟩; (rw [hf] at h1; injection h1 with h1; subst h1; exact ⟨i, h2, h3⟩); (rw [hf] at h1; cases h1)); clear hz)
  go_ret2
  exact ⟨⟨i, hi, rfl⟩, rfl⟩

end Go.Proofs.YtdkjimfehipeaaaGreatDoor.Ra

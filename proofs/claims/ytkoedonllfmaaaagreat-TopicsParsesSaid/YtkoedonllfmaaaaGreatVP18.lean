/-
  Words for memory of the document's topics; the contract of its at.
-/
import Derived.Test.YtkoedonllfmaaaaGreatVP03
import Derived.Test.YtkoedonllfmaaaaGreatVP04
import Derived.Test.YtkoedonllfmaaaaGreatVP02
import Derived.Outline
namespace Go.Proofs.YtkoedonllfmaaaaGreat.Ta
set_option linter.unusedSimpArgs false
open Go Go.RowKit Ck Kw Ga Kf Pm Tm Tn Tq
attribute [local go_sem ↓] Go.wp_at_zero Go.wp_at_succ
set_option linter.unusedVariables false

/-- A topic, and where its records and its groups are. -/
abbrev Tw := Tp × Value × Value
/-- A topic's cells, a group's, an answer's. -/
def TC (x : Tw) : List Value := [.string ⟨x.1.n.toArray⟩, .int .i64 x.1.base, x.2.1, x.2.2]
def GC (g : Gp) : List Value := [.string ⟨g.n.toArray⟩, .int .i64 g.pos]
def AC (a : An) : List Value := [.int .i64 a.time, .int .i64 a.err, .int .i64 a.off]
def TCs (l : List Tw) : List Value := l.flatMap TC
def GCs (l : List Gp) : List Value := l.flatMap GC
def ACs (l : List An) : List Value := l.flatMap AC
theorem TC_len (x : Tw) : (TC x).length = 4 := rfl
theorem GC_len (x : Gp) : (GC x).length = 2 := rfl
theorem AC_len (x : An) : (AC x).length = 3 := rfl
/-- A topic's records and groups in memory, outside blocks X. -/
structure TwOk (w : World) (X : Nat → Prop) (x : Tw) : Prop where
  recs : Ls w X x.2.1 x.1.recs
  gs : Sl w X 2 x.2.2 x.1.gs.length (GCs x.1.gs)
/-- Block q is the document's topics, laid open: l its topics; all its blocks but the records' and the groups' are in S. -/
structure TParts (w : World) (S : Nat → Prop) (q : Nat) (l : List Tw) (last : List An) (lv : Value) : Prop where
  blk : Blk w q 35 (lv :: ACs last).toArray
  row : w.ownsRow 0 74 4 lv l.length (TCs l)
  sq : S q
  slv : ∀ k, lv.ownBlock = some k → S k
  each : ∀ x ∈ l, TwOk w (fun k => ¬ S k ∨ k = q ∨ lv.ownBlock = some k) x
/-- Block q is the document's topics. -/
def Tk (w : World) (S : Nat → Prop) (q : Nat) (s : St) : Prop := ∃ l lv, l.map (·.1) = s.L ∧ TParts w S q l s.last lv
section
variable {w w' : World} {S T : Nat → Prop} {q : Nat} {l : List Tw} {last : List An} {lv : Value} {s : St}
theorem TwOk.ch {X : Nat → Prop} {x : Tw} (h : TwOk w X x) (c : Ch T w w') (hd : ∀ k, k < w.heap.size → T k → X k) : TwOk w' X x := ⟨h.recs.ch c hd, h.gs.ch c hd⟩
theorem TParts.ch (h : TParts w S q l last lv) (c : Ch T w w') (hd : ∀ k, S k → T k → False) : TParts w' S q l last lv :=
  ⟨h.blk.ch c (fun ht => hd _ h.sq ht), own_ch h.row c (fun k hk ht => hd _ (h.slv k hk) ht), h.sq, h.slv, fun x hx => (h.each x hx).ch c (fun k _ ht => .inl (fun hs => hd _ hs ht))⟩
theorem TParts.later (h : TParts w S q l last lv) (b : Below w.heap.size w w') : TParts w' S q l last lv :=
  h.ch (Ch.of_below (S := fun _ => False) b (Nat.le_refl _)) (fun _ _ h => h)
theorem Tk.ch (h : Tk w S q s) (c : Ch T w w') (hd : ∀ k, S k → T k → False) : Tk w' S q s := by
  obtain ⟨l, lv, e, h⟩ := h
  exact ⟨l, lv, e, h.ch c hd⟩
theorem Tk.later (h : Tk w S q s) (b : Below w.heap.size w w') : Tk w' S q s := by
  obtain ⟨l, lv, e, h⟩ := h
  exact ⟨l, lv, e, h.later b⟩
theorem TParts.shape (h : TParts w S q l last lv) : ∃ A c, lv = .slice A l.length c ∧ l.length ≤ c := by
  obtain ⟨A, c, rfl⟩ := own_shape h.row
  obtain ⟨A0, c0, hv, _, hc, _⟩ := Sl.of_own (X := fun _ => False) h.row (fun _ _ _ h => h)
  have := (Value.slice.inj hv).2.2
  exact ⟨A, c, rfl, by omega⟩
/-- The cells of the i-th topic. -/
structure TAt (w : World) (ad : Addr) (i : Nat) (x : Tw) : Prop where
  a0 : w.cell? (ad.add (i * 4)) = some (.string ⟨x.1.n.toArray⟩)
  a1 : w.cell? ⟨(ad.add (i * 4)).block, (ad.add (i * 4)).off + 1, none⟩ = some (.int .i64 x.1.base)
  a2 : w.cell? ⟨(ad.add (i * 4)).block, (ad.add (i * 4)).off + 2, none⟩ = some x.2.1
  a3 : w.cell? ⟨(ad.add (i * 4)).block, (ad.add (i * 4)).off + 3, none⟩ = some x.2.2
  f0 : w.frozen? (ad.add (i * 4)) = false
  f1 : w.frozen? ⟨(ad.add (i * 4)).block, (ad.add (i * 4)).off + 1, none⟩ = false
  f2 : w.frozen? ⟨(ad.add (i * 4)).block, (ad.add (i * 4)).off + 2, none⟩ = false
  f3 : w.frozen? ⟨(ad.add (i * 4)).block, (ad.add (i * 4)).off + 3, none⟩ = false
theorem TParts.at_ {A : Option Addr} {c i : Nat} (h : TParts w S q l last (.slice A l.length c)) (hi : i < l.length) : ∃ ad, A = some ad ∧ ad = ⟨ad.block, 0, none⟩ ∧ ad.block ≠ q ∧ TAt w ad i l[i] := by
  have hfar := own_far h.row h.blk (by decide)
  rcases h.row.2 with ⟨_, h0⟩ | ⟨g, cap, cur, hv, hb, hr, h1, h2, h3, h4⟩
  · omega
  · obtain ⟨e1, _, _⟩ := Value.slice.inj hv
    subst e1
    have hcell : ∀ j, j < 4 → w.cell? ⟨g, i * 4 + j, none⟩ = (TC l[i])[j]? := fun j hj => by
      rw [cell_of_row w g _ cur _ (0, 0) hr, ← flat_get TC_len l i hi j hj, show l.flatMap TC = TCs l from rfl, ← h4, List.getElem?_take, if_pos (by omega)]
      simp
    have hfz : ∀ j, w.frozen? ⟨g, j, none⟩ = false := fun j => by simp [World.frozen?, hr]
    refine ⟨⟨g, 0, none⟩, rfl, rfl, fun e => hfar (by show some g = some q; rw [← e]), ?_⟩
    have ha := add_zero' (ad := ⟨g, 0, none⟩) rfl (i * 4)
    refine ⟨?_, ?_, ?_, ?_, ?_, ?_, ?_, ?_⟩ <;> rw [ha]
    · exact hcell 0 (by omega)
    · exact hcell 1 (by omega)
    · exact hcell 2 (by omega)
    · exact hcell 3 (by omega)
    · exact hfz _
    · exact hfz _
    · exact hfz _
    · exact hfz _
end

theorem find_first {L : List Tp} {s : Tx} {k : Nat} (hk : k < L.length) (h0 : ∀ j, j < k → ∀ f, L[j]? = some f → f.n ≠ s) (h : L[k].n = s) : findT L s = some L[k] := by
  unfold findT
  rw [List.find?_eq_some_iff_getElem]
  refine ⟨by simpa using h, k, hk, rfl, fun j hj => ?_⟩
  have := h0 j hj L[j] (List.getElem?_eq_getElem (by omega))
  simpa using this
theorem find_never {L : List Tp} {s : Tx} (h0 : ∀ j, j < L.length → ∀ f, L[j]? = some f → f.n ≠ s) : findT L s = none := by
  unfold findT
  rw [List.find?_eq_none]
  intro f hf
  obtain ⟨j, hj, e⟩ := List.mem_iff_getElem.1 hf
  have := h0 j hj f (by rw [List.getElem?_eq_getElem hj, e])
  simpa using this
theorem rows_at {L : List Tp} {l : List Tw} (h : l.map (·.1) = L) {k : Nat} (hk : k < l.length) : L[k]? = some l[k].1 := by rw [← h]; simp [hk]
theorem rows_len {L : List Tp} {l : List Tw} (h : l.map (·.1) = L) : L.length = l.length := by rw [← h, List.length_map]
theorem find_at {L : List Tp} {s : Tx} {k : Nat} {f : Tp} (hk : L[k]? = some f) (h0 : ∀ j, j < k → ∀ f, L[j]? = some f → f.n ≠ s) (h : f.n = s) : findT L s = some f := by
  obtain ⟨hl, e⟩ := List.getElem?_eq_some_iff.1 hk
  rw [← e]
  exact find_first hl h0 (by rw [e]; exact h)

set_option maxHeartbeats 400000 in
theorem rat_any (w : World) (S : Nat → Prop) (q : Nat) (m : St) (s : Tx) (h : Tk w S q m) (hfew : m.L.length ≤ 8) :
    Calls Tryz.prog 48 #[.pointer (some ⟨q, 0, none⟩), .string ⟨s.toArray⟩] w fun e w' => (∃ z, e = .returned (.int .i64 z) ∧ ((∃ (i : Nat) (f : Tp), findT m.L s = some f ∧ m.L[i]? = some f ∧ z = i) ∨ (findT m.L s = none ∧ z = -1))) ∧ w = w' := by
  obtain ⟨l, lv, hL, hP⟩ := h
  rw [rows_len hL] at hfew
  obtain ⟨A, c, rfl, -⟩ := hP.shape
  have c0 : w.cell? ⟨q, 0, none⟩ = some (.slice A l.length c) := by have := hP.blk.cell 0; simpa using this
  have HP := Lib.hid hP
  have HL := Lib.hid hL
  clear hP hL
  go_enter Tryz.func48, Tryz.ntmps48
  go_wp2
  go_loop [5] (fun i => ∃ k : Nat, k ≤ l.length ∧ i = .int .i64 k ∧ ∀ j, j < k → ∀ f, m.L[j]? = some f → f.n ≠ s) (fun i => l.length - (intOf i).toNat)
  case atStart => exact ⟨0, Nat.zero_le _, rfl, fun j hj => absurd hj (by omega)⟩
  case round =>
    obtain ⟨k, hk, rfl, hz⟩ := hrel
    have HZ := Lib.hid hz
    clear hz
    by_cases hlt : k < l.length
    · obtain ⟨ad, rfl, -, -, hf⟩ := HP.out.at_ hlt
      have a0 := hf.a0
      clear hf
      by_cases heq : l[k].1.n = s
      · have hbq : (l[k].1.n == s) = true := by rw [heq]; exact beq_self_eq_true _
        have HF := Lib.hid (find_at (rows_at HL.out hlt) HZ.out heq)
        clear heq
        go_wp2
        go_ret
        exact ⟨⟨_, rfl, .inl ⟨k, _, HF.out, rows_at HL.out hlt, rfl⟩⟩, rfl⟩
      · have hbq : (l[k].1.n == s) = false := by rw [beq_eq_false_iff_ne]; exact heq
        have HE := Lib.hid heq
        clear heq
        go_wp2
        go_round
        case rel =>
          refine ⟨k + 1, by omega, by go_num, fun j hj f hf => ?_⟩
          by_cases hjk : j < k
          · exact HZ.out j hjk f hf
          · obtain rfl : j = k := by omega
            rw [rows_at HL.out hlt] at hf
            injection hf with hf
            rw [← hf]
            exact HE.out
        case measure => simp [intOf]; omega
    · have hke : k = l.length := by omega
      have HN := Lib.hid (find_never (L := m.L) (s := s) (fun j hj => HZ.out j (by rw [rows_len HL.out] at hj; omega)))
      go_wp2
      go_ret
      exact ⟨⟨_, rfl, .inr ⟨HN.out, rfl⟩⟩, rfl⟩
end Go.Proofs.YtkoedonllfmaaaaGreat.Ta

/-
  Contracts of the document's topics: next, Bounds, Get.
-/
namespace Go.Proofs.YtkoedonllfmaaaaGreat.Tb
set_option linter.unusedSimpArgs false
open Go Go.RowKit Ck Kw Ga Kf Pm Pz Tm Tn Tq Ta
attribute [local go_sem ↓] Go.wp_at_zero Go.wp_at_succ
set_option linter.unusedVariables false

theorem wrap_next {t : Tp} (h0 : 0 ≤ t.base) (h1 : t.next ≤ maxNum) : IntKind.i64.wrap (t.base + (t.recs.length : Int)) = t.next := by
  simp only [Tp.next, maxNum] at h1
  rw [Tp.next]
  simp only [IntKind.wrap, IntKind.bits, IntKind.signed]
  simp
  omega
theorem wrap_next64 {t : Tp} (h0 : 0 ≤ t.base) (h1 : t.next ≤ maxNum) : RowKit.wrap64 (t.base + (t.recs.length : Int)) = t.next := by
  simp only [Tp.next, maxNum] at h1
  rw [Tp.next]
  unfold RowKit.wrap64; omega
theorem rnext_any (w : World) (n : Tx) (A : Option Addr) (c : Nat) (vg : Value) (t : Tp) (h0 : 0 ≤ t.base) (h1 : t.next ≤ maxNum) :
    Calls Tryz.prog 51 #[.agg #[.string ⟨n.toArray⟩, .int .i64 t.base, .slice A t.recs.length c, vg]] w fun e w' => e = .returned (.int .i64 t.next) ∧ Below w.heap.size w w' := by
  have hw := wrap_next64 h0 h1
  have b1 : Below w.heap.size w (w.alloc (.cells #[.string ⟨n.toArray⟩, .int .i64 t.base, .slice A t.recs.length c, vg] 74)) := (Below.refl _ w).alloc (Nat.le_refl _) _
  go_enter Tryz.func51, Tryz.ntmps51
  go_wp2
  go_ret
  exact ⟨by rw [← hw]; rfl, b1⟩

/-- What Bounds answers. -/
def boundsT (L : List Tp) (s : Tx) : Int × Int × Int := match findT L s with
  | none => (0, 0, 4)
  | some t => (t.base, t.next, 0)
theorem row_of {L : List Tp} {l : List Tw} (h : l.map (·.1) = L) {i : Nat} {f : Tp} (hi : L[i]? = some f) : ∃ hlt : i < l.length, l[i].1 = f := by
  have hlt : i < l.length := by rw [← rows_len h]; exact (List.getElem?_eq_some_iff.1 hi).1
  refine ⟨hlt, ?_⟩
  have := rows_at h hlt
  rw [hi] at this
  exact (Option.some.inj this).symm
/-- The machine's first cell and a topic's four. -/
def TCell (w : World) (q : Nat) (v0 : Value) (ad : Addr) (i : Nat) (x : Tw) : Prop :=
  w.cell? ⟨q, 0, none⟩ = some v0 ∧ w.cell? (ad.add (i * 4)) = some (.string ⟨x.1.n.toArray⟩) ∧ w.cell? ⟨(ad.add (i * 4)).block, (ad.add (i * 4)).off + 1, none⟩ = some (.int .i64 x.1.base) ∧ w.cell? ⟨(ad.add (i * 4)).block, (ad.add (i * 4)).off + 2, none⟩ = some x.2.1 ∧ w.cell? ⟨(ad.add (i * 4)).block, (ad.add (i * 4)).off + 3, none⟩ = some x.2.2
theorem tk_cells {w : World} {q : Nat} {v0 : Value} {ad : Addr} {i : Nat} {x : Tw} (c0 : w.cell? ⟨q, 0, none⟩ = some v0) (h : TAt w ad i x) : TCell w q v0 ad i x := ⟨c0, h.a0, h.a1, h.a2, h.a3⟩
theorem TCell.below {w w' : World} {q : Nat} {v0 : Value} {ad : Addr} {i : Nat} {x : Tw} (h : TCell w q v0 ad i x) (b : Below w.heap.size w w') : TCell w' q v0 ad i x := by
  obtain ⟨h0, h1, h2, h3, h4⟩ := h
  have k : ∀ {a : Addr} {v : Value}, w.cell? a = some v → w'.cell? a = some v := fun {a v} hc => by rw [b.cell (World.block_lt_of_cell? w a hc)]; exact hc
  exact ⟨k h0, k h1, k h2, k h3, k h4⟩
set_option maxHeartbeats 1000000 in
theorem rbounds_any (w : World) (S : Nat → Prop) (q : Nat) (m : St) (s : Tx) (h : Tk w S q m) (hg : GoodL m.L) :
    Calls Tryz.prog 53 #[.pointer (some ⟨q, 0, none⟩), .string ⟨s.toArray⟩] w fun e w' => e = .returned (.tuple #[.int .i64 (boundsT m.L s).1, .int .i64 (boundsT m.L s).2.1, .int .i64 (boundsT m.L s).2.2]) ∧ Below w.heap.size w w' := by
  have HA := Lib.hid (rat_any w S q m s h hg.few)
  have HG := Lib.hid hg
  obtain ⟨l, lv, hL, hP⟩ := h
  obtain ⟨A, c, rfl, -⟩ := hP.shape
  have c0 : w.cell? ⟨q, 0, none⟩ = some (.slice A l.length c) := by have := hP.blk.cell 0; simpa using this
  have HP := Lib.hid hP
  have HL := Lib.hid hL
  clear hP hL hg
  cases hf : findT m.L s with
  | none =>
    have HB : Hid (boundsT m.L s = (0, 0, 4)) := Lib.hid (by rw [boundsT, hf])
    have HN : Hid (Calls Tryz.prog 48 #[.pointer (some ⟨q, 0, none⟩), .string ⟨s.toArray⟩] w fun e w' => e = .returned (.int .i64 (-1)) ∧ w = w') := Lib.hid (HA.out.mono (by
      rintro e w' ⟨⟨z, rfl, hz⟩, rfl⟩
      rcases hz with ⟨i, f, h1, _⟩ | ⟨_, rfl⟩
      · rw [hf] at h1; cases h1
      · exact ⟨rfl, rfl⟩))
    clear hf HA
    rw [HB.out]
    go_enter Tryz.func53, Tryz.ntmps53
    go_wp2_with fail
    refine HN.out.mono ?_
    rintro e w' ⟨rfl, rfl⟩
    go_wp2_with fail
    go_ret3
    exact ⟨rfl, Below.refl _ _⟩
  | some t =>
    have HB : Hid (boundsT m.L s = (t.base, t.next, 0)) := Lib.hid (by rw [boundsT, hf])
    have HN : Hid (Calls Tryz.prog 48 #[.pointer (some ⟨q, 0, none⟩), .string ⟨s.toArray⟩] w fun e w' => (∃ i : Nat, e = .returned (.int .i64 i) ∧ m.L[i]? = some t) ∧ w = w') := Lib.hid (HA.out.mono (by
      rintro e w' ⟨⟨z, rfl, hz⟩, rfl⟩
      rcases hz with ⟨i, f, h1, h2, rfl⟩ | ⟨h1, _⟩
      · rw [hf] at h1; obtain rfl := Option.some.inj h1; exact ⟨⟨i, rfl, h2⟩, rfl⟩
      · rw [hf] at h1; cases h1))
    clear hf HA
    rw [HB.out]
    go_enter Tryz.func53, Tryz.ntmps53
    go_wp2_with fail
    refine HN.out.mono ?_
    rintro e w' ⟨⟨i, rfl, hi⟩, rfl⟩
    obtain ⟨hlt, hx⟩ := row_of HL.out hi
    obtain ⟨vr, vg, hli⟩ : ∃ vr vg, l[i] = (t, vr, vg) := ⟨l[i].2.1, l[i].2.2, by rw [← hx]⟩
    have hok := HP.out.each _ (List.getElem_mem hlt)
    obtain ⟨ad, rfl, -, -, hat⟩ := HP.out.at_ hlt
    rw [hli] at hok hat
    obtain ⟨⟨vals, ⟨Ar, cr, hvr, -⟩, -⟩, -⟩ := hok
    simp only at hvr
    subst hvr
    have hin : t ∈ m.L := by
      have : (l.map (·.1))[i]? = some t := by rw [List.getElem?_map, List.getElem?_eq_getElem hlt, hli]; rfl
      rw [HL.out] at this
      exact List.mem_of_getElem? this
    have hfew : l.length ≤ 8 := by rw [← rows_len HL.out]; exact HG.out.few
    have HX : Hid (0 ≤ t.base ∧ t.next ≤ maxNum) := Lib.hid ⟨(HG.out.fit t hin).base, (HG.out.fit t hin).next⟩
    have HS := Lib.hid (tk_cells c0 hat)
    obtain ⟨b0, a0, a1, a2, a3⟩ := HS.out
    simp only at a0 a1 a2 a3
    clear hi hx hli hin hat c0
    go_wp2_with fail
    go_region_held3 (fun w' => w'.cell? ⟨q, 0, none⟩ = some (.slice (some ad) l.length c) ∧ w'.cell? (ad.add (i * 4)) = some (.string ⟨t.n.toArray⟩) ∧ w'.cell? ⟨(ad.add (i * 4)).block, (ad.add (i * 4)).off + 1, none⟩ = some (.int .i64 t.base) ∧ w'.cell? ⟨(ad.add (i * 4)).block, (ad.add (i * 4)).off + 2, none⟩ = some (.slice Ar t.recs.length cr) ∧ w'.cell? ⟨(ad.add (i * 4)).block, (ad.add (i * 4)).off + 3, none⟩ = some vg)
      (first | exact ⟨b0, a0, a1, a2, a3⟩ | exact kcells)
      (first
      | (go_at_call 51; refine (rnext_any _ t.n Ar cr vg t HX.out.1 HX.out.2).mono ?_; rintro e w2 ⟨rfl, hb2⟩; have HB2 : Hid (Below w.heap.size w w2) := Lib.hid (below_of_drew hb2); have kcells := HS.out.below HB2.out; clear hb2))
    all_goals
      go_wp2_with fail
      go_ret3
      exact ⟨rfl, HB2.out⟩
end Go.Proofs.YtkoedonllfmaaaaGreat.Tb

/-
  Contracts of the document's topics: next, Bounds, Get.
-/
import Derived.Test.YtkoedonllfmaaaaGreatVD18
import Derived.Test.YtkoedonllfmaaaaGreatVD04
import Derived.Test.YtkoedonllfmaaaaGreatVD12
import Derived.Test.YtkoedonllfmaaaaGreatVD02
import Derived.Laws.StructEq
import Derived.Test.YtkoedonllfmaaaaGreatVD05
import Derived.Test.YtkoedonllfmaaaaGreatVD07
namespace Go.Proofs.YtkoedonllfmaaaaGreat.Tb
set_option linter.unusedSimpArgs false
open Go Go.RowKit Ck Kw Ga Kf Pm Pz Tm Tn Tq Ta
attribute [local go_sem ↓] Go.wp_at_zero Go.wp_at_succ
set_option linter.unusedVariables false

theorem wrap_next {t : Tp} (h0 : 0 ≤ t.base) (h1 : t.next ≤ maxNum) : IntKind.i64.wrap (t.base + (t.recs.length : Int)) = t.next := by
  simp only [Tp.next, maxNum] at h1
  rw [Tp.next]
  simp only [IntKind.wrap, IntKind.bits, IntKind.signed]
  simp
  omega
theorem wrap_next64 {t : Tp} (h0 : 0 ≤ t.base) (h1 : t.next ≤ maxNum) : RowKit.wrap64 (t.base + (t.recs.length : Int)) = t.next := by
  simp only [Tp.next, maxNum] at h1
  rw [Tp.next]
  unfold RowKit.wrap64; omega
theorem rnext_any (w : World) (n : Tx) (A : Option Addr) (c : Nat) (vg : Value) (t : Tp) (h0 : 0 ≤ t.base) (h1 : t.next ≤ maxNum) :
    Calls Tryz.prog 51 #[.agg #[.string ⟨n.toArray⟩, .int .i64 t.base, .slice A t.recs.length c, vg]] w fun e w' => e = .returned (.int .i64 t.next) ∧ Below w.heap.size w w' := by
  have hw := wrap_next64 h0 h1
  have b1 : Below w.heap.size w (w.alloc (.cells #[.string ⟨n.toArray⟩, .int .i64 t.base, .slice A t.recs.length c, vg] 74)) := (Below.refl _ w).alloc (Nat.le_refl _) _
  go_enter Tryz.func51, Tryz.ntmps51
  go_wp2
  go_ret
  exact ⟨by rw [← hw]; rfl, b1⟩

/-- What Bounds answers. -/
def boundsT (L : List Tp) (s : Tx) : Int × Int × Int := match findT L s with
  | none => (0, 0, 4)
  | some t => (t.base, t.next, 0)
theorem row_of {L : List Tp} {l : List Tw} (h : l.map (·.1) = L) {i : Nat} {f : Tp} (hi : L[i]? = some f) : ∃ hlt : i < l.length, l[i].1 = f := by
  have hlt : i < l.length := by rw [← rows_len h]; exact (List.getElem?_eq_some_iff.1 hi).1
  refine ⟨hlt, ?_⟩
  have := rows_at h hlt
  rw [hi] at this
  exact (Option.some.inj this).symm
/-- The machine's first cell and a topic's four. -/
def TCell (w : World) (q : Nat) (v0 : Value) (ad : Addr) (i : Nat) (x : Tw) : Prop :=
  w.cell? ⟨q, 0, none⟩ = some v0 ∧ w.cell? (ad.add (i * 4)) = some (.string ⟨x.1.n.toArray⟩) ∧ w.cell? ⟨(ad.add (i * 4)).block, (ad.add (i * 4)).off + 1, none⟩ = some (.int .i64 x.1.base) ∧ w.cell? ⟨(ad.add (i * 4)).block, (ad.add (i * 4)).off + 2, none⟩ = some x.2.1 ∧ w.cell? ⟨(ad.add (i * 4)).block, (ad.add (i * 4)).off + 3, none⟩ = some x.2.2
theorem tk_cells {w : World} {q : Nat} {v0 : Value} {ad : Addr} {i : Nat} {x : Tw} (c0 : w.cell? ⟨q, 0, none⟩ = some v0) (h : TAt w ad i x) : TCell w q v0 ad i x := ⟨c0, h.a0, h.a1, h.a2, h.a3⟩
theorem TCell.below {w w' : World} {q : Nat} {v0 : Value} {ad : Addr} {i : Nat} {x : Tw} (h : TCell w q v0 ad i x) (b : Below w.heap.size w w') : TCell w' q v0 ad i x := by
  obtain ⟨h0, h1, h2, h3, h4⟩ := h
  have k : ∀ {a : Addr} {v : Value}, w.cell? a = some v → w'.cell? a = some v := fun {a v} hc => by rw [b.cell (World.block_lt_of_cell? w a hc)]; exact hc
  exact ⟨k h0, k h1, k h2, k h3, k h4⟩
set_option maxHeartbeats 1000000 in
theorem rbounds_any (w : World) (S : Nat → Prop) (q : Nat) (m : St) (s : Tx) (h : Tk w S q m) (hg : GoodL m.L) :
    Calls Tryz.prog 53 #[.pointer (some ⟨q, 0, none⟩), .string ⟨s.toArray⟩] w fun e w' => e = .returned (.tuple #[.int .i64 (boundsT m.L s).1, .int .i64 (boundsT m.L s).2.1, .int .i64 (boundsT m.L s).2.2]) ∧ Below w.heap.size w w' := by
  have HA := Lib.hid (rat_any w S q m s h hg.few)
  have HG := Lib.hid hg
  obtain ⟨l, lv, hL, hP⟩ := h
  obtain ⟨A, c, rfl, -⟩ := hP.shape
  have c0 : w.cell? ⟨q, 0, none⟩ = some (.slice A l.length c) := by have := hP.blk.cell 0; simpa using this
  have HP := Lib.hid hP
  have HL := Lib.hid hL
  clear hP hL hg
  cases hf : findT m.L s with
  | none =>
    have HB : Hid (boundsT m.L s = (0, 0, 4)) := Lib.hid (by rw [boundsT, hf])
    have HN : Hid (Calls Tryz.prog 48 #[.pointer (some ⟨q, 0, none⟩), .string ⟨s.toArray⟩] w fun e w' => e = .returned (.int .i64 (-1)) ∧ w = w') := Lib.hid (HA.out.mono (by
      rintro e w' ⟨⟨z, rfl, hz⟩, rfl⟩
      rcases hz with ⟨i, f, h1, _⟩ | ⟨_, rfl⟩
      · rw [hf] at h1; cases h1
      · exact ⟨rfl, rfl⟩))
    clear hf HA
    rw [HB.out]
    go_enter Tryz.func53, Tryz.ntmps53
    go_wp2_with fail
    refine HN.out.mono ?_
    rintro e w' ⟨rfl, rfl⟩
    go_wp2_with fail
    go_ret3
    exact ⟨rfl, Below.refl _ _⟩
  | some t =>
    have HB : Hid (boundsT m.L s = (t.base, t.next, 0)) := Lib.hid (by rw [boundsT, hf])
    have HN : Hid (Calls Tryz.prog 48 #[.pointer (some ⟨q, 0, none⟩), .string ⟨s.toArray⟩] w fun e w' => (∃ i : Nat, e = .returned (.int .i64 i) ∧ m.L[i]? = some t) ∧ w = w') := Lib.hid (HA.out.mono (by
      rintro e w' ⟨⟨z, rfl, hz⟩, rfl⟩
      rcases hz with ⟨i, f, h1, h2, rfl⟩ | ⟨h1, _⟩
      · rw [hf] at h1; obtain rfl := Option.some.inj h1; exact ⟨⟨i, rfl, h2⟩, rfl⟩
      · rw [hf] at h1; cases h1))
    clear hf HA
    rw [HB.out]
    go_enter Tryz.func53, Tryz.ntmps53
    go_wp2_with fail
    refine HN.out.mono ?_
    rintro e w' ⟨⟨i, rfl, hi⟩, rfl⟩
    obtain ⟨hlt, hx⟩ := row_of HL.out hi
    obtain ⟨vr, vg, hli⟩ : ∃ vr vg, l[i] = (t, vr, vg) := ⟨l[i].2.1, l[i].2.2, by rw [← hx]⟩
    have hok := HP.out.each _ (List.getElem_mem hlt)
    obtain ⟨ad, rfl, -, -, hat⟩ := HP.out.at_ hlt
    rw [hli] at hok hat
    obtain ⟨⟨vals, ⟨Ar, cr, hvr, -⟩, -⟩, -⟩ := hok
    simp only at hvr
    subst hvr
    have hin : t ∈ m.L := by
      have : (l.map (·.1))[i]? = some t := by rw [List.getElem?_map, List.getElem?_eq_getElem hlt, hli]; rfl
      rw [HL.out] at this
      exact List.mem_of_getElem? this
    have hfew : l.length ≤ 8 := by rw [← rows_len HL.out]; exact HG.out.few
    have HX : Hid (0 ≤ t.base ∧ t.next ≤ maxNum) := Lib.hid ⟨(HG.out.fit t hin).base, (HG.out.fit t hin).next⟩
    have HS := Lib.hid (tk_cells c0 hat)
    obtain ⟨b0, a0, a1, a2, a3⟩ := HS.out
    simp only at a0 a1 a2 a3
    clear hi hx hli hin hat c0
    go_wp2_with fail
    go_region_held3 (fun w' => w'.cell? ⟨q, 0, none⟩ = some (.slice (some ad) l.length c) ∧ w'.cell? (ad.add (i * 4)) = some (.string ⟨t.n.toArray⟩) ∧ w'.cell? ⟨(ad.add (i * 4)).block, (ad.add (i * 4)).off + 1, none⟩ = some (.int .i64 t.base) ∧ w'.cell? ⟨(ad.add (i * 4)).block, (ad.add (i * 4)).off + 2, none⟩ = some (.slice Ar t.recs.length cr) ∧ w'.cell? ⟨(ad.add (i * 4)).block, (ad.add (i * 4)).off + 3, none⟩ = some vg)
      (first | exact ⟨b0, a0, a1, a2, a3⟩ | exact kcells)
      (first
      | (go_at_call 51; refine (rnext_any _ t.n Ar cr vg t HX.out.1 HX.out.2).mono ?_; rintro e w2 ⟨rfl, hb2⟩; have HB2 : Hid (Below w.heap.size w w2) := Lib.hid (below_of_drew hb2); have kcells := HS.out.below HB2.out; clear hb2))
    all_goals
      go_wp2_with fail
      go_ret3
      exact ⟨rfl, HB2.out⟩
end Go.Proofs.YtkoedonllfmaaaaGreat.Tb

/-
  Layer 7: the program's reading of topics: takeName, isAnswer, mayBe, takeAnswered.
-/
namespace Go.Proofs.YtkoedonllfmaaaaGreat.Xa
set_option linter.unusedSimpArgs false
open Go Go.RowKit Ck Kw Ca Cb Ce Ch Ga Kf Km Pm Pa Pz Qt Tm Tn Tq Aa
attribute [local go_sem ↓] Go.wp_at_zero Go.wp_at_succ
set_option linter.unusedVariables false
set_option maxRecDepth 100000

theorem less_eq (x y : List UInt8) : Op.bytesLess x y = decide (x < y) := by
  induction x generalizing y with
  | nil => cases y <;> simp [Op.bytesLess]
  | cons a x ih =>
    cases y with
    | nil => simp [Op.bytesLess]
    | cons b y =>
      rw [Op.bytesLess, ih y]
      rw [Bool.eq_iff_iff]
      simp [List.cons_lt_cons_iff]
/-- Are two results the same? -/
def rsB (s t : Int × Int) : Bool := decide (s = t)
theorem stood_res : Tryz.prog.stoodInHeld 30 = false := by kernel_rfl
theorem fields_res : Tryz.prog.underlying 30 = some (.struct (Tryz.prog.fieldsOf 30)) := by kernel_rfl
theorem run_equalIn_res (W : World) (d : Nat) (a b c e : Int) : (Op.equalIn (d + 1 + 1) 30 (.agg #[.int .i64 a, .int .i64 b]) (.agg #[.int .i64 c, .int .i64 e])).run Tryz.prog W = .ok (rsB (a, b) (c, e)) W := by
  rw [run_equalIn_struct W (d + 1) 30 _ _ fields_res stood_res]
  have hf : (Tryz.prog.fieldsOf 30).toList = [{ name := "Err", type := 28, offset := 0, embedded := false, tag := "", pkgPath := "", byteOffset := 0 }, { name := "Offset", type := 2, offset := 1, embedded := false, tag := "", pkgPath := "", byteOffset := 8 }] := by kernel_rfl
  rw [hf]
  have h1 := fun (x y : Int) (W : World) => run_equalIn_int (P := Tryz.prog) W d 28 .i64 .i64 x y Tryz.underlying28
  have h2 := fun (x y : Int) (W : World) => run_equalIn_int (P := Tryz.prog) W d 2 .i64 .i64 x y Tryz.underlying2
  have p1 : ∀ (u v : Value) (W : World), (part 28 #[u, v] 0).run Tryz.prog W = .ok u W := fun u v W => by simp [part, isAgg, run_underlying Tryz.underlying28]
  have p2 : ∀ (u v : Value) (W : World), (part 2 #[u, v] 1).run Tryz.prog W = .ok v W := fun u v W => by simp [part, isAgg, run_underlying Tryz.underlying2]
  by_cases hac : a = c
  · by_cases hbe : b = e
    · subst hac; subst hbe
      simp [Op.eqFields, p1, p2, h1, h2, Result.andThen, rsB]
    · subst hac
      simp [Op.eqFields, p1, p2, h1, h2, Result.andThen, rsB, hbe]
  · simp [Op.eqFields, p1, h1, Result.andThen, rsB, hac]
theorem run_neq_rs (W : World) (a b c e : Int) : (binOp .neq 30 (.agg #[.int .i64 a, .int .i64 b]) (.agg #[.int .i64 c, .int .i64 e])).run Tryz.prog W = .ok (.bool (!rsB (a, b) (c, e))) W := by
  rw [run_neq_struct, show (10000 : Nat) = 9998 + 1 + 1 from rfl, run_equalIn_res]
  rfl
end Go.Proofs.YtkoedonllfmaaaaGreat.Xa

/-
  Layer 7: plain words for the program's reading of topics: what the machine of Te keeps, element by element.
-/
namespace Go.Proofs.YtkoedonllfmaaaaGreat.Xm
set_option linter.unusedSimpArgs false
open Cm Pm Pz Tm Tn Tq
set_option linter.unusedVariables false

/-- All that stand are a, or below it. -/
def Low (a : Tx) (ns : List Tx) : Prop := ∀ x ∈ ns, x = a ∨ x < a
theorem Low.nil (a : Tx) : Low a [] := fun x hx => by cases hx
theorem Low.more {a b : Tx} {ns : List Tx} (h : Low a ns) (hb : a < b) : Low b (ns ++ [b]) := by
  intro x hx
  rcases List.mem_append.1 hx with hx | hx
  · rcases h x hx with e | e
    · exact .inr (by rw [e]; exact hb)
    · exact .inr (List.lt_trans e hb)
  · exact .inl (List.mem_singleton.1 hx)
end Go.Proofs.YtkoedonllfmaaaaGreat.Xm

/-
  Layer 7: the program's reading of topics: mayBe, takeAnswered, next of a topic that is read.
-/
namespace Go.Proofs.YtkoedonllfmaaaaGreat.Xb
set_option linter.unusedSimpArgs false
open Go Go.RowKit Ck Kw Ca Cb Ce Ch Ga Kf Km Pm Pa Pe Pf Pg Pp Pz Qb Qt Tm Tn Tq Aa Ab Xa Xm
attribute [local go_sem ↓] Go.wp_at_zero Go.wp_at_succ
set_option linter.unusedVariables false
set_option maxRecDepth 100000

theorem op_below (w : World) (x : Obj) : Below w.heap.size w (w.alloc x) := (Below.refl _ w).alloc (Nat.le_refl _) _
end Go.Proofs.YtkoedonllfmaaaaGreat.Xb

/-
  Layer 7: contracts of the document's topics: bad, create.
-/
namespace Go.Proofs.YtkoedonllfmaaaaGreat.Xr
set_option linter.unusedSimpArgs false
open Go Go.RowKit Ck Kw Ga Kf Pm Pz Tm Tn Tq Ta Tb Xa
attribute [local go_sem ↓] Go.wp_at_zero Go.wp_at_succ
set_option linter.unusedVariables false
set_option maxRecDepth 100000

theorem op_below (w : World) (x : Obj) : Below w.heap.size w (w.alloc x) := (Below.refl _ w).alloc (Nat.le_refl _) _
theorem size_res : (Tryz.prog.info? 30).map (·.size) = some 2 := by kernel_rfl
theorem info_topic : (Tryz.prog.info? 74).map (fun i => (i.zero, i.size, i.bytes)) = some (some (.agg #[.string ⟨#[]⟩, .int .i64 0, .slice none 0 0, .slice none 0 0]), 4, 72) := by kernel_rfl
theorem blk2 {W : World} {g : Nat} {t : TypeId} {x y : Value} (h : Blk W g t #[x, y]) (u v : Value) : Blk ((W.setCell ⟨g, 0, none⟩ u).setCell ⟨g, 1, none⟩ v) g t #[u, v] := (h.set_ 0 u).set_ 1 v
theorem two_ch (W : World) (g : Nat) (u v : Value) : Ch (fun k => k = g) W ((W.setCell ⟨g, 0, none⟩ u).setCell ⟨g, 1, none⟩ v) := ((Ch.refl (fun k => k = g) W).setCell (p := ⟨g, 0, none⟩) (fun _ => rfl) u).setCell (p := ⟨g, 1, none⟩) (fun _ => rfl) v
theorem below_of_app {W1 w5 w6 : World} {e : TypeId} {size n m : Nat} {v v' : Value} {xs ys : List Value} (hb : Below W1.heap.size W1 w5) (ho : w5.ownsRow W1.heap.size e size v n xs) (h : Appended w5 W1.heap.size e size v m ys v' w6) : Below W1.heap.size W1 w6 :=
  hb.grown h.2.1 hb.size (fun g hg => (ho.lt g hg).1)
theorem rbad_any (w : World) (k : Int) : Calls Tryz.prog 20 #[.int .i64 k] w fun e w' => e = .returned (.agg #[.int .i64 k, .int .i64 0]) ∧ Below w.heap.size w w' := by
  go_enter Tryz.func20, Tryz.ntmps20
  go_wp2_with fail
  refine bodyPost_ret (Qb.results_row1 rfl _ _ w.heap.size 30 #[.int .i64 k, .int .i64 0] (0, 0) _ rfl (Blk.new_at rfl rfl) Tryz.underlying30 rfl size_res) rfl ?_
  exact ⟨rfl, op_below _ _⟩

theorem TCs_cons (x : Tw) (l : List Tw) : TCs (x :: l) = TC x ++ TCs l := rfl
theorem TCs_len (l : List Tw) : (TCs l).length = l.length * 4 := by
  induction l with
  | nil => rfl
  | cons x l ih => rw [TCs_cons, List.length_append, ih, List.length_cons]; simp [TC]; omega
theorem TCs_app (l k : List Tw) : TCs (l ++ k) = TCs l ++ TCs k := by simp [TCs]
theorem TCs_take (l : List Tw) (i : Nat) : TCs (l.take i) = (TCs l).take (i * 4) := by
  induction l generalizing i with
  | nil => simp [TCs]
  | cons x l ih =>
    have hx : (TC x).length = 4 := rfl
    cases i with
    | zero => simp [TCs]
    | succ i => rw [List.take_succ_cons, TCs_cons, TCs_cons, ih, List.take_append, hx, List.take_of_length_le (l := TC x) (by omega), show (i + 1) * 4 - 4 = i * 4 by omega]
theorem TCs_drop (l : List Tw) (i : Nat) : TCs (l.drop i) = (TCs l).drop (i * 4) := by
  induction l generalizing i with
  | nil => simp [TCs]
  | cons x l ih =>
    have hx : (TC x).length = 4 := rfl
    cases i with
    | zero => simp
    | succ i => rw [List.drop_succ_cons, TCs_cons, ih, List.drop_append, hx, List.drop_eq_nil_of_le (show (TC x).length ≤ (i + 1) * 4 by omega), show (i + 1) * 4 - 4 = i * 4 by omega, List.nil_append]
theorem tslice_from (A : Option Addr) (n c k : Nat) (hk : k ≤ n) (hc : n ≤ c) : ∃ A', (∀ W : World, (Instr.slice 27 (.slice A n c) (some (.int .i64 (k : Int))) none none).run Tryz.prog W = .ok (.slice A' (n - k) (c - k)) W) ∧ (∀ ad, A = some ad → k < n → A' = some (ad.add (k * 4))) := by
  have he : ∀ W : World, (sizeOf (Tryz.prog.elem 27)).run Tryz.prog W = .ok 4 W := fun _ => by kernel_rfl
  refine ⟨if c = k then A else A.map (·.add (k * 4)), fun W => ?_, ?_⟩
  · rw [run_slice_l W 27 A n c (by kernel_rfl) .i64 k (by omega) (by omega), he]
    rfl
  · rintro ad rfl hlt
    rw [if_neg (by omega)]
    rfl
theorem tslice_upto (A : Option Addr) (n c k : Nat) (hk : k ≤ c) (W : World) : (Instr.slice 27 (.slice A n c) none (some (.int .i64 (k : Int))) none).run Tryz.prog W = .ok (.slice A k c) W := by
  have he : ∀ W : World, (sizeOf (Tryz.prog.elem 27)).run Tryz.prog W = .ok 4 W := fun _ => by kernel_rfl
  rw [run_slice_h W 27 A n c (by kernel_rfl) .i64 k (by omega) (by omega), he]
  simp only [Result.andThen_ok, sliced, Int.toNat_natCast]
  congr 2
  by_cases h0 : c = 0
  · simp [h0]
  · cases A <;> simp [h0, Addr.add]
theorem TCs_one {w : World} {S : Nat → Prop} {q : Nat} {l : List Tw} {last : List An} {lv : Value} (h : TParts w S q l last lv) : ∀ u ∈ TCs l, u.oneCell' = true := by
  intro u hu
  obtain ⟨x, hx, hux⟩ := List.mem_flatMap.1 hu
  simp only [TC, List.mem_cons, List.not_mem_nil, or_false] at hux
  rcases hux with rfl | rfl | rfl | rfl
  · rfl
  · rfl
  · obtain ⟨vals, ⟨A, c, e, _⟩, _⟩ := (h.each x hx).recs
    rw [e]; rfl
  · obtain ⟨A, c, e, _⟩ := (h.each x hx).gs
    rw [e]; rfl
theorem insT_at {x : Tp} {L : List Tp} {k : Nat} (hk : k ≤ L.length) (h0 : ∀ j, j < k → ∀ f, L[j]? = some f → f.n < x.n) (h1 : ∀ f, L[k]? = some f → ¬ f.n < x.n) : insT x L = L.take k ++ x :: L.drop k := by
  induction L generalizing k with
  | nil =>
    have : k = 0 := by simpa using hk
    subst this
    rfl
  | cons f L ih =>
    cases k with
    | zero =>
      have := h1 f rfl
      rw [insT, if_neg this]
      rfl
    | succ k =>
      have := h0 0 (by omega) f rfl
      rw [insT, if_pos this, ih (by simpa using hk) (fun j hj g hg => h0 (j + 1) (by omega) g hg) (fun g hg => h1 g hg)]
      rfl
theorem topic_lit (w : World) (n : Tx) : Sl (w.alloc (.cells #[.string ⟨n.toArray⟩, .int .i64 0, .slice none 0 0, .slice none 0 0] 74)) (fun _ => False) 4 (.slice (some ⟨w.heap.size, 0, none⟩) 1 1) 1 (TCs [(⟨n, 0, [], []⟩, .slice none 0 0, .slice none 0 0)]) := by
  refine ⟨_, _, rfl, rfl, Nat.le_refl _, by simp only [maxLen]; omega, fun _ => ⟨_, rfl, by simp, fun h => h, fun j u hu => ?_⟩⟩
  have ha : (⟨w.heap.size, 0, none⟩ : Addr).add j = ⟨w.heap.size, j, none⟩ := by unfold Addr.add; split <;> simp_all
  rw [ha, Blk.cell (Blk.new w _ _) j]
  simpa [TCs, TC] using hu
section
variable {w w' : World} {S T X Y : Nat → Prop} {q : Nat} {l : List Tw} {last : List An} {lv : Value} {s : St}
/-- A topic's records and groups stay, if none of their blocks changes. -/
theorem _root_.Go.Proofs.YtkoedonllfmaaaaGreat.Ta.TwOk.move {x : Tw} (h : TwOk w X x) (c : Ch T w w') (hT : ∀ k, k < w.heap.size → T k → X k) (hY : ∀ k, k < w.heap.size → Y k → X k) : TwOk w' Y x := by
  have h2 : TwOk w (fun k => Y k ∨ T k) x := ⟨h.recs.weaken (fun b hb hk => hk.elim (hY b hb) (hT b hb)), h.gs.weaken (fun b hb hk => hk.elim (hY b hb) (hT b hb))⟩
  have h3 := h2.ch c (fun k _ hk => .inr hk)
  exact ⟨h3.recs.weaken (fun b _ hk => .inl hk), h3.gs.weaken (fun b _ hk => .inl hk)⟩
theorem _root_.Go.Proofs.YtkoedonllfmaaaaGreat.Ta.TParts.up (h : TParts w S q l last lv) (hS : ∀ k, S k → T k) : TParts w T q l last lv :=
  ⟨h.blk, h.row, hS _ h.sq, fun k hk => hS _ (h.slv k hk), fun x hx => (h.each x hx).move (Ch.refl (fun _ => False) w) (fun _ _ h => h.elim) (fun k _ hk => hk.elim (fun hn => .inl (fun hs => hn (hS k hs))) .inr)⟩
theorem _root_.Go.Proofs.YtkoedonllfmaaaaGreat.Ta.Tk.up (h : Tk w S q s) (hS : ∀ k, S k → T k) : Tk w T q s := by
  obtain ⟨l, lv, e, h⟩ := h
  exact ⟨l, lv, e, h.up hS⟩
/-- What a call on the document's topics leaves. -/
def RDone (S : Nat → Prop) (q : Nat) (s : St) (w w' : World) : Prop := Tk w' (Up S w w') q s ∧ Ch S w w'
theorem rdone_below (h : Tk w S q s) (b : Below w.heap.size w w') : RDone S q s w w' := ⟨(h.later b).up (fun k hk => .inl hk), Ch.of_below b (Nat.le_refl _)⟩
end
def createT (L : List Tp) (x : Tx) : Int × List Tp := if (findT L x).isSome then (5, L) else if 8 ≤ L.length then (6, L) else (0, insT ⟨x, 0, [], []⟩ L)
theorem _root_.Go.Proofs.YtkoedonllfmaaaaGreat.Ta.Tk.bound {w : World} {S : Nat → Prop} {q : Nat} {s : St} (h : Tk w S q s) : Tk w (fun k => S k ∧ k < w.heap.size) q s := by
  obtain ⟨l, lv, e, h⟩ := h
  exact ⟨l, lv, e, h.blk, h.row, ⟨h.sq, h.blk.lt⟩, fun k hk => ⟨h.slv k hk, (h.row.lt k hk).2⟩, fun x hx => (h.each x hx).move (Ch.refl (fun _ => False) w) (fun _ _ h => h.elim) (fun k hkl hk => hk.elim (fun hn => .inl (fun hs => hn ⟨hs, hkl⟩)) .inr)⟩
/-- A new row of topics is laid. -/
theorem rnewrow {w1 W : World} {S : Nat → Prop} {q n : Nat} {l l' : List Tw} {last : List An} {lv out : Value} (hP : TParts w1 S q l last lv) (hb : Below w1.heap.size w1 W) (ho : W.ownsRow w1.heap.size 74 4 out n (TCs l'))
    (hx : ∀ x ∈ l', x ∈ l ∨ (x.2.1 = .slice none 0 0 ∧ x.1.recs = [] ∧ x.2.2 = .slice none 0 0 ∧ x.1.gs = [])) : TParts (W.setCell ⟨q, 0, none⟩ out) (Up S w1 (W.setCell ⟨q, 0, none⟩ out)) q l' last out := by
  have hlt := hP.blk.lt
  have hn : n = l'.length := by have := ho.1; rw [TCs_len] at this; omega
  subst hn
  have cq : Ch (fun k => k = q) W (W.setCell ⟨q, 0, none⟩ out) := (Ch.refl (fun k => k = q) W).setCell (p := ⟨q, 0, none⟩) (fun _ => rfl) _
  have hsz : (W.setCell ⟨q, 0, none⟩ out).heap.size = W.heap.size := by simp
  have c1 : Ch (fun k => k = q) w1 (W.setCell ⟨q, 0, none⟩ out) := (Ch.of_below (S := fun k => k = q) hb (Nat.le_refl _)).trans cq (fun k _ h => h)
  refine ⟨?_, own_base (own_ch ho cq (fun k hk e => by have := (ho.lt k hk).1; omega)) (Nat.zero_le _), .inl hP.sq, fun k hk => .inr ⟨(ho.lt k hk).1, by rw [hsz]; exact (ho.lt k hk).2⟩, fun x hxl => ?_⟩
  · have := (hP.blk.below hb hlt).set_ 0 out
    simpa using this
  · rcases hx x hxl with h | ⟨h1, h2, h3, h4⟩
    · exact (hP.each x h).move c1 (fun k _ hk => .inr (.inl hk)) (fun k hk hY => by
        rcases hY with hY | hY | hY
        · exact .inl (fun hs => hY (.inl hs))
        · exact .inr (.inl hY)
        · have := (ho.lt k hY).1; omega)
    · refine ⟨?_, ?_⟩
      · rw [h1, h2]; exact ⟨[], Sl.nil _ _ _, fun i hi => absurd hi (by simp)⟩
      · rw [h3, h4]; exact Sl.nil _ _ _
theorem rcreate_end {w w1 W : World} {S : Nat → Prop} {q k n : Nat} {m : St} {l : List Tw} {lv out : Value} {s : Tx} (hL : l.map (·.1) = m.L) (hP : TParts w1 (fun k => S k ∧ k < w.heap.size) q l m.last lv) (hk : k ≤ l.length) (h0 : ∀ j, j < k → ∀ f, m.L[j]? = some f → f.n < s) (h1 : ∀ f, m.L[k]? = some f → ¬ f.n < s)
    (he : createT m.L s = (0, insT ⟨s, 0, [], []⟩ m.L)) (hw : Below w.heap.size w w1) (hr : w.heap.size < w1.heap.size) (hb : Below w1.heap.size w1 W) (ho : W.ownsRow w1.heap.size 74 4 out n (TCs (l.take k) ++ TCs [(⟨s, 0, [], []⟩, .slice none 0 0, .slice none 0 0)] ++ TCs (l.drop k))) :
    RDone S q ⟨(createT m.L s).2, m.last⟩ w (((W.setCell ⟨q, 0, none⟩ out).setCell ⟨w.heap.size, 0, none⟩ (.int .i64 0)).setCell ⟨w.heap.size, 1, none⟩ (.int .i64 0)) := by
  rw [he]
  have hll := rows_len hL
  have hmap : (l.take k ++ [((⟨s, 0, [], []⟩, .slice none 0 0, .slice none 0 0) : Tw)] ++ l.drop k).map (·.1) = insT ⟨s, 0, [], []⟩ m.L := by
    rw [List.map_append, List.map_append, List.map_take, List.map_drop, hL, insT_at (x := ⟨s, 0, [], []⟩) (by omega) h0 h1]
    simp
  rw [← TCs_app, ← TCs_app] at ho
  have hp := rnewrow hP hb ho (fun x hx => by
    rcases List.mem_append.1 hx with hx | hx
    · rcases List.mem_append.1 hx with hx | hx
      · exact .inl (List.mem_of_mem_take hx)
      · rw [List.mem_singleton] at hx
        subst hx
        exact .inr ⟨rfl, rfl, rfl, rfl⟩
    · exact .inl (List.mem_of_mem_drop hx))
  have hq := hP.sq
  have cr := two_ch (W.setCell ⟨q, 0, none⟩ out) w.heap.size (.int .i64 0) (.int .i64 0)
  have s1 := hw.size
  have s2 := hb.size
  have hsz : (W.setCell ⟨q, 0, none⟩ out).heap.size = W.heap.size := by simp
  have hsz2 : (((W.setCell ⟨q, 0, none⟩ out).setCell ⟨w.heap.size, 0, none⟩ (.int .i64 0)).setCell ⟨w.heap.size, 1, none⟩ (.int .i64 0)).heap.size = W.heap.size := by simp
  refine ⟨⟨_, _, hmap, (hp.ch cr (fun k hk e => ?_)).up (fun k hk => ?_)⟩, ?_⟩
  · rcases hk with hk | hk <;> omega
  · rcases hk with hk | hk
    · exact .inl hk.1
    · exact .inr ⟨by omega, by rw [hsz2]; rw [hsz] at hk; exact hk.2⟩
  · have c1 : Ch (fun k => k = q) w W := (Ch.of_below (S := fun k => k = q) hw (Nat.le_refl _)).trans (Ch.of_below (S := fun k => k = q) hb (Nat.le_refl _)) (fun k _ h => h)
    have c2 : Ch (fun k => k = q) w (W.setCell ⟨q, 0, none⟩ out) := c1.setCell (p := ⟨q, 0, none⟩) (fun _ => rfl) _
    exact (c2.trans cr (fun k hk h => by omega)).mono (fun k _ h => by rw [h]; exact hq.1)
set_option maxHeartbeats 2000000 in
theorem rcreate_any (w : World) (S : Nat → Prop) (q : Nat) (m : St) (s : Tx) (hs : s.length ≤ 140737488355328) (h : Tk w S q m) (hfew : m.L.length ≤ 8) :
    Calls Tryz.prog 47 #[.pointer (some ⟨q, 0, none⟩), .string ⟨s.toArray⟩] w fun e w' => e = .returned (.agg #[.int .i64 (createT m.L s).1, .int .i64 0]) ∧ RDone S q ⟨(createT m.L s).2, m.last⟩ w w' := by
  have H := Lib.hid h
  have hb0 := op_below w (.cells #[.int .i64 0, .int .i64 0] 30)
  have hr0 : Blk (w.alloc (.cells #[.int .i64 0, .int .i64 0] 30)) w.heap.size 30 #[.int .i64 0, .int .i64 0] := Blk.new _ _ _
  have H1 := Lib.hid (h.bound.later hb0)
  have HB := Lib.hid (And.intro hb0 hr0)
  have HA := Lib.hid (rat_any _ S q m s (h.later hb0) hfew)
  have r0 := hr0.cell 0
  have r1 := hr0.cell 1
  have rf0 := hr0.frozen 0
  have rf1 := hr0.frozen 1
  simp only [List.getElem?_toArray, List.getElem?_cons_zero, List.getElem?_cons_succ] at r0 r1
  have hlt0 := hr0.lt
  clear hb0 hr0 h
  cases hf : findT m.L s with
  | some f =>
    have HF := Lib.hid hf
    have HE : Hid (createT m.L s = (5, m.L)) := Lib.hid (by rw [createT, hf]; rfl)
    clear hf
    go_enter Tryz.func47, Tryz.ntmps47
    go_wp2_with fail
    generalize w.alloc (.cells #[.int .i64 0, .int .i64 0] 30) = w1 at *
    refine HA.out.mono ?_
    rintro e w' ⟨⟨z, rfl, hz⟩, rfl⟩
    obtain ⟨i, rfl⟩ : ∃ i : Nat, z = i := by
      rcases hz with ⟨i, f', h1, h2, h3⟩ | ⟨h1, _⟩
      · exact ⟨i, h3⟩
      · rw [HF.out] at h1; cases h1
    clear hz
    have hi0 : (0 : Int) ≤ (i : Int) := by omega
    go_wp2_with fail
    refine (rbad_any w1 5).mono ?_
    rintro e w2 ⟨rfl, hb2⟩
    have hk2 := HB.out.2.below hb2 HB.out.2.lt
    have HB2 := Lib.hid (And.intro (HB.out.1.trans (hb2.mono HB.out.1.size)) hk2)
    have q0 := hk2.cell 0
    have q1 := hk2.cell 1
    have qf0 := hk2.frozen 0
    have qf1 := hk2.frozen 1
    simp only [List.getElem?_toArray, List.getElem?_cons_zero, List.getElem?_cons_succ] at q0 q1
    clear hb2 hk2
    go_wp2_with fail
    have c3 := two_ch w2 w.heap.size (.int .i64 5) (.int .i64 0)
    refine bodyPost_ret (Qb.results_row1 rfl _ _ w.heap.size 30 #[.int .i64 5, .int .i64 0] (0, 0) _ rfl (blk2 HB2.out.2 _ _) Tryz.underlying30 rfl size_res) rfl ?_
    rw [HE.out]
    exact ⟨rfl, rdone_below H.out (HB2.out.1.trans (c3.below (fun k hk h => by omega) HB2.out.1.size))⟩
  | none =>
    have hz1 : ∀ z : Int, ((∃ (i : Nat) (f : Tp), findT m.L s = some f ∧ m.L[i]? = some f ∧ z = i) ∨ (findT m.L s = none ∧ z = -1)) → z = -1 := fun z hz => by
      rcases hz with ⟨i, f', h1, h2, h3⟩ | ⟨_, h1⟩
      · rw [hf] at h1; cases h1
      · exact h1
    have HZ := Lib.hid hz1
    obtain ⟨l, lv, hL, hP⟩ := H1.out
    obtain ⟨A, c, rfl, hlc⟩ := hP.shape
    have c0 : (w.alloc (.cells #[.int .i64 0, .int .i64 0] 30)).cell? ⟨q, 0, none⟩ = some (.slice A l.length c) := by have := hP.blk.cell 0; simpa using this
    have HP := Lib.hid hP
    have HL := Lib.hid hL
    have hLl := rows_len hL
    have hl8 : l.length ≤ 8 := by omega
    clear hP hL
    by_cases hl : 8 ≤ m.L.length
    · have HE : Hid (createT m.L s = (6, m.L)) := Lib.hid (by rw [createT, hf, if_neg (by simp), if_pos hl])
      have hll : (8 : Int) ≤ (l.length : Int) := by omega
      clear hz1 hf hl
      go_enter Tryz.func47, Tryz.ntmps47
      go_wp2_with fail
      generalize w.alloc (.cells #[.int .i64 0, .int .i64 0] 30) = w1 at *
      refine HA.out.mono ?_
      rintro e w' ⟨⟨z, rfl, hz⟩, rfl⟩
      obtain rfl := HZ.out z hz
      clear hz
      go_wp2_with fail
      refine (rbad_any w1 6).mono ?_
      rintro e w2 ⟨rfl, hb2⟩
      have hk2 := HB.out.2.below hb2 HB.out.2.lt
      have HB2 := Lib.hid (And.intro (HB.out.1.trans (hb2.mono HB.out.1.size)) hk2)
      have q0 := hk2.cell 0
      have q1 := hk2.cell 1
      have qf0 := hk2.frozen 0
      have qf1 := hk2.frozen 1
      simp only [List.getElem?_toArray, List.getElem?_cons_zero, List.getElem?_cons_succ] at q0 q1
      clear hb2 hk2
      go_wp2_with fail
      have c3 := two_ch w2 w.heap.size (.int .i64 6) (.int .i64 0)
      refine bodyPost_ret (Qb.results_row1 rfl _ _ w.heap.size 30 #[.int .i64 6, .int .i64 0] (0, 0) _ rfl (blk2 HB2.out.2 _ _) Tryz.underlying30 rfl size_res) rfl ?_
      rw [HE.out]
      exact ⟨rfl, rdone_below H.out (HB2.out.1.trans (c3.below (fun k hk h => by omega) HB2.out.1.size))⟩
    · have HE : Hid (createT m.L s = (0, insT ⟨s, 0, [], []⟩ m.L)) := Lib.hid (by rw [createT, hf, if_neg (by simp), if_neg hl])
      have hll : (l.length : Int) < (8 : Int) := by omega
      obtain ⟨i0, hi0', hz0, hz1', hz2⟩ := info_parts info_topic
      have HC := Lib.hid c0
      have hgq := HP.out.sq.2
      clear hz1 hf hl
      go_enter Tryz.func47, Tryz.ntmps47
      go_wp2_with fail
      generalize w.alloc (.cells #[.int .i64 0, .int .i64 0] 30) = w1 at *
      refine HA.out.mono ?_
      rintro e w' ⟨⟨z, rfl, hz⟩, rfl⟩
      obtain rfl := HZ.out z hz
      clear hz
      go_wp2_with fail
      go_loop [5] (fun i => ∃ k : Nat, k ≤ l.length ∧ i = .int .i64 k ∧ ∀ j, j < k → ∀ f, m.L[j]? = some f → f.n < s) (fun i => l.length - (intOf i).toNat)
      case atStart => exact ⟨0, Nat.zero_le _, rfl, fun j hj => absurd hj (by omega)⟩
      case round =>
        obtain ⟨k, hk, rfl, hzr⟩ := hrel
        have HZR := Lib.hid hzr
        clear hzr
        by_cases hgo : ∃ hlt : k < l.length, l[k].1.n < s
        · obtain ⟨hlt, hless⟩ := hgo
          obtain ⟨ad, rfl, -, -, hfa⟩ := HP.out.at_ hlt
          have a0 := hfa.a0
          have hb : Op.bytesLess l[k].1.n s = true := by rw [less_eq]; exact decide_eq_true hless
          have HLS := Lib.hid hless
          clear hfa hless
          go_wp2
          go_round
          case rel =>
            refine ⟨k + 1, by omega, by go_num, fun j hj f hf => ?_⟩
            by_cases hjk : j < k
            · exact HZR.out j hjk f hf
            · obtain rfl : j = k := by omega
              rw [rows_at HL.out hlt] at hf
              rw [← Option.some.inj hf]
              exact HLS.out
          case measure => simp [intOf]; omega
        · have hstop : ∀ f, m.L[k]? = some f → ¬ f.n < s := fun f hf hlf => by
            obtain ⟨hlt, e⟩ := row_of HL.out hf
            exact hgo ⟨hlt, by rw [e]; exact hlf⟩
          have HSTOP := Lib.hid hstop
          have hs1 := fun W => tslice_upto A l.length c k (by omega) W
          obtain ⟨A', hs2, hA'⟩ := tslice_from A l.length c k hk hlc
          have hrow : Sl w1 (fun _ => False) 4 (.slice A l.length c) l.length (TCs l) := Sl.of_own HP.out.row (fun _ _ _ h => h)
          have hr1 : Sl w1 (fun _ => False) 4 (.slice A k c) k (TCs (l.take k)) := by rw [TCs_take]; exact hrow.upto (by omega)
          have hr2 : Sl w1 (fun _ => False) 4 (.slice A' (l.length - k) (c - k)) (l.length - k) (TCs (l.drop k)) := by rw [TCs_drop]; exact hrow.cut (by omega) A' hA'
          have hone := TCs_one HP.out
          have h1a : ∀ u ∈ TCs (l.take k), u.oneCell' = true := fun u hu => hone u (by rw [TCs_take] at hu; exact List.mem_of_mem_take hu)
          have h1b : ∀ u ∈ TCs (l.drop k), u.oneCell' = true := fun u hu => hone u (by rw [TCs_drop] at hu; exact List.mem_of_mem_drop hu)
          have HR := Lib.hid (And.intro hr1 (And.intro hr2 (And.intro h1a h1b)))
          have hk0 : (0 : Int) ≤ (k : Int) := by omega
          have hk1 : (k : Int) ≤ (l.length : Int) := by omega
          have hone1 : ∀ u ∈ TCs [((⟨s, 0, [], []⟩, .slice none 0 0, .slice none 0 0) : Tw)], u.oneCell' = true := fun u hu => by
            simp only [TCs, TC, List.flatMap_cons, List.flatMap_nil, List.append_nil, List.mem_cons, List.not_mem_nil, or_false] at hu
            rcases hu with rfl | rfl | rfl | rfl <;> rfl
          have HO1 := Lib.hid hone1
          clear hA' hrow hr1 hr2 hone h1a h1b hstop hone1
          by_cases hlt : k < l.length
          · obtain ⟨ad, rfl, -, -, hfa⟩ := HP.out.at_ hlt
            have a0 := hfa.a0
            have hb : Op.bytesLess l[k].1.n s = false := by rw [less_eq]; exact decide_eq_false (fun h => hgo ⟨hlt, h⟩)
            clear hfa hgo
            go_wp2_with (first
              | (at_builtin; refine wpList_append_new _ rfl (.tmp 40) (.tmp 46) _ rfl 74 i0 _ 4 72 Tryz.underlying27 hi0' hz0 hz1' hz2 rfl (by omega) rfl _ _ k (TCs (l.take k)) rfl HR.out.1 HR.out.2.2.1 (by simp only [maxLen]; omega) (by omega) ?_; intro A5 c5 w5 ho5 hb5; have HO5 := Lib.hid ho5; have HB5 := Lib.hid hb5; clear ho5 hb5)
              | (at_builtin; refine wpList_append_sh _ rfl (.tmp 47) (.tmp 50) _ rfl w1.heap.size 74 i0 _ 4 72 Tryz.underlying27 hi0' hz0 hz1' hz2 rfl (by omega) _ k _ rfl (HO5.out.alloc _) _ _ 1 (TCs [(⟨s, 0, [], []⟩, .slice none 0 0, .slice none 0 0)]) rfl (topic_lit w5 s) HO1.out (by simp only [maxLen]; omega) (by omega) (by have := HB5.out.size; simp; omega) ?_; intro A6 c6 w6 happ; have HAP := Lib.hid happ; have HB6 := Lib.hid (below_of_app (HB5.out.alloc HB5.out.size _) (HO5.out.alloc _) happ); have k6 := HP.out.blk.below HB6.out HP.out.blk.lt; have g0 := k6.cell 0; simp only [List.getElem?_toArray, List.getElem?_cons_zero] at g0; clear happ k6)
              | (at_builtin; refine wpList_append_sh _ rfl (.tmp 53) (.tmp 59) _ rfl w1.heap.size 74 i0 _ 4 72 Tryz.underlying27 hi0' hz0 hz1' hz2 rfl (by omega) _ (k + 1) _ rfl HAP.out.1 _ _ (l.length - k) (TCs (l.drop k)) rfl (HR.out.2.1.after HB6.out) HR.out.2.2.2 (by simp only [maxLen]; omega) (by omega) (by exact HB6.out.size) ?_; intro A8 c8 w8 happ8; have HAP8 := Lib.hid happ8; have HB8 := Lib.hid (below_of_app HB6.out HAP.out.1 happ8); have k8 := HP.out.blk.below HB8.out HP.out.blk.lt; have j0 := k8.cell 0; have j1 := k8.frozen 0; have k9 := HB.out.2.below HB8.out HB.out.2.lt; have HK9 := Lib.hid k9; have q0 := k9.cell 0; have q1 := k9.cell 1; have qf0 := k9.frozen 0; have qf1 := k9.frozen 1; simp only [List.getElem?_toArray, List.getElem?_cons_zero, List.getElem?_cons_succ] at j0 q0 q1; clear happ8 k8 k9))
            refine bodyPost_ret (Qb.results_row1 rfl _ _ w.heap.size 30 #[.int .i64 0, .int .i64 0] (0, 0) _ rfl (blk2 (HK9.out.far (p := ⟨q, 0, none⟩) (by show w.heap.size ≠ q; omega) _) _ _) Tryz.underlying30 rfl size_res) rfl ?_
            exact ⟨by rw [HE.out], rcreate_end HL.out HP.out hk HZR.out HSTOP.out HE.out HB.out.1 HB.out.2.lt HB8.out HAP8.out.1⟩
          · clear hgo
            go_wp2_with (first
              | (at_builtin; refine wpList_append_new _ rfl (.tmp 40) (.tmp 46) _ rfl 74 i0 _ 4 72 Tryz.underlying27 hi0' hz0 hz1' hz2 rfl (by omega) rfl _ _ k (TCs (l.take k)) rfl HR.out.1 HR.out.2.2.1 (by simp only [maxLen]; omega) (by omega) ?_; intro A5 c5 w5 ho5 hb5; have HO5 := Lib.hid ho5; have HB5 := Lib.hid hb5; clear ho5 hb5)
              | (at_builtin; refine wpList_append_sh _ rfl (.tmp 47) (.tmp 50) _ rfl w1.heap.size 74 i0 _ 4 72 Tryz.underlying27 hi0' hz0 hz1' hz2 rfl (by omega) _ k _ rfl (HO5.out.alloc _) _ _ 1 (TCs [(⟨s, 0, [], []⟩, .slice none 0 0, .slice none 0 0)]) rfl (topic_lit w5 s) HO1.out (by simp only [maxLen]; omega) (by omega) (by have := HB5.out.size; simp; omega) ?_; intro A6 c6 w6 happ; have HAP := Lib.hid happ; have HB6 := Lib.hid (below_of_app (HB5.out.alloc HB5.out.size _) (HO5.out.alloc _) happ); have k6 := HP.out.blk.below HB6.out HP.out.blk.lt; have g0 := k6.cell 0; simp only [List.getElem?_toArray, List.getElem?_cons_zero] at g0; clear happ k6)
              | (at_builtin; refine wpList_append_sh _ rfl (.tmp 53) (.tmp 59) _ rfl w1.heap.size 74 i0 _ 4 72 Tryz.underlying27 hi0' hz0 hz1' hz2 rfl (by omega) _ (k + 1) _ rfl HAP.out.1 _ _ (l.length - k) (TCs (l.drop k)) rfl (HR.out.2.1.after HB6.out) HR.out.2.2.2 (by simp only [maxLen]; omega) (by omega) (by exact HB6.out.size) ?_; intro A8 c8 w8 happ8; have HAP8 := Lib.hid happ8; have HB8 := Lib.hid (below_of_app HB6.out HAP.out.1 happ8); have k8 := HP.out.blk.below HB8.out HP.out.blk.lt; have j0 := k8.cell 0; have j1 := k8.frozen 0; have k9 := HB.out.2.below HB8.out HB.out.2.lt; have HK9 := Lib.hid k9; have q0 := k9.cell 0; have q1 := k9.cell 1; have qf0 := k9.frozen 0; have qf1 := k9.frozen 1; simp only [List.getElem?_toArray, List.getElem?_cons_zero, List.getElem?_cons_succ] at j0 q0 q1; clear happ8 k8 k9))
            refine bodyPost_ret (Qb.results_row1 rfl _ _ w.heap.size 30 #[.int .i64 0, .int .i64 0] (0, 0) _ rfl (blk2 (HK9.out.far (p := ⟨q, 0, none⟩) (by show w.heap.size ≠ q; omega) _) _ _) Tryz.underlying30 rfl size_res) rfl ?_
            exact ⟨by rw [HE.out], rcreate_end HL.out HP.out hk HZR.out HSTOP.out HE.out HB.out.1 HB.out.2.lt HB8.out HAP8.out.1⟩
end Go.Proofs.YtkoedonllfmaaaaGreat.Xr

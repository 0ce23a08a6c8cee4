/-
  Layer 8 (request): a table beside its ledger; the contracts of madeTable, madeLedger, clone.
-/
import Derived.Test.YtebjjkhiniccgaaGreatJe
import Derived.Test.YtebjjkhiniccgaaGreatQg
import Derived.Test.YtebjjkhiniccgaaGreatW1
import Derived.Test.YtebjjkhiniccgaaGreatW2
namespace Go.Proofs.YtebjjkhiniccgaaGreat.Jf
set_option linter.unusedSimpArgs false
open Go Go.RowKit Ck Kw Ga Kf Pm Pe Pg Pk Py Qb Qg Ik Lk Jm Ja Jb Jd
attribute [local go_sem ↓] Go.wp_at_zero Go.wp_at_succ
set_option linter.unusedVariables false
set_option maxRecDepth 100000

/-- A table and a ledger, apart, all of them in blocks of S that are there. -/
def TL (w : World) (S : Nat → Prop) (p g : Nat) (L : List (List UInt8)) (G : List Sg) : Prop :=
  ∃ S1 S2, Tb w S1 p L ∧ Lg w S2 g G ∧ (∀ k, S1 k → S2 k → False) ∧ (∀ k, S1 k → S k ∧ k < w.heap.size) ∧ (∀ k, S2 k → S k ∧ k < w.heap.size)
section
variable {w w' : World} {S T : Nat → Prop} {p g : Nat} {L L' : List (List UInt8)} {G G' : List Sg}
theorem TL.ch {X : Nat → Prop} (h : TL w S p g L G) (c : Ch X w w') (hd : ∀ k, S k → X k → False) : TL w' S p g L G := by
  obtain ⟨S1, S2, h1, h2, h3, h4, h5⟩ := h
  exact ⟨S1, S2, h1.ch c (fun k hk hx => hd k (h4 k hk).1 hx), h2.ch c (fun k hk hx => hd k (h5 k hk).1 hx), h3, fun k hk => ⟨(h4 k hk).1, Nat.lt_of_lt_of_le (h4 k hk).2 c.size⟩, fun k hk => ⟨(h5 k hk).1, Nat.lt_of_lt_of_le (h5 k hk).2 c.size⟩⟩
theorem TL.later (h : TL w S p g L G) (b : Below w.heap.size w w') : TL w' S p g L G := h.ch (Ch.of_below (S := fun _ => False) b (Nat.le_refl _)) (fun _ _ h => h)
theorem TL.weaken (h : TL w S p g L G) (hk : ∀ k, k < w.heap.size → S k → T k) : TL w T p g L G := by
  obtain ⟨S1, S2, h1, h2, h3, h4, h5⟩ := h
  exact ⟨S1, S2, h1, h2, h3, fun k hk' => ⟨hk k (h4 k hk').2 (h4 k hk').1, (h4 k hk').2⟩, fun k hk' => ⟨hk k (h5 k hk').2 (h5 k hk').1, (h5 k hk').2⟩⟩
theorem TL.lt (h : TL w S p g L G) : p < w.heap.size ∧ g < w.heap.size := by
  obtain ⟨S1, S2, ⟨m, tv, D, h1, -⟩, ⟨m2, tv2, D2, h2, -⟩, _⟩ := h
  exact ⟨h1.lt, h2.lt⟩
/-- S, and what is new. -/
def Nw (S : Nat → Prop) (a b : Nat) (k : Nat) : Prop := S k ∨ (a ≤ k ∧ k < b)
/-- The table was asked. -/
theorem TL.table (h : TL w S p g L G) (hc : ∀ S1, Tb w S1 p L → Tb w' (Up S1 w w') p L' ∧ Ch S1 w w') : TL w' (Nw S w.heap.size w'.heap.size) p g L' G ∧ Ch S w w' := by
  obtain ⟨S1, S2, h1, h2, h3, h4, h5⟩ := h
  obtain ⟨q1, q2⟩ := hc S1 h1
  have hs := q2.size
  refine ⟨⟨Up S1 w w', S2, q1, h2.ch q2 (fun k hk hx => h3 k hx hk), ?_, ?_, ?_⟩, q2.mono (fun k _ hk => (h4 k hk).1)⟩
  · rintro k (hk | hk) hk2
    · exact h3 k hk hk2
    · have := (h5 k hk2).2; omega
  · rintro k (hk | hk)
    · exact ⟨.inl (h4 k hk).1, by have := (h4 k hk).2; omega⟩
    · exact ⟨.inr hk, hk.2⟩
  · intro k hk
    exact ⟨.inl (h5 k hk).1, by have := (h5 k hk).2; omega⟩
/-- The ledger was asked. -/
theorem TL.ledger (h : TL w S p g L G) (hc : ∀ S2, Lg w S2 g G → Lg w' (Up S2 w w') g G' ∧ Ch S2 w w') : TL w' (Nw S w.heap.size w'.heap.size) p g L G' ∧ Ch S w w' := by
  obtain ⟨S1, S2, h1, h2, h3, h4, h5⟩ := h
  obtain ⟨q1, q2⟩ := hc S2 h2
  have hs := q2.size
  refine ⟨⟨S1, Up S2 w w', h1.ch q2 (fun k hk hx => h3 k hk hx), q1, ?_, ?_, ?_⟩, q2.mono (fun k _ hk => (h5 k hk).1)⟩
  · rintro k hk2 (hk | hk)
    · exact h3 k hk2 hk
    · have := (h4 k hk2).2; omega
  · intro k hk
    exact ⟨.inl (h4 k hk).1, by have := (h4 k hk).2; omega⟩
  · rintro k (hk | hk)
    · exact ⟨.inl (h5 k hk).1, by have := (h5 k hk).2; omega⟩
    · exact ⟨.inr hk, hk.2⟩
theorem nw_two {a b c : Nat} (h : a ≤ b) (h' : b ≤ c) {k : Nat} (hk : Nw (Nw S a b) b c k) : Nw S a c k := by
  rcases hk with (hk | hk) | hk
  · exact .inl hk
  · exact .inr ⟨hk.1, by omega⟩
  · exact .inr ⟨by omega, hk.2⟩
end

set_option maxHeartbeats 1000000 in
theorem madet_any (w : World) (S : Nat → Prop) (p : Nat) (L : List (List UInt8)) (h : Tb w S p L) :
    Calls Tryz.prog 44 #[.pointer (some ⟨p, 0, none⟩)] w fun e w' => e = .returned (.bool true) ∧ Below w.heap.size w w' := by
  have HL := Lib.hid (Ia.len_yes w S p L h)
  have HT := Lib.hid (Ig.tclone_any w S p L h)
  clear h
  generalize L.length = n at *
  by_cases h0 : 0 < n
  · have hd : decide (0 < (n : Int)) = true := decide_eq_true (by omega)
    have hd2 : decide (0 < n) = true := decide_eq_true h0
    clear h0
    go_enter Tryz.func44, Tryz.ntmps44
    go_wp2_with fail
    refine HL.out.mono ?_
    rintro e w1 ⟨rfl, rfl⟩
    go_wp2_with fail
    go_ret
    exact ⟨rfl, Below.refl _ _⟩
  · have hd : decide (0 < (n : Int)) = false := decide_eq_false (by omega)
    have hd2 : decide (0 < n) = false := decide_eq_false h0
    clear h0
    go_enter Tryz.func44, Tryz.ntmps44
    go_wp2_with fail
    refine HL.out.mono ?_
    rintro e w1 ⟨rfl, rfl⟩
    go_wp2_with fail
    refine HT.out.mono ?_
    rintro e w2 ⟨p', rfl, -, hb⟩
    have HB := Lib.hid hb
    clear hb
    go_wp2_with fail
    go_ret
    exact ⟨rfl, HB.out⟩
set_option maxHeartbeats 1000000 in
theorem madel_any (w : World) (S : Nat → Prop) (p : Nat) (G : List Sg) (h : Lg w S p G) (hG : G.length * 16 ≤ 140737488355328) :
    Calls Tryz.prog 45 #[.pointer (some ⟨p, 0, none⟩)] w fun e w' => e = .returned (.bool true) ∧ Below w.heap.size w w' := by
  have HL := Lib.hid (La.len_yes w S p G h)
  have HT := Lib.hid (La.lclone_any w S p G h hG)
  clear h hG
  generalize G.length = n at *
  by_cases h0 : 0 < n
  · have hd : decide (0 < (n : Int)) = true := decide_eq_true (by omega)
    have hd2 : decide (0 < n) = true := decide_eq_true h0
    clear h0
    go_enter Tryz.func45, Tryz.ntmps45
    go_wp2_with fail
    refine HL.out.mono ?_
    rintro e w1 ⟨rfl, rfl⟩
    go_wp2_with fail
    go_ret
    exact ⟨rfl, Below.refl _ _⟩
  · have hd : decide (0 < (n : Int)) = false := decide_eq_false (by omega)
    have hd2 : decide (0 < n) = false := decide_eq_false h0
    clear h0
    go_enter Tryz.func45, Tryz.ntmps45
    go_wp2_with fail
    refine HL.out.mono ?_
    rintro e w1 ⟨rfl, rfl⟩
    go_wp2_with fail
    refine HT.out.mono ?_
    rintro e w2 ⟨p', rfl, -, hb⟩
    have HB := Lib.hid hb
    clear hb
    go_wp2_with fail
    go_ret
    exact ⟨rfl, HB.out⟩

theorem size_req : (Tryz.prog.info? 27).map (·.size) = some 7 := by kernel_rfl
/-- The cells of no request, of no signed one. -/
def Z7 : Array Value := #[.int .i64 0, .int .i64 0, .int .i64 0, .string ⟨#[]⟩, .string ⟨#[]⟩, .int .i64 0, .slice none 0 0]
def Z9 : Array Value := #[.int .i64 0, .int .i64 0, .int .i64 0, .string ⟨#[]⟩, .string ⟨#[]⟩, .int .i64 0, .slice none 0 0, .int .i64 0, .int .i64 0]
theorem blk7 {w : World} {g : Nat} {t : TypeId} {a b c d e f h x0 x1 x2 x3 x4 x5 x6 : Value} (hb : Blk w g t #[a, b, c, d, e, f, h]) :
    Blk (((((((w.setCell ⟨g, 0, none⟩ x0).setCell ⟨g, 1, none⟩ x1).setCell ⟨g, 2, none⟩ x2).setCell ⟨g, 3, none⟩ x3).setCell ⟨g, 4, none⟩ x4).setCell ⟨g, 5, none⟩ x5).setCell ⟨g, 6, none⟩ x6) g t #[x0, x1, x2, x3, x4, x5, x6] := by
  have := ((((((hb.set_ 0 x0).set_ 1 x1).set_ 2 x2).set_ 3 x3).set_ 4 x4).set_ 5 x5).set_ 6 x6
  simpa using this
theorem blk9 {w : World} {g : Nat} {t : TypeId} {a b c d e f h i j x0 x1 x2 x3 x4 x5 x6 x7 x8 : Value} (hb : Blk w g t #[a, b, c, d, e, f, h, i, j]) :
    Blk (((((((((w.setCell ⟨g, 0, none⟩ x0).setCell ⟨g, 1, none⟩ x1).setCell ⟨g, 2, none⟩ x2).setCell ⟨g, 3, none⟩ x3).setCell ⟨g, 4, none⟩ x4).setCell ⟨g, 5, none⟩ x5).setCell ⟨g, 6, none⟩ x6).setCell ⟨g, 7, none⟩ x7).setCell ⟨g, 8, none⟩ x8) g t #[x0, x1, x2, x3, x4, x5, x6, x7, x8] := by
  have := ((((((((hb.set_ 0 x0).set_ 1 x1).set_ 2 x2).set_ 3 x3).set_ 4 x4).set_ 5 x5).set_ 6 x6).set_ 7 x7).set_ 8 x8
  simpa using this
theorem blk5at2 {w : World} {g : Nat} {t : TypeId} {a b c d e f h x2 x3 x4 x5 x6 : Value} (hb : Blk w g t #[a, b, c, d, e, f, h]) :
    Blk (((((w.setCell ⟨g, 2, none⟩ x2).setCell ⟨g, 3, none⟩ x3).setCell ⟨g, 4, none⟩ x4).setCell ⟨g, 5, none⟩ x5).setCell ⟨g, 6, none⟩ x6) g t #[a, b, x2, x3, x4, x5, x6] := by
  have := ((((hb.set_ 2 x2).set_ 3 x3).set_ 4 x4).set_ 5 x5).set_ 6 x6
  simpa using this
theorem ch5 {a w : World} {g : Nat} {x2 x3 x4 x5 x6 : Value} (h : Ch (fun k => k = g) a w) :
    Ch (fun k => k = g) a (((((w.setCell ⟨g, 2, none⟩ x2).setCell ⟨g, 3, none⟩ x3).setCell ⟨g, 4, none⟩ x4).setCell ⟨g, 5, none⟩ x5).setCell ⟨g, 6, none⟩ x6) :=
  ((((h.setCell (fun _ => rfl) _).setCell (fun _ => rfl) _).setCell (fun _ => rfl) _).setCell (fun _ => rfl) _).setCell (fun _ => rfl) _
theorem ch7 {a w : World} {g : Nat} {x0 x1 x2 x3 x4 x5 x6 : Value} (h : Ch (fun k => k = g) a w) :
    Ch (fun k => k = g) a (((((((w.setCell ⟨g, 0, none⟩ x0).setCell ⟨g, 1, none⟩ x1).setCell ⟨g, 2, none⟩ x2).setCell ⟨g, 3, none⟩ x3).setCell ⟨g, 4, none⟩ x4).setCell ⟨g, 5, none⟩ x5).setCell ⟨g, 6, none⟩ x6) :=
  ((((((h.setCell (fun _ => rfl) _).setCell (fun _ => rfl) _).setCell (fun _ => rfl) _).setCell (fun _ => rfl) _).setCell (fun _ => rfl) _).setCell (fun _ => rfl) _).setCell (fun _ => rfl) _
theorem ch9 {a w : World} {g : Nat} {x0 x1 x2 x3 x4 x5 x6 x7 x8 : Value} (h : Ch (fun k => k = g) a w) :
    Ch (fun k => k = g) a (((((((((w.setCell ⟨g, 0, none⟩ x0).setCell ⟨g, 1, none⟩ x1).setCell ⟨g, 2, none⟩ x2).setCell ⟨g, 3, none⟩ x3).setCell ⟨g, 4, none⟩ x4).setCell ⟨g, 5, none⟩ x5).setCell ⟨g, 6, none⟩ x6).setCell ⟨g, 7, none⟩ x7).setCell ⟨g, 8, none⟩ x8) :=
  ((((((((h.setCell (fun _ => rfl) _).setCell (fun _ => rfl) _).setCell (fun _ => rfl) _).setCell (fun _ => rfl) _).setCell (fun _ => rfl) _).setCell (fun _ => rfl) _).setCell (fun _ => rfl) _).setCell (fun _ => rfl) _).setCell (fun _ => rfl) _
theorem Blk.cells7 {W : World} {g : Nat} {t : TypeId} {a b c d e f h : Value} (hb : Blk W g t #[a, b, c, d, e, f, h]) :
    (W.cell? ⟨g, 0, none⟩ = some a ∧ W.cell? ⟨g, 1, none⟩ = some b ∧ W.cell? ⟨g, 2, none⟩ = some c ∧ W.cell? ⟨g, 3, none⟩ = some d ∧ W.cell? ⟨g, 4, none⟩ = some e ∧ W.cell? ⟨g, 5, none⟩ = some f ∧ W.cell? ⟨g, 6, none⟩ = some h) ∧
    (W.frozen? ⟨g, 0, none⟩ = false ∧ W.frozen? ⟨g, 1, none⟩ = false ∧ W.frozen? ⟨g, 2, none⟩ = false ∧ W.frozen? ⟨g, 3, none⟩ = false ∧ W.frozen? ⟨g, 4, none⟩ = false ∧ W.frozen? ⟨g, 5, none⟩ = false ∧ W.frozen? ⟨g, 6, none⟩ = false) :=
  ⟨⟨hb.cell 0, hb.cell 1, hb.cell 2, hb.cell 3, hb.cell 4, hb.cell 5, hb.cell 6⟩, ⟨hb.frozen 0, hb.frozen 1, hb.frozen 2, hb.frozen 3, hb.frozen 4, hb.frozen 5, hb.frozen 6⟩⟩
theorem Blk.cells9 {W : World} {g : Nat} {t : TypeId} {a b c d e f h i j : Value} (hb : Blk W g t #[a, b, c, d, e, f, h, i, j]) :
    (W.cell? ⟨g, 0, none⟩ = some a ∧ W.cell? ⟨g, 1, none⟩ = some b ∧ W.cell? ⟨g, 2, none⟩ = some c ∧ W.cell? ⟨g, 3, none⟩ = some d ∧ W.cell? ⟨g, 4, none⟩ = some e ∧ W.cell? ⟨g, 5, none⟩ = some f ∧ W.cell? ⟨g, 6, none⟩ = some h ∧ W.cell? ⟨g, 7, none⟩ = some i ∧ W.cell? ⟨g, 8, none⟩ = some j) ∧
    (W.frozen? ⟨g, 0, none⟩ = false ∧ W.frozen? ⟨g, 1, none⟩ = false ∧ W.frozen? ⟨g, 2, none⟩ = false ∧ W.frozen? ⟨g, 3, none⟩ = false ∧ W.frozen? ⟨g, 4, none⟩ = false ∧ W.frozen? ⟨g, 5, none⟩ = false ∧ W.frozen? ⟨g, 6, none⟩ = false ∧ W.frozen? ⟨g, 7, none⟩ = false ∧ W.frozen? ⟨g, 8, none⟩ = false) :=
  ⟨⟨hb.cell 0, hb.cell 1, hb.cell 2, hb.cell 3, hb.cell 4, hb.cell 5, hb.cell 6, hb.cell 7, hb.cell 8⟩, ⟨hb.frozen 0, hb.frozen 1, hb.frozen 2, hb.frozen 3, hb.frozen 4, hb.frozen 5, hb.frozen 6, hb.frozen 7, hb.frozen 8⟩⟩

/-- A request's clone. -/
def ClonedQ (w : World) (q : Q) (e : Ending) (w' : World) : Prop := ∃ A c, e = .returned (QV q A c) ∧ Ls w' (fun k => k < w.heap.size) (.slice A q.o.recs.length c) q.o.recs ∧ Below w.heap.size w w'
theorem fin {w w2 w3 : World} {q : Q} {A : Option Addr} {c : Nat} (h : Ls w2 (fun k => k < w.heap.size + 2) (.slice A q.o.recs.length c) q.o.recs) (b : Below w.heap.size w w2) (hc : Ch (fun k => w.heap.size ≤ k ∧ k < w.heap.size + 2) w2 w3) :
    ClonedQ w q (.returned (QV q A c)) w3 :=
  ⟨A, c, rfl, (h.ch hc (fun k _ hk => hk.2)).weaken (fun k _ hk => by omega), b.trans (hc.below (fun k hk h => by omega) b.size)⟩
set_option maxHeartbeats 2000000 in
theorem qclone_any (w : World) (q : Q) (X : Nat → Prop) (A : Option Addr) (c : Nat) (hls : Ls w X (.slice A q.o.recs.length c) q.o.recs) (hlo : far q.o 140737488351232) :
    Calls Tryz.prog 49 #[QV q A c] w (ClonedQ w q) := by
  have b1 := op_below w (.cells (QC q A c) 27)
  have b2 : Below w.heap.size w ((w.alloc (.cells (QC q A c) 27)).alloc (.cells Z7 27)) := b1.alloc b1.size _
  have k0 : QB ((w.alloc (.cells (QC q A c) 27)).alloc (.cells Z7 27)) w.heap.size q A c := Blk.alloc (Blk.new w _ _) _
  have k1 : Blk ((w.alloc (.cells (QC q A c) 27)).alloc (.cells Z7 27)) (w.heap.size + 1) 27 Z7 := Blk.new_at (by simp) rfl
  have HC := Lib.hid (Qg.clone_any _ q.o X A c (hls.after b2) hlo)
  obtain ⟨a0, a1, a2, a3, a4, a5, a6⟩ := k0.cells
  have HB := Lib.hid b2
  have HK0 := Lib.hid k0
  have HK1 := Lib.hid k1
  clear b1 b2 k0 k1 hls hlo
  unfold QV
  unfold OV at HC
  unfold QC Z7 at HC HB HK0 HK1 a0 a1 a2 a3 a4 a5 a6
  unfold QC
  go_enter Tryz.func49, Tryz.ntmps49
  go_wp2_with fail
  refine HC.out.mono ?_
  rintro e w2 ⟨A2, c2, vals, rfl, hcl⟩
  have HLS : Hid (Ls w2 (fun k => k < w.heap.size + 2) (.slice A2 q.o.recs.length c2) q.o.recs) := Lib.hid (hcl.ls.weaken (fun k _ h => by simp at h ⊢; omega))
  have hb2 := hcl.below
  have HB2 := Lib.hid (HB.out.trans (hb2.mono HB.out.size))
  have hq2 : Blk w2 w.heap.size 27 _ := Blk.below HK0.out hb2 (Blk.lt HK0.out)
  have hr2 : Blk w2 (w.heap.size + 1) 27 _ := Blk.below HK1.out hb2 (Blk.lt HK1.out)
  clear hcl hb2 a0 a1 a2 a3 a4 a5 a6
  unfold QC at hq2
  obtain ⟨⟨a0, a1, a2, a3, a4, a5, a6⟩, ⟨f0, f1, f2, f3, f4, f5, f6⟩⟩ := Blk.cells7 hq2
  obtain ⟨⟨z0, z1, z2, z3, z4, z5, z6⟩, ⟨y0, y1, y2, y3, y4, y5, y6⟩⟩ := Blk.cells7 hr2
  have HQ2 := Lib.hid hq2
  have HR2 := Lib.hid hr2
  clear hq2 hr2
  unfold OV
  go_wp2_with fail
  refine bodyPost_ret (results_row1 rfl _ _ (w.heap.size + 1) 27 #[.int .i64 q.client, .int .i64 q.time, .int .i64 q.o.kind, .string ⟨q.o.topic.toArray⟩, .string ⟨q.o.group.toArray⟩, .int .i64 q.o.off, .slice A2 q.o.recs.length c2] (0, 0) _ rfl (blk7 (Blk.ch HR2.out (ch5 (Ch.refl _ _)) (by omega))) Tryz.underlying27 rfl size_req) rfl ?_
  exact fin HLS.out HB2.out (((ch5 (g := w.heap.size) (Ch.refl _ w2)).mono (fun k _ hk => by omega)).trans (ch7 (g := w.heap.size + 1) (Ch.refl _ _)) (fun k _ hk => by omega))
end Go.Proofs.YtebjjkhiniccgaaGreat.Jf

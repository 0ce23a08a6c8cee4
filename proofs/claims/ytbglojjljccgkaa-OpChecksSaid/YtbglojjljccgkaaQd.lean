/-
  Layer 6 (op): the walk of the statement OpReads.
-/
import Derived.Test.YtbglojjljccgkaaQu
import Derived.Test.YtbglojjljccgkaaQs
import Derived.Test.YtbglojjljccgkaaPl
import Derived.Deep.RegionHeld3
import Derived.Laws.StructEq
import Derived.Outline
namespace Go.Proofs.Ytbglojjljccgkaa.Qd
open Go Go.RowKit Ck Kw Ca Cb Ce Cf Cg Ch Ci Cj Cn Co Pm Pa Pe Pf Pg Ph Ppi Pk Pl Pp Qb Qc Qt Qu Qs
attribute [local go_sem ↓] Go.wp_at_zero Go.wp_at_succ
set_option linter.unusedVariables false

theorem sameO_refl (a : O) : sameO a a = true := by simp [sameO]
/-- An operation's cells, kept in a block. -/
structure KO (W : World) (B g : Nat) (o : O) (A : Option Addr) (c : Nat) : Prop where
  op : OB W g o A c
  new : B ≤ g
  ls : Ls W (fun k => k < B) (.slice A o.recs.length c) o.recs
theorem KO.later {W W' : World} {B g : Nat} {o : O} {A : Option Addr} {c : Nat} (h : KO W B g o A c) (hb : Below W.heap.size W W') : KO W' B g o A c := ⟨Blk.below h.op hb (Blk.lt h.op), h.new, h.ls.after hb⟩
theorem KO.oi {W : World} {B g : Nat} {o : O} {A : Option Addr} {c : Nat} (h : KO W B g o A c) : OI W (fun k => k < B) (OV o A c) o := ⟨A, c, rfl, h.ls⟩
theorem ko_new {W w0 : World} {o : O} {A : Option Addr} {c : Nat} (hB : w0.heap.size ≤ W.heap.size) (hls : Ls W (fun k => k < w0.heap.size) (.slice A o.recs.length c) o.recs) : KO (W.alloc (.cells (OC o A c) 27)) w0.heap.size W.heap.size o A c :=
  ⟨Blk.new _ _ _, hB, hls.after ((Below.refl _ W).alloc (Nat.le_refl _) _)⟩
theorem al_below (W : World) (o : Obj) : Below W.heap.size W (W.alloc o) := (Below.refl _ W).alloc (Nat.le_refl _) _
theorem OB.cells' {W : World} {g : Nat} {o : O} {A : Option Addr} {c : Nat} (h : OB W g o A c) :
    W.cell? ⟨g, 0, none⟩ = some (.int .i64 o.kind) ∧ W.cell? ⟨g, 1, none⟩ = some (.string ⟨o.topic.toArray⟩) ∧ W.cell? ⟨g, 2, none⟩ = some (.string ⟨o.group.toArray⟩) ∧ W.cell? ⟨g, 3, none⟩ = some (.int .i64 o.off) ∧ W.cell? ⟨g, 4, none⟩ = some (.slice A o.recs.length c) := h.cells

/-- Both readers stand there, at the same place. -/
structure TW (w0 : World) (B gr gs : Nat) (s : Cm.RS) (W : World) : Prop where
  below : Below w0.heap.size w0 W
  r : CR W (fun k => B ≤ k) gr s
  s : RR W (fun k => w0.heap.size ≤ k) gs s
  hr : w0.heap.size ≤ gr ∧ gr < B
  hs : B ≤ gs
  hB : w0.heap.size ≤ B
theorem TW.later {w0 W W' : World} {B gr gs : Nat} {s : Cm.RS} (h : TW w0 B gr gs s W) (hb : Below W.heap.size W W') : TW w0 B gr gs s W' :=
  ⟨h.below.trans (hb.mono h.below.size), h.r.after hb, h.s.after hb, h.hr, h.hs, h.hB⟩
/-- The first reader went on, and then the second. -/
theorem TW.both {w0 W W1 W2 : World} {B gr gs : Nat} {s s' : Cm.RS} (h : TW w0 B gr gs s W) (hg1 : W.grownBy W1 (some gr)) (hc1 : CR W1 (fun k => B ≤ k) gr s') (hg2 : W1.grownBy W2 (some gs)) (hc2 : RR W2 (fun k => w0.heap.size ≤ k) gs s') : TW w0 B gr gs s' W2 := by
  have h1 := h.hr
  have h2 := h.hs
  have h3 := h.hB
  have b1 : Below w0.heap.size w0 W1 := h.below.grown hg1 h.below.size (fun q hq => by injection hq with hq; omega)
  exact ⟨b1.grown hg2 b1.size (fun q hq => by injection hq with hq; omega), hc1.grown hg2 (by simp; omega) (fun q hq _ => by injection hq with hq; show B ≤ q; omega), hc2, h.hr, h.hs, h.hB⟩
theorem TW.mid {w0 W W1 : World} {B gr gs : Nat} {s : Cm.RS} (h : TW w0 B gr gs s W) (hg1 : W.grownBy W1 (some gr)) : RR W1 (fun k => w0.heap.size ≤ k) gs s := by
  have h1 := h.hr
  have h2 := h.hs
  exact h.s.grown hg1 (by simp; omega) (fun q hq _ => by injection hq with hq; show w0.heap.size ≤ q; omega)

theorem guard_res : Try.prog.eqGuardType Try.prog.depth 35 = false := by kernel_rfl
theorem stood_res : Try.prog.stoodInHeld 35 = false := by kernel_rfl
theorem fields_res : Try.prog.underlying 35 = some (.struct (Try.prog.fieldsOf 35)) := by kernel_rfl
theorem run_eql_res (W : World) (a b : Int) : (binOp .eql 35 (.agg #[.int .i64 a, .int .i64 b]) (.agg #[.int .i64 a, .int .i64 b])).run Try.prog W = .ok (.bool true) W := by
  have key : ∀ d, (Op.equalIn (d + 1 + 1) 35 (.agg #[.int .i64 a, .int .i64 b]) (.agg #[.int .i64 a, .int .i64 b])).run Try.prog W = .ok true W := fun d => by
    rw [run_equalIn_struct W (d + 1) 35 _ _ fields_res stood_res]
    have hf : (Try.prog.fieldsOf 35).toList = [{ name := "Err", type := 28, offset := 0, embedded := false, tag := "", pkgPath := "", byteOffset := 0 }, { name := "Offset", type := 2, offset := 1, embedded := false, tag := "", pkgPath := "", byteOffset := 8 }] := by kernel_rfl
    rw [hf]
    have h1 := fun (x y : Int) (W : World) => run_equalIn_int (P := Try.prog) W d 28 .i64 .i64 x y Try.underlying28
    have h2 := fun (x y : Int) (W : World) => run_equalIn_int (P := Try.prog) W d 2 .i64 .i64 x y Try.underlying2
    have p1 : ∀ (u v : Value) (W : World), (part 28 #[u, v] 0).run Try.prog W = .ok u W := fun u v W => by simp [part, isAgg, run_underlying Try.underlying28]
    have p2 : ∀ (u v : Value) (W : World), (part 2 #[u, v] 1).run Try.prog W = .ok v W := fun u v W => by simp [part, isAgg, run_underlying Try.underlying2]
    simp [Op.eqFields, p1, p2, h1, h2, Result.andThen]
  rw [run_eql_struct, show (10000 : Nat) = 9998 + 1 + 1 from rfl, key]
  rfl

theorem tw_start {w W W1 W2 : World} {gr : Nat} {b : Tx} (h0 : Below w.heap.size w W) (hc : CR W1 (fun k => k < W.heap.size) gr (b, 0)) (hg : W.heap.size ≤ gr) (hb1 : Below W.heap.size W W1) (hr : RR W2 (fun k => w.heap.size ≤ k) W1.heap.size (b, 0)) (hb2 : Below W1.heap.size W1 W2) :
    TW w W1.heap.size gr W1.heap.size (b, 0) W2 := by
  have l1 := hc.lt
  have s0 := h0.size
  have s1 := hb1.size
  refine ⟨(h0.trans (hb1.mono s0)).trans (hb2.mono (by omega)), ?_, hr, ⟨by omega, l1⟩, Nat.le_refl _, by omega⟩
  exact ((hc.old (Nat.le_refl _)).after hb2).weaken (fun k _ hk => .inr hk)


theorem run_eql_res' (a b : Int) : ∀ W, (binOp .eql 35 (.agg #[.int .i64 a, .int .i64 b]) (.agg #[.int .i64 a, .int .i64 b])).run Try.prog W = .ok (.bool true) W := fun W => run_eql_res W a b
theorem two_cells {W : World} {g g' B : Nat} {u v e : Int} (h1 : Blk W g 35 #[.int .i64 u, .int .i64 v]) (h2 : Blk W g' 35 #[.int .i64 u, .int .i64 v]) (h3 : W.cell? ⟨B, 1, none⟩ = some (.int .i64 e)) :
    W.cell? ⟨g, 0, none⟩ = some (.int .i64 u) ∧ W.cell? ⟨g, 1, none⟩ = some (.int .i64 v) ∧ W.cell? ⟨g', 0, none⟩ = some (.int .i64 u) ∧ W.cell? ⟨g', 1, none⟩ = some (.int .i64 v) ∧ W.cell? ⟨B, 1, none⟩ = some (.int .i64 e) := by
  have a := h1.cell 0
  have b := h1.cell 1
  have c := h2.cell 0
  have d := h2.cell 1
  simp only [List.getElem?_toArray, List.getElem?_cons_zero, List.getElem?_cons_succ] at a b c d
  exact ⟨a, b, c, d, h3⟩
/-- Both operations that were taken, and both readers. -/
structure XS (w0 : World) (B gr gs g : Nat) (x : O) (A : Option Addr) (c : Nat) (A' : Option Addr) (c' : Nat) (s : Cm.RS) (W : World) : Prop where
  tw : TW w0 B gr gs s W
  kx : KO W w0.heap.size g x A c
  ky : KO W w0.heap.size (g + 1) x A' c'
theorem XS.later {w0 W W' : World} {B gr gs g : Nat} {x : O} {A : Option Addr} {c : Nat} {A' : Option Addr} {c' : Nat} {s : Cm.RS} (h : XS w0 B gr gs g x A c A' c' s W) (hb : Below W.heap.size W W') : XS w0 B gr gs g x A c A' c' s W' := ⟨h.tw.later hb, h.kx.later hb, h.ky.later hb⟩
theorem XS.drew {w0 W : World} {B gr gs g : Nat} {x : O} {A : Option Addr} {c : Nat} {A' : Option Addr} {c' : Nat} {s : Cm.RS} (h : XS w0 B gr gs g x A c A' c' s W) : XS w0 B gr gs g x A c A' c' s W.drew := h.later (below_drewN (Below.refl _ W) 1)
theorem TW.err {w0 W : World} {B gr gs : Nat} {s : Cm.RS} (h : TW w0 B gr gs s W) : W.cell? ⟨gs, 1, none⟩ = some (.int .i64 s.2) := by
  obtain ⟨A, n, c, hb, -⟩ := h.s
  have q := hb.cell 1
  simpa using q
theorem XS.cells {w0 W : World} {B gr gs g : Nat} {x : O} {A : Option Addr} {c : Nat} {A' : Option Addr} {c' : Nat} {s : Cm.RS} (h : XS w0 B gr gs g x A c A' c' s W) :
    W.cell? ⟨g, 0, none⟩ = some (.int .i64 x.kind) ∧ W.cell? ⟨g, 1, none⟩ = some (.string ⟨x.topic.toArray⟩) ∧ W.cell? ⟨g, 2, none⟩ = some (.string ⟨x.group.toArray⟩) ∧ W.cell? ⟨g, 3, none⟩ = some (.int .i64 x.off) ∧ W.cell? ⟨g, 4, none⟩ = some (.slice A x.recs.length c)
    ∧ W.cell? ⟨g + 1, 0, none⟩ = some (.int .i64 x.kind) ∧ W.cell? ⟨g + 1, 1, none⟩ = some (.string ⟨x.topic.toArray⟩) ∧ W.cell? ⟨g + 1, 2, none⟩ = some (.string ⟨x.group.toArray⟩) ∧ W.cell? ⟨g + 1, 3, none⟩ = some (.int .i64 x.off) ∧ W.cell? ⟨g + 1, 4, none⟩ = some (.slice A' x.recs.length c')
    ∧ W.cell? ⟨gs, 1, none⟩ = some (.int .i64 s.2) := by
  obtain ⟨a0, a1, a2, a3, a4⟩ := h.kx.op.cells
  obtain ⟨b0, b1, b2, b3, b4⟩ := h.ky.op.cells
  exact ⟨a0, a1, a2, a3, a4, b0, b1, b2, b3, b4, h.tw.err⟩

set_option maxRecDepth 100000 in
set_option maxHeartbeats 8000000 in
theorem opreads_any (w : World) (A0 : Option Addr) (c0 : Nat) (b : Tx) (hb : Sl w (fun k => w.heap.size ≤ k) 1 (.slice A0 b.length c0) b.length (BVs b)) (hbl : b.length ≤ 140737488351232) :
    Calls Try.prog 6 #[.slice A0 b.length c0] w fun e w' => e = .returned (.bool true) ∧ Below w.heap.size w w' := by
  have HSB := Lib.hid hb
  have HBL : Hid (b.length ≤ 140737488355328) := Lib.hid (by omega)
  have HP := Lib.hid (parse_any w _ _ _ b hb HBL.out)
  have HPR := Lib.hid (parse_recs b)
  have HTR := Lib.hid (take_recs (b, 0))
  clear hb hbl
  generalize hP : parse b = P at *
  have HRP : Hid (∀ W, Below w.heap.size w W → Calls Try.prog 28 #[.slice A0 b.length c0] W (Parsed W P)) := Lib.hid fun W hw => by
    rw [← hP]
    exact rparse_any W _ _ _ b (HSB.out.after hw) HBL.out
  clear hP
  obtain ⟨o, d⟩ := P
  have hdd : (d != d) = false := by simp
  have hse := sameO_refl o
  go_enter Try.func6, Try.ntmps6
  go_wp2_with fail
  refine HP.out.mono ?_
  rintro e w1 ⟨v1, rfl, ⟨A1, c1, rfl, hls1⟩, hb1⟩
  simp only at hls1
  have HK1 := Lib.hid (ko_new hb1.size hls1)
  have HB1 : Hid (Below w.heap.size w (w1.alloc (.cells (OC o A1 c1) 27))) := Lib.hid (hb1.alloc hb1.size _)
  have HR1 := Lib.hid (HRP.out _ HB1.out)
  clear hls1 hb1
  unfold OV
  unfold OC at HR1
  simp only
  go_wp2_with fail
  refine HR1.out.mono ?_
  rintro e w2 ⟨v2, rfl, ⟨A2, c2, rfl, hls2⟩, hb2⟩
  have hb2 : Below (w1.alloc (.cells (OC o A1 c1) 27)).heap.size (w1.alloc (.cells (OC o A1 c1) 27)) w2 := hb2
  have hB2 := HB1.out.trans (hb2.mono HB1.out.size)
  have hls2' : Ls w2 (fun k => k < w.heap.size) (.slice A2 o.recs.length c2) o.recs := Ls.weaken hls2 (fun k _ hk => Nat.lt_of_lt_of_le hk HB1.out.size)
  have HK2 := Lib.hid (ko_new hB2.size hls2')
  have HK1b := Lib.hid ((HK1.out.later hb2).later (al_below w2 (.cells (OC o A2 c2) 27)))
  have HB3 : Hid (Below w.heap.size w (w2.alloc (.cells (OC o A2 c2) 27))) := Lib.hid (hB2.alloc hB2.size _)
  clear hls2 hb2 hB2 hls2'
  unfold OV
  simp only
  go_wp2_with fail
  refine (begun_any _).mono ?_
  rintro e w3 ⟨rfl, hb3⟩
  have hb3 : Below (w2.alloc (.cells (OC o A2 c2) 27)).heap.size (w2.alloc (.cells (OC o A2 c2) 27)) w3 := hb3
  have HKA := Lib.hid (HK1b.out.later hb3)
  have HKB := Lib.hid (HK2.out.later hb3)
  have HB4 := Lib.hid (HB3.out.trans (hb3.mono HB3.out.size))
  have HSA := Lib.hid (rsame_any o o _ _ _ _ w3 HKA.out.oi HKB.out.oi (by have : o.recs.length ≤ 4 := HPR.out; omega))
  clear hb3
  unfold OV at HSA
  obtain ⟨a0, a1, a2, a3, a4⟩ := HKA.out.op.cells
  obtain ⟨b0, b1, b2, b3, b4⟩ := HKB.out.op.cells
  go_wp2_with fail
  refine HSA.out.mono ?_
  rintro e w4 ⟨he, hb4⟩
  rw [hse] at he
  subst he
  have HB5 := Lib.hid (HB4.out.trans (hb4.mono HB4.out.size))
  clear hb4 a0 a1 a2 a3 a4 b0 b1 b2 b3 b4 HKA HKB HK1 HK2 HK1b HSA HR1 HRP hse
  have HRE := Lib.hid (Ch.read_any w4 _ _ _ b (HSB.out.after HB5.out) HBL.out)
  go_wp2_with fail
  refine HRE.out.mono ?_
  rintro e w5 ⟨gr, rfl, hc5, hgr, hb5⟩
  have HRR := Lib.hid (rread_any w5 _ _ _ b (HSB.out.after (HB5.out.trans (hb5.mono HB5.out.size))))
  have HC5 := Lib.hid hc5
  have HB5b := Lib.hid hb5
  have HGR := Lib.hid hgr
  clear hc5 hb5 hgr
  go_wp2_with fail
  refine HRR.out.mono ?_
  rintro e w6 ⟨rfl, hr6, hb6⟩
  have HT6 := Lib.hid (tw_start HB5.out HC5.out HGR.out HB5b.out hr6 hb6)
  generalize w5.heap.size = B at *
  have HTK := Lib.hid (take_any w6 _ gr (b, 0) HT6.out.r HBL.out)
  clear hr6 hb6
  have HRT : Hid (∀ W, w6.grownBy W (some gr) → Calls Try.prog 32 #[P_ B] W (RReaded W (fun k => w.heap.size ≤ k) B (take (b, 0)))) := Lib.hid fun W hW => rtake_any W _ B (b, 0) (HT6.out.mid hW) HBL.out
  generalize take (b, 0) = T at *
  obtain ⟨x, sx⟩ := T
  have hsx := sameO_refl x
  go_wp2_with fail
  refine HTK.out.mono ?_
  rintro e w7 ⟨v7, rfl, ⟨A7, c7, rfl, hls7⟩, hg7, hc7⟩
  have HG7 := Lib.hid hg7
  have HC7 := Lib.hid hc7
  have HL7 := Lib.hid hls7
  clear hls7 hg7 hc7
  go_wp2_with fail
  refine (HRT.out _ HG7.out).mono ?_
  rintro e w8 ⟨v8, rfl, ⟨A8, c8, rfl, hls8⟩, hg8, hc8⟩
  simp only at hls8 hc8
  have hT8 := HT6.out.both HG7.out HC7.out hg8 hc8
  have z6 := HT6.out.below.size
  have z7 := HG7.out.size
  have z8 := hg8.size
  have hB6 := HT6.out.hs
  have hL7 : Ls w8 (fun k => k < w.heap.size) (.slice A7 x.recs.length c7) x.recs := by
    have q := HT6.out.s.lt
    refine Ls.weaken (Ls.grown HL7.out hg8 (fun k hk _ => ?_)) (fun k _ hk => ?_)
    · injection hk with hk; subst hk; exact q
    · exact Nat.lt_of_lt_of_le hk z6
  have hL8 : Ls w8 (fun k => k < w.heap.size) (.slice A8 x.recs.length c8) x.recs := Ls.weaken hls8 (fun k _ hk => by have : k < w.heap.size := hk; show k < w7.heap.size; omega)
  have HKX := Lib.hid ((ko_new (o := x) (by omega) hL7).later (al_below (w8.alloc (.cells (OC x A7 c7) 27)) (.cells (OC x A8 c8) 27)))
  have HKY := Lib.hid (ko_new (W := w8.alloc (.cells (OC x A7 c7) 27)) (w0 := w) (by simp; omega) (hL8.after (al_below w8 (.cells (OC x A7 c7) 27))))
  have HT9 := Lib.hid ((hT8.later (al_below w8 (.cells (OC x A7 c7) 27))).later (al_below (w8.alloc (.cells (OC x A7 c7) 27)) (.cells (OC x A8 c8) 27)))
  clear hT8 hL7 hL8 hls8 hg8 hc8 z6 z7 z8 hB6 HL7
  have hz8 : (w8.alloc (.cells (OC x A7 c7) 27)).heap.size = w8.heap.size + 1 := by simp
  rw [hz8] at HKY
  have hx9 : XS w B gr B w8.heap.size x A7 c7 A8 c8 sx ((w8.alloc (.cells (OC x A7 c7) 27)).alloc (.cells (OC x A8 c8) 27)) := ⟨HT9.out, HKX.out, HKY.out⟩
  have HX9 := Lib.hid hx9.drew
  clear hx9 hz8 HT9 HKX HKY HT6 HG7 HC7 HRT HTK HC5 HB5b HGR HRE HB5 HB4 HB3 HB1
  unfold OC at HX9
  unfold OV
  simp only
  go_wp2_with fail
  go_region_held3 (fun w' => w'.cell? ⟨w8.heap.size, 0, none⟩ = some (.int .i64 x.kind) ∧ w'.cell? ⟨w8.heap.size, 1, none⟩ = some (.string ⟨x.topic.toArray⟩) ∧ w'.cell? ⟨w8.heap.size, 2, none⟩ = some (.string ⟨x.group.toArray⟩) ∧ w'.cell? ⟨w8.heap.size, 3, none⟩ = some (.int .i64 x.off) ∧ w'.cell? ⟨w8.heap.size, 4, none⟩ = some (.slice A7 x.recs.length c7) ∧ w'.cell? ⟨w8.heap.size + 1, 0, none⟩ = some (.int .i64 x.kind) ∧ w'.cell? ⟨w8.heap.size + 1, 1, none⟩ = some (.string ⟨x.topic.toArray⟩) ∧ w'.cell? ⟨w8.heap.size + 1, 2, none⟩ = some (.string ⟨x.group.toArray⟩) ∧ w'.cell? ⟨w8.heap.size + 1, 3, none⟩ = some (.int .i64 x.off) ∧ w'.cell? ⟨w8.heap.size + 1, 4, none⟩ = some (.slice A8 x.recs.length c8) ∧ w'.cell? ⟨B, 1, none⟩ = some (.int .i64 sx.2))
    (first | exact HX9.out.cells | exact HX10.out.cells)
    (first
    | (go_at_call 17; refine (rsame_any x x _ _ _ _ _ HX9.out.kx.oi HX9.out.ky.oi (by have : x.recs.length ≤ 4 := HTR.out; omega)).mono ?_; rintro e w10 ⟨he, hb10⟩; rw [hsx] at he; subst he; have HX10 := Lib.hid (HX9.out.later hb10); clear hb10)
    | (go_at_call 33; obtain ⟨A4, n4, c4, hb4, -⟩ := HX10.out.tw.r; refine (err_blk _ gr _ _ hb4).mono ?_; rintro e wx ⟨rfl, rfl⟩; clear hb4))
  all_goals
    have HT10 := Lib.hid HX10.out.tw
    clear HX9 HX10
    have HTK := Lib.hid (taker_any w10 _ gr sx HT10.out.r)
    have HRT : Hid (∀ W, w10.grownBy W (some gr) → Calls Try.prog 35 #[P_ B] W (RTookR W (fun k => w.heap.size ≤ k) B (takeR sx))) := Lib.hid fun W hW => rtaker_any W _ B sx (HT10.out.mid hW)
    generalize takeR sx = T at *
    obtain ⟨⟨u, v⟩, sy⟩ := T
    go_wp2_with fail
    refine HTK.out.mono ?_
    rintro e w11 ⟨rfl, hg11, hc11⟩
    have HG11 := Lib.hid hg11
    have HC11 := Lib.hid hc11
    clear hg11 hc11
    go_wp2_with fail
    refine (HRT.out _ HG11.out).mono ?_
    rintro e w12 ⟨rfl, hg12, hc12⟩
    have HT12 := Lib.hid (HT10.out.both HG11.out HC11.out hg12 hc12)
    clear hg12 hc12
    have hbA : Below w12.heap.size w12 (w12.alloc (.cells #[.int .i64 u, .int .i64 v] 35)) := al_below _ _
    have hz12 : (w12.alloc (.cells #[.int .i64 u, .int .i64 v] 35)).heap.size = w12.heap.size + 1 := by simp
    have hk2 : Blk ((w12.alloc (.cells #[.int .i64 u, .int .i64 v] 35)).alloc (.cells #[.int .i64 u, .int .i64 v] 35)) (w12.heap.size + 1) 35 #[.int .i64 u, .int .i64 v] := by
      rw [← hz12]; exact Blk.new _ _ _
    have hk1 : Blk ((w12.alloc (.cells #[.int .i64 u, .int .i64 v] 35)).alloc (.cells #[.int .i64 u, .int .i64 v] 35)) w12.heap.size 35 #[.int .i64 u, .int .i64 v] :=
      Blk.below (Blk.new w12 _ _) (al_below _ _) (by rw [hz12]; omega)
    have HT13 := Lib.hid (((HT12.out.later hbA).later (al_below _ (.cells #[.int .i64 u, .int .i64 v] 35))).later (below_drewN (Below.refl _ _) 1))
    have HK1 := Lib.hid (Blk.below hk1 (below_drewN (Below.refl _ _) 1) (Blk.lt hk1))
    have HK2 := Lib.hid (Blk.below hk2 (below_drewN (Below.refl _ _) 1) (Blk.lt hk2))
    clear hbA hz12 hk1 hk2
    have heq := run_eql_res' u v
    have hgr := guard_res
    go_wp2_with fail
    have hks := two_cells HK1.out HK2.out HT13.out.err
    obtain ⟨A4, n4, c4, hb4, -⟩ := HT13.out.r
    go_region_held3 (fun w' => w'.cell? ⟨w12.heap.size, 0, none⟩ = some (.int .i64 u) ∧ w'.cell? ⟨w12.heap.size, 1, none⟩ = some (.int .i64 v) ∧ w'.cell? ⟨w12.heap.size + 1, 0, none⟩ = some (.int .i64 u) ∧ w'.cell? ⟨w12.heap.size + 1, 1, none⟩ = some (.int .i64 v) ∧ w'.cell? ⟨B, 1, none⟩ = some (.int .i64 sy.2))
      (exact hks)
      (first | (go_at_call 33; refine (err_blk _ gr _ _ hb4).mono ?_; rintro e wx ⟨rfl, rfl⟩))
    all_goals
      go_wp2_with fail
      go_ret
      exact ⟨rfl, HT13.out.below⟩

end Go.Proofs.Ytbglojjljccgkaa.Qd

/-
  Layer 6 (op): the walk of the statement OpBack.
-/
import Derived.Test.YtbglojjljccgkaaQd
import Derived.Test.YtbglojjljccgkaaQa
import Derived.Test.YtbglojjljccgkaaPy
import Derived.Outline
namespace Go.Proofs.Ytbglojjljccgkaa.Qe
open Go Go.RowKit Ck Kw Ca Cb Ce Cf Cg Ch Ci Cj Cn Co Kx Pm Pa Pe Pf Pg Ph Ppi Pk Pl Pp Py Qb Qc Qt Qu Qs Qd
attribute [local go_sem ↓] Go.wp_at_zero Go.wp_at_succ
set_option linter.unusedVariables false

theorem bytes_ok (o : O) (v : Value) (X : Nat → Prop) (w : World) (h : OI w X v o) (hl : o.recs.length ≤ 140737488355328) (hc : check o = 0) : Calls Try.prog 19 #[v] w (Byted w o) := by
  have hf : form o = raw o := by rw [form, if_neg (by omega)]
  refine (bytes_any o v X w h hl).mono ?_
  rintro e w' ⟨v', he, ho, hb⟩
  rw [hc] at he
  rw [hf] at ho
  exact ⟨v', he, ho, hb⟩
theorem parse_ok (w : World) (X : Nat → Prop) (v : Value) (n : Nat) (o : O) (b : Tx) (hc : check o = 0) (hb : b = raw o) (hv : Sl w X 1 v n (BVs b)) (hn : n ≤ 140737488355328) :
    Calls Try.prog 27 #[v] w (Parsed w (o, 0)) := by
  subst hb
  have := parse_any w X v n _ hv hn
  rw [parse_raw hc] at this
  exact this
theorem take_ok (w : World) (X : Nat → Prop) (g : Nat) (o : O) (r : Tx) (hc : check o = 0) (h : CR w X g (raw o ++ r, 0)) (hl : (raw o ++ r).length ≤ 140737488355328) :
    Calls Try.prog 31 #[P_ g] w (Readed w X g (o, (r, 0))) := by
  have := take_any w X g _ h hl
  rw [take_raw hc] at this
  exact this
/-- What stands there: the operation and the bytes. -/
structure EB (w0 : World) (o : O) (A : Option Addr) (c : Nat) (vb : Value) (b : Tx) (W : World) : Prop where
  below : Below w0.heap.size w0 W
  op : OB W w0.heap.size o A c
  ls : Ls W (fun k => w0.heap.size ≤ k) (.slice A o.recs.length c) o.recs
  b : Sl W (fun k => w0.heap.size ≤ k) 1 vb b.length (BVs b)
variable {w0 W W' : World} {o : O} {A : Option Addr} {c : Nat} {vb : Value} {b : Tx}
theorem EB.later (h : EB w0 o A c vb b W) (hb : Below W.heap.size W W') : EB w0 o A c vb b W' :=
  ⟨h.below.trans (hb.mono h.below.size), Blk.below h.op hb (Blk.lt h.op), h.ls.after hb, h.b.after hb⟩
theorem EB.drew (h : EB w0 o A c vb b W) : EB w0 o A c vb b W.drew := h.later (below_drewN (Below.refl _ W) 1)
theorem EB.oi (h : EB w0 o A c vb b W) : OI W (fun k => w0.heap.size ≤ k) (OV o A c) o := ⟨A, c, rfl, h.ls⟩
theorem eb_start {w : World} {o : O} {A : Option Addr} {c : Nat} {vb : Value} {b : Tx} (hls : Ls w (fun k => w.heap.size ≤ k) (.slice A o.recs.length c) o.recs) (hb : Sl w (fun k => w.heap.size ≤ k) 1 vb b.length (BVs b)) :
    EB w o A c vb b (w.alloc (.cells (OC o A c) 27)) :=
  ⟨(Below.refl _ w).alloc (Nat.le_refl _) _, Blk.new _ _ _, hls.after ((Below.refl _ w).alloc (Nat.le_refl _) _), hb.after ((Below.refl _ w).alloc (Nat.le_refl _) _)⟩

/-- The operation, what was read of its bytes, twice, and the reader. -/
structure BB (w0 : World) (M g3 g7 g : Nat) (o : O) (A : Option Addr) (c : Nat) (Ax : Option Addr) (cx : Nat) (Ay : Option Addr) (cy : Nat) (vb : Value) (b : Tx) (W : World) : Prop where
  eb : EB w0 o A c vb b W
  x : OB W g3 o Ax cx
  lx : Ls W (fun k => M ≤ k) (.slice Ax o.recs.length cx) o.recs
  y : OB W g7 o Ay cy
  ly : Ls W (fun k => k < M) (.slice Ay o.recs.length cy) o.recs
  rd : CR W (fun k => k < M) g (b, 0)
theorem BB.later {M g3 g7 g : Nat} {Ax : Option Addr} {cx : Nat} {Ay : Option Addr} {cy : Nat} (h : BB w0 M g3 g7 g o A c Ax cx Ay cy vb b W) (hb : Below W.heap.size W W') : BB w0 M g3 g7 g o A c Ax cx Ay cy vb b W' :=
  ⟨h.eb.later hb, Blk.below h.x hb (Blk.lt h.x), h.lx.after hb, Blk.below h.y hb (Blk.lt h.y), h.ly.after hb, h.rd.after hb⟩
theorem BB.oix {M g3 g7 g : Nat} {Ax : Option Addr} {cx : Nat} {Ay : Option Addr} {cy : Nat} (h : BB w0 M g3 g7 g o A c Ax cx Ay cy vb b W) : OI W (fun k => M ≤ k) (OV o Ax cx) o := ⟨Ax, cx, rfl, h.lx⟩
theorem BB.oiy {M g3 g7 g : Nat} {Ax : Option Addr} {cx : Nat} {Ay : Option Addr} {cy : Nat} (h : BB w0 M g3 g7 g o A c Ax cx Ay cy vb b W) : OI W (fun k => k < M) (OV o Ay cy) o := ⟨Ay, cy, rfl, h.ly⟩
theorem BB.cells {M g3 g7 g : Nat} {Ax : Option Addr} {cx : Nat} {Ay : Option Addr} {cy : Nat} (h : BB w0 M g3 g7 g o A c Ax cx Ay cy vb b W) :
    (W.cell? ⟨w0.heap.size, 0, none⟩ = some (.int .i64 o.kind) ∧ W.cell? ⟨w0.heap.size, 1, none⟩ = some (.string ⟨o.topic.toArray⟩) ∧ W.cell? ⟨w0.heap.size, 2, none⟩ = some (.string ⟨o.group.toArray⟩) ∧ W.cell? ⟨w0.heap.size, 3, none⟩ = some (.int .i64 o.off) ∧ W.cell? ⟨w0.heap.size, 4, none⟩ = some (.slice A o.recs.length c))
    ∧ (W.cell? ⟨g3, 0, none⟩ = some (.int .i64 o.kind) ∧ W.cell? ⟨g3, 1, none⟩ = some (.string ⟨o.topic.toArray⟩) ∧ W.cell? ⟨g3, 2, none⟩ = some (.string ⟨o.group.toArray⟩) ∧ W.cell? ⟨g3, 3, none⟩ = some (.int .i64 o.off) ∧ W.cell? ⟨g3, 4, none⟩ = some (.slice Ax o.recs.length cx))
    ∧ (W.cell? ⟨g7, 0, none⟩ = some (.int .i64 o.kind) ∧ W.cell? ⟨g7, 1, none⟩ = some (.string ⟨o.topic.toArray⟩) ∧ W.cell? ⟨g7, 2, none⟩ = some (.string ⟨o.group.toArray⟩) ∧ W.cell? ⟨g7, 3, none⟩ = some (.int .i64 o.off) ∧ W.cell? ⟨g7, 4, none⟩ = some (.slice Ay o.recs.length cy)) :=
  ⟨OB.cells h.eb.op, OB.cells h.x, OB.cells h.y⟩
theorem bb_made {w0 w5 w6 w7 : World} {g3 g : Nat} {o : O} {A : Option Addr} {c : Nat} {Ax : Option Addr} {cx : Nat} {Ay : Option Addr} {cy : Nat} {vb : Value} {b : Tx}
    (h : EB w0 o A c vb b w5) (hk : KO w5 w0.heap.size g3 o Ax cx) (hg : w5.heap.size ≤ g) (hb6 : Below w5.heap.size w5 w6) (hls : Ls w7 (fun k => k < w6.heap.size) (.slice Ay o.recs.length cy) o.recs) (hg7 : w6.grownBy w7 (some g)) (hc : CR w7 (fun k => k < w5.heap.size) g (b, 0)) :
    BB w0 w5.heap.size g3 w7.heap.size g o A c Ax cx Ay cy vb b (w7.alloc (.cells (OC o Ay cy) 27)) := by
  have n0 := h.below.size
  have n6 := hb6.size
  have nx := Blk.lt hk.op
  have no := Blk.lt h.op
  have h6 := h.later hb6
  have k6 := hk.later hb6
  have al := al_below w7 (.cells (OC o Ay cy) 27)
  refine ⟨EB.later ⟨h6.below.grown hg7 h6.below.size (fun q hq => by injection hq with hq; omega), Blk.grown h6.op hg7 (by simp; omega), h6.ls.grown hg7 (fun q hq _ => by injection hq with hq; show w0.heap.size ≤ q; omega), h6.b.grown hg7 (fun q hq _ => by injection hq with hq; show w0.heap.size ≤ q; omega)⟩ al, ?_, ?_, Blk.new _ _ _, ?_, hc.after al⟩
  · have q := Blk.grown k6.op hg7 (by simp; omega)
    exact Blk.below q al (Blk.lt q)
  · exact (((hk.ls.old' (Nat.le_refl _)).after hb6).grown hg7 (fun q hq _ => by injection hq with hq; show w5.heap.size ≤ q; omega)).after al
  · exact (hls.weaken (fun k _ hk => Nat.lt_of_lt_of_le hk n6)).after al

set_option maxRecDepth 100000 in
set_option maxHeartbeats 8000000 in
theorem opback_any (w : World) (o : O) (vo : Value) (A1 : Option Addr) (c1 : Nat) (b : Tx) (ho : OI w (fun k => w.heap.size ≤ k) vo o) (hb : Sl w (fun k => w.heap.size ≤ k) 1 (.slice A1 b.length c1) b.length (BVs b)) (hlo : far o 140737488351232) (hbl : b.length ≤ 140737488351232) :
    Calls Try.prog 7 #[vo, .slice A1 b.length c1] w fun e w' => e = .returned (.bool true) ∧ Below w.heap.size w w' := by
  obtain ⟨A, c, rfl, hls⟩ := ho
  have HT0 := Lib.hid (eb_start hls hb)
  have HLO : Hid (o.recs.length ≤ 140737488355328) := Lib.hid (by have := hlo.2.2.1; omega)
  have HBL := Lib.hid hbl
  have HFL := Lib.hid (form_len o)
  clear hls hb hlo hbl
  have HPB : Hid (∀ W, Below w.heap.size w W → Sl W (fun k => w.heap.size ≤ k) 1 (.slice A1 b.length c1) b.length (BVs b) → Calls Try.prog 27 #[.slice A1 b.length c1] W (Parsed W (parse b))) := Lib.hid fun W _ hs => parse_any W _ _ _ b hs (by have := HBL.out; omega)
  have HPO : Hid ((parse b).2 = 0 → check (parse b).1 = 0 ∧ b = raw (parse b).1) := Lib.hid fun h => parse_one (by rw [← h])
  have HPR := Lib.hid (parse_recs b)
  generalize parse b = P at *
  obtain ⟨z, d⟩ := P
  unfold OV
  go_enter Try.func7, Try.ntmps7
  go_wp2_with fail
  refine (begun_any _).mono ?_
  rintro e w1 ⟨rfl, hb1⟩
  have HT1 := Lib.hid (HT0.out.later hb1)
  clear hb1
  obtain ⟨a0, a1, a2, a3, a4⟩ := HT1.out.op.cells
  by_cases hc : check o = 0
  · have HC := Lib.hid hc
    have HBY := Lib.hid (bytes_ok o _ _ _ HT1.out.oi HLO.out hc)
    have HLR : Hid ((raw o).length ≤ 1000) := Lib.hid (by have := HFL.out; rw [form, if_neg (by omega)] at this; exact this)
    clear hc
    unfold OV at HBY
    go_wp2_with fail
    refine HBY.out.mono ?_
    rintro e w2 ⟨p, rfl, hown2, hb2⟩
    obtain ⟨Ap, cp, rfl⟩ := own_shape hown2
    have HT2 := Lib.hid (HT1.out.later hb2)
    have HP2 := Lib.hid (Qa.vb_made HT1.out.below hown2 hb2)
    have HPC := Lib.hid (parse_ok w2 _ _ _ o (raw o) HC.out rfl HP2.out.row (by have := HLR.out; omega))
    clear hown2 hb2 a0 a1 a2 a3 a4
    go_wp2_with fail
    refine HPC.out.mono ?_
    rintro e w3 ⟨x, rfl, ⟨Ax, cx, rfl, hls3⟩, hb3⟩
    simp only at hls3
    have hT3 := HT2.out.later hb3
    have HK3 := Lib.hid (ko_new (w0 := w) hT3.below.size (hls3.weaken (fun k _ hk => Nat.lt_of_lt_of_le hk HT2.out.below.size)))
    have HT3 := Lib.hid (hT3.later (al_below w3 (.cells (OC o Ax cx) 27)))
    have HP3 := Lib.hid ((HP2.out.later hb3).later (al_below w3 (.cells (OC o Ax cx) 27)))
    clear hls3 hb3 hT3
    unfold OV
    simp only
    obtain ⟨i0, hi0, hz0, hz1, hz2⟩ := info_parts info_u8
    go_wp2_with fail
    refine (Qa.sclb_any _ _ _ (raw o) _ HP3.out.row (by have := HLR.out; omega)).mono ?_
    rintro e w4 ⟨v4, rfl, hown4, hb4⟩
    obtain ⟨A4, c4, rfl⟩ := own_shape hown4
    have hb4 : Below (w3.alloc (.cells (OC o Ax cx) 27)).heap.size (w3.alloc (.cells (OC o Ax cx) 27)) w4 := hb4
    have HT4 := Lib.hid (HT3.out.later hb4)
    have HO4 := Lib.hid hown4
    have HB4 := Lib.hid hb4
    have HSZ := Lib.hid hb4.size
    have HMW : Hid (w.heap.size ≤ (w3.alloc (.cells (OC o Ax cx) 27)).heap.size) := Lib.hid HT3.out.below.size
    have HLAT : Hid (∀ W, Below (w3.alloc (.cells (OC o Ax cx) 27)).heap.size (w3.alloc (.cells (OC o Ax cx) 27)) W → EB w o A c (.slice A1 b.length c1) b W ∧ KO W w.heap.size w3.heap.size o Ax cx) := Lib.hid fun W h => ⟨HT3.out.later h, HK3.out.later h⟩
    clear hown4 hb4
    generalize (w3.alloc (.cells (OC o Ax cx) 27)).heap.size = m3 at HO4 HB4 HSZ HLAT HMW
    go_wp2_with (at_builtin; refine wpList_append_sl _ rfl (.tmp 30) (.tmp 31) _ rfl m3 5 i0 _ 1 1 Try.underlying32 hi0 hz0 hz1 hz2 rfl (by omega) (.slice A4 (raw o).length c4) (raw o).length (BVs (raw o)) rfl HO4.out (fun k => w.heap.size ≤ k) _ b.length (BVs b) rfl HT4.out.b (BVs_one _) (by have := HLR.out; have := HBL.out; simp only [maxLen]; omega) (by have := HLR.out; have := HBL.out; omega) (by exact HSZ.out) ?_; intro v5 w5 happ; obtain ⟨A5, c5, rfl⟩ := own_shape happ.1; have HB5 := Lib.hid (HB4.out.grown happ.2.1 HSZ.out (fun g hg => (HO4.out.lt g hg).1)); have HO5 := Lib.hid (happ.1); clear happ)
    obtain ⟨L, hL⟩ : ∃ L : Tx, L = raw o ++ b := ⟨_, rfl⟩
    have HL := Lib.hid hL
    clear hL
    have hLl : (raw o).length + b.length = L.length := by rw [HL.out, List.length_append]
    have hLc : ((raw o).length : Int) + (b.length : Int) = (L.length : Int) := by omega
    have hLb : BVs (raw o) ++ BVs b = BVs L := by rw [HL.out, BVs_app]
    rw [hLb, hLl] at HO5
    (try rw [hLl])
    have HLL : Hid (L.length ≤ 140737488355328) := Lib.hid (by have := HLR.out; have := HBL.out; omega)
    have HSL : Hid (Sl w5 (fun k => k < w.heap.size) 1 (.slice A5 L.length c5) L.length (BVs L)) := Lib.hid (Sl.of_own HO5.out (fun k h1 _ h2 => by have := HMW.out; omega))
    refine (Ch.read_any w5 _ _ _ L HSL.out HLL.out).mono ?_
    rintro e w6 ⟨g, rfl, hc6, hg6, hb6⟩
    have HC6 : Hid (CR w6 (fun k => k < w5.heap.size) g (raw o ++ b, 0)) := Lib.hid (by rw [← HL.out]; exact hc6)
    have HG6 := Lib.hid hg6
    have HB6 := Lib.hid hb6
    have HTA := Lib.hid (take_ok w6 _ g o b HC.out HC6.out (by rw [← HL.out]; exact HLL.out))
    clear hc6 hg6 hb6
    go_wp2_with fail
    refine HTA.out.mono ?_
    rintro e w7 ⟨v7, rfl, ⟨Ay, cy, rfl, hls7⟩, hg7, hc7⟩
    simp only at hls7 hc7
    have HBB := Lib.hid (bb_made (HLAT.out _ HB5.out).1 (HLAT.out _ HB5.out).2 HG6.out HB6.out hls7 hg7 hc7)
    clear hls7 hg7 hc7
    unfold OV
    simp only
    have hse := sameO_refl o
    unfold OC at HBB
    obtain ⟨⟨a0, a1, a2, a3, a4⟩, ⟨x0, x1, x2, x3, x4⟩, ⟨y0, y1, y2, y3, y4⟩⟩ := HBB.out.cells
    go_wp2_with fail
    refine (rsame_any o o _ _ _ _ _ HBB.out.oix HBB.out.eb.oi HLO.out).mono ?_
    rintro e w8 ⟨he, hb8⟩
    rw [hse] at he
    subst he
    have HBB8 := Lib.hid (HBB.out.later hb8)
    clear hb8 a0 a1 a2 a3 a4 x0 x1 x2 x3 x4 y0 y1 y2 y3 y4
    obtain ⟨⟨a0, a1, a2, a3, a4⟩, ⟨x0, x1, x2, x3, x4⟩, ⟨y0, y1, y2, y3, y4⟩⟩ := HBB8.out.cells
    go_wp2_with fail
    refine (rsame_any o o _ _ _ _ _ HBB8.out.oiy HBB8.out.eb.oi HLO.out).mono ?_
    rintro e w9 ⟨he, hb9⟩
    rw [hse] at he
    subst he
    have HBB9 := Lib.hid (HBB8.out.later hb9)
    have HT9 := Lib.hid HBB9.out.eb
    clear hb9 a0 a1 a2 a3 a4 x0 x1 x2 x3 x4 y0 y1 y2 y3 y4
    obtain ⟨Ar, nr, cr, hbr, -⟩ := HBB9.out.rd
    have HER := Lib.hid (err_blk _ g _ _ hbr)
    have HLE := Lib.hid (left_any _ _ g _ HBB9.out.rd)
    clear hbr
    go_wp2_with fail
    refine HER.out.mono ?_
    rintro e w10 ⟨rfl, rfl⟩
    go_wp2_with fail
    refine HLE.out.mono ?_
    rintro e w11 ⟨rfl, rfl⟩
    clear HBB9 HBB8 HBB HER HLE HC6 HTA HSL HO5 HLAT HB5 HB4 HO4 hLb hLc hLl
    go_wp2_with fail
    refine (HPB.out _ HT9.out.below HT9.out.b).mono ?_
    rintro e w20 ⟨v20, rfl, ⟨Az, cz, rfl, hls20⟩, hb20⟩
    simp only at hls20
    have hT20 := HT9.out.later hb20
    have HKZ := Lib.hid (ko_new (w0 := w) hT20.below.size (hls20.weaken (fun k _ hk => Nat.lt_of_lt_of_le hk HT9.out.below.size)))
    have HT20 := Lib.hid (hT20.later (al_below w20 (.cells (OC z Az cz) 27)))
    clear hls20 hb20 hT20
    unfold OV
    simp only
    by_cases hd : d = 0
    · obtain ⟨hcz, hbz⟩ := HPO.out hd
      have HCZ := Lib.hid hcz
      have HBZ := Lib.hid hbz
      have e1 : (d == 0) = true := by rw [hd]; rfl
      have e2 : (d != 0) = false := by rw [hd]; rfl
      have HBYZ := Lib.hid (bytes_ok z _ _ _ HKZ.out.oi (by have : z.recs.length ≤ 4 := HPR.out; omega) hcz)
      obtain ⟨z0, z1, z2, z3, z4⟩ := HKZ.out.op.cells
      clear hd hcz hbz
      unfold OV OC at HBYZ
      go_wp2_with fail
      refine HBYZ.out.mono ?_
      rintro e w21 ⟨q, rfl, hown21, hb21⟩
      rw [← HBZ.out] at hown21
      obtain ⟨Aq, cq, rfl⟩ := own_shape hown21
      have HT21 := Lib.hid (HT20.out.later hb21)
      have HQ21 := Lib.hid (Qa.vb_made HT20.out.below hown21 hb21)
      clear hown21 hb21 z0 z1 z2 z3 z4
      go_wp2_with fail
      refine (Qa.eq_same _ _ _ _ _ _ _ b HQ21.out.row HT21.out.b).mono ?_
      rintro e w22 ⟨rfl, rfl⟩
      go_wp2_with fail
      go_ret
      exact ⟨rfl, HT21.out.below⟩
    · have e1 : (d == 0) = false := beq_eq_false_iff_ne.2 hd
      have e2 : (d != 0) = true := by rw [bne, e1]; rfl
      clear hd
      go_wp2_with fail
      go_ret
      exact ⟨rfl, HT20.out.below⟩
  · have e1 : (check o == 0) = false := beq_eq_false_iff_ne.2 hc
    have HBY := Lib.hid (bytes_any o _ _ _ HT1.out.oi HLO.out)
    clear hc
    unfold OV at HBY
    go_wp2_with fail
    refine HBY.out.mono ?_
    rintro e w2 ⟨p, rfl, hown2, hb2⟩
    have HT2 := Lib.hid (HT1.out.later hb2)
    clear hown2 hb2 a0 a1 a2 a3 a4
    go_wp2_with fail
    refine (HPB.out _ HT2.out.below HT2.out.b).mono ?_
    rintro e w20 ⟨v20, rfl, ⟨Az, cz, rfl, hls20⟩, hb20⟩
    simp only at hls20
    have hT20 := HT2.out.later hb20
    have HKZ := Lib.hid (ko_new (w0 := w) hT20.below.size (hls20.weaken (fun k _ hk => Nat.lt_of_lt_of_le hk HT2.out.below.size)))
    have HT20 := Lib.hid (hT20.later (al_below w20 (.cells (OC z Az cz) 27)))
    clear hls20 hb20 hT20
    unfold OV
    simp only
    by_cases hd : d = 0
    · obtain ⟨hcz, hbz⟩ := HPO.out hd
      have HCZ := Lib.hid hcz
      have HBZ := Lib.hid hbz
      have e1 : (d == 0) = true := by rw [hd]; rfl
      have e2 : (d != 0) = false := by rw [hd]; rfl
      have HBYZ := Lib.hid (bytes_ok z _ _ _ HKZ.out.oi (by have : z.recs.length ≤ 4 := HPR.out; omega) hcz)
      obtain ⟨z0, z1, z2, z3, z4⟩ := HKZ.out.op.cells
      clear hd hcz hbz
      unfold OV OC at HBYZ
      go_wp2_with fail
      refine HBYZ.out.mono ?_
      rintro e w21 ⟨q, rfl, hown21, hb21⟩
      rw [← HBZ.out] at hown21
      obtain ⟨Aq, cq, rfl⟩ := own_shape hown21
      have HT21 := Lib.hid (HT20.out.later hb21)
      have HQ21 := Lib.hid (Qa.vb_made HT20.out.below hown21 hb21)
      clear hown21 hb21 z0 z1 z2 z3 z4
      go_wp2_with fail
      refine (Qa.eq_same _ _ _ _ _ _ _ b HQ21.out.row HT21.out.b).mono ?_
      rintro e w22 ⟨rfl, rfl⟩
      go_wp2_with fail
      go_ret
      exact ⟨rfl, HT21.out.below⟩
    · have e1 : (d == 0) = false := beq_eq_false_iff_ne.2 hd
      have e2 : (d != 0) = true := by rw [bne, e1]; rfl
      clear hd
      go_wp2_with fail
      go_ret
      exact ⟨rfl, HT20.out.below⟩

end Go.Proofs.Ytbglojjljccgkaa.Qe

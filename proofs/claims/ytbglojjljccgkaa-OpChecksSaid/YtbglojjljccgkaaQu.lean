/-
  Layer 6 (op): the contracts of the document's own Take, Parse and TakeResult.
-/
import Derived.Test.YtbglojjljccgkaaQc
import Derived.Test.YtbglojjljccgkaaQt
namespace Go.Proofs.Ytbglojjljccgkaa.Qu
open Go Go.RowKit Ck Kw Ca Cb Ce Cf Cg Ch Ci Cj Cn Co Pm Pa Pe Pf Pg Ph Ppi Pk Pp Qb Qc Qt
set_option linter.unusedVariables false

theorem rtake_any (w : World) (X : Nat → Prop) (g : Nat) (s : Cm.RS) (h : RR w X g s) (hl : s.1.length ≤ 140737488355328) :
    Calls Try.prog 32 #[P_ g] w (RReaded w X g (take s)) := by
  have h4 := Cm.numS_le s 4
  have : (Cm.numS s 4).1 = 0 ∨ (Cm.numS s 4).1 = 1 ∨ (Cm.numS s 4).1 = 2 ∨ (Cm.numS s 4).1 = 3 ∨ (Cm.numS s 4).1 = 4 := by omega
  rcases this with hk | hk | hk | hk | hk
  · exact rtake_0 w X g s h hl hk
  · exact rtake_1 w X g s h hl hk
  · exact rtake_2 w X g s h hl hk
  · exact rtake_3 w X g s h hl hk
  · exact rtake_4 w X g s h hl hk

set_option maxRecDepth 100000 in
set_option maxHeartbeats 4000000 in
theorem rparse_any (w : World) (X : Nat → Prop) (v : Value) (n : Nat) (b : Tx) (hv : Sl w X 1 v n (BVs b)) (hn : n ≤ 140737488355328) :
    Calls Try.prog 28 #[v] w (Parsed w (parse b)) := by
  have hnl : n = b.length := by obtain ⟨A, c, _, h, _⟩ := hv; rw [BVs_len] at h; omega
  subst hnl
  have b0 : Below w.heap.size w (w.alloc (.cells Z5 27)) := (Below.refl _ w).alloc (Nat.le_refl _) _
  have HRD := Lib.hid (rread_any (w.alloc (.cells Z5 27)) X v b.length b (hv.after b0))
  have HB0 := Lib.hid b0
  have HR0 : Hid (Blk (w.alloc (.cells Z5 27)) w.heap.size 27 Z5) := Lib.hid (Blk.new _ _ _)
  have HP : Hid (parse b = if Cm.doneS (take (b, 0)).2 ≠ 0 then (O.zero, Cm.doneS (take (b, 0)).2) else ((take (b, 0)).1, 0)) := Lib.hid rfl
  obtain ⟨A, c, rfl, -⟩ := hv
  clear b0
  unfold Z5 at HRD
  generalize hPB : parse b = PB at *
  clear hPB
  go_enter Try.func28, Try.ntmps28
  go_wp2_with fail
  refine HRD.out.mono ?_
  rintro e w1 ⟨he, hc1, hb1⟩
  have hs0 : (w.alloc (.cells Z5 27)).heap.size = w.heap.size + 1 := by simp
  have he : e = .returned (P_ (w.alloc (.cells Z5 27)).heap.size) := he
  have hc1 : RR w1 X (w.alloc (.cells Z5 27)).heap.size (b, 0) := hc1
  obtain ⟨g, hgg⟩ : ∃ g, g = (w.alloc (.cells Z5 27)).heap.size := ⟨_, rfl⟩
  rw [← hgg] at he hc1
  have HG : Hid (w.heap.size < g) := Lib.hid (by omega)
  subst he
  clear hgg
  have HB1 : Hid (Below w.heap.size w w1) := Lib.hid (HB0.out.trans (hb1.mono HB0.out.size))
  have HR1 := Lib.hid (HR0.out.below hb1 HR0.out.lt)
  have HT := Lib.hid (rtake_any w1 _ g (b, 0) hc1 hn)
  have HRL := Lib.hid (take_recs (b, 0))
  clear hs0 hb1 hc1
  generalize take (b, 0) = T at *
  obtain ⟨o, sF⟩ := T
  simp only at HP HRL
  go_wp2_with fail
  refine HT.out.mono ?_
  rintro e w2 ⟨v2, rfl, hoi, hg2, hc2⟩
  obtain ⟨A2, c2, rfl, hls⟩ := hoi
  have HR2 := Lib.hid (HR1.out.grown hg2 (by have := HG.out; simp; omega))
  have HB2 : Hid (Below w.heap.size w w2) := Lib.hid (HB1.out.grown hg2 HB1.out.size (fun q hq => by have := HG.out; injection hq with hq; omega))
  have HO2 : Hid (Blk (w2.alloc (.cells (OC o A2 c2) 27)) w2.heap.size 27 (OC o A2 c2)) := Lib.hid (Blk.new _ _ _)
  have HR3 := Lib.hid (HR2.out.alloc (.cells (OC o A2 c2) 27))
  have HB3 := Lib.hid (HB2.out.alloc HB2.out.size (.cells (OC o A2 c2) 27))
  have b3 : Below w2.heap.size w2 (w2.alloc (.cells (OC o A2 c2) 27)) := (Below.refl _ w2).alloc (Nat.le_refl _) _
  have HLS : Hid (Ls (w2.alloc (.cells (OC o A2 c2) 27)) (fun k => k < w.heap.size ∨ k = w.heap.size) (.slice A2 o.recs.length c2) o.recs) := Lib.hid ((hls.after b3).weaken (fun k _ hk => by
    have := HR1.out.lt
    rcases hk with hk | hk <;> (show k < w1.heap.size; omega)))
  have HDO := Lib.hid (rdone_any _ _ g sF (RR.after hc2 b3))
  have n12 : ¬ (w.heap.size = w2.heap.size) := fun h => by have := HR2.out.lt; omega
  have n21 : ¬ (w2.heap.size = w.heap.size) := fun h => n12 h.symm
  clear hls hg2 hc2 b3
  unfold OV
  unfold OC at HDO
  go_wp2_with fail
  refine HDO.out.mono ?_
  rintro e w4 ⟨rfl, rfl⟩
  obtain ⟨⟨r0, r1, r2, r3, r4⟩, ⟨q0, q1, q2, q3, q4⟩⟩ := Blk.cells5 HR3.out
  obtain ⟨⟨a0, a1, a2, a3, a4⟩, -⟩ := Blk.cells5 HO2.out
  unfold OC at r0 r1 r2 r3 r4 q0 q1 q2 q3 q4 a0 a1 a2 a3 a4
  generalize Cm.doneS sF = d at *
  by_cases hz : d = 0
  · subst hz
    go_wp2_with fail
    refine bodyPost_ret (results_row_tmp rfl _ _ w.heap.size 27 #[.int .i64 o.kind, .string ⟨o.topic.toArray⟩, .string ⟨o.group.toArray⟩, .int .i64 o.off, .slice A2 o.recs.length c2] (0, 0) _ rfl (res_blk HR3.out _ _ _ _ _) Try.underlying27 rfl size_op) rfl ?_
    exact parsed_of (o := o) HB3.out _ _ _ _ _ rfl HLS.out (by rw [HP.out, if_neg (by decide)])
  · have HZ := Lib.hid hz
    have e1 : (d == 0) = false := beq_eq_false_iff_ne.2 hz
    have e2 : (d != 0) = true := by rw [bne, e1]; rfl
    clear hz
    go_wp2_with fail
    refine bodyPost_ret (results_row_tmp rfl _ _ w.heap.size 27 #[.int .i64 0, .string ⟨#[]⟩, .string ⟨#[]⟩, .int .i64 0, .slice none 0 0] (0, 0) _ rfl (res_blk HR3.out _ _ _ _ _) Try.underlying27 rfl size_op) rfl ?_
    exact parsed_of (o := O.zero) HB3.out _ _ _ _ _ rfl (ls_nil _ _) (by rw [HP.out, if_pos HZ.out])


/-- What TakeResult leaves. -/
def RTookR (w : World) (X : Nat → Prop) (g : Nat) (r : (Int × Int) × Cm.RS) (e : Ending) (w' : World) : Prop := e = .returned (.agg #[.int .i64 r.1.1, .int .i64 r.1.2]) ∧ w.grownBy w' (some g) ∧ RR w' X g r.2
theorem rtookr_of {w W : World} {X : Nat → Prop} {g : Nat} {s : Cm.RS} {r : (Int × Int) × Cm.RS} {x y : Int} (hg : w.grownBy W (some g)) (hlt : g < w.heap.size) (hr' : RR W (fun k => X k ∨ w.heap.size ≤ k) g s) (hr : r = ((x, y), s)) :
    RTookR w X g r (.returned (.agg #[.int .i64 x, .int .i64 y])) ((W.setCell ⟨w.heap.size, 0, none⟩ (.int .i64 x)).setCell ⟨w.heap.size, 1, none⟩ (.int .i64 y)) := by
  subst hr
  have cg : W.grownBy ((W.setCell ⟨w.heap.size, 0, none⟩ (.int .i64 x)).setCell ⟨w.heap.size, 1, none⟩ (.int .i64 y)) (some w.heap.size) :=
    grown_setCell (grown_setCell (World.grownBy.refl W (some w.heap.size)) (p := ⟨w.heap.size, 0, none⟩) (.inl rfl) _) (p := ⟨w.heap.size, 1, none⟩) (.inl rfl) _
  exact ⟨rfl, grown_step hg cg (.inr fun q hq => by injection hq with hq; omega), (hr'.grown cg (by simp; omega) (fun q hq _ => by injection hq with hq; exact .inr (by omega))).weaken (fun k _ hk => .inl hk)⟩

set_option maxRecDepth 100000 in
set_option maxHeartbeats 4000000 in
theorem rtaker_any (w : World) (X : Nat → Prop) (g : Nat) (s : Cm.RS) (h : RR w X g s) :
    Calls Try.prog 35 #[P_ g] w (RTookR w X g (takeR s)) := by
  have b0 : Below w.heap.size w (w.alloc (.cells #[.int .i64 0, .int .i64 0] 35)) := (Below.refl _ w).alloc (Nat.le_refl _) _
  have hc0 : RR (w.alloc (.cells #[.int .i64 0, .int .i64 0] 35)) (fun k => X k ∨ w.heap.size ≤ k) g s := (h.old (Nat.le_refl _)).after b0
  have HK0 : Hid (Blk (w.alloc (.cells #[.int .i64 0, .int .i64 0] 35)) w.heap.size 35 #[.int .i64 0, .int .i64 0]) := Lib.hid (Blk.new _ _ _)
  have HB0 := Lib.hid b0
  have HLT := Lib.hid h.lt
  have HN := Lib.hid (rnum_any _ _ g s hc0 65536)
  have m1 := Cm.numS_le s 65536
  have HT : Hid (takeR s = if (Cm.numS (Cm.numS s 65536).2 9007199254740992).2.2 ≠ 0 then (((0 : Int), (0 : Int)), (Cm.numS (Cm.numS s 65536).2 9007199254740992).2) else ((((Cm.numS s 65536).1 : Nat), ((Cm.numS (Cm.numS s 65536).2 9007199254740992).1 : Nat)), (Cm.numS (Cm.numS s 65536).2 9007199254740992).2)) := Lib.hid rfl
  generalize takeR s = TK at *
  generalize Cm.numS s 65536 = x at *
  have m2 := Cm.numS_le x.2 9007199254740992
  have hw1 := wrap_i64n x.1 (by omega)
  clear b0 hc0 h
  go_enter Try.func35, Try.ntmps35
  go_wp2_with fail
  refine HN.out.mono ?_
  rintro e w1 ⟨rfl, hg1, hc1⟩
  have HG1 : Hid (w.grownBy w1 (some g)) := Lib.hid ((grown_of_below HB0.out (some g)).trans hg1)
  have HK1 := Lib.hid (HK0.out.grown hg1 (by have := HLT.out; simp; omega))
  have HN2 := Lib.hid (rnum_any _ _ g x.2 hc1 9007199254740992)
  have M1 := Lib.hid m1
  clear hg1 hc1 m1
  generalize Cm.numS x.2 9007199254740992 = y at *
  have hw2 := wrap_i64n y.1 (by omega)
  have M2 := Lib.hid m2
  clear m2
  go_wp2_with fail
  refine HN2.out.mono ?_
  rintro e w2 ⟨rfl, hg2, hc2⟩
  have HG2 := Lib.hid (HG1.out.trans hg2)
  have HK2 := Lib.hid (HK1.out.grown hg2 (by have := HLT.out; simp; omega))
  have b3 : Below w2.heap.size w2 (w2.alloc (.cells #[.int .i64 (x.1 : Nat), .int .i64 (y.1 : Nat)] 35)) := (Below.refl _ w2).alloc (Nat.le_refl _) _
  have HG3 := Lib.hid (grown_below HG2.out b3)
  have HK3 := Lib.hid (HK2.out.alloc (.cells #[.int .i64 (x.1 : Nat), .int .i64 (y.1 : Nat)] 35))
  have HR3 := Lib.hid (hc2.after b3)
  obtain ⟨A4, n4, c4, hb4, -⟩ := HR3.out
  have er := Blk.cell hb4 1
  have n12 : ¬ (w.heap.size = w2.heap.size) := fun h => by have := HK2.out.lt; omega
  have n21 : ¬ (w2.heap.size = w.heap.size) := fun h => n12 h.symm
  have n01 : ¬ (g = w2.heap.size) := fun h => by have := hc2.lt; omega
  have r0 := HK3.out.cell 0
  have r1 := HK3.out.cell 1
  have q0 := HK3.out.frozen 0
  have q1 := HK3.out.frozen 1
  have o3 : Blk (w2.alloc (.cells #[.int .i64 (x.1 : Nat), .int .i64 (y.1 : Nat)] 35)) w2.heap.size 35 #[.int .i64 (x.1 : Nat), .int .i64 (y.1 : Nat)] := Blk.new _ _ _
  have a0 := o3.cell 0
  have a1 := o3.cell 1
  simp only [List.getElem?_toArray, List.getElem?_cons_zero, List.getElem?_cons_succ] at r0 r1 a0 a1 er
  clear hg2 hc2 b3 hb4 o3
  by_cases hz : y.2.2 = 0
  · have HZ := Lib.hid hz
    rw [hz] at er
    clear hz
    go_wp2_with fail
    refine bodyPost_ret (results_row1 rfl _ _ w.heap.size 35 #[.int .i64 (x.1 : Nat), .int .i64 (y.1 : Nat)] (0, 0) _ rfl (blk2 HK3.out) Try.underlying35 rfl size_res) rfl ?_
    exact rtookr_of HG3.out HLT.out HR3.out (by rw [HT.out, if_neg (by rw [HZ.out]; decide)])
  · have HZ := Lib.hid hz
    have e1 : (y.2.2 == 0) = false := beq_eq_false_iff_ne.2 hz
    have e2 : (y.2.2 != 0) = true := by rw [bne, e1]; rfl
    clear hz
    go_wp2_with fail
    refine bodyPost_ret (results_row1 rfl _ _ w.heap.size 35 #[.int .i64 0, .int .i64 0] (0, 0) _ rfl (blk2 HK3.out) Try.underlying35 rfl size_res) rfl ?_
    exact rtookr_of HG3.out HLT.out HR3.out (by rw [HT.out, if_pos HZ.out])

end Go.Proofs.Ytbglojjljccgkaa.Qu

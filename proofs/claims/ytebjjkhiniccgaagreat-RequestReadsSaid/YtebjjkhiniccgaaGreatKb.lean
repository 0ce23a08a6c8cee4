/-
  Layer 8: the document's own TakeBatch, over its reader.
-/
import Derived.Test.YtebjjkhiniccgaaGreatW7
import Derived.Test.YtebjjkhiniccgaaGreatJr
import Derived.Test.YtebjjkhiniccgaaGreatJe
namespace Go.Proofs.YtebjjkhiniccgaaGreat.Kb
set_option linter.unusedSimpArgs false
open Go Go.RowKit Ck Kw Kf Ca Cb Ce Cf Cg Ch Ci Cj Cn Co Ga Pm Pe Pf Pg Ph Ppi Pk Pp Py Qb Qc Qt Qu Lk Jm Ja Jb Jd Je Jf Jp Jr Jz Ka
attribute [local go_sem ↓] Go.wp_at_zero Go.wp_at_succ
set_option linter.unusedVariables false
set_option maxRecDepth 100000

theorem bytes_bound {s : Cm.RS} (hl : s.1.length ≤ 140737488355328) : (Cm.bytesS s 1024).1.length ≤ 140737488355328 := by
  by_cases h0 : (Cm.bytesS s 1024).2.2 = 0
  · unfold Cm.bytesS at h0 ⊢
    obtain ⟨_, _, h3, h4⟩ := Cm.takeS_ok h0
    rw [h4]
    simp only [List.length_take]
    have := Cm.numS_len s (1024 : Int).toNat
    omega
  · unfold Cm.bytesS Cm.takeS at h0 ⊢
    split
    · simp
    · split
      · simp
      · split
        · simp
        · rename_i a b c
          exfalso
          apply h0
          rw [if_neg a, if_neg b, if_neg c]
theorem rbatch_round {W wr w1 w2 : World} {X : Nat → Prop} {g : Nat} {v v2 : Value} {l : List Sd} {rs : List (Option Addr × Nat)} {d : Sd} {A : Option Addr} {c : Nat} {s1 : Cm.RS}
    (hg : W.grownBy wr (some g)) (hgl : g < W.heap.size) (hown : wr.ownsRow W.heap.size 53 9 v l.length (flat l rs)) (hels : Elr wr W.heap.size v l rs)
    (hu : Ls w1 (fun k => k < wr.heap.size) (.slice A d.q.o.recs.length c) d.q.o.recs) (hg1 : wr.grownBy w1 (some g)) (hc1 : RR w1 (fun k => X k ∨ W.heap.size ≤ k) g s1)
    (happ : Appended (w1.alloc (.cells (DC d A c) 53)) W.heap.size 53 9 v (l.length + 1) (flat l rs ++ (DC d A c).toList) v2 w2) :
    w2.ownsRow W.heap.size 53 9 v2 (l ++ [d]).length (flat (l ++ [d]) (rs ++ [(A, c)])) ∧ Elr w2 W.heap.size v2 (l ++ [d]) (rs ++ [(A, c)]) ∧ W.grownBy w2 (some g) ∧ RR w2 (fun k => X k ∨ W.heap.size ≤ k) g s1 := by
  have hlt := hown.lt
  have hb : Below w1.heap.size w1 (w1.alloc (.cells (DC d A c) 53)) := op_below w1 _
  have each : ∀ i (h : i < (l ++ [d]).length), ∃ r, (rs ++ [(A, c)])[i]? = some r ∧ Ls (w1.alloc (.cells (DC d A c) 53)) (fun k => k < W.heap.size ∨ v.ownBlock = some k) (.slice r.1 (l ++ [d])[i].q.o.recs.length r.2) (l ++ [d])[i].q.o.recs := by
    intro i hi
    rw [List.length_append, List.length_singleton] at hi
    by_cases hl : i < l.length
    · obtain ⟨r, hr, h3⟩ := hels.2 i hl
      refine ⟨r, by rw [List.getElem?_append_left (by rw [hels.1]; exact hl)]; exact hr, ?_⟩
      have e : (l ++ [d])[i] = l[i] := List.getElem_append_left hl
      rw [e]
      exact (h3.grown hg1 (fun k hk _ => .inl (by injection hk with hk; omega))).after hb
    · have he : i = l.length := by omega
      subst he
      refine ⟨(A, c), by rw [List.getElem?_append_right (by rw [hels.1]; omega), hels.1]; simp, ?_⟩
      have e : (l ++ [d])[l.length] = d := by simp
      rw [e]
      refine (hu.after hb).weaken (fun k _ hk => ?_)
      have := hg.size
      rcases hk with hk | hk
      · omega
      · have := (hlt k hk).2; omega
  refine ⟨by rw [List.length_append, flat_snoc hels.1]; exact happ.1, ⟨by simp [hels.1], fun i hi => ?_⟩, ?_, ?_⟩
  · obtain ⟨r, hr, h5⟩ := each i hi
    refine ⟨r, hr, ?_⟩
    have h6 := (ls_old h5 (Nat.le_refl _)).grown happ.2.1 (fun k hk _ => .inl (.inr hk))
    refine h6.weaken fun b _ hy => ?_
    rcases hy with hy | hy
    · exact .inl (.inl hy)
    · rcases happ.2.2 with hr | hr
      · rw [hr] at hy; exact .inl (.inr hy)
      · rw [hr] at hy; injection hy with hy; exact .inr (by omega)
  · exact grown_step (grown_below (hg.trans hg1) hb) happ.2.1 (.inr fun k hk => (hlt k hk).1)
  · refine (hc1.after hb).grown happ.2.1 ?_ (fun k hk _ => .inr (hlt k hk).1)
    intro he
    have := (hlt g he.symm).1
    omega


/-- What the document's TakeBatch leaves. -/
def RTookB (w : World) (X : Nat → Prop) (g : Nat) (r : List Sd × Cm.RS) (e : Ending) (w' : World) : Prop := ∃ v, e = .returned v ∧ BI w' (fun k => k < w.heap.size) v r.1 ∧ w.grownBy w' (some g) ∧ RR w' X g r.2
theorem rtb_err {w W : World} {X : Nat → Prop} {g : Nat} {r : List Sd × Cm.RS} {s : Cm.RS} (hr : r = ([], s)) (hg : w.grownBy W (some g)) (hc : RR W (fun k => X k ∨ w.heap.size ≤ k) g s) : RTookB w X g r (.returned (.slice none 0 0)) W := by
  subst hr
  exact ⟨_, rfl, bi_nil _ _, hg, hc.weaken (fun b _ h => .inl h)⟩
theorem tb_err {n : Nat} {s : Cm.RS} {l : List Sd} (h : s.2 ≠ 0) : tbatchE (tl n s l) = ([], s) := by
  have e := tl_err n s l h
  rw [tbatchE_err (by rw [e]; exact h), e]

set_option maxHeartbeats 16000000 in
theorem rtbatch_any (w : World) (X : Nat → Prop) (g : Nat) (s : Cm.RS) (h : RR w X g s) (hl : s.1.length ≤ 140737488355328) :
    Calls Tryz.prog 13 #[P_ g] w (RTookB w X g (tbatch s)) := by
  have hlt := h.lt
  have hn4 := Cm.numS_le s 4
  have hnl := Cm.numS_len s 4
  have HN := Lib.hid (rnum_any w _ g s (h.old (Nat.le_refl _)) 4)
  have HTB : Hid (tbatch s = tbatchE (tl (Cm.numS s 4).1 (Cm.numS s 4).2 [])) := Lib.hid rfl
  obtain ⟨i0, hi0, hz0, hz1, hz2⟩ := info_parts9 info_sd
  generalize tbatch s = TB at *
  unfold RNumed at HN
  generalize Cm.numS s 4 = n1 at *
  obtain ⟨n, s1⟩ := n1
  simp only at hn4 hnl HN HTB
  have hw1 := nat_i64 n (by omega)
  clear h
  go_enter Tryz.func13, Tryz.ntmps13
  go_wp2_with fail
  refine HN.out.mono ?_
  rintro e w1 ⟨rfl, hg1, hc1⟩
  have HG1 := Lib.hid hg1
  have HC1 := Lib.hid hc1
  clear hg1 hc1 HN
  go_wp2_with fail
  go_loopw [4, 5] (fun v j wr => ∃ (i : Nat) (l : List Sd) (rs : List (Option Addr × Nat)) (s2 : Cm.RS), i ≤ n ∧ j = .int .i64 i ∧ l.length = i ∧ (∀ x ∈ l, x.q.o.recs.length ≤ 4) ∧ wr.ownsRow w.heap.size 53 9 v l.length (flat l rs) ∧ Elr wr w.heap.size v l rs ∧ w.grownBy wr (some g) ∧ RR wr (fun k => X k ∨ w.heap.size ≤ k) g s2 ∧ tl n s1 [] = tl (n - i) s2 l ∧ s2.1.length ≤ s.1.length) (fun _ j _ => n - (intOf j).toNat)
  case atStart => exact ⟨0, [], [], s1, Nat.zero_le _, rfl, rfl, fun x hx => absurd hx (by simp), World.ownsRow_nil _ _ _ _, elr_nil _ _ _, HG1.out, HC1.out, rfl, hnl⟩
  case round =>
    obtain ⟨i, l, rs, s2, hi, rfl, hli, hrc, hown, hels, hgr, hcr, htl, hsl⟩ := hrel
    clear HG1 HC1
    obtain ⟨Al, cl, rfl⟩ := own_shape hown
    have hE := rr_shape hcr
    have HGR := Lib.hid hgr
    have HCR := Lib.hid hcr
    by_cases hs2 : s2.2 = 0
    · by_cases hlt2 : i < n
      · have HTL : Hid (tl n s1 [] = tl (n - (i + 1)) (tsd s2).2 (l ++ [(tsd s2).1])) := Lib.hid (by rw [htl, show n - i = (n - (i + 1)) + 1 by omega, tl_cons])
        have HLN := Lib.hid (tsd_len s2)
        have HRC : Hid (∀ x ∈ l ++ [(tsd s2).1], x.q.o.recs.length ≤ 4) := Lib.hid (fun x hx => by
          rcases List.mem_append.1 hx with hx | hx
          · exact hrc x hx
          · rw [List.mem_singleton.1 hx]; exact tsd_recs s2)
        have HMID : Hid ((Cm.bytesS s2 1024).2.2 ≠ 0 → (tsd s2).2 = (Cm.bytesS s2 1024).2) := Lib.hid (fun h => tsd_mid h)
        have HTS : Hid (tsd s2 = (⟨(qparse (Cm.bytesS s2 1024).1).1, (tsign (Cm.failS (Cm.bytesS s2 1024).2 (qparse (Cm.bytesS s2 1024).1).2)).1⟩, (tsign (Cm.failS (Cm.bytesS s2 1024).2 (qparse (Cm.bytesS s2 1024).1).2)).2)) := Lib.hid rfl
        have hbl := bytes_bound (s := s2) (by omega)
        have HBY := Lib.hid (rbytes_any wr _ g s2 hcr 1024 (by omega) (by omega) (by omega))
        unfold RTaken at HBY
        generalize tsd s2 = ts at *
        rw [hs2] at hE
        generalize Cm.bytesS s2 1024 = bs at *
        obtain ⟨bb, s3⟩ := bs
        simp only at HBY HMID HTS hbl
        have HOW := Lib.hid hown
        have HEL := Lib.hid hels
        have HSL := Lib.hid hsl
        have HLI := Lib.hid hli
        have HLT2 := Lib.hid hlt2
        have hin1 : (i : Int) < (n : Int) := by omega
        clear htl hown hels hgr hcr hrc hsl hli hs2 HCR hlt2
        go_wp2_with fail
        refine HBY.out.mono ?_
        rintro e w2 ⟨v2, rfl, ho2, hg2, hc2⟩
        have HG2 := Lib.hid (HGR.out.trans hg2)
        have hE2 := rr_shape hc2
        by_cases hs3 : s3.2 = 0
        · rw [hs3] at hE2
          obtain ⟨A2, c2, rfl⟩ := own_shape ho2
          have HPA := Lib.hid (rqparse_any w2 (fun _ => False) _ bb.length bb (Sl.of_own ho2 (fun _ _ _ h => h)) hbl)
          have HG2w := Lib.hid hg2
          have HC2 := Lib.hid hc2
          unfold ParsedQ at HPA
          generalize qparse bb = qz at *
          obtain ⟨q, z⟩ := qz
          simp only at HPA HTS
          clear HMID hg2 hc2 ho2 hs3 HBY hE
          go_wp2_with fail
          refine HPA.out.mono ?_
          rintro e w3 ⟨A3, c3, rfl, hl3, hb3⟩
          unfold QV QC
          have HL3 := Lib.hid hl3
          have HB3 := Lib.hid hb3
          clear hl3 hb3 HPA hE2
          --CUT1
          have hx4 : Blk (w3.alloc (.cells (QC q A3 c3) 27)) w3.heap.size 27 (QC q A3 c3) := Blk.new _ _ _
          have hb4 : Below w2.heap.size w2 (w3.alloc (.cells (QC q A3 c3) 27)) := HB3.out.trans ((op_below w3 _).mono HB3.out.size)
          have HF := Lib.hid (rfail_any (w3.alloc (.cells (QC q A3 c3) 27)) _ g s3 (HC2.out.after hb4) z)
          have HG4 : Hid (wr.grownBy (w3.alloc (.cells (QC q A3 c3) 27)) (some g)) := Lib.hid (HG2w.out.trans (grown_of_below hb4 _))
          have hl4 := HL3.out.after (op_below w3 (.cells (QC q A3 c3) 27))
          have HX4 := Lib.hid hx4
          have HL4 := Lib.hid hl4
          have hgx : wr.heap.size ≤ w3.heap.size := Nat.le_trans HG2w.out.size HB3.out.size
          have hwr : w.heap.size ≤ wr.heap.size := HGR.out.size
          have HGX := Lib.hid (And.intro hgx hwr)
          unfold QC at HF HG4 HX4 HL4
          clear hx4 hb4 hl4 hgx hwr
          generalize Cm.failS s3 z = s4 at *
          go_wp2_with fail
          generalize w3.alloc (.cells #[.int .i64 q.client, .int .i64 q.time, .int .i64 q.o.kind, .string ⟨q.o.topic.toArray⟩, .string ⟨q.o.group.toArray⟩, .int .i64 q.o.off, .slice A3 q.o.recs.length c3] 27) = w4 at *
          have HSZ3 : Hid (w2.heap.size ≤ w3.heap.size) := Lib.hid HB3.out.size
          clear HL3 HB3
          generalize w3.heap.size = gx at *
          refine HF.out.mono ?_
          rintro e w5 ⟨rfl, hg5, hc5⟩
          have HX5 := Lib.hid (HX4.out.grown hg5 (by have := HGX.out; simp; omega))
          have HG5 := Lib.hid (HG4.out.trans hg5)
          have HL5 : Hid (Ls w5 (fun k => k < wr.heap.size) (.slice A3 q.o.recs.length c3) q.o.recs) := Lib.hid ((HL4.out.grown hg5 (fun k hk _ => by injection hk with hk; have := HGX.out; have := HG2w.out.size; show k < w2.heap.size; omega)).weaken (fun k _ hk => by have := HG2w.out.size; have hk : k < wr.heap.size := hk; show k < w2.heap.size; omega))
          have HTG := Lib.hid fun (W : World) (b : Below w5.heap.size w5 W) => rtsign_any W _ g s4 (hc5.after b)
          unfold RTookR at HTG
          generalize tsign s4 = sg at *
          obtain ⟨⟨u1, u2⟩, s5⟩ := sg
          simp only at HTG HTS
          have HTSd : Hid (ts = (⟨q, (u1, u2)⟩, s5)) := HTS
          clear HTS HF hg5 hc5 HX4 HG4 HL4 HC2
          have HNEXT : Hid (∀ w6, (w5.drewN 1).grownBy w6 (some g) → Blk w6 gx 27 #[.int .i64 q.client, .int .i64 q.time, .int .i64 q.o.kind, .string ⟨q.o.topic.toArray⟩, .string ⟨q.o.group.toArray⟩, .int .i64 q.o.off, .slice A3 q.o.recs.length c3] ∧ wr.grownBy w6 (some g) ∧ Ls w6 (fun k => k < wr.heap.size) (.slice A3 q.o.recs.length c3) q.o.recs ∧ w6.ownsRow w.heap.size 53 9 (.slice Al l.length cl) l.length (flat l rs)) := Lib.hid (fun w6 h6 => by
            have hd : Below w5.heap.size w5 (w5.drewN 1) := below_drewN (Below.refl _ w5) 1
            have h7 : w5.grownBy w6 (some g) := (grown_of_below hd _).trans h6
            refine ⟨HX5.out.grown h7 (by have := HGX.out; simp; omega), HG5.out.trans h7, HL5.out.grown h7 (fun k hk _ => by injection hk with hk; have := HGX.out; show k < wr.heap.size; omega), ?_⟩
            exact HOW.out.kept (HG5.out.trans h7) (by have := HOW.out.lt; cases hv : (Value.slice Al l.length cl).ownBlock <;> simp; rename_i kk; have := (this kk hv).1; omega))
          obtain ⟨⟨x0, x1, x2, x3, x4, x5, x6⟩, -⟩ := Blk.cells7 HX5.out
          have hln : l.length ≤ 4 := by have := HLI.out; have := HLT2.out; omega
          have HDC := Lib.hid (dc_one (d := ⟨q, (u1, u2)⟩) (A := A3) (c := c3))
          --CUT2
          go_wp2_with fail
          --CUT3
          go_region_law (first
            | (go_simp; go_at_call 16; refine (HTG.out _ (below_drewN (Below.refl _ w5) 1)).mono ?_; rintro e w6 ⟨rfl, hg6, hc6⟩; have HN6 := Lib.hid (HNEXT.out w6 hg6); have HC6 := Lib.hid hc6; clear hg6 hc6 x0 x1 x2 x3 x4 x5 x6; obtain ⟨⟨x0, x1, x2, x3, x4, x5, x6⟩, -⟩ := Blk.cells7 HN6.out.1; have HONE := Lib.hid (one_sd w6 (fun _ => False) ⟨q, (u1, u2)⟩ A3 c3 (fun h => h)); unfold DC at HONE; dsimp only at HONE)
            | (refine step_append_sh (by rfl) (.tmp 39) (.tmp 44) _ (by rfl) w.heap.size 53 i0 _ 9 104 Tryz.underlying39 hi0 hz0 hz1 hz2 rfl (by omega) (.slice Al l.length cl) l.length (flat l rs) (by rfl) (HN6.out.2.2.2.alloc _) (fun _ => False) _ 1 _ (by rfl) HONE.out HDC.out (by simp only [maxLen]; omega) (by omega) (by have := HGX.out; have := HN6.out.2.1.size; simp; omega) ?_; intro A4 c4 w7 happ; have HR := Lib.hid (rbatch_round (d := ⟨q, (u1, u2)⟩) (A := A3) (c := c3) HGR.out hlt HOW.out HEL.out HN6.out.2.2.1 HN6.out.2.1 HC6.out happ); clear happ))
          all_goals
            go_wp2_with fail
            go_roundw
          all_goals first
            | exact ⟨i + 1, l ++ [⟨q, (u1, u2)⟩], _, s5, by have := HLT2.out; omega, by go_num, by have := HLI.out; simp; omega, by have := HRC.out; rw [HTSd.out] at this; exact this, HR.out.1, HR.out.2.1, HR.out.2.2.1, HR.out.2.2.2, by have := HTL.out; rw [HTSd.out] at this; exact this, by have := HLN.out; rw [HTSd.out] at this; have := HSL.out; simp only at *; omega⟩
            | (have := HLT2.out; simp [intOf]; omega)
        · have e1 : (s3.2 == 0) = false := beq_eq_false_iff_ne.2 hs3
          have e2 : (s3.2 != 0) = true := by rw [bne, e1]; rfl
          have HZ : Hid (TB = ([], s3)) := Lib.hid (by rw [HTB.out, HTL.out, HMID.out hs3, tb_err hs3])
          have HC2 := Lib.hid hc2
          clear hs3 hg2 hc2 ho2 HBY HTL HMID hE
          go_wp2_with fail
          go_ret
          exact rtb_err HZ.out HG2.out HC2.out
      · have hin : n - i = 0 := by omega
        rw [hin] at htl
        have HTL : Hid (TB = tbatchE (l, s2)) := Lib.hid (by rw [HTB.out, htl]; rfl)
        have HBI : Hid (BI wr (fun k => k < w.heap.size) (.slice Al l.length cl) l) := Lib.hid ⟨rs, hels.1, Sl.of_own hown (fun k h1 _ h2 => by omega), fun j hj => by
          obtain ⟨r, hr, h3⟩ := hels.2 j hj
          exact ⟨r, hr, h3.weaken (fun _ _ h => .inl h)⟩⟩
        have HCB := Lib.hid (rcbatch_any wr _ _ l HBI.out (fun x hx => by have := hrc x hx; omega) (by omega))
        rw [hs2] at hE
        clear htl hown hels hgr hcr hrc HTB hli hin hs2
        go_wp2_with fail
        refine HCB.out.mono ?_
        rintro e w2 ⟨rfl, hb2⟩
        have HGR2 := Lib.hid (grown_below HGR.out hb2)
        have HBI2 := Lib.hid (HBI.out.after hb2)
        have HF := Lib.hid (rfail_any w2 _ g s2 (HCR.out.after hb2) (bcheck l))
        unfold tbatchE at HTL
        clear hb2 HCB hE
        generalize bcheck l = z at *
        simp only at HTL
        generalize Cm.failS s2 z = s3 at *
        go_wp2_with fail
        refine HF.out.mono ?_
        rintro e w3 ⟨rfl, hg3, hc3⟩
        have HGR3 := Lib.hid (HGR2.out.trans hg3)
        have HBI3 := Lib.hid (bi_grown HBI2.out hg3 (fun k hk _ => by injection hk with hk; omega))
        have HC3 := Lib.hid hc3
        have hE3 := rr_shape hc3
        clear hg3 hc3 HF
        by_cases hs : s3.2 = 0
        · have HZ : Hid (TB = (l, s3)) := Lib.hid (by rw [HTL.out, if_neg (by rw [hs]; simp)])
          rw [hs] at hE3
          clear hs HTL
          go_wp2_with fail
          go_ret
          exact ⟨_, rfl, by rw [HZ.out]; exact HBI3.out, HGR3.out, by rw [HZ.out]; exact HC3.out.weaken (fun b _ h => .inl h)⟩
        · have e1 : (s3.2 == 0) = false := beq_eq_false_iff_ne.2 hs
          have e2 : (s3.2 != 0) = true := by rw [bne, e1]; rfl
          have HZ : Hid (TB = ([], s3)) := Lib.hid (by rw [HTL.out, if_pos hs])
          clear hs HTL
          go_wp2_with fail
          go_ret
          exact rtb_err HZ.out HGR3.out HC3.out
    · have e1 : (s2.2 == 0) = false := beq_eq_false_iff_ne.2 hs2
      have e2 : (s2.2 != 0) = true := by rw [bne, e1]; rfl
      have HZ : Hid (TB = ([], s2)) := Lib.hid (by rw [HTB.out, htl, tb_err hs2])
      by_cases hlt2 : i < n
      · have hin1 : (i : Int) < (n : Int) := by omega
        clear htl hown hels hgr hcr hrc hsl hli hs2 HTB
        go_wp2_with fail
        go_ret
        exact rtb_err HZ.out HGR.out HCR.out
      · have hin1 : ¬ ((i : Int) < (n : Int)) := by omega
        clear htl hown hels hgr hcr hrc hsl hli hs2 HTB
        go_wp2_with fail
        go_ret
        exact rtb_err HZ.out HGR.out HCR.out
end Go.Proofs.YtebjjkhiniccgaaGreat.Kb

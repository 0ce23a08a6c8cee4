/-
  Layer 8 (request): the contracts of takeSigned and TakeBatch.
-/
import Derived.Test.YtebjjkhiniccgaaGreatJp
import Derived.Test.YtebjjkhiniccgaaGreatW8
namespace Go.Proofs.YtebjjkhiniccgaaGreat.Jr
set_option linter.unusedSimpArgs false
open Go Go.RowKit Ck Kw Ca Cb Ce Cf Cg Ch Ci Ga Kf Pm Pe Pk Pp Qb Qt Lk Jm Ja Jb Jc Jd Jf Jp
attribute [local go_sem ↓] Go.wp_at_zero Go.wp_at_succ
set_option linter.unusedVariables false
set_option maxRecDepth 100000

/-- What takeSigned leaves. -/
def TookD (w : World) (X : Nat → Prop) (g : Nat) (r : Sd × Cm.RS) (e : Ending) (w' : World) : Prop := ∃ A c, e = .returned (DV r.1 A c) ∧ Ls w' (fun k => k < w.heap.size) (.slice A r.1.q.o.recs.length c) r.1.q.o.recs ∧ w.grownBy w' (some g) ∧ CR w' X g r.2
structure TD (w0 : World) (X : Nat → Prop) (g : Nat) (s : Cm.RS) (W : World) : Prop where
  grown : w0.grownBy W (some g)
  old : g < w0.heap.size
  res : Blk W w0.heap.size 53 Z9
  rd : CR W (fun k => X k ∨ w0.heap.size ≤ k) g s
section
variable {w0 W W' : World} {X : Nat → Prop} {g : Nat} {s s' : Cm.RS}
theorem TD.next (h : TD w0 X g s W) (hg : W.grownBy W' (some g)) (hc : CR W' (fun k => X k ∨ w0.heap.size ≤ k) g s') : TD w0 X g s' W' :=
  ⟨h.grown.trans hg, h.old, h.res.grown hg (by have := h.old; simp; omega), hc⟩
theorem TD.later (h : TD w0 X g s W) (hb : Below W.heap.size W W') : TD w0 X g s W' := h.next (grown_of_below hb _) (h.rd.after hb)
end
theorem td_new {w : World} {X : Nat → Prop} {g : Nat} {s : Cm.RS} (h : CR w X g s) : TD w X g s (w.alloc (.cells Z9 53)) :=
  ⟨grown_of_below (op_below w _) _, h.lt, Blk.new _ _ _, (h.old (Nat.le_refl _)).after (op_below w _)⟩
theorem tookd_of {w W : World} {X : Nat → Prop} {g : Nat} {s : Cm.RS} {d : Sd} {A : Option Addr} {c : Nat} {r : Sd × Cm.RS} (h : TD w X g s W) (hls : Ls W (fun k => k < w.heap.size + 1) (.slice A d.q.o.recs.length c) d.q.o.recs) (hr : r = (d, s)) {W' : World} (hc : W.grownBy W' (some w.heap.size)) :
    TookD w X g r (.returned (DV d A c)) W' := by
  subst hr
  have o1 := h.old
  refine ⟨A, c, rfl, (hls.grown hc (fun q hq _ => by injection hq with hq; omega)).weaken (fun k _ hk => by omega), ?_, ?_⟩
  · exact grown_step h.grown hc (.inr fun q hq => by injection hq with hq; omega)
  · exact (h.rd.grown hc (by simp; omega) (fun q hq _ => by injection hq with hq; exact .inr (by omega))).weaken (fun k _ hk => .inl hk)
theorem grown9 {w : World} {g : Nat} {x0 x1 x2 x3 x4 x5 x6 x7 x8 : Value} :
    w.grownBy (((((((((w.setCell ⟨g, 0, none⟩ x0).setCell ⟨g, 1, none⟩ x1).setCell ⟨g, 2, none⟩ x2).setCell ⟨g, 3, none⟩ x3).setCell ⟨g, 4, none⟩ x4).setCell ⟨g, 5, none⟩ x5).setCell ⟨g, 6, none⟩ x6).setCell ⟨g, 7, none⟩ x7).setCell ⟨g, 8, none⟩ x8) (some g) :=
  grown_setCell (grown_setCell (grown_setCell (grown_setCell (grown_setCell (grown_setCell (grown_setCell (grown_setCell (grown_setCell (World.grownBy.refl w (some g)) (p := ⟨g, 0, none⟩) (.inl rfl) _) (p := ⟨g, 1, none⟩) (.inl rfl) _) (p := ⟨g, 2, none⟩) (.inl rfl) _) (p := ⟨g, 3, none⟩) (.inl rfl) _) (p := ⟨g, 4, none⟩) (.inl rfl) _) (p := ⟨g, 5, none⟩) (.inl rfl) _) (p := ⟨g, 6, none⟩) (.inl rfl) _) (p := ⟨g, 7, none⟩) (.inl rfl) _) (p := ⟨g, 8, none⟩) (.inl rfl) _

set_option maxHeartbeats 8000000 in
theorem tsd_any (w : World) (X : Nat → Prop) (g : Nat) (s : Cm.RS) (h : CR w X g s) (hl : s.1.length ≤ 140737488355328) :
    Calls Tryz.prog 36 #[P_ g] w (TookD w X g (tsd s)) := by
  have HD0 := Lib.hid (td_new h)
  have HTS : Hid (tsd s = (⟨(qparse (Cm.bytesS s 1024).1).1, (tsign (Cm.failS (Cm.bytesS s 1024).2 (qparse (Cm.bytesS s 1024).1).2)).1⟩, (tsign (Cm.failS (Cm.bytesS s 1024).2 (qparse (Cm.bytesS s 1024).1).2)).2)) := Lib.hid rfl
  have HBY := Lib.hid (bytes_any _ _ g s HD0.out.rd 1024 (by omega) (by omega) hl)
  have hbl : (Cm.bytesS s 1024).1.length ≤ 140737488355328 := by
    by_cases h0 : (Cm.bytesS s 1024).2.2 = 0
    · unfold Cm.bytesS at h0 ⊢
      obtain ⟨_, _, h3, h4⟩ := Cm.takeS_ok h0
      rw [h4]
      simp only [List.length_take]
      have := Cm.numS_len s (1024 : Int).toNat
      omega
    · unfold Cm.bytesS Cm.takeS at h0 ⊢
      split
      · simp
      · split
        · simp
        · split
          · simp
          · rename_i a b c
            exfalso
            apply h0
            rw [if_neg a, if_neg b, if_neg c]
  generalize tsd s = TS at *
  unfold Taken at HBY
  generalize Cm.bytesS s 1024 = bb at *
  obtain ⟨bs, s1⟩ := bb
  simp only at HBY HTS hbl
  unfold Z9 at HBY HD0
  clear h
  go_enter Tryz.func36, Tryz.ntmps36
  go_wp2_with fail
  generalize w.alloc (.cells #[.int .i64 0, .int .i64 0, .int .i64 0, .string ⟨#[]⟩, .string ⟨#[]⟩, .int .i64 0, .slice none 0 0, .int .i64 0, .int .i64 0] 53) = w1 at *
  refine HBY.out.mono ?_
  rintro e w2 ⟨v2, rfl, ho2, hg2, hc2⟩
  obtain ⟨A2, c2, rfl⟩ := own_shape ho2
  have HD2 := Lib.hid (HD0.out.next hg2 hc2)
  have HPA := Lib.hid (qparse_any w2 (fun _ => False) _ _ bs (Sl.of_own ho2 (fun _ _ _ h => h)) hbl)
  unfold ParsedQ at HPA
  generalize qparse bs = pq at *
  obtain ⟨q, z⟩ := pq
  simp only at HPA HTS
  clear ho2 hg2 hc2 HBY
  go_wp2_with fail
  refine HPA.out.mono ?_
  rintro e w3 ⟨A3, c3, rfl, hl3, hb3⟩
  have HD3 := Lib.hid (HD2.out.later hb3)
  have HL3 : Hid (Ls w3 (fun k => k < w.heap.size + 1) (.slice A3 q.o.recs.length c3) q.o.recs) := Lib.hid (hl3.weaken (fun k _ hk => by have := HD2.out.res.lt; show k < w2.heap.size; omega))
  clear hl3 hb3 HPA
  have HD4 := Lib.hid (HD3.out.later (op_below w3 (.cells (QC q A3 c3) 27)))
  have HL4 := Lib.hid (HL3.out.after (op_below w3 (.cells (QC q A3 c3) 27)))
  have hk4 : QB (w3.alloc (.cells (QC q A3 c3) 27)) w3.heap.size q A3 c3 := Blk.new _ _ _
  have HZ4 : Hid (w.heap.size + 1 ≤ w3.heap.size) := Lib.hid HD3.out.res.lt
  unfold QV
  unfold QC at HD4 HL4 hk4 ⊢
  go_wp2_with fail
  generalize w3.alloc (.cells #[.int .i64 q.client, .int .i64 q.time, .int .i64 q.o.kind, .string ⟨q.o.topic.toArray⟩, .string ⟨q.o.group.toArray⟩, .int .i64 q.o.off, .slice A3 q.o.recs.length c3] 27) = w4 at *
  generalize w3.heap.size = gx at *
  have HK4 := Lib.hid hk4
  have HFA := Lib.hid (fail_any w4 _ g s1 HD4.out.rd z)
  clear hk4
  generalize Cm.failS s1 z = s2 at *
  refine HFA.out.mono ?_
  rintro e w5 ⟨rfl, hg5, hc5⟩
  have HD5 := Lib.hid (HD4.out.next hg5 hc5)
  have HK5 := Lib.hid (Blk.grown HK4.out hg5 (by have := HD4.out.old; have := HZ4.out; simp; omega))
  have HL5 := Lib.hid (HL4.out.grown hg5 (fun k hk _ => by injection hk with hk; have := HD4.out.old; omega))
  clear hg5 hc5 HFA
  go_wp2_with fail
  have HTG := Lib.hid (tsign_any w5.drew _ g s2 (show CR w5.drew (fun k => X k ∨ w.heap.size ≤ k) g s2 from HD5.out.rd))
  unfold TookS at HTG
  generalize tsign s2 = t3 at *
  obtain ⟨⟨k1, k2⟩, s3⟩ := t3
  simp only at HTG HTS
  obtain ⟨a0, a1, a2, a3, a4, a5, a6⟩ := QB.cells HK5.out
  go_region_law (first
    | (go_simp; go_at_call 15; refine HTG.out.mono ?_; rintro e w6 ⟨rfl, hg6, hc6⟩; have hg6 : w5.grownBy w6 (some g) := ⟨hg6.os, hg6.tape, hg6.output, hg6.size, hg6.block⟩; have HD6 := Lib.hid (HD5.out.next hg6 hc6); have HK6 := Lib.hid (Blk.grown HK5.out hg6 (by have := HD4.out.old; have := HZ4.out; simp; omega)); have HL6 := Lib.hid (HL5.out.grown hg6 (fun k hk _ => by injection hk with hk; have := HD4.out.old; omega)); clear hg6 hc6 a0 a1 a2 a3 a4 a5 a6; obtain ⟨a0, a1, a2, a3, a4, a5, a6⟩ := QB.cells HK6.out; have hr6 : Blk w6 w.heap.size 53 #[.int .i64 0, .int .i64 0, .int .i64 0, .string ⟨#[]⟩, .string ⟨#[]⟩, .int .i64 0, .slice none 0 0, .int .i64 0, .int .i64 0] := HD6.out.res; obtain ⟨⟨z0, z1, z2, z3, z4, z5, z6, z7, z8⟩, ⟨y0, y1, y2, y3, y4, y5, y6, y7, y8⟩⟩ := Blk.cells9 hr6; have HR6 := Lib.hid hr6; clear hr6))
  all_goals
    go_wp2_with fail
    refine bodyPost_ret (results_row1 rfl _ _ w.heap.size 53 #[.int .i64 q.client, .int .i64 q.time, .int .i64 q.o.kind, .string ⟨q.o.topic.toArray⟩, .string ⟨q.o.group.toArray⟩, .int .i64 q.o.off, .slice A3 q.o.recs.length c3, .int .i64 k1, .int .i64 k2] (0, 0) _ rfl (blk9 HR6.out) Tryz.underlying53 rfl size_signed) rfl ?_
    exact tookd_of (d := ⟨q, (k1, k2)⟩) (A := A3) (c := c3) HD6.out HL6.out HTS.out grown9

theorem info_sd : (Tryz.prog.info? 53).map (fun i => (i.zero, i.size, i.bytes)) = some (some (.agg Z9), 9, 104) := by kernel_rfl
theorem info_parts9 {o : Option TypeInfo} {z : Value} {a b : Nat} (h : o.map (fun i => (i.zero, i.size, i.bytes)) = some (some z, a, b)) : ∃ i, o = some i ∧ i.zero = some z ∧ i.size = a ∧ i.bytes = b := by
  cases o with
  | none => simp at h
  | some i =>
    simp only [Option.map_some, Option.some.injEq, Prod.mk.injEq] at h
    exact ⟨i, rfl, h.1, h.2.1, h.2.2⟩
/-- A batch's records, none of them where its own row lies. -/
def Elr (w : World) (B : Nat) (v : Value) (l : List Sd) (rs : List (Option Addr × Nat)) : Prop :=
  rs.length = l.length ∧ ∀ i (h : i < l.length), ∃ r, rs[i]? = some r ∧ Ls w (fun k => k < B ∨ v.ownBlock = some k) (.slice r.1 l[i].q.o.recs.length r.2) l[i].q.o.recs
theorem elr_nil (w : World) (B : Nat) (v : Value) : Elr w B v [] [] := ⟨rfl, fun i h => absurd h (by simp)⟩
theorem flat_snoc {l : List Sd} {rs : List (Option Addr × Nat)} (h : rs.length = l.length) (d : Sd) (A : Option Addr) (c : Nat) : flat (l ++ [d]) (rs ++ [(A, c)]) = flat l rs ++ (DC d A c).toList := by
  unfold flat
  rw [List.zip_append h.symm, List.flatMap_append]
  simp
theorem dc_one {d : Sd} {A : Option Addr} {c : Nat} : ∀ u ∈ (DC d A c).toList, u.oneCell' = true := by
  intro u hu
  simp only [DC, List.mem_cons, List.not_mem_nil, or_false] at hu
  rcases hu with rfl | rfl | rfl | rfl | rfl | rfl | rfl | rfl | rfl <;> rfl
/-- A signed request as a batch of its own. -/
theorem one_sd (w : World) (X : Nat → Prop) (d : Sd) (A : Option Addr) (c : Nat) (hX : ¬ X w.heap.size) : Sl (w.alloc (.cells (DC d A c) 53)) X 9 (.slice (some ⟨w.heap.size, 0, none⟩) 1 1) 1 (DC d A c).toList :=
  ⟨_, _, rfl, rfl, Nat.le_refl _, by simp only [maxLen]; omega, fun _ => ⟨_, rfl, by simp, hX, fun j u hu => by
    have h2 : (⟨w.heap.size, 0, none⟩ : Addr).add j = ⟨w.heap.size, j, none⟩ := by unfold Addr.add; split <;> simp_all
    rw [h2, Blk.cell (Blk.new w 53 _) j]
    simpa using hu⟩⟩
theorem ls_old {w : World} {X : Nat → Prop} {v : Value} {ls : List (List UInt8)} (h : Ls w X v ls) {B : Nat} (hB : w.heap.size ≤ B) : Ls w (fun k => X k ∨ B ≤ k) v ls := by
  obtain ⟨vals, a, b⟩ := h
  exact ⟨vals, a.old hB, fun i hi => by obtain ⟨u, hu, h⟩ := b i hi; exact ⟨u, hu, h.old hB⟩⟩
/-- One round: a signed request was read and put behind the others. -/
theorem batch_round {W wr w1 w2 : World} {X : Nat → Prop} {g : Nat} {v v2 : Value} {l : List Sd} {rs : List (Option Addr × Nat)} {d : Sd} {A : Option Addr} {c : Nat} {s1 : Cm.RS}
    (hg : W.grownBy wr (some g)) (hgl : g < W.heap.size) (hown : wr.ownsRow W.heap.size 53 9 v l.length (flat l rs)) (hels : Elr wr W.heap.size v l rs)
    (hu : Ls w1 (fun k => k < wr.heap.size) (.slice A d.q.o.recs.length c) d.q.o.recs) (hg1 : wr.grownBy w1 (some g)) (hc1 : CR w1 (fun k => X k ∨ W.heap.size ≤ k) g s1)
    (happ : Appended (w1.alloc (.cells (DC d A c) 53)) W.heap.size 53 9 v (l.length + 1) (flat l rs ++ (DC d A c).toList) v2 w2) :
    w2.ownsRow W.heap.size 53 9 v2 (l ++ [d]).length (flat (l ++ [d]) (rs ++ [(A, c)])) ∧ Elr w2 W.heap.size v2 (l ++ [d]) (rs ++ [(A, c)]) ∧ W.grownBy w2 (some g) ∧ CR w2 (fun k => X k ∨ W.heap.size ≤ k) g s1 := by
  have hlt := hown.lt
  have hb : Below w1.heap.size w1 (w1.alloc (.cells (DC d A c) 53)) := op_below w1 _
  have each : ∀ i (h : i < (l ++ [d]).length), ∃ r, (rs ++ [(A, c)])[i]? = some r ∧ Ls (w1.alloc (.cells (DC d A c) 53)) (fun k => k < W.heap.size ∨ v.ownBlock = some k) (.slice r.1 (l ++ [d])[i].q.o.recs.length r.2) (l ++ [d])[i].q.o.recs := by
    intro i hi
    rw [List.length_append, List.length_singleton] at hi
    by_cases hl : i < l.length
    · obtain ⟨r, hr, h3⟩ := hels.2 i hl
      refine ⟨r, by rw [List.getElem?_append_left (by rw [hels.1]; exact hl)]; exact hr, ?_⟩
      have e : (l ++ [d])[i] = l[i] := List.getElem_append_left hl
      rw [e]
      exact (h3.grown hg1 (fun k hk _ => .inl (by injection hk with hk; omega))).after hb
    · have he : i = l.length := by omega
      subst he
      refine ⟨(A, c), by rw [List.getElem?_append_right (by rw [hels.1]; omega), hels.1]; simp, ?_⟩
      have e : (l ++ [d])[l.length] = d := by simp
      rw [e]
      refine (hu.after hb).weaken (fun k _ hk => ?_)
      have := hg.size
      rcases hk with hk | hk
      · omega
      · have := (hlt k hk).2; omega
  refine ⟨by rw [List.length_append, flat_snoc hels.1]; exact happ.1, ⟨by simp [hels.1], fun i hi => ?_⟩, ?_, ?_⟩
  · obtain ⟨r, hr, h5⟩ := each i hi
    refine ⟨r, hr, ?_⟩
    have h6 := (ls_old h5 (Nat.le_refl _)).grown happ.2.1 (fun k hk _ => .inl (.inr hk))
    refine h6.weaken fun b _ hy => ?_
    rcases hy with hy | hy
    · exact .inl (.inl hy)
    · rcases happ.2.2 with hr | hr
      · rw [hr] at hy; exact .inl (.inr hy)
      · rw [hr] at hy; injection hy with hy; exact .inr (by omega)
  · exact grown_step (grown_below (hg.trans hg1) hb) happ.2.1 (.inr fun k hk => (hlt k hk).1)
  · refine (hc1.after hb).grown happ.2.1 ?_ (fun k hk _ => .inr (hlt k hk).1)
    intro he
    have := (hlt g he.symm).1
    omega

theorem bi_grown {w w' : World} {X : Nat → Prop} {v : Value} {l : List Sd} {row : Option Nat} (h : BI w X v l) (hg : w.grownBy w' row) (hr : ∀ k, row = some k → k < w.heap.size → X k) : BI w' X v l := by
  obtain ⟨rs, h1, h2, h3⟩ := h
  exact ⟨rs, h1, h2.grown hg hr, fun i hi => by obtain ⟨r, h4, h5⟩ := h3 i hi; exact ⟨r, h4, h5.grown hg hr⟩⟩
/-- What TakeBatch leaves. -/
def TookB (w : World) (X : Nat → Prop) (g : Nat) (r : List Sd × Cm.RS) (e : Ending) (w' : World) : Prop := ∃ v, e = .returned v ∧ BI w' (fun k => k < w.heap.size) v r.1 ∧ w.grownBy w' (some g) ∧ CR w' X g r.2
theorem tl_cons {n : Nat} {s : Cm.RS} {acc : List Sd} : tl (n + 1) s acc = tl n (tsd s).2 (acc ++ [(tsd s).1]) := rfl
theorem tsd_len (s : Cm.RS) : (tsd s).2.1.length ≤ s.1.length := by
  have hf : ∀ (t : Cm.RS) e, (Cm.failS t e).1.length ≤ t.1.length := fun t e => by
    unfold Cm.failS
    split
    · exact Nat.le_refl _
    · split
      · simp
      · exact Nat.le_refl _
  have h1 := Cm.bytesS_len s 1024
  unfold tsd
  simp only
  generalize (qparse (Cm.bytesS s 1024).1).2 = z
  generalize Cm.bytesS s 1024 = b at *
  have h2 := hf b.2 z
  generalize Cm.failS b.2 z = t at *
  have h3 := Cm.numS_len t 20
  have h4 := Cm.numS_len (Cm.numS t 20).2 9007199254740992
  have h5 := hf (Cm.numS (Cm.numS t 20).2 9007199254740992).2 81
  unfold tsign tsS
  repeat' split
  all_goals first | omega | (simp only; omega)
theorem tsd_recs (s : Cm.RS) : (tsd s).1.q.o.recs.length ≤ 4 := qparse_recs _

set_option maxHeartbeats 8000000 in
theorem tbatch_any (w : World) (X : Nat → Prop) (g : Nat) (s : Cm.RS) (h : CR w X g s) (hl : s.1.length ≤ 140737488355328) :
    Calls Tryz.prog 12 #[P_ g] w (TookB w X g (tbatch s)) := by
  have hlt := h.lt
  have hn4 := Cm.numS_le s 4
  have hnl := Cm.numS_len s 4
  have HN := Lib.hid (num_any w _ g s (h.old (Nat.le_refl _)) 4)
  have HTB : Hid (tbatch s = tbatchE (tl (Cm.numS s 4).1 (Cm.numS s 4).2 [])) := Lib.hid rfl
  obtain ⟨i0, hi0, hz0, hz1, hz2⟩ := info_parts9 info_sd
  generalize tbatch s = TB at *
  unfold Numed at HN
  generalize Cm.numS s 4 = n1 at *
  obtain ⟨n, s1⟩ := n1
  simp only at hn4 hnl HN HTB
  clear h
  go_enter Tryz.func12, Tryz.ntmps12
  go_wp2_with fail
  refine HN.out.mono ?_
  rintro e w1 ⟨rfl, hg1, hc1⟩
  have HG1 := Lib.hid hg1
  have HC1 := Lib.hid hc1
  clear hg1 hc1 HN
  go_wp2_with fail
  go_loopw [3, 6] (fun v j wr => ∃ (i : Nat) (l : List Sd) (rs : List (Option Addr × Nat)) (s2 : Cm.RS), i ≤ n ∧ j = .int .u64 i ∧ l.length = i ∧ (∀ x ∈ l, x.q.o.recs.length ≤ 4) ∧ wr.ownsRow w.heap.size 53 9 v l.length (flat l rs) ∧ Elr wr w.heap.size v l rs ∧ w.grownBy wr (some g) ∧ CR wr (fun k => X k ∨ w.heap.size ≤ k) g s2 ∧ tl n s1 [] = tl (n - i) s2 l ∧ s2.1.length ≤ s.1.length) (fun _ j _ => n - (intOf j).toNat)
  case atStart => exact ⟨0, [], [], s1, Nat.zero_le _, rfl, rfl, fun x hx => absurd hx (by simp), World.ownsRow_nil _ _ _ _, elr_nil _ _ _, HG1.out, HC1.out, rfl, hnl⟩
  case round =>
    obtain ⟨i, l, rs, s2, hi, rfl, hli, hrc, hown, hels, hgr, hcr, htl, hsl⟩ := hrel
    clear HG1 HC1
    by_cases hlt2 : i < n
    · have HTL : Hid (tl n s1 [] = tl (n - (i + 1)) (tsd s2).2 (l ++ [(tsd s2).1])) := Lib.hid (by rw [htl, show n - i = (n - (i + 1)) + 1 by omega, tl_cons])
      have HLN := Lib.hid (tsd_len s2)
      have HRC : Hid (∀ x ∈ l ++ [(tsd s2).1], x.q.o.recs.length ≤ 4) := Lib.hid (fun x hx => by
        rcases List.mem_append.1 hx with hx | hx
        · exact hrc x hx
        · rw [List.mem_singleton.1 hx]; exact tsd_recs s2)
      have HTD := Lib.hid (tsd_any wr _ g s2 hcr (by omega))
      unfold TookD at HTD
      generalize tsd s2 = ts at *
      obtain ⟨d, s3⟩ := ts
      simp only at HTL HLN HTD HRC
      have HOW := Lib.hid hown
      have HEL := Lib.hid hels
      have HGR := Lib.hid hgr
      obtain ⟨Al, cl, rfl⟩ := own_shape hown
      have HSL := Lib.hid hsl
      have HLI := Lib.hid hli
      clear htl hown hels hgr hcr hrc hsl hli
      unfold DV at HTD
      go_wp2_with fail
      --CUT1
      refine HTD.out.mono ?_
      rintro e w2 ⟨A2, c2, rfl, hl2, hg2, hc2⟩
      have HL2 := Lib.hid hl2
      have HG2 := Lib.hid hg2
      have HC2 := Lib.hid hc2
      have HOW2 : Hid (w2.ownsRow w.heap.size 53 9 (.slice Al l.length cl) l.length (flat l rs)) := Lib.hid (HOW.out.kept hg2 (by have := HOW.out.lt; cases hv : (Value.slice Al l.length cl).ownBlock <;> simp; rename_i kk; have := (this kk hv).1; omega))
      have HONE := Lib.hid (one_sd w2 (fun _ => False) d A2 c2 (fun h => h))
      have HDC := Lib.hid (dc_one (d := d) (A := A2) (c := c2))
      have HSZ : Hid (w.heap.size ≤ w2.heap.size) := Lib.hid (Nat.le_trans HGR.out.size hg2.size)
      clear hl2 hg2 hc2 HTD
      have hln : l.length ≤ 4 := by have := HLI.out; omega
      unfold DC at HONE
      unfold DC
      --CUT2
      go_wp2_with (at_builtin; refine wpList_append_sl _ rfl (.tmp 8) (.tmp 11) _ rfl w.heap.size 53 i0 _ 9 104 Tryz.underlying39 hi0 hz0 hz1 hz2 rfl (by omega) (.slice Al l.length cl) l.length (flat l rs) rfl (HOW2.out.alloc _) (fun _ => False) _ 1 _ rfl HONE.out HDC.out (by simp only [maxLen]; omega) (by omega) (by have := HSZ.out; simp; omega) ?_; intro v4 w4 happ)
      --CUT3
      have R := batch_round HGR.out hlt HOW.out HEL.out HL2.out HG2.out HC2.out happ
      have HR := Lib.hid R
      --CUT5
      clear R happ
      go_wp2_with fail
      --CUT6
      go_roundw
      --CUT7
      case rel => exact ⟨i + 1, l ++ [d], _, s3, by omega, by go_num, by have := HLI.out; simp; omega, HRC.out, HR.out.1, HR.out.2.1, HR.out.2.2.1, HR.out.2.2.2, HTL.out, by have := HLN.out; have := HSL.out; omega⟩
      case measure => simp [intOf]; omega
    · have hin : n - i = 0 := by omega
      rw [hin] at htl
      have HTL : Hid (TB = tbatchE (l, s2)) := Lib.hid (by rw [HTB.out, htl]; rfl)
      obtain ⟨Al, cl, rfl⟩ := own_shape hown
      have HBI : Hid (BI wr (fun k => k < w.heap.size) (.slice Al l.length cl) l) := Lib.hid ⟨rs, hels.1, Sl.of_own hown (fun k h1 _ h2 => by omega), fun j hj => by
        obtain ⟨r, hr, h3⟩ := hels.2 j hj
        exact ⟨r, hr, h3.weaken (fun _ _ h => .inl h)⟩⟩
      have HCB := Lib.hid (cbatch_any wr _ _ l HBI.out (fun x hx => by have := hrc x hx; omega) (by omega))
      have HGR := Lib.hid hgr
      have HCR := Lib.hid hcr
      clear htl hown hels hgr hcr hrc HTB hli hin
      go_wp2_with fail
      --CUT4
      refine HCB.out.mono ?_
      rintro e w2 ⟨rfl, hb2⟩
      have HGR2 := Lib.hid (grown_below HGR.out hb2)
      have HBI2 := Lib.hid (HBI.out.after hb2)
      have HF := Lib.hid (fail_any w2 _ g s2 (HCR.out.after hb2) (bcheck l))
      unfold tbatchE at HTL
      clear hb2 HCB
      generalize bcheck l = z at *
      simp only at HTL
      generalize Cm.failS s2 z = s3 at *
      go_wp2_with fail
      --CUT8
      refine HF.out.mono ?_
      rintro e w3 ⟨rfl, hg3, hc3⟩
      have HGR3 := Lib.hid (HGR2.out.trans hg3)
      have HBI3 := Lib.hid (bi_grown HBI2.out hg3 (fun k hk _ => by injection hk with hk; omega))
      have HC3 := Lib.hid (hc3.weaken (Y := X) (fun b _ h => .inl h))
      obtain ⟨A6, n6, c6, hb6, -⟩ := id hc3
      have HER := Lib.hid (err_blk w3 g _ _ hb6)
      clear hg3 hc3 HF hb6
      --CUT9
      by_cases hs : s3.2 = 0
      · have HZ : Hid (TB = (l, s3)) := Lib.hid (by rw [HTL.out, if_neg (by rw [hs]; simp)])
        rw [hs] at HER
        clear hs HTL
        go_wp2_with fail
        refine HER.out.mono ?_
        rintro e w7 ⟨rfl, rfl⟩
        go_wp2_with fail
        go_ret
        exact ⟨_, rfl, by rw [HZ.out]; exact HBI3.out, HGR3.out, by rw [HZ.out]; exact HC3.out⟩
      · have e1 : (s3.2 == 0) = false := beq_eq_false_iff_ne.2 hs
        have e2 : (s3.2 != 0) = true := by rw [bne, e1]; rfl
        have HZ : Hid (TB = ([], s3)) := Lib.hid (by rw [HTL.out, if_pos hs])
        clear hs HTL
        go_wp2_with fail
        refine HER.out.mono ?_
        rintro e w7 ⟨rfl, rfl⟩
        go_wp2_with fail
        go_ret
        exact ⟨_, rfl, by rw [HZ.out]; exact bi_nil _ _, HGR3.out, by rw [HZ.out]; exact HC3.out⟩
end Go.Proofs.YtebjjkhiniccgaaGreat.Jr

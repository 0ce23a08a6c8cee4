/-
  Layer 9 (block): the contract of begin.
-/
import Derived.Test.YtobphijbhghgmaaGreatO14
import Derived.Test.YtobphijbhghgmaaGreatO10
import Derived.Test.YtobphijbhghgmaaGreatO01
import Derived.Deep.Quiet
import Derived.Deep.QuietTactic
import Derived.BigQuiet
import Derived.Deep.RegionHeld3
namespace Go.Proofs.YtobphijbhghgmaaGreat.Zj
set_option linter.unusedSimpArgs false
open Go Go.RowKit Ck Kw Ga Kf Pm Pe Qb Ik Ja Jm Jb Jn Ma Za Zb Ze Zc Zg Zh
open Im (num isIn add sum)
attribute [local go_sem ↓] Go.wp_at_zero Go.wp_at_succ
set_option linter.unusedVariables false
set_option maxRecDepth 100000

/-- A table, kept over a call's own two blocks: a header, and the result. -/
structure BK (w0 : World) (S : Nat → Prop) (p : Nat) (L : List Tx) (last : H) (W : World) : Prop where
  own : ∃ S', Tb W S' p L ∧ ∀ k, S' k → ((S k ∧ k < w0.heap.size) ∨ w0.heap.size ≤ k) ∧ k ≠ w0.heap.size ∧ k ≠ w0.heap.size + 1 ∧ k < W.heap.size
  ch : Ch (fun k => S k ∧ k < w0.heap.size) w0 W
  g0 : Blk W w0.heap.size 24 (HC last)
  g1 : Blk W (w0.heap.size + 1) 24 ZH
section
variable {w0 W W' : World} {S : Nat → Prop} {p : Nat} {L L' : List Tx} {last : H}
theorem BK.later (h : BK w0 S p L last W) (b : Below W.heap.size W W') : BK w0 S p L last W' := by
  obtain ⟨⟨S', h1, h2⟩, h3, h4, h5⟩ := h
  exact ⟨⟨S', Tb.after h1 b, fun k hk => ⟨(h2 k hk).1, (h2 k hk).2.1, (h2 k hk).2.2.1, Nat.lt_of_lt_of_le (h2 k hk).2.2.2 b.size⟩⟩, h3.trans (Ch.of_below b (Nat.le_refl _)) (fun _ _ h => h), h4.below b h4.lt, h5.below b h5.lt⟩
theorem BK.ask {P : Program} {f : FuncId} {args : Array Value} {r : Ending} (h : BK w0 S p L last W) (hc : ∀ S1, Tb W S1 p L → Calls P f args W (Asks S1 p r L' W)) :
    Calls P f args W fun e w' => e = r ∧ BK w0 S p L' last w' := by
  obtain ⟨⟨S', h1, h2⟩, h3, h4, h5⟩ := h
  refine (hc S' h1).mono ?_
  rintro e w' ⟨he, ht, c⟩
  have hs := c.size
  have l4 := h4.lt
  have l5 := h5.lt
  refine ⟨he, ⟨_, ht, fun k hk => ?_⟩, h3.trans c (fun k hk hX => ?_), h4.ch c (fun hX => (h2 _ hX).2.1 rfl), h5.ch c (fun hX => (h2 _ hX).2.2.1 rfl)⟩
  · rcases hk with hk | hk
    · obtain ⟨a, b, c', d⟩ := h2 k hk
      exact ⟨a, b, c', by omega⟩
    · exact ⟨.inr (by omega), by omega, by omega, hk.2⟩
  · rcases (h2 k hX).1 with q | q
    · exact q
    · omega
theorem BK.fin (h : BK w0 S p L last W) {e r : Ending} (he : e = r) (x0 x1 x2 x3 x4 : Value) :
    Asks S p r L w0 e (((((W.setCell ⟨w0.heap.size + 1, 0, none⟩ x0).setCell ⟨w0.heap.size + 1, 1, none⟩ x1).setCell ⟨w0.heap.size + 1, 2, none⟩ x2).setCell ⟨w0.heap.size + 1, 3, none⟩ x3).setCell ⟨w0.heap.size + 1, 4, none⟩ x4) := by
  obtain ⟨⟨S', h1, h2⟩, h3, h4, h5⟩ := h
  have c : Ch (fun k => k = w0.heap.size + 1) W (((((W.setCell ⟨w0.heap.size + 1, 0, none⟩ x0).setCell ⟨w0.heap.size + 1, 1, none⟩ x1).setCell ⟨w0.heap.size + 1, 2, none⟩ x2).setCell ⟨w0.heap.size + 1, 3, none⟩ x3).setCell ⟨w0.heap.size + 1, 4, none⟩ x4) :=
    (((((Ch.refl (fun k => k = w0.heap.size + 1) W).setCell (p := ⟨w0.heap.size + 1, 0, none⟩) (fun _ => rfl) x0).setCell (p := ⟨w0.heap.size + 1, 1, none⟩) (fun _ => rfl) x1).setCell (p := ⟨w0.heap.size + 1, 2, none⟩) (fun _ => rfl) x2).setCell (p := ⟨w0.heap.size + 1, 3, none⟩) (fun _ => rfl) x3).setCell (p := ⟨w0.heap.size + 1, 4, none⟩) (fun _ => rfl) x4
  have hs := c.size
  refine ⟨he, (h1.ch c (fun k hk hX => (h2 k hk).2.2.1 hX)).weaken (fun k hk => ?_), (h3.mono (fun k _ hk => hk.1)).trans c (fun k hk hX => by omega)⟩
  rcases (h2 k hk).1 with q | q
  · exact .inl q.1
  · exact .inr ⟨q, Nat.lt_of_lt_of_le (h2 k hk).2.2.2 hs⟩
end
theorem bk_new {w : World} {S : Nat → Prop} {p : Nat} {L : List Tx} (h : Tb w S p L) (last : H) : BK w S p L last ((w.alloc (.cells (HC last) 24)).alloc (.cells ZH 24)) := by
  have b2 : Below w.heap.size w ((w.alloc (.cells (HC last) 24)).alloc (.cells ZH 24)) := (op_below w _).trans ((op_below _ _).mono (by simp))
  have hs := b2.size
  exact ⟨⟨_, Tb.after (Tb.tight h) b2, fun k hk => ⟨.inl hk, by have := hk.2; omega, by have := hk.2; omega, by have := hk.2; omega⟩⟩, Ch.of_below b2 (Nat.le_refl _), Blk.alloc (Blk.new w _ _) _, Blk.new_at (by simp) rfl⟩

set_option maxHeartbeats 8000000 in
theorem begin_any (w : World) (S X : Nat → Prop) (p : Nat) (L : List Tx) (last : H) (b : List Sd) (vb : Value) (h : Tb w S p L) (hb : BI w X vb b) (hr : ∀ x ∈ b, x.q.o.recs.length ≤ 140737488355328) (hl63 : b.length ≤ 140737488355328) :
    Calls Tryz.prog 48 #[.pointer (some ⟨p, 0, none⟩), HV last, vb] w (Asks S p (.returned (.tuple #[HV (beginR L last b).1, .int .i64 (beginR L last b).2])) (beginT L last b) w) := by
  have HK := Lib.hid (bk_new h last)
  have HC0 := Lib.hid (hcheck_any ((w.alloc (.cells (HC last) 24)).alloc (.cells ZH 24)) last)
  have b2 : Below w.heap.size w ((w.alloc (.cells (HC last) 24)).alloc (.cells ZH 24)) := (op_below w _).trans ((op_below _ _).mono (by simp))
  have HBD := Lib.hid fun (W : World) (S1 : Nat → Prop) (bl : Below w.heap.size w W) (ht : Tb W S1 p L) => bdigest_any W S1 X p L b vb ht (hb.after bl) hr hl63
  have HHD := Lib.hid fun (W : World) (S1 : Nat → Prop) (L1 : List Tx) (ht : Tb W S1 p L1) => hdigest_any W S1 p L1 last ht
  have HB2 := Lib.hid b2
  have HBR : Hid (beginR L last b = if hcheck last ≠ 0 then (H.zero, hcheck last) else if last.seq = 9007199254740992 then (H.zero, 6) else if (digR L b).2 ≠ 0 then (H.zero, (digR L b).2)
    else if (hdigR (digT L b) last).2 ≠ 0 then (H.zero, (hdigR (digT L b) last).2) else (⟨last.seq + 1, (hdigR (digT L b) last).1, (digR L b).1, 0, 0⟩, 0)) := Lib.hid rfl
  have HBT : Hid (beginT L last b = if hcheck last ≠ 0 then L else if last.seq = 9007199254740992 then L else if (digR L b).2 ≠ 0 then digT L b else hdigT (digT L b) last) := Lib.hid rfl
  have HSQ : Hid (hcheck last = 0 → 0 ≤ last.seq ∧ last.seq ≤ 9007199254740992) := Lib.hid fun h => (hcheck_ok.1 h).1
  clear h hb hr hl63 b2
  generalize beginR L last b = br at *
  generalize beginT L last b = bt at *
  generalize hcheck last = z at *
  obtain ⟨⟨a0, a1, a2, a3, a4⟩, -⟩ := Blk.cells5 HK.out.g0
  unfold HV at *
  unfold HC ZH at *
  go_enter Tryz.func48, Tryz.ntmps48
  go_wp2_with fail
  generalize (w.alloc (.cells #[.int .i64 last.seq, .int .i64 last.prev, .int .i64 last.batch, .int .i64 last.root, .int .i64 last.state] 24)).alloc (.cells #[.int .i64 0, .int .i64 0, .int .i64 0, .int .i64 0, .int .i64 0] 24) = W0 at *
  refine HC0.out.mono ?_
  rintro e w1 ⟨rfl, hb1⟩
  have HK1 := Lib.hid (HK.out.later hb1)
  have HB1 := Lib.hid (HB2.out.trans (hb1.mono HB2.out.size))
  clear hb1 a0 a1 a2 a3 a4 HC0 HK HB2
  have hg0 : Blk w1 w.heap.size 24 #[.int .i64 last.seq, .int .i64 last.prev, .int .i64 last.batch, .int .i64 last.root, .int .i64 last.state] := HK1.out.g0
  have hg1 : Blk w1 (w.heap.size + 1) 24 #[.int .i64 0, .int .i64 0, .int .i64 0, .int .i64 0, .int .i64 0] := HK1.out.g1
  obtain ⟨⟨a0, a1, a2, a3, a4⟩, -⟩ := Blk.cells5 hg0
  obtain ⟨⟨r0, r1, r2, r3, r4⟩, ⟨z0, z1, z2, z3, z4⟩⟩ := Blk.cells5 hg1
  have HG1 := Lib.hid hg1
  clear hg0 hg1
  by_cases hz : z = 0
  · obtain ⟨q0, q1⟩ := HSQ.out hz
    subst hz
    by_cases hm : last.seq = 9007199254740992
    · have d0 : (last.seq == 9007199254740992) = true := by rw [hm]; rfl
      have HR : Hid (br = (H.zero, 6) ∧ bt = L) := Lib.hid ⟨by rw [HBR.out, if_neg (by simp), if_pos hm], by rw [HBT.out, if_neg (by simp), if_pos hm]⟩
      clear hm HBR HBT q0 q1
      go_wp2_with fail
      refine bodyPost_ret (results_row_tmp rfl _ _ (w.heap.size + 1) 24 #[.int .i64 0, .int .i64 0, .int .i64 0, .int .i64 0, .int .i64 0] (0, 0) _ rfl (blk5 HG1.out) Tryz.underlying24 rfl size_hdr) rfl ?_
      rw [HR.out.2]
      exact HK1.out.fin (by rw [HR.out.1]; rfl) _ _ _ _ _
    · have d0 : (last.seq == 9007199254740992) = false := beq_eq_false_iff_ne.2 hm
      have hwr : IntKind.i64.wrap (last.seq + 1) = last.seq + 1 := Ga.wrap64 (by omega) (by omega)
      have HR0 : Hid (br = (if (digR L b).2 ≠ 0 then (H.zero, (digR L b).2) else if (hdigR (digT L b) last).2 ≠ 0 then (H.zero, (hdigR (digT L b) last).2) else (⟨last.seq + 1, (hdigR (digT L b) last).1, (digR L b).1, 0, 0⟩, 0)) ∧ bt = if (digR L b).2 ≠ 0 then digT L b else hdigT (digT L b) last) := Lib.hid ⟨by rw [HBR.out, if_neg (by simp), if_neg hm], by rw [HBT.out, if_neg (by simp), if_neg hm]⟩
      have HD1 := Lib.hid (HK1.out.ask (fun S1 ht => HBD.out w1 S1 HB1.out ht))
      clear hm HBR HBT q0 q1
      generalize digT L b = L1 at *
      generalize digR L b = dr at *
      obtain ⟨d1, d2⟩ := dr
      simp only at HD1 HR0
      clear HBD
      go_wp2_with fail
      refine HD1.out.mono ?_
      rintro e w2 ⟨rfl, hk2⟩
      have HK2 := Lib.hid hk2
      clear hk2 a0 a1 a2 a3 a4 r0 r1 r2 r3 r4 z0 z1 z2 z3 z4 HD1 HG1 HK1
      have hg0 : Blk w2 w.heap.size 24 #[.int .i64 last.seq, .int .i64 last.prev, .int .i64 last.batch, .int .i64 last.root, .int .i64 last.state] := HK2.out.g0
      have hg1 : Blk w2 (w.heap.size + 1) 24 #[.int .i64 0, .int .i64 0, .int .i64 0, .int .i64 0, .int .i64 0] := HK2.out.g1
      obtain ⟨⟨a0, a1, a2, a3, a4⟩, -⟩ := Blk.cells5 hg0
      obtain ⟨⟨r0, r1, r2, r3, r4⟩, ⟨z0, z1, z2, z3, z4⟩⟩ := Blk.cells5 hg1
      have HG1 := Lib.hid hg1
      clear hg0 hg1
      by_cases h2 : d2 = 0
      · subst h2
        have HR1 : Hid (br = (if (hdigR L1 last).2 ≠ 0 then (H.zero, (hdigR L1 last).2) else (⟨last.seq + 1, (hdigR L1 last).1, d1, 0, 0⟩, 0)) ∧ bt = hdigT L1 last) := Lib.hid ⟨by rw [HR0.out.1, if_neg (by simp)], by rw [HR0.out.2, if_neg (by simp)]⟩
        have HD2 := Lib.hid (HK2.out.ask (fun S1 ht => HHD.out w2 S1 L1 ht))
        clear HHD HR0
        generalize hdigT L1 last = L2 at *
        generalize hdigR L1 last = er at *
        obtain ⟨e1, e2⟩ := er
        simp only at HD2 HR1
        go_wp2_with fail
        refine HD2.out.mono ?_
        rintro e w3 ⟨rfl, hk3⟩
        have HK3 := Lib.hid hk3
        clear hk3 a0 a1 a2 a3 a4 r0 r1 r2 r3 r4 z0 z1 z2 z3 z4 HD2 HG1 HK2
        have hg0 : Blk w3 w.heap.size 24 #[.int .i64 last.seq, .int .i64 last.prev, .int .i64 last.batch, .int .i64 last.root, .int .i64 last.state] := HK3.out.g0
        have hg1 : Blk w3 (w.heap.size + 1) 24 #[.int .i64 0, .int .i64 0, .int .i64 0, .int .i64 0, .int .i64 0] := HK3.out.g1
        obtain ⟨⟨a0, a1, a2, a3, a4⟩, -⟩ := Blk.cells5 hg0
        obtain ⟨⟨r0, r1, r2, r3, r4⟩, ⟨z0, z1, z2, z3, z4⟩⟩ := Blk.cells5 hg1
        have HG1 := Lib.hid hg1
        clear hg0 hg1
        by_cases h3 : e2 = 0
        · subst h3
          have HR : Hid (br = (⟨last.seq + 1, e1, d1, 0, 0⟩, 0) ∧ bt = L2) := Lib.hid ⟨by rw [HR1.out.1, if_neg (by simp)], HR1.out.2⟩
          clear HR1
          go_wp2_with fail
          refine bodyPost_ret (results_row_tmp rfl _ _ (w.heap.size + 1) 24 #[.int .i64 (last.seq + 1), .int .i64 e1, .int .i64 d1, .int .i64 0, .int .i64 0] (0, 0) _ rfl (blk5 HG1.out) Tryz.underlying24 rfl size_hdr) rfl ?_
          rw [HR.out.2]
          exact HK3.out.fin (by rw [HR.out.1]; rfl) _ _ _ _ _
        · have t1 : (e2 == 0) = false := beq_eq_false_iff_ne.2 h3
          have t2 : (e2 != 0) = true := by rw [bne, t1]; rfl
          have HR : Hid (br = (H.zero, e2) ∧ bt = L2) := Lib.hid ⟨by rw [HR1.out.1, if_pos h3], HR1.out.2⟩
          clear h3 HR1
          go_wp2_with fail
          refine bodyPost_ret (results_row_tmp rfl _ _ (w.heap.size + 1) 24 #[.int .i64 0, .int .i64 0, .int .i64 0, .int .i64 0, .int .i64 0] (0, 0) _ rfl (blk5 HG1.out) Tryz.underlying24 rfl size_hdr) rfl ?_
          rw [HR.out.2]
          exact HK3.out.fin (by rw [HR.out.1]; rfl) _ _ _ _ _
      · have t1 : (d2 == 0) = false := beq_eq_false_iff_ne.2 h2
        have t2 : (d2 != 0) = true := by rw [bne, t1]; rfl
        have HR : Hid (br = (H.zero, d2) ∧ bt = L1) := Lib.hid ⟨by rw [HR0.out.1, if_pos h2], by rw [HR0.out.2, if_pos h2]⟩
        clear h2 HR0
        go_wp2_with fail
        refine bodyPost_ret (results_row_tmp rfl _ _ (w.heap.size + 1) 24 #[.int .i64 0, .int .i64 0, .int .i64 0, .int .i64 0, .int .i64 0] (0, 0) _ rfl (blk5 HG1.out) Tryz.underlying24 rfl size_hdr) rfl ?_
        rw [HR.out.2]
        exact HK2.out.fin (by rw [HR.out.1]; rfl) _ _ _ _ _
  · have t1 : (z == 0) = false := beq_eq_false_iff_ne.2 hz
    have t2 : (z != 0) = true := by rw [bne, t1]; rfl
    have HR : Hid (br = (H.zero, z) ∧ bt = L) := Lib.hid ⟨by rw [HBR.out, if_pos hz], by rw [HBT.out, if_pos hz]⟩
    clear hz HBR HBT HSQ
    go_wp2_with fail
    refine bodyPost_ret (results_row_tmp rfl _ _ (w.heap.size + 1) 24 #[.int .i64 0, .int .i64 0, .int .i64 0, .int .i64 0, .int .i64 0] (0, 0) _ rfl (blk5 HG1.out) Tryz.underlying24 rfl size_hdr) rfl ?_
    rw [HR.out.2]
    exact HK1.out.fin (by rw [HR.out.1]; rfl) _ _ _ _ _
end Go.Proofs.YtobphijbhghgmaaGreat.Zj

/-
  Layer 9 (block): the contracts of madeTopics, Execute (over what apply does) and Genesis.
-/
namespace Go.Proofs.YtobphijbhghgmaaGreat.Zk
set_option linter.unusedSimpArgs false
open Go Go.RowKit Ck Kw Ga Kf Pm Pe Qb Tm Tn Tq Ik Aa Ja Jm Jb Jn Ma Za Zb Ze Zt Zc Zg Zh Zi Zj
open Im (num isIn add sum)
attribute [local go_sem ↓] Go.wp_at_zero Go.wp_at_succ
set_option linter.unusedVariables false
set_option maxRecDepth 100000

/-- Four results, the first a struct in a cell of its own. -/
theorem results_row_tmp4 {P : Program} {fn : Func} {p q r u : Tmp} {ty : TypeId} (h : fn.results = #[.cell p ty, .tmp q, .tmp r, .tmp u]) (tmps : Array Value) (w : World) (g : Nat) (t : TypeId) (cs : Array Value) (fr : Nat × Nat) (d : TypeDesc)
    (hp : tmps.getD p undef = .pointer (some ⟨g, 0, none⟩)) (hg : w.heap[g]? = some (.cells cs t fr))
    (hu : P.underlying ty = some d) (hd : (match d with | .struct _ | .array _ _ => true | _ => false) = true) (hi : (P.info? ty).map (·.size) = some cs.size) :
    (results fn tmps).run P w = .ok (.tuple #[.agg cs, tmps.getD q undef, tmps.getD r undef, tmps.getD u undef]) w := by
  have hp' : tmps[p]?.getD undef = .pointer (some ⟨g, 0, none⟩) := by simpa using hp
  simp [results, h, hp', asAddr, run_loadVar_row w g t ty cs fr d hg hu hd hi]
theorem mtop_yes (w : World) (S R : Nat → Prop) (t : Nat) (s : St) (h : Tz w S R t s) :
    Calls Tryz.prog 47 #[.pointer (some ⟨t, 0, none⟩)] w fun e w' => e = .returned (.bool true) ∧ Below w.heap.size w w' := by
  have HP := Lib.hid (Am.bounds_any w S R t s [] (by simp) h)
  have he : ((To.boundsT s.L []).2.2 == 2) = false := by
    unfold To.boundsT
    split <;> rfl
  have he2 : ((To.boundsT s.L []).2.2 != 2) = true := by rw [bne, he]; rfl
  clear h
  generalize To.boundsT s.L [] = r at *
  obtain ⟨r1, r2, r3⟩ := r
  simp only at HP he he2
  go_enter Tryz.func47, Tryz.ntmps47
  go_wp2_with fail
  refine HP.out.mono ?_
  rintro e w1 ⟨rfl, hb1⟩
  have HB1 := Lib.hid hb1
  clear hb1
  go_wp2_with fail
  go_ret
  exact ⟨rfl, HB1.out⟩
theorem _root_.Go.Proofs.YtobphijbhghgmaaGreat.Zh.ST.tb {w0 W : World} {S N : Nat → Prop} {p t : Nat} {L : List Tx} {s : St} (h : ST w0 S N p t L s W) : ∃ S1, Tb W S1 p L := by
  obtain ⟨⟨S', ⟨S1, S2, R, k1, _⟩, h2⟩, h3, h4⟩ := h
  exact ⟨S1, k1⟩
/-- A step over both. -/
theorem _root_.Go.Proofs.YtobphijbhghgmaaGreat.Zh.ST.run {w0 W : World} {S N : Nat → Prop} {p t : Nat} {L L' : List Tx} {s s' : St} {P : Program} {f : FuncId} {args : Array Value} {Q : Ending → World → Prop} (h : ST w0 S N p t L s W)
    (hc : ∀ S', TS W S' p t L s → (∀ k, S' k → Fr w0 S N k) → Calls P f args W fun e w' => Q e w' ∧ TS w' (Up S' W w') p t L' s' ∧ Ch S' W w') :
    Calls P f args W fun e w' => Q e w' ∧ Zh.Stepped w0 S N p t L' s' W w' := by
  obtain ⟨⟨S', h1, h2⟩, h3, h4⟩ := h
  refine (hc _ h1.tight (fun k hk => h2 k hk.1)).mono ?_
  rintro e w' ⟨hq, ht, c⟩
  have hs := c.size
  have hs0 := h3.size
  refine ⟨hq, ⟨⟨_, ht, fun k hk => ?_⟩, h3.trans c (fun k hk hX => ?_), fun k hk => Nat.lt_of_lt_of_le (h4 k hk) hs⟩, c.mono (fun k _ hk => h2 k hk.1)⟩
  · rcases hk with hk | hk
    · exact h2 k hk.1
    · exact ⟨.inr (by omega), fun h => by have := h4 k h; omega⟩
  · rcases (h2 k hX.1).1 with q | q
    · exact q
    · omega
theorem bi_old {w : World} {X : Nat → Prop} {v : Value} {l : List Sd} (h : BI w X v l) {B : Nat} (hB : w.heap.size ≤ B) : BI w (fun k => X k ∨ B ≤ k) v l := by
  obtain ⟨rs, h1, h2, h3⟩ := h
  exact ⟨rs, h1, h2.old hB, fun i hi => by obtain ⟨r, h4, h5⟩ := h3 i hi; exact ⟨r, h4, Mc.Ls.old h5 hB⟩⟩
/-- What apply leaves. -/
def Aply (W : World) (S : Nat → Prop) (p t : Nat) (L : List Tx) (s : St) (b : List Sd) (e : Ending) (w' : World) : Prop :=
  (∃ vp va, e = .returned (.tuple #[vp, va]) ∧ (b = [] → vp = .slice none 0 0 ∧ va = .slice none 0 0) ∧ ∀ W', Below w'.heap.size w' W' → Calls Tryz.prog 66 #[vp] W' (Leaved W' ((appL s b).1.map plB))) ∧ TS w' (Up S W w') p t L (appL s b).2 ∧ Ch S W w'
theorem apply_nil (W : World) (S : Nat → Prop) (p t : Nat) (L : List Tx) (s : St) (k : TS W S p t L s) : Calls Tryz.prog 49 #[.pointer (some ⟨t, 0, none⟩), .slice none 0 0] W (Aply W S p t L s []) := by
  have HK := Lib.hid k
  clear k
  go_enter Tryz.func49, Tryz.ntmps49
  go_wp2_with fail
  go_loopw [6, 7, 15] (fun u v j wr => u = .slice none 0 0 ∧ v = .slice none 0 0 ∧ j = .int .i64 0 ∧ wr = W) (fun _ _ _ _ => 0)
  case atStart => exact ⟨rfl, rfl, rfl, rfl⟩
  case round =>
    obtain ⟨rfl, rfl, rfl, rfl⟩ := hrel
    go_wp2_with fail
    go_ret2
    refine ⟨⟨.slice none 0 0, .slice none 0 0, rfl, fun _ => ⟨rfl, rfl⟩, fun W' _ => leaves_nil W'⟩, ?_, Ch.refl _ _⟩
    exact HK.out.weaken (fun k _ hk => .inl hk)

/-- What Execute leaves. -/
def ExecD (w : World) (S : Nat → Prop) (p t : Nat) (L : List Tx) (s : St) (last : H) (b : List Sd) (e : Ending) (w' : World) : Prop :=
  ∃ vp va, e = .returned (.tuple #[HV (execR L s last b).1, vp, va, .int .i64 (execR L s last b).2]) ∧ (b = [] → vp = .slice none 0 0 ∧ va = .slice none 0 0) ∧ TS w' (Up S w w') p t (execT L s last b) (execS L s last b) ∧ Ch S w w'
theorem execd_of {w W : World} {S N : Nat → Prop} {p t : Nat} {L L' : List Tx} {s s' : St} {last : H} {b : List Sd} {h : H} {z : Int} {vp va : Value} (k : ST w S N p t L' s' W) (h1 : execR L s last b = (h, z)) (h2 : execT L s last b = L') (h3 : execS L s last b = s') (hn : b = [] → vp = .slice none 0 0 ∧ va = .slice none 0 0) {x0 x1 x2 x3 x4 : Value} (hN : N (w.heap.size + 1)) :
    ExecD w S p t L s last b (.returned (.tuple #[HV h, vp, va, .int .i64 z])) (((((W.setCell ⟨w.heap.size + 1, 0, none⟩ x0).setCell ⟨w.heap.size + 1, 1, none⟩ x1).setCell ⟨w.heap.size + 1, 2, none⟩ x2).setCell ⟨w.heap.size + 1, 3, none⟩ x3).setCell ⟨w.heap.size + 1, 4, none⟩ x4) := by
  have c : Ch (fun k => k = w.heap.size + 1) W (((((W.setCell ⟨w.heap.size + 1, 0, none⟩ x0).setCell ⟨w.heap.size + 1, 1, none⟩ x1).setCell ⟨w.heap.size + 1, 2, none⟩ x2).setCell ⟨w.heap.size + 1, 3, none⟩ x3).setCell ⟨w.heap.size + 1, 4, none⟩ x4) :=
    (((((Ch.refl (fun k => k = w.heap.size + 1) W).setCell (p := ⟨w.heap.size + 1, 0, none⟩) (fun _ => rfl) x0).setCell (p := ⟨w.heap.size + 1, 1, none⟩) (fun _ => rfl) x1).setCell (p := ⟨w.heap.size + 1, 2, none⟩) (fun _ => rfl) x2).setCell (p := ⟨w.heap.size + 1, 3, none⟩) (fun _ => rfl) x3).setCell (p := ⟨w.heap.size + 1, 4, none⟩) (fun _ => rfl) x4
  have f := (k.put c (fun k hk => by subst hk; exact ⟨hN, by omega⟩)).fin
  exact ⟨vp, va, by rw [h1], hn, by rw [h2, h3]; exact f.1, f.2⟩

set_option maxHeartbeats 8000000 in
theorem exec_gen (w : World) (S X : Nat → Prop) (p t : Nat) (L : List Tx) (s : St) (last : H) (b : List Sd) (vb : Value) (k : TS w S p t L s) (hb : BI w X vb b) (hX : ∀ k, S k → X k) (hr : ∀ x ∈ b, x.q.o.recs.length ≤ 140737488355328) (hl63 : b.length ≤ 140737488355328)
    (hap : ∀ (W : World) (S' : Nat → Prop) (L' : List Tx), BI W (fun k => X k ∨ w.heap.size ≤ k) vb b → TS W S' p t L' s → (∀ k, S' k → X k ∨ w.heap.size ≤ k) → Calls Tryz.prog 49 #[.pointer (some ⟨t, 0, none⟩), vb] W (Aply W S' p t L' s b))
    (hn : (appL s b).1.length ≤ 1000000) (hall : ∀ x ∈ (appL s b).1.map plB, x.length ≤ 140737488355327) :
    Calls Tryz.prog 24 #[.pointer (some ⟨p, 0, none⟩), .pointer (some ⟨t, 0, none⟩), HV last, vb] w (ExecD w S p t L s last b) := by
  have b2 : Below w.heap.size w ((w.alloc (.cells (HC last) 24)).alloc (.cells ZH 24)) := (op_below w _).trans ((op_below _ _).mono (by simp))
  have k0 : Blk ((w.alloc (.cells (HC last) 24)).alloc (.cells ZH 24)) w.heap.size 24 (HC last) := Blk.alloc (Blk.new w _ _) _
  have k1 : Blk ((w.alloc (.cells (HC last) 24)).alloc (.cells ZH 24)) (w.heap.size + 1) 24 ZH := Blk.new_at (by simp) rfl
  have hz : ((w.alloc (.cells (HC last) 24)).alloc (.cells ZH 24)).heap.size = w.heap.size + 2 := by simp
  have HST := Lib.hid ((ST.start k b2).less (N' := fun k => k = w.heap.size ∨ k = w.heap.size + 1) (fun k hk => by rw [hz]; omega))
  have HK0 := Lib.hid k0
  have HK1 := Lib.hid k1
  have HB2 := Lib.hid b2
  have HBI := Lib.hid (bi_old hb (Nat.le_refl _))
  have HX := Lib.hid hX
  have HBG := Lib.hid fun (W : World) (S1 : Nat → Prop) (ht : Tb W S1 p L) (hbi : BI W (fun k => X k ∨ w.heap.size ≤ k) vb b) => begin_any W S1 _ p L last b vb ht hbi hr hl63
  have HAP := Lib.hid hap
  have HNN := Lib.hid hn
  have HAL := Lib.hid hall
  have HR0 : Hid (execR L s last b = (if (beginR L last b).2 ≠ 0 then (H.zero, (beginR L last b).2) else if (endR (beginT L last b) (beginR L last b).1 (appL s b).1 (appL s b).2).2 ≠ 0 then (H.zero, (endR (beginT L last b) (beginR L last b).1 (appL s b).1 (appL s b).2).2) else ((endR (beginT L last b) (beginR L last b).1 (appL s b).1 (appL s b).2).1, 0))
    ∧ execT L s last b = (if (beginR L last b).2 ≠ 0 then beginT L last b else endT (beginT L last b) (appL s b).1 (appL s b).2) ∧ execS L s last b = (if (beginR L last b).2 ≠ 0 then s else (appL s b).2)) := Lib.hid ⟨rfl, rfl, rfl⟩
  have HFIN := Lib.hid fun (N : Nat → Prop) (W : World) (L' : List Tx) (s' : St) (h : H) (z : Int) (vp va : Value) (k : ST w S N p t L' s' W) (h1 : execR L s last b = (h, z)) (h2 : execT L s last b = L') (h3 : execS L s last b = s') (hn : b = [] → vp = .slice none 0 0 ∧ va = .slice none 0 0) (x0 x1 x2 x3 x4 : Value) (hN : N (w.heap.size + 1)) => execd_of (x0 := x0) (x1 := x1) (x2 := x2) (x3 := x3) (x4 := x4) k h1 h2 h3 hn hN
  have HVB : Hid (∃ A c, vb = .slice A b.length c) := Lib.hid (by obtain ⟨A, c, h, -⟩ := hb.shape; exact ⟨A, c, h⟩)
  generalize execR L s last b = xr at *
  generalize execT L s last b = xt at *
  generalize execS L s last b = xs at *
  generalize hQ : ExecD w S p t L s last b = Q at *
  clear b2 k0 k1 hz k hb hX hr hl63 hap hn hall
  obtain ⟨Ab, cb, rfl⟩ := HVB.out
  unfold HV at *
  unfold HC ZH at *
  go_enter Tryz.func24, Tryz.ntmps24
  go_wp2_with fail
  generalize (w.alloc (.cells #[.int .i64 last.seq, .int .i64 last.prev, .int .i64 last.batch, .int .i64 last.root, .int .i64 last.state] 24)).alloc (.cells #[.int .i64 0, .int .i64 0, .int .i64 0, .int .i64 0, .int .i64 0] 24) = W0 at *
  obtain ⟨S1, hS1⟩ := HST.out.tb
  refine (mtab_yes W0 S1 p L hS1).mono ?_
  rintro e w1 ⟨rfl, hb1⟩
  have HST1 := Lib.hid (HST.out.later hb1)
  have HK01 := Lib.hid (HK0.out.below hb1 HK0.out.lt)
  have HK11 := Lib.hid (HK1.out.below hb1 HK1.out.lt)
  have HB3 := Lib.hid (HB2.out.trans (hb1.mono HB2.out.size))
  clear hb1 hS1 HST HK0 HK1 HB2
  obtain ⟨S2, R, hz2, -⟩ := HST1.out.tz
  go_wp2_with fail
  refine (mtop_yes w1 S2 R t s hz2).mono ?_
  rintro e w2 ⟨rfl, hb2⟩
  have HST2 := Lib.hid (HST1.out.later hb2)
  have HK0 := Lib.hid (HK01.out.below hb2 HK01.out.lt)
  have HK1 := Lib.hid (HK11.out.below hb2 HK11.out.lt)
  have HB4 := Lib.hid (HB3.out.trans (hb2.mono HB3.out.size))
  clear hb2 hz2 HST1 HK01 HK11 HB3
  obtain ⟨⟨a0, a1, a2, a3, a4⟩, -⟩ := Blk.cells5 HK0.out
  have HBE := Lib.hid (HST2.out.ask (fun S1 ht _ => HBG.out w2 S1 ht (HBI.out.after HB4.out)))
  generalize hbt : beginT L last b = L1 at *
  generalize hbr : beginR L last b = br at *
  obtain ⟨bh, be⟩ := br
  simp only at HBE HR0
  clear hbt hbr HBG
  go_wp2_with fail
  refine HBE.out.mono ?_
  rintro e w3 ⟨rfl, hst3, hc3⟩
  have HK03 := Lib.hid (HK0.out.ch hc3 (fun hf => hf.2 (.inl rfl)))
  have HK13 := Lib.hid (HK1.out.ch hc3 (fun hf => hf.2 (.inr rfl)))
  have HST3 := Lib.hid hst3
  clear hst3 hc3 a0 a1 a2 a3 a4 HBE HK0 HK1 HST2
  have HG2 : Hid (Blk (w3.alloc (.cells #[.int .i64 bh.seq, .int .i64 bh.prev, .int .i64 bh.batch, .int .i64 bh.root, .int .i64 bh.state] 24)) w3.heap.size 24 #[.int .i64 bh.seq, .int .i64 bh.prev, .int .i64 bh.batch, .int .i64 bh.root, .int .i64 bh.state]) := Lib.hid (Blk.new w3 _ _)
  have b3 := op_below w3 (.cells #[.int .i64 bh.seq, .int .i64 bh.prev, .int .i64 bh.batch, .int .i64 bh.root, .int .i64 bh.state] 24)
  have HST4 := Lib.hid ((HST3.out.more b3).less (N' := fun k => k = w.heap.size ∨ k = w.heap.size + 1 ∨ k = w3.heap.size) (fun k hk => by
    have e : (w3.alloc (.cells #[.int .i64 bh.seq, .int .i64 bh.prev, .int .i64 bh.batch, .int .i64 bh.root, .int .i64 bh.state] 24)).heap.size = w3.heap.size + 1 := by simp
    rw [e]
    rcases hk with hk | hk | hk
    · exact .inl (.inl hk)
    · exact .inl (.inr hk)
    · exact .inr (by omega)))
  have HK1 := Lib.hid (HK13.out.below b3 HK13.out.lt)
  have HL3 : Hid (w.heap.size + 1 < w3.heap.size) := Lib.hid HK13.out.lt
  obtain ⟨⟨y0, y1, y2, y3, y4⟩, ⟨z0, z1, z2, z3, z4⟩⟩ := Blk.cells5 HK1.out
  clear b3 HK03 HK13 HST3
  by_cases hbe : be = 0
  · subst hbe
    have HR1 : Hid (xr = (if (endR L1 bh (appL s b).1 (appL s b).2).2 ≠ 0 then (H.zero, (endR L1 bh (appL s b).1 (appL s b).2).2) else ((endR L1 bh (appL s b).1 (appL s b).2).1, 0)) ∧ xt = endT L1 (appL s b).1 (appL s b).2 ∧ xs = (appL s b).2) := Lib.hid ⟨by rw [HR0.out.1, if_neg (by simp)], by rw [HR0.out.2.1, if_neg (by simp)], by rw [HR0.out.2.2, if_neg (by simp)]⟩
    clear HR0 y0 y1 y2 y3 y4 z0 z1 z2 z3 z4
    go_wp2_with fail
    generalize w3.alloc (.cells #[.int .i64 bh.seq, .int .i64 bh.prev, .int .i64 bh.batch, .int .i64 bh.root, .int .i64 bh.state] 24) = w4 at *
    generalize w3.heap.size = g2 at *
    have HBI4 := Lib.hid (HBI.out.ch HST4.out.ch (fun k _ hk => .inl (HX.out k hk.1)))
    have HRUN := Lib.hid (HST4.out.run (P := Tryz.prog) (f := 49) (args := #[.pointer (some ⟨t, 0, none⟩), .slice Ab b.length cb]) (L' := L1) (s' := (appL s b).2) (fun S' hts hfr => HAP.out w4 S' L1 HBI4.out hts (fun k hk => by
      rcases (hfr k hk).1 with q | q
      · exact .inl (HX.out k q.1)
      · exact .inr q)))
    refine HRUN.out.mono ?_
    rintro e w5 ⟨⟨vp, va, rfl, hnil, hlv⟩, hst5, hc5⟩
    have HNIL := Lib.hid hnil
    have HLV := Lib.hid hlv
    have HG5 := Lib.hid (HG2.out.ch hc5 (fun hf => hf.2 (.inr (.inr rfl))))
    have HK5 := Lib.hid (HK1.out.ch hc5 (fun hf => hf.2 (.inr (.inl rfl))))
    have HST5 := Lib.hid hst5
    obtain ⟨⟨a0, a1, a2, a3, a4⟩, ⟨f0, f1, f2, f3, f4⟩⟩ := Blk.cells5 HG5.out
    clear hnil hlv hst5 hc5 HRUN HST4 HG2 HK1 HBI4
    have HEND := Lib.hid (HST5.out.run (P := Tryz.prog) (f := 46) (args := #[.pointer (some ⟨p, 0, none⟩), HV bh, vp, .pointer (some ⟨t, 0, none⟩)]) (Q := fun e _ => e = .returned (.tuple #[HV (endR L1 bh (appL s b).1 (appL s b).2).1, .int .i64 (endR L1 bh (appL s b).1 (appL s b).2).2])) (L' := endT L1 (appL s b).1 (appL s b).2) (s' := (appL s b).2) (fun S' hts hfr => end_any w5 S' p t L1 _ bh vp (appL s b).1 hts HLV.out HNN.out HAL.out))
    generalize endR L1 bh (appL s b).1 (appL s b).2 = er at *
    generalize endT L1 (appL s b).1 (appL s b).2 = et at *
    generalize (appL s b).2 = s2 at *
    obtain ⟨eh, ee⟩ := er
    simp only at HEND HR1
    unfold HV HC at HEND
    clear HNN HAL HLV HAP
    go_wp2_with fail
    refine HEND.out.mono ?_
    rintro e w6 ⟨rfl, hst6, hc6⟩
    have HG6 := Lib.hid (HG5.out.ch hc6 (fun hf => hf.2 (.inr (.inr rfl))))
    have hk6 := HK5.out.ch hc6 (fun hf => hf.2 (.inr (.inl rfl)))
    have hne : w.heap.size + 1 ≠ g2 := by have := HL3.out; omega
    obtain ⟨⟨x0, x1, x2, x3, x4⟩, ⟨f0', f1', f2', f3', f4'⟩⟩ := Blk.cells5 HG6.out
    have HP6 : Hid (Blk (((((w6.setCell ⟨g2, 0, none⟩ (.int .i64 eh.seq)).setCell ⟨g2, 1, none⟩ (.int .i64 eh.prev)).setCell ⟨g2, 2, none⟩ (.int .i64 eh.batch)).setCell ⟨g2, 3, none⟩ (.int .i64 eh.root)).setCell ⟨g2, 4, none⟩ (.int .i64 eh.state)) (w.heap.size + 1) 24 #[.int .i64 0, .int .i64 0, .int .i64 0, .int .i64 0, .int .i64 0]) := Lib.hid (((((hk6.far hne _).far hne _).far hne _).far hne _).far hne _)
    have HS6 : Hid (ST w S (fun k => k = w.heap.size ∨ k = w.heap.size + 1 ∨ k = g2) p t et s2 (((((w6.setCell ⟨g2, 0, none⟩ (.int .i64 eh.seq)).setCell ⟨g2, 1, none⟩ (.int .i64 eh.prev)).setCell ⟨g2, 2, none⟩ (.int .i64 eh.batch)).setCell ⟨g2, 3, none⟩ (.int .i64 eh.root)).setCell ⟨g2, 4, none⟩ (.int .i64 eh.state))) := Lib.hid (hst6.put (X := fun k => k = g2) ((((((Ch.refl (fun k => k = g2) w6).setCell (p := ⟨g2, 0, none⟩) (fun _ => rfl) _).setCell (p := ⟨g2, 1, none⟩) (fun _ => rfl) _).setCell (p := ⟨g2, 2, none⟩) (fun _ => rfl) _).setCell (p := ⟨g2, 3, none⟩) (fun _ => rfl) _).setCell (p := ⟨g2, 4, none⟩) (fun _ => rfl) _) (fun k hk => by subst hk; exact ⟨.inr (.inr rfl), by have := HL3.out; omega⟩))
    have hbk : Blk (((((w6.setCell ⟨g2, 0, none⟩ (.int .i64 eh.seq)).setCell ⟨g2, 1, none⟩ (.int .i64 eh.prev)).setCell ⟨g2, 2, none⟩ (.int .i64 eh.batch)).setCell ⟨g2, 3, none⟩ (.int .i64 eh.root)).setCell ⟨g2, 4, none⟩ (.int .i64 eh.state)) g2 24 #[.int .i64 eh.seq, .int .i64 eh.prev, .int .i64 eh.batch, .int .i64 eh.root, .int .i64 eh.state] := blk5 HG6.out
    obtain ⟨⟨y0, y1, y2, y3, y4⟩, -⟩ := Blk.cells5 hbk
    obtain ⟨⟨r0, r1, r2, r3, r4⟩, ⟨z0, z1, z2, z3, z4⟩⟩ := Blk.cells5 HP6.out
    clear a0 a1 a2 a3 a4 f0 f1 f2 f3 f4 HG5 HK5 HST5 HEND hk6 hst6 hc6 hbk
    by_cases hee : ee = 0
    · subst hee
      have HR : Hid (xr = (eh, 0) ∧ xt = et ∧ xs = s2) := Lib.hid ⟨by rw [HR1.out.1, if_neg (by simp)], HR1.out.2⟩
      clear HR1
      go_wp2_with fail
      refine bodyPost_ret (results_row_tmp4 rfl _ _ (w.heap.size + 1) 24 #[.int .i64 eh.seq, .int .i64 eh.prev, .int .i64 eh.batch, .int .i64 eh.root, .int .i64 eh.state] (0, 0) _ rfl (blk5 HP6.out) Tryz.underlying24 rfl size_hdr) rfl ?_
      exact HFIN.out _ _ _ _ _ _ _ _ HS6.out HR.out.1 HR.out.2.1 HR.out.2.2 HNIL.out _ _ _ _ _ (.inr (.inl rfl))
    · have t1 : (ee == 0) = false := beq_eq_false_iff_ne.2 hee
      have t2 : (ee != 0) = true := by rw [bne, t1]; rfl
      have HR : Hid (xr = (H.zero, ee) ∧ xt = et ∧ xs = s2) := Lib.hid ⟨by rw [HR1.out.1, if_pos hee], HR1.out.2⟩
      clear hee HR1
      go_wp2_with fail
      refine bodyPost_ret (results_row_tmp4 rfl _ _ (w.heap.size + 1) 24 #[.int .i64 0, .int .i64 0, .int .i64 0, .int .i64 0, .int .i64 0] (0, 0) _ rfl (blk5 HP6.out) Tryz.underlying24 rfl size_hdr) rfl ?_
      exact HFIN.out _ _ _ _ H.zero _ (.slice none 0 0) (.slice none 0 0) HS6.out HR.out.1 HR.out.2.1 HR.out.2.2 (fun _ => ⟨rfl, rfl⟩) _ _ _ _ _ (.inr (.inl rfl))
  · have t1 : (be == 0) = false := beq_eq_false_iff_ne.2 hbe
    have t2 : (be != 0) = true := by rw [bne, t1]; rfl
    have HR : Hid (xr = (H.zero, be) ∧ xt = L1 ∧ xs = s) := Lib.hid ⟨by rw [HR0.out.1, if_pos hbe], by rw [HR0.out.2.1, if_pos hbe], by rw [HR0.out.2.2, if_pos hbe]⟩
    clear hbe HR0
    go_wp2_with fail
    refine bodyPost_ret (results_row_tmp4 rfl _ _ (w.heap.size + 1) 24 #[.int .i64 0, .int .i64 0, .int .i64 0, .int .i64 0, .int .i64 0] (0, 0) _ rfl (blk5 HK1.out) Tryz.underlying24 rfl size_hdr) rfl ?_
    exact HFIN.out _ _ _ _ H.zero _ (.slice none 0 0) (.slice none 0 0) HST4.out HR.out.1 HR.out.2.1 HR.out.2.2 (fun _ => ⟨rfl, rfl⟩) _ _ _ _ _ (.inr (.inl rfl))
end Go.Proofs.YtobphijbhghgmaaGreat.Zk

/-
  A region that draws its order, whose first three operations are quiet and whose fourth waits for them and is waited for by all others: the three in any order, the fourth, and behind it one walk of quiet operations.
-/
namespace Go.Proofs.YtobphijbhghgmaaGreat.Kz
set_option linter.unusedSimpArgs false
set_option linter.unusedVariables false
open Go Go.RowKit

section
variable {P : Program} {ops : Array Oper} {Q : Exit → Act → World → Prop}

theorem any_step {n : Nat} {L : Array Bool} {a : Act} {w : World} {is : List Nat} (hr : Region.ready .any ops L = is) (hne : is ≠ []) (h : ∀ i ∈ is, wpOp P ops Q i (wpAny P .any ops Q n (L.setIfInBounds i true)) a w) : wpAny P .any ops Q (n + 1) L a w :=
  ⟨fun h0 => absurd (hr.symm.trans h0) hne, fun i hi => h i (by rw [← hr]; exact hi)⟩

/-- The operation yields v here, in the very world. -/
def Y (P : Program) (ops : Array Oper) (o : Oper) (v : Value) (w : World) (b : Act) : Prop := Region.wanted o (yielded ops b.tmps) = true ∧ (execOp b.eval o).run P w = .ok (.value v) w

theorem op_of_Y {i : Nat} {o : Oper} {v : Value} {w : World} {b : Act} {K : Act → World → Prop} (hi : ops[i]? = some o) (hy : Y P ops o v w b) (h : K (b.put o.dst v) w) : wpOp P ops Q i K b w := by
  unfold wpOp
  simp only [hi, hy.1, if_true]
  left
  unfold Oper.wp
  rw [hy.2]
  exact h

theorem Y_load {o : Oper} {ty : TypeId} {x : Operand} {w : World} {b : Act} {g : Nat} {t : TypeId} {cs : Array Value} {fr : Nat × Nat} {d : TypeDesc} (hg : o.guard = none) (ho : o.op = .load ty x) (hx : b.eval x = .pointer (some ⟨g, 0, none⟩)) (hh : w.heap[g]? = some (.cells cs t fr))
    (hu : P.underlying ty = some d) (hd : (match d with | .struct _ | .array _ _ => true | _ => false) = true) (hi : (P.info? ty).map (·.size) = some cs.size) : Y P ops o (.agg cs) w b := by
  refine ⟨by simp [Region.wanted, hg], ?_⟩
  unfold execOp
  simp only [ho, hx, Instr.loadAt, Instr.sureAddr, Sem.run_bind, Sem.run_pure, Result.andThen_ok, run_loadVar_row w g t ty cs fr d hh hu hd hi]
/-- A call of a Go function. -/
theorem op_of_call {i j : Nat} {o : Oper} {f : FuncId} {args : Array Value} {w : World} {b : Act} {K : Act → World → Prop} (hi : ops[i]? = some o) (hd : o.dst = some j) (hw : Region.wanted o (yielded ops b.tmps) = true) (hx : (execOp b.eval o).run P w = .ok (.enter f args) w)
    (h : Calls P f args w fun e w' => ∃ v, e = .returned v ∧ K (b.put (some j) v) w') : wpOp P ops Q i K b w := by
  unfold wpOp
  simp only [hi, hw, if_true]
  left
  unfold Oper.wp
  rw [hx]
  exact h.mono fun e w' ⟨v, he, hk⟩ => by subst he; rw [← hd] at hk; exact hk
/-- BEHIND IT ONE WALK OF QUIET OPERATIONS, from a place on. -/
theorem any_quiet {C : World → Prop} (hs : Region.noSelect ops = true) (l : List Oper) (k : Nat) (L : Array Bool) (a : Act) (w : World) (hl : ∀ j, l[j]? = ops[k + j]?) (hB : Region.lexFrom .any ops l.length k L = true) (hC : C w)
    (h : wpQuiet P ops C (fun a' => ∀ w', C w' → Q .normal a' w') l a) : wpAny P .any ops Q l.length L a w :=
  wpAny_of_quiet (Q := fun a' => ∀ w', C w' → Q .normal a' w') (fun _ w' hw' h => h w' hw') _ _ _ _ hC (wpAnyQ_lex hs l k L a hl hB h)
end

end Go.Proofs.YtobphijbhghgmaaGreat.Kz

/-
  Layer 9 (block): the contracts of Genesis, standsOn and Chain.
-/
namespace Go.Proofs.YtobphijbhghgmaaGreat.Zl
set_option linter.unusedSimpArgs false
open Go Go.RowKit Ck Kw Ga Kf Pm Pe Qb Tm Tn Tq Ik Aa Ja Jm Jb Jn Ma Za Zb Ze Zt Zc Zg Zh Zi Zj Zk
open Im (num isIn add sum)
attribute [local go_sem ↓] Go.wp_at_zero Go.wp_at_succ
set_option linter.unusedVariables false
set_option maxRecDepth 100000

theorem exec_nil (w : World) (S : Nat → Prop) (p t : Nat) (L : List Tx) (s : St) (last : H) (k : TS w S p t L s) :
    Calls Tryz.prog 24 #[.pointer (some ⟨p, 0, none⟩), .pointer (some ⟨t, 0, none⟩), HV last, .slice none 0 0] w (ExecD w S p t L s last []) :=
  exec_gen w S S p t L s last [] (.slice none 0 0) k (bi_nil w S) (fun _ h => h) (fun x hx => absurd hx (by simp)) (by simp) (fun W S' L' _ hts _ => apply_nil W S' p t L' s hts) (by simp [appL_nil]) (by simp [appL_nil])

/-- The header ahead of all blocks, and the table behind it. -/
def genR (L : List Tx) : H × Int := endR L H.zero [] St.zero
def genT (L : List Tx) : List Tx := endT L [] St.zero
set_option maxHeartbeats 4000000 in
theorem genesis_any (w : World) (S : Nat → Prop) (p : Nat) (L : List Tx) (h : Tb w S p L) :
    Calls Tryz.prog 23 #[.pointer (some ⟨p, 0, none⟩)] w (Asks S p (.returned (.tuple #[HV (genR L).1, .int .i64 (genR L).2])) (genT L) w) := by
  have HT := Lib.hid (Tb.tight h)
  have HB0 := Lib.hid (op_below w (.cells ZH 24))
  have HG0 : Hid (Blk (w.alloc (.cells ZH 24)) w.heap.size 24 ZH) := Lib.hid (Blk.new w _ _)
  have HM := Lib.hid (mtab_yes (w.alloc (.cells ZH 24)) _ p L (Tb.after h HB0.out))
  have HEN := Lib.hid fun (W : World) (S' : Nat → Prop) (t : Nat) (k : TS W S' p t L St.zero) => end_any W S' p t L St.zero H.zero (.slice none 0 0) [] k (fun W _ => leaves_nil W) (by simp) (by simp)
  have HR : Hid (genR L = endR L H.zero [] St.zero ∧ genT L = endT L [] St.zero) := Lib.hid ⟨rfl, rfl⟩
  generalize genR L = gr at *
  generalize genT L = gt at *
  generalize endR L H.zero [] St.zero = er at *
  generalize endT L [] St.zero = et at *
  obtain ⟨hr1, hr2⟩ := HR.out
  subst hr1
  subst hr2
  obtain ⟨gh, ge⟩ := gr
  simp only at HEN ⊢
  clear h HR
  unfold HV at *
  unfold HC ZH at *
  simp only [H.zero] at HEN
  go_enter Tryz.func23, Tryz.ntmps23
  go_wp2_with fail
  refine HM.out.mono ?_
  rintro e w1 ⟨rfl, hb1⟩
  have HB1 := Lib.hid (HB0.out.trans (hb1.mono HB0.out.size))
  have HG1 := Lib.hid (HG0.out.below hb1 HG0.out.lt)
  clear hb1 HM HG0 HB0
  go_wp2_with fail
  refine (Ab.new_any w1).mono ?_
  rintro e w2 ⟨t, rfl, hz2, hb2⟩
  have HTS := Lib.hid (ts_new (Tb.after HT.out HB1.out) hb2 hz2)
  have HB2 := Lib.hid (HB1.out.trans (hb2.mono HB1.out.size))
  have HG2 := Lib.hid (HG1.out.below hb2 HG1.out.lt)
  have HLT := Lib.hid HG1.out.lt
  have HLT2 := Lib.hid HG2.out.lt
  clear hz2 hb2 HG1
  go_wp2_with fail
  refine (HEN.out w2 _ t HTS.out).mono ?_
  rintro e w3 ⟨rfl, hts3, hc3⟩
  have hg3 := HG2.out.ch hc3 (fun hf => by have := HLT.out; rcases hf with hf | hf <;> omega)
  have HT3 := Lib.hid (Zh.TS.tb hts3)
  have HC3 := Lib.hid hc3
  have hc3' := hc3
  obtain ⟨⟨r0, r1, r2, r3, r4⟩, ⟨z0, z1, z2, z3, z4⟩⟩ := Blk.cells5 hg3
  have HG3 := Lib.hid hg3
  clear hts3 hc3 hg3 HEN HG2 HTS hc3'
  go_wp2_with fail
  refine bodyPost_ret (results_row_tmp rfl _ _ w.heap.size 24 #[.int .i64 gh.seq, .int .i64 gh.prev, .int .i64 gh.batch, .int .i64 gh.root, .int .i64 gh.state] (0, 0) _ rfl (blk5 HG3.out) Tryz.underlying24 rfl size_hdr) rfl ?_
  have c5 : Ch (fun k => k = w.heap.size) w3 (((((w3.setCell ⟨w.heap.size, 0, none⟩ (.int .i64 gh.seq)).setCell ⟨w.heap.size, 1, none⟩ (.int .i64 gh.prev)).setCell ⟨w.heap.size, 2, none⟩ (.int .i64 gh.batch)).setCell ⟨w.heap.size, 3, none⟩ (.int .i64 gh.root)).setCell ⟨w.heap.size, 4, none⟩ (.int .i64 gh.state)) :=
    (((((Ch.refl (fun k => k = w.heap.size) w3).setCell (p := ⟨w.heap.size, 0, none⟩) (fun _ => rfl) _).setCell (p := ⟨w.heap.size, 1, none⟩) (fun _ => rfl) _).setCell (p := ⟨w.heap.size, 2, none⟩) (fun _ => rfl) _).setCell (p := ⟨w.heap.size, 3, none⟩) (fun _ => rfl) _).setCell (p := ⟨w.heap.size, 4, none⟩) (fun _ => rfl) _
  have hs2 := HB2.out.size
  have hs1 := HB1.out.size
  have hs3 := HC3.out.size
  have hs5 := c5.size
  have hlt := HLT.out
  have hlt2 := HLT2.out
  refine ⟨rfl, ?_, ?_⟩
  · refine (Tb.tight (Tb.ch HT3.out c5 (fun k hk hX => ?_))).weaken (fun k hk => ?_)
    · subst hX
      rcases hk with hk | hk
      · rcases hk with hk | hk
        · have := hk.1.2; omega
        · have := hk.1; omega
      · have := hk.1; omega
    · obtain ⟨hk, hk2⟩ := hk
      rcases hk with hk | hk
      · rcases hk with hk | hk
        · exact .inl hk.1.1
        · exact .inr ⟨by omega, hk2⟩
      · exact .inr ⟨by omega, hk2⟩
  · refine ((Ch.of_below (S := S) HB2.out (Nat.le_refl _)).trans HC3.out (fun k hk hX => ?_)).trans c5 (fun k hk hX => by omega)
    have hX' : ((S k ∧ k < w.heap.size) ∧ k < w1.heap.size) ∨ (w1.heap.size ≤ k ∧ k < w2.heap.size) := hX
    rcases hX' with hX | hX
    · exact hX.1.1
    · have : k < w.heap.size := hk
      omega

set_option maxHeartbeats 4000000 in
theorem stands_any (w : World) (S : Nat → Prop) (p : Nat) (L : List Tx) (h ahead : H) (k : Tb w S p L) (hq : hcheck ahead = 0) :
    Calls Tryz.prog 44 #[.pointer (some ⟨p, 0, none⟩), HV h, HV ahead] w fun e w' => e = .returned (.bool (stands L h ahead)) ∧ Below w.heap.size w w' := by
  have b2 : Below w.heap.size w ((w.alloc (.cells (HC h) 24)).alloc (.cells (HC ahead) 24)) := (op_below w _).trans ((op_below _ _).mono (by simp))
  have k0 : Blk ((w.alloc (.cells (HC h) 24)).alloc (.cells (HC ahead) 24)) w.heap.size 24 (HC h) := Blk.alloc (Blk.new w _ _) _
  have k1 : Blk ((w.alloc (.cells (HC h) 24)).alloc (.cells (HC ahead) 24)) (w.heap.size + 1) 24 (HC ahead) := Blk.new_at (by simp) rfl
  have HBY := Lib.hid (hbytes_any ((w.alloc (.cells (HC h) 24)).alloc (.cells (HC ahead) 24)) ahead)
  have HB2 := Lib.hid b2
  have HK0 := Lib.hid k0
  have HK1 := Lib.hid k1
  have HT := Lib.hid k
  have HQL := Lib.hid (hform_len ahead)
  have HSD : Hid (stands L h ahead = (isIn L (hform ahead) && (h.prev == (num L (hform ahead) : Int)) && (h.seq == ahead.seq + 1))) := Lib.hid rfl
  obtain ⟨q0, q1⟩ := (hcheck_ok.1 hq).1
  have hwr : IntKind.i64.wrap (ahead.seq + 1) = ahead.seq + 1 := Ga.wrap64 (by omega) (by omega)
  unfold HByt at HBY
  rw [hq] at HBY
  clear b2 k0 k1 k hq q0 q1
  generalize stands L h ahead = sb at *
  generalize hform ahead = hf at *
  obtain ⟨⟨a0, a1, a2, a3, a4⟩, -⟩ := Blk.cells5 HK1.out
  unfold HV at *
  unfold HC at *
  go_enter Tryz.func44, Tryz.ntmps44
  go_wp2_with fail
  generalize ((w.alloc (.cells #[.int .i64 h.seq, .int .i64 h.prev, .int .i64 h.batch, .int .i64 h.root, .int .i64 h.state] 24)).alloc (.cells #[.int .i64 ahead.seq, .int .i64 ahead.prev, .int .i64 ahead.batch, .int .i64 ahead.root, .int .i64 ahead.state] 24)) = w0 at *
  refine HBY.out.mono ?_
  rintro e w1 ⟨v1, rfl, hs1, hb1⟩
  obtain ⟨A1, c1, rfl, -⟩ := id hs1
  have HB1 := Lib.hid (HB2.out.trans (hb1.mono HB2.out.size))
  have HLK := Lib.hid (Ia.look_yes w1 S _ p L A1 c1 hf (Tb.after HT.out HB1.out) hs1 (by have := HQL.out; omega))
  have hk0 := HK0.out.below hb1 HK0.out.lt
  have hk1 := HK1.out.below hb1 HK1.out.lt
  clear a0 a1 a2 a3 a4 hs1 hb1 HBY
  go_wp2_with fail
  refine HLK.out.mono ?_
  rintro e w2 ⟨rfl, n, rfl⟩
  have HBn := Lib.hid (below_drewN HB1.out n)
  have hk0' := hk0.below (below_drewN (Below.refl _ w1) n) hk0.lt
  have hk1' := hk1.below (below_drewN (Below.refl _ w1) n) hk1.lt
  obtain ⟨⟨a0, a1, a2, a3, a4⟩, -⟩ := Blk.cells5 hk0'
  obtain ⟨⟨b0, b1, b2, b3, b4⟩, -⟩ := Blk.cells5 hk1'
  clear hk0 hk1 hk0' hk1' HLK HK0 HK1
  generalize w1.drewN n = w2 at *
  cases hi : isIn L hf with
  | false =>
    have HR : Hid (sb = false) := Lib.hid (by rw [HSD.out, hi]; rfl)
    clear hi HSD
    go_wp2_with fail
    go_ret
    exact ⟨by rw [HR.out]; rfl, HBn.out⟩
  | true =>
    by_cases h1 : h.prev = (num L hf : Int)
    · have d1 : (h.prev == (num L hf : Int)) = true := by rw [h1]; exact beq_self_eq_true _
      by_cases h2 : h.seq = ahead.seq + 1
      · have d2 : (h.seq == ahead.seq + 1) = true := by rw [h2]; exact beq_self_eq_true _
        have HR : Hid (sb = true) := Lib.hid (by rw [HSD.out, hi, d1, d2]; rfl)
        clear hi h1 h2 HSD
        generalize (num L hf : Int) = z at *
        go_wp2_with fail
        go_ret
        exact ⟨by rw [HR.out]; rfl, HBn.out⟩
      · have d2 : (h.seq == ahead.seq + 1) = false := beq_eq_false_iff_ne.2 h2
        have HR : Hid (sb = false) := Lib.hid (by rw [HSD.out, hi, d1, d2]; rfl)
        clear hi h1 h2 HSD
        generalize (num L hf : Int) = z at *
        go_wp2_with fail
        go_ret
        exact ⟨by rw [HR.out]; rfl, HBn.out⟩
    · have d1 : (h.prev == (num L hf : Int)) = false := beq_eq_false_iff_ne.2 h1
      have HR : Hid (sb = false) := Lib.hid (by rw [HSD.out, hi, d1]; rfl)
      clear hi h1 HSD
      generalize (num L hf : Int) = z at *
      go_wp2_with fail
      go_ret
      exact ⟨by rw [HR.out]; rfl, HBn.out⟩
end Go.Proofs.YtobphijbhghgmaaGreat.Zl

/-
  A region that draws its order, whose first operation is a load and whose second a call that waits for it, the rest waiting for both: the two in turn, and behind them one walk of quiet operations.
-/
namespace Go.Proofs.YtobphijbhghgmaaGreat.Kq
set_option linter.unusedSimpArgs false
set_option linter.unusedVariables false
open Go Go.RowKit Kz

section
variable {P : Program} {ops : Array Oper} {Q : Exit → Act → World → Prop}
/-- A CALL BEHIND A LOAD. -/
theorem one_call {n : Nat} {a : Act} {w : World} {o0 o1 : Oper} {i0 i1 : Nat} {v0 v1 : Value} {f : FuncId} {x0 : Array Value} {L : Array Bool} {D : World → Prop}
    (h0 : ops[0]? = some o0) (h1 : ops[1]? = some o1) (d0 : o0.dst = some i0) (d1 : o1.dst = some i1)
    (r : Region.ready .any ops L = [0]) (r0 : Region.ready .any ops (L.setIfInBounds 0 true) = [1])
    (y0 : Y P ops o0 v0 w a)
    (c1 : Region.wanted o1 (yielded ops (a.put (some i0) v0).tmps) = true ∧ (execOp (a.put (some i0) v0).eval o1).run P w = .ok (.enter f x0) w)
    (k1 : Calls P f x0 w fun e w' => e = .returned v1 ∧ D w')
    (hend : ∀ W, D W → wpAny P .any ops Q n ((L.setIfInBounds 0 true).setIfInBounds 1 true) ((a.put (some i0) v0).put (some i1) v1) W) : wpAny P .any ops Q (n + 2) L a w := by
  refine any_step r (by simp) fun i hi => ?_
  simp only [List.mem_cons, List.not_mem_nil, or_false] at hi
  subst hi
  refine op_of_Y h0 y0 ?_
  rw [d0]
  refine any_step r0 (by simp) fun i hi => ?_
  simp only [List.mem_cons, List.not_mem_nil, or_false] at hi
  subst hi
  exact op_of_call h1 d1 c1.1 c1.2 (k1.mono fun e w' ⟨he, hc⟩ => ⟨_, he, hend w' hc⟩)
theorem any_quiet2 {o0 o1 : Oper} {l : List Oper} {L : Array Bool} {a : Act} {w : World} (hs : Region.noSelect (o0 :: o1 :: l).toArray = true) (hB : Region.lexFrom .any (o0 :: o1 :: l).toArray l.length 2 L = true)
    (h : wpQuiet P (o0 :: o1 :: l).toArray (fun w' => ∃ n, w' = w.drewN n) (fun a' => ∀ w', (∃ n, w' = w.drewN n) → Q .normal a' w') l a) : wpAny P .any (o0 :: o1 :: l).toArray Q l.length L a w :=
  any_quiet hs l 2 L a w (fun j => by simp [Nat.add_comm 2 j]) hB ⟨0, rfl⟩ h
end
end Go.Proofs.YtobphijbhghgmaaGreat.Kq

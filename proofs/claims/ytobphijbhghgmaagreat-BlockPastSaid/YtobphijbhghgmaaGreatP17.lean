/-
  Layer 9 (block): the contracts of topics.PlacedBytes and Leaves, over any placed records.
-/
import Derived.Test.YtobphijbhghgmaaGreatP16
import Derived.Test.YtobphijbhghgmaaGreatP14
import Derived.Test.YtobphijbhghgmaaGreatP04
import Derived.Lib.MinMax
import Derived.Test.YtobphijbhghgmaaGreatP11
import Derived.Test.YtobphijbhghgmaaGreatP13
namespace Go.Proofs.YtobphijbhghgmaaGreat.Zw
set_option linter.unusedSimpArgs false
open Go Go.RowKit Ck Kw Ga Kf Kx Pm Pe Pk Qb Qg Tm Tn Tq Aa Ah Bp Ik Ja Jm Ma Za Zb Zg Zi
open Im (num isIn add sum)
attribute [local go_sem ↓] Go.wp_at_zero Go.wp_at_succ
set_option linter.unusedVariables false
set_option maxRecDepth 100000

abbrev Pl3 := Tx × Int × Tx
/-- What may stand in a batch's record. -/
def okPl (x : Pl3) : Prop := x.1.length ≤ 140737488000000 ∧ x.2.2.length ≤ 1000000 ∧ x.2.1 ≤ 9223372036854775807 ∧ x.1.length ≤ 1000000
def P3 (x : Pl3) (u : Value) : Array Value := #[.string ⟨x.1.toArray⟩, .int .i64 x.2.1, u]
set_option maxHeartbeats 8000000 in
theorem plbytes_any (w : World) (X : Nat → Prop) (x : Pl3) (u : Value) (hu : Sl w X 1 u x.2.2.length (BVs x.2.2)) (hx : okPl x) :
    Calls Tryz.prog 83 #[.agg (P3 x u)] w fun e w' => ∃ v, e = .returned v ∧ w'.ownsRow w.heap.size 5 1 v (plB x).length (BVs (plB x)) ∧ Below w.heap.size w w' := by
  obtain ⟨h1, h2, h3, h4⟩ := hx
  obtain ⟨tx, off, rc⟩ := x
  simp only at h1 h2 h3 h4 hu
  obtain ⟨Ar, cr, rfl, -⟩ := id hu
  have hb0 := op_below w (.cells (P3 (tx, off, rc) (.slice Ar rc.length cr)) 150)
  have hg0 : Blk (w.alloc (.cells (P3 (tx, off, rc) (.slice Ar rc.length cr)) 150)) w.heap.size 150 (P3 (tx, off, rc) (.slice Ar rc.length cr)) := Blk.new w _ _
  have HB0 := Lib.hid hb0
  have HG0 := Lib.hid hg0
  have HU := Lib.hid hu
  obtain ⟨m, hm⟩ : ∃ m : Nat, max off 0 = (m : Int) := ⟨(max off 0).toNat, by omega⟩
  have hm2 : m < 9223372036854775808 := by omega
  have HPL : Hid (plB (tx, off, rc) = ([] ++ Cm.encB tx) ++ Cm.enc m ++ Cm.encB rc) := Lib.hid (by
    unfold plB
    simp only [hm, Int.toNat_natCast, List.nil_append, List.append_assoc])
  have c0 : (w.alloc (.cells (P3 (tx, off, rc) (.slice Ar rc.length cr)) 150)).cell? ⟨w.heap.size, 0, none⟩ = some (.string ⟨tx.toArray⟩) := hg0.cell 0
  have hcv := conv_bytes tx
  generalize hW : w.alloc (.cells (P3 (tx, off, rc) (.slice Ar rc.length cr)) 150) = W at *
  have HO5 := Lib.hid (bytesWorld_out W tx (by omega))
  have HB5 := Lib.hid (bytesWorld_below W 5 ⟨tx.toArray⟩)
  have HP1 := Lib.hid (pbytes_any w.heap.size (fun _ => False) (.slice none 0 0) _ _ [] tx (Lib.bytesWorld W 5 ⟨tx.toArray⟩) (World.ownsRow_nil _ _ _ _) (Nat.le_trans hb0.size HB5.out.size) (HO5.out.sl (X := fun _ => False) (fun _ _ _ h => h)) (by simp) (by simp; omega))
  clear hb0 hg0 hu
  unfold P3 at *
  have hlt := HG0.out.lt
  go_enter Tryz.func83, Tryz.ntmps83
  go_wp2_with fail
  refine HP1.out.mono ?_
  rintro e w1 ⟨v1, rfl, ho1, hg1, -⟩
  have hb1 : Below w.heap.size w w1 := (HB0.out.trans (HB5.out.mono HB0.out.size)).grown hg1 (Nat.le_trans HB0.out.size HB5.out.size) (fun g hg => by simp [Value.ownBlock] at hg)
  have hk1 : Blk w1 w.heap.size 150 #[.string ⟨tx.toArray⟩, .int .i64 off, .slice Ar rc.length cr] := (HG0.out.below HB5.out hlt).grown hg1 (fun e => by simp [Value.ownBlock] at e)
  have hu1 := HU.out.after hb1
  obtain ⟨A1, c1', rfl⟩ := own_shape ho1
  have c1 : w1.cell? ⟨w.heap.size, 1, none⟩ = some (.int .i64 off) := hk1.cell 1
  have HK1 := Lib.hid hk1
  have HU1 := Lib.hid hu1
  have HO1 := Lib.hid ho1
  have HB1 := Lib.hid hb1
  have HP2 := Lib.hid (pnum_any w.heap.size (.slice A1 (([] : List UInt8) ++ Cm.encB tx).length c1') m ([] ++ Cm.encB tx) w1 ho1 hb1.size (by have := (Cm.encB_len tx); have := (Cm.enc_len tx.length).1; simp only [List.nil_append]; omega) hm2)
  have HL1 := Lib.hid (show (([] : List UInt8) ++ Cm.encB tx).length ≤ 1000020 by have := (Cm.encB_len tx); have := (Cm.enc_len tx.length).1; simp only [List.nil_append]; omega)
  clear c0 hk1 hu1 ho1 hb1 hg1 HP1 hcv HO5 HB5 hlt HG0
  generalize ([] : List UInt8) ++ Cm.encB tx = b1 at *
  go_wp2_with fail
  refine HP2.out.mono ?_
  rintro e w2 ⟨v2, rfl, ho2, hg2, hv2⟩
  have hk2 := HK1.out.grown hg2 (fun e => own_far HO1.out HK1.out (by decide) e.symm)
  have hb2 := HB1.out.grown hg2 HB1.out.size (fun g hg => (HO1.out.lt g hg).1)
  have hu2 := HU.out.after hb2
  obtain ⟨A2, c2', rfl⟩ := own_shape ho2
  have e0 : w2.cell? ⟨w.heap.size, 2, none⟩ = some (.slice Ar rc.length cr) := hk2.cell 2
  have HO2 := Lib.hid ho2
  have HB2 := Lib.hid hb2
  have HL2 := Lib.hid (show (b1 ++ Cm.enc m).length ≤ 1000040 by have := HL1.out; have := (Cm.enc_len m).1; simp only [List.length_append]; omega)
  have HP3 := Lib.hid (pbytes_any w.heap.size X (.slice A2 (b1 ++ Cm.enc m).length c2') (.slice Ar rc.length cr) rc.length (b1 ++ Cm.enc m) rc w2 ho2 hb2.size hu2 (by have := HL2.out; omega) (by have := HL2.out; omega))
  clear c1 hk2 hu2 ho2 hb2 hg2 HP2 HK1 HU1
  generalize b1 ++ Cm.enc m = b2 at *
  go_wp2_with fail
  refine HP3.out.mono ?_
  rintro e w3 ⟨v3, rfl, ho3, hg3, hv3⟩
  have HO3 := Lib.hid ho3
  have HB3 := Lib.hid (HB2.out.grown hg3 HB2.out.size (fun g hg => (HO2.out.lt g hg).1))
  clear ho3 hg3 hv3 HP3
  go_wp2_with fail
  go_ret
  rw [HPL.out]
  exact ⟨_, rfl, HO3.out, HB3.out⟩
/-- The slice v reads as placed records. -/
def PRd (w : World) (X : Nat → Prop) (v : Value) (pl : List Pl3) : Prop :=
  ∃ l : List Pq, l.map (·.1) = pl ∧ Sl w X 3 v pl.length (PCs l) ∧ ∀ x ∈ l, Sl w X 1 x.2 x.1.2.2.length (BVs x.1.2.2)
theorem PRd.after {w w' : World} {X : Nat → Prop} {v : Value} {pl : List Pl3} (h : PRd w X v pl) (b : Below w.heap.size w w') : PRd w' X v pl := by
  obtain ⟨l, h1, h2, h3⟩ := h
  exact ⟨l, h1, h2.after b, fun x hx => (h3 x hx).after b⟩
theorem PRd.nil (w : World) (X : Nat → Prop) : PRd w X (.slice none 0 0) [] := ⟨[], rfl, Sl.nil _ _ _, fun x hx => by cases hx⟩
theorem prd_at {w : World} {X : Nat → Prop} {A : Option Addr} {c : Nat} {pl : List Pl3} (h : PRd w X (.slice A pl.length c) pl) {i : Nat} (hi : i < pl.length) : ∃ ad u, A = some ad ∧ w.cell? (ad.add (i * 3)) = some (.string ⟨pl[i].1.toArray⟩) ∧ w.cell? ⟨(ad.add (i * 3)).block, (ad.add (i * 3)).off + 1, none⟩ = some (.int .i64 pl[i].2.1) ∧ w.cell? ⟨(ad.add (i * 3)).block, (ad.add (i * 3)).off + 2, none⟩ = some u ∧ Sl w X 1 u pl[i].2.2.length (BVs pl[i].2.2) := by
  obtain ⟨l, h1, h2, h3⟩ := h
  subst h1
  rw [List.length_map] at hi h2
  obtain ⟨A', c', hv, hl, hc, hm, hx⟩ := h2
  obtain ⟨e1, _, _⟩ := Value.slice.inj hv
  subst e1
  obtain ⟨ad, hA, hb, hX, hcell⟩ := hx (by omega)
  have hof : ∀ j u, j < 3 → (PC l[i])[j]? = some u → w.cell? ((ad.add (i * 3)).add j) = some u := fun j u hj hu => by
    rw [Ck.add_add]
    exact hcell _ _ (by unfold PCs; rw [flat_get PC_len l i hi j hj]; exact hu)
  have e : (l.map (·.1))[i] = l[i].1 := by simp
  have ha : ∀ (a : Addr) j, 0 < j → a.add j = ⟨a.block, a.off + j, none⟩ := fun a j hj => by unfold Addr.add; rw [if_neg (by omega)]
  have h0 : ∀ a : Addr, a.add 0 = a := fun a => by unfold Addr.add; rw [if_pos rfl]
  refine ⟨ad, l[i].2, hA, ?_, ?_, ?_, ?_⟩
  · have := hof 0 _ (by omega) rfl; rw [h0] at this; rw [e]; exact this
  · have := hof 1 _ (by omega) rfl; rw [ha _ _ (by omega)] at this; rw [e]; exact this
  · have := hof 2 _ (by omega) rfl; rw [ha _ _ (by omega)] at this; exact this
  · rw [e]; exact h3 _ (List.getElem_mem hi)
/-- What was made of the first k. -/
def Lk (w : World) (base : Nat) (v : Value) (ls : List Tx) (k : Nat) : Prop :=
  ∃ vals, w.ownsRow base 25 1 v k vals ∧ ∀ i (h : i < ls.length), i < k → ∃ u, vals[i]? = some u ∧ w.ownsRow base 5 1 u ls[i].length (BVs ls[i])
theorem lk_snoc {w0 wr w1 w2 : World} {v u v2 : Value} {ls : List Tx} {k : Nat} {vals : List Value} (hk : k < ls.length) (h : ∀ i (h : i < ls.length), i < k → ∃ u, vals[i]? = some u ∧ wr.ownsRow w0.heap.size 5 1 u ls[i].length (BVs ls[i])) (hb : Below w0.heap.size w0 wr)
    (hown : wr.ownsRow w0.heap.size 25 1 v k vals) (b1 : Below wr.heap.size wr w1) (hu : w1.ownsRow wr.heap.size 5 1 u ls[k].length (BVs ls[k])) (happ : Appended w1 w0.heap.size 25 1 v (k + 1) (vals ++ [u]) v2 w2) :
    Lk w2 w0.heap.size v2 ls (k + 1) ∧ Below w0.heap.size w0 w2 := by
  have hown1 := own_below hown b1
  have hvl : vals.length = k := by have := hown.1; omega
  have hbyte : ∀ {q : Value} {b : Tx}, w1.ownsRow w0.heap.size 5 1 q b.length (BVs b) → w2.ownsRow w0.heap.size 5 1 q b.length (BVs b) := fun {q b} hq =>
    own_ch hq (Ch.of_grown happ.2.1 (fun g hg _ => hg) : Ch (fun k => v.ownBlock = some k) w1 w2) (fun g hg hv => by
      rcases hown1.2 with ⟨e, _⟩ | ⟨g1, _, _, e, _, r1, _⟩
      · rw [e] at hv; simp [Value.ownBlock] at hv
      · rcases hq.2 with ⟨rfl, _⟩ | ⟨g2, _, _, rfl, _, r2, _⟩
        · simp [Value.ownBlock] at hg
        · rw [e] at hv
          simp only [Value.ownBlock, Option.some.injEq] at hv hg
          subst hv; subst hg
          rw [r1] at r2
          simp only [Option.some.injEq, Obj.cells.injEq] at r2
          exact absurd r2.2.1 (by decide))
  refine ⟨⟨_, happ.1, fun i hi hik => ?_⟩, (hb.trans (b1.mono hb.size)).grown happ.2.1 (Nat.le_trans hb.size b1.size) (fun g hg => (hown1.lt g hg).1)⟩
  by_cases he : i = k
  · subst he
    exact ⟨u, by rw [List.getElem?_append_right (by omega), hvl, Nat.sub_self]; rfl, hbyte (own_base hu hb.size)⟩
  · obtain ⟨q, hq, h4⟩ := h i hi (by omega)
    exact ⟨q, by rw [List.getElem?_append_left (by omega)]; exact hq, hbyte (own_below h4 b1)⟩
set_option maxHeartbeats 8000000 in
theorem leaves_any (w : World) (X : Nat → Prop) (v : Value) (pl : List Pl3) (h : PRd w X v pl) (hok : ∀ x ∈ pl, okPl x) (hn : pl.length ≤ 1000) :
    Calls Tryz.prog 66 #[v] w (Leaved w (pl.map plB)) := by
  obtain ⟨A, c, rfl⟩ : ∃ A c, v = .slice A pl.length c := by
    obtain ⟨l, h1, ⟨A, c, hv, _⟩, _⟩ := h
    exact ⟨A, c, hv⟩
  have HP := Lib.hid h
  have HOK := Lib.hid hok
  have HLN : Hid ((pl.map plB).length = pl.length) := Lib.hid (List.length_map _)
  obtain ⟨i0, hi0, hz0, hz1, hz2⟩ := info_parts Ib.info_sl
  clear hok
  go_enter Tryz.func66, Tryz.ntmps66
  go_wp2_with fail
  go_loopw [3, 8] (fun v j wr => ∃ i : Nat, i ≤ pl.length ∧ j = .int .i64 i ∧ Lk wr w.heap.size v (pl.map plB) i ∧ Below w.heap.size w wr) (fun _ j _ => pl.length - (intOf j).toNat)
  case atStart => exact ⟨0, Nat.zero_le _, rfl, ⟨[], World.ownsRow_nil _ _ _ _, fun i _ h => absurd h (by omega)⟩, Below.refl _ _⟩
  case round =>
    obtain ⟨i, hi, rfl, ⟨vals, hown, hall⟩, hb⟩ := hrel
    obtain ⟨A3, c3', rfl⟩ := own_shape hown
    by_cases hlt : i < pl.length
    · obtain ⟨ad, u, rfl, a0, a1, a2, hu⟩ := prd_at (HP.out.after hb) hlt
      obtain ⟨Au, cu, rfl, -⟩ := id hu
      have hin : (i : Int) < (pl.length : Int) := by omega
      have b0 := op_below wr (.cells (P3 pl[i] (.slice Au pl[i].2.2.length cu)) 150)
      have HC := Lib.hid (plbytes_any (wr.alloc (.cells (P3 pl[i] (.slice Au pl[i].2.2.length cu)) 150)) X pl[i] (.slice Au pl[i].2.2.length cu) (hu.after b0) (HOK.out _ (List.getElem_mem hlt)))
      have HE : Hid (∀ hk : i < (pl.map plB).length, (pl.map plB)[i] = plB pl[i]) := Lib.hid fun _ => by simp
      have HW := Lib.hid (And.intro hown (And.intro hall (And.intro hb b0)))
      clear hown hall hb b0 hu
      generalize pl[i] = x at *
      unfold P3 at *
      go_wp2_with fail
      refine HC.out.mono ?_
      rintro e w2 ⟨v2, rfl, ho2, hb2⟩
      obtain ⟨A2, c2, rfl⟩ := own_shape ho2
      have HO2 := Lib.hid ho2
      have HB2 := Lib.hid hb2
      clear ho2 hb2 HC
      have hown2 := own_below (own_below HW.out.1 HW.out.2.2.2) HB2.out
      go_wp2_with (at_builtin; go_loud (refine wpList_append_sh _ rfl (.tmp 12) (.tmp 15) _ rfl w.heap.size 25 i0 _ 1 24 Tryz.underlying38 hi0 hz0 hz1 hz2 rfl (by omega) (.slice A3 i c3') i vals rfl (own_below hown2 (op_below w2 _)) (fun _ => False) _ 1 [.slice A2 (plB x).length c2] rfl (Ib.one_sv _ _ _ _ (fun h => h)) (by simp [Value.oneCell']) (by simp only [maxLen]; omega) (by omega) (Nat.le_trans HW.out.2.2.1.size (Nat.le_trans HW.out.2.2.2.size (Nat.le_trans HB2.out.size (op_below w2 _).size))) ?_); intro A4 c4 w4 happ)
      go_roundw
      case rel =>
        have hk : i < (pl.map plB).length := by rw [List.length_map]; exact hlt
        have b1 : Below wr.heap.size wr (w2.alloc (.cells #[.slice A2 (plB x).length c2] 25)) := (HW.out.2.2.2.trans (HB2.out.mono HW.out.2.2.2.size)).trans ((op_below w2 _).mono (Nat.le_trans HW.out.2.2.2.size HB2.out.size))
        have hu : (w2.alloc (.cells #[.slice A2 (plB x).length c2] 25)).ownsRow wr.heap.size 5 1 (.slice A2 (plB x).length c2) (pl.map plB)[i].length (BVs (pl.map plB)[i]) := by
          rw [HE.out hk]
          exact own_below (own_base HO2.out HW.out.2.2.2.size) (op_below w2 _)
        have R := lk_snoc hk HW.out.2.1 HW.out.2.2.1 HW.out.1 b1 hu happ
        exact ⟨i + 1, by omega, by go_num, R.1, R.2⟩
      case measure => simp [intOf]; omega
    · have hke : i = pl.length := by omega
      subst hke
      have HFIN := Lib.hid (And.intro hown (And.intro hall hb))
      clear hown hall hb
      go_wp2
      go_ret
      obtain ⟨hown, hall, hb⟩ := HFIN.out
      refine ⟨_, rfl, ⟨vals, ?_, fun i hi => ?_⟩, hb⟩
      · rw [List.length_map]; exact Sl.of_own hown (fun k h1 _ h2 => by omega)
      · obtain ⟨u, hu, h4⟩ := hall i hi (by rw [List.length_map] at hi; exact hi)
        exact ⟨u, hu, Sl.of_own h4 (fun k h1 _ h2 => by omega)⟩
end Go.Proofs.YtobphijbhghgmaaGreat.Zw

/-
  Layer 9 (block): the contract of begin.
-/
namespace Go.Proofs.YtobphijbhghgmaaGreat.Zj
set_option linter.unusedSimpArgs false
open Go Go.RowKit Ck Kw Ga Kf Pm Pe Qb Ik Ja Jm Jb Jn Ma Za Zb Ze Zc Zg Zh
open Im (num isIn add sum)
attribute [local go_sem ↓] Go.wp_at_zero Go.wp_at_succ
set_option linter.unusedVariables false
set_option maxRecDepth 100000

/-- A table, kept over a call's own two blocks: a header, and the result. -/
structure BK (w0 : World) (S : Nat → Prop) (p : Nat) (L : List Tx) (last : H) (W : World) : Prop where
  own : ∃ S', Tb W S' p L ∧ ∀ k, S' k → ((S k ∧ k < w0.heap.size) ∨ w0.heap.size ≤ k) ∧ k ≠ w0.heap.size ∧ k ≠ w0.heap.size + 1 ∧ k < W.heap.size
  ch : Ch (fun k => S k ∧ k < w0.heap.size) w0 W
  g0 : Blk W w0.heap.size 24 (HC last)
  g1 : Blk W (w0.heap.size + 1) 24 ZH
section
variable {w0 W W' : World} {S : Nat → Prop} {p : Nat} {L L' : List Tx} {last : H}
theorem BK.later (h : BK w0 S p L last W) (b : Below W.heap.size W W') : BK w0 S p L last W' := by
  obtain ⟨⟨S', h1, h2⟩, h3, h4, h5⟩ := h
  exact ⟨⟨S', Tb.after h1 b, fun k hk => ⟨(h2 k hk).1, (h2 k hk).2.1, (h2 k hk).2.2.1, Nat.lt_of_lt_of_le (h2 k hk).2.2.2 b.size⟩⟩, h3.trans (Ch.of_below b (Nat.le_refl _)) (fun _ _ h => h), h4.below b h4.lt, h5.below b h5.lt⟩
theorem BK.ask {P : Program} {f : FuncId} {args : Array Value} {r : Ending} (h : BK w0 S p L last W) (hc : ∀ S1, Tb W S1 p L → Calls P f args W (Asks S1 p r L' W)) :
    Calls P f args W fun e w' => e = r ∧ BK w0 S p L' last w' := by
  obtain ⟨⟨S', h1, h2⟩, h3, h4, h5⟩ := h
  refine (hc S' h1).mono ?_
  rintro e w' ⟨he, ht, c⟩
  have hs := c.size
  have l4 := h4.lt
  have l5 := h5.lt
  refine ⟨he, ⟨_, ht, fun k hk => ?_⟩, h3.trans c (fun k hk hX => ?_), h4.ch c (fun hX => (h2 _ hX).2.1 rfl), h5.ch c (fun hX => (h2 _ hX).2.2.1 rfl)⟩
  · rcases hk with hk | hk
    · obtain ⟨a, b, c', d⟩ := h2 k hk
      exact ⟨a, b, c', by omega⟩
    · exact ⟨.inr (by omega), by omega, by omega, hk.2⟩
  · rcases (h2 k hX).1 with q | q
    · exact q
    · omega
theorem BK.fin (h : BK w0 S p L last W) {e r : Ending} (he : e = r) (x0 x1 x2 x3 x4 : Value) :
    Asks S p r L w0 e (((((W.setCell ⟨w0.heap.size + 1, 0, none⟩ x0).setCell ⟨w0.heap.size + 1, 1, none⟩ x1).setCell ⟨w0.heap.size + 1, 2, none⟩ x2).setCell ⟨w0.heap.size + 1, 3, none⟩ x3).setCell ⟨w0.heap.size + 1, 4, none⟩ x4) := by
  obtain ⟨⟨S', h1, h2⟩, h3, h4, h5⟩ := h
  have c : Ch (fun k => k = w0.heap.size + 1) W (((((W.setCell ⟨w0.heap.size + 1, 0, none⟩ x0).setCell ⟨w0.heap.size + 1, 1, none⟩ x1).setCell ⟨w0.heap.size + 1, 2, none⟩ x2).setCell ⟨w0.heap.size + 1, 3, none⟩ x3).setCell ⟨w0.heap.size + 1, 4, none⟩ x4) :=
    (((((Ch.refl (fun k => k = w0.heap.size + 1) W).setCell (p := ⟨w0.heap.size + 1, 0, none⟩) (fun _ => rfl) x0).setCell (p := ⟨w0.heap.size + 1, 1, none⟩) (fun _ => rfl) x1).setCell (p := ⟨w0.heap.size + 1, 2, none⟩) (fun _ => rfl) x2).setCell (p := ⟨w0.heap.size + 1, 3, none⟩) (fun _ => rfl) x3).setCell (p := ⟨w0.heap.size + 1, 4, none⟩) (fun _ => rfl) x4
  have hs := c.size
  refine ⟨he, (h1.ch c (fun k hk hX => (h2 k hk).2.2.1 hX)).weaken (fun k hk => ?_), (h3.mono (fun k _ hk => hk.1)).trans c (fun k hk hX => by omega)⟩
  rcases (h2 k hk).1 with q | q
  · exact .inl q.1
  · exact .inr ⟨q, Nat.lt_of_lt_of_le (h2 k hk).2.2.2 hs⟩
end
theorem bk_new {w : World} {S : Nat → Prop} {p : Nat} {L : List Tx} (h : Tb w S p L) (last : H) : BK w S p L last ((w.alloc (.cells (HC last) 24)).alloc (.cells ZH 24)) := by
  have b2 : Below w.heap.size w ((w.alloc (.cells (HC last) 24)).alloc (.cells ZH 24)) := (op_below w _).trans ((op_below _ _).mono (by simp))
  have hs := b2.size
  exact ⟨⟨_, Tb.after (Tb.tight h) b2, fun k hk => ⟨.inl hk, by have := hk.2; omega, by have := hk.2; omega, by have := hk.2; omega⟩⟩, Ch.of_below b2 (Nat.le_refl _), Blk.alloc (Blk.new w _ _) _, Blk.new_at (by simp) rfl⟩

set_option maxHeartbeats 8000000 in
theorem begin_any (w : World) (S X : Nat → Prop) (p : Nat) (L : List Tx) (last : H) (b : List Sd) (vb : Value) (h : Tb w S p L) (hb : BI w X vb b) (hr : ∀ x ∈ b, x.q.o.recs.length ≤ 140737488355328) (hl63 : b.length ≤ 140737488355328) :
    Calls Tryz.prog 48 #[.pointer (some ⟨p, 0, none⟩), HV last, vb] w (Asks S p (.returned (.tuple #[HV (beginR L last b).1, .int .i64 (beginR L last b).2])) (beginT L last b) w) := by
  have HK := Lib.hid (bk_new h last)
  have HC0 := Lib.hid (hcheck_any ((w.alloc (.cells (HC last) 24)).alloc (.cells ZH 24)) last)
  have b2 : Below w.heap.size w ((w.alloc (.cells (HC last) 24)).alloc (.cells ZH 24)) := (op_below w _).trans ((op_below _ _).mono (by simp))
  have HBD := Lib.hid fun (W : World) (S1 : Nat → Prop) (bl : Below w.heap.size w W) (ht : Tb W S1 p L) => bdigest_any W S1 X p L b vb ht (hb.after bl) hr hl63
  have HHD := Lib.hid fun (W : World) (S1 : Nat → Prop) (L1 : List Tx) (ht : Tb W S1 p L1) => hdigest_any W S1 p L1 last ht
  have HB2 := Lib.hid b2
  have HBR : Hid (beginR L last b = if hcheck last ≠ 0 then (H.zero, hcheck last) else if last.seq = 9007199254740992 then (H.zero, 6) else if (digR L b).2 ≠ 0 then (H.zero, (digR L b).2)
    else if (hdigR (digT L b) last).2 ≠ 0 then (H.zero, (hdigR (digT L b) last).2) else (⟨last.seq + 1, (hdigR (digT L b) last).1, (digR L b).1, 0, 0⟩, 0)) := Lib.hid rfl
  have HBT : Hid (beginT L last b = if hcheck last ≠ 0 then L else if last.seq = 9007199254740992 then L else if (digR L b).2 ≠ 0 then digT L b else hdigT (digT L b) last) := Lib.hid rfl
  have HSQ : Hid (hcheck last = 0 → 0 ≤ last.seq ∧ last.seq ≤ 9007199254740992) := Lib.hid fun h => (hcheck_ok.1 h).1
  clear h hb hr hl63 b2
  generalize beginR L last b = br at *
  generalize beginT L last b = bt at *
  generalize hcheck last = z at *
  obtain ⟨⟨a0, a1, a2, a3, a4⟩, -⟩ := Blk.cells5 HK.out.g0
  unfold HV at *
  unfold HC ZH at *
  go_enter Tryz.func48, Tryz.ntmps48
  go_wp2_with fail
  generalize (w.alloc (.cells #[.int .i64 last.seq, .int .i64 last.prev, .int .i64 last.batch, .int .i64 last.root, .int .i64 last.state] 24)).alloc (.cells #[.int .i64 0, .int .i64 0, .int .i64 0, .int .i64 0, .int .i64 0] 24) = W0 at *
  refine HC0.out.mono ?_
  rintro e w1 ⟨rfl, hb1⟩
  have HK1 := Lib.hid (HK.out.later hb1)
  have HB1 := Lib.hid (HB2.out.trans (hb1.mono HB2.out.size))
  clear hb1 a0 a1 a2 a3 a4 HC0 HK HB2
  have hg0 : Blk w1 w.heap.size 24 #[.int .i64 last.seq, .int .i64 last.prev, .int .i64 last.batch, .int .i64 last.root, .int .i64 last.state] := HK1.out.g0
  have hg1 : Blk w1 (w.heap.size + 1) 24 #[.int .i64 0, .int .i64 0, .int .i64 0, .int .i64 0, .int .i64 0] := HK1.out.g1
  obtain ⟨⟨a0, a1, a2, a3, a4⟩, -⟩ := Blk.cells5 hg0
  obtain ⟨⟨r0, r1, r2, r3, r4⟩, ⟨z0, z1, z2, z3, z4⟩⟩ := Blk.cells5 hg1
  have HG1 := Lib.hid hg1
  clear hg0 hg1
  by_cases hz : z = 0
  · obtain ⟨q0, q1⟩ := HSQ.out hz
    subst hz
    by_cases hm : last.seq = 9007199254740992
    · have d0 : (last.seq == 9007199254740992) = true := by rw [hm]; rfl
      have HR : Hid (br = (H.zero, 6) ∧ bt = L) := Lib.hid ⟨by rw [HBR.out, if_neg (by simp), if_pos hm], by rw [HBT.out, if_neg (by simp), if_pos hm]⟩
      clear hm HBR HBT q0 q1
      go_wp2_with fail
      refine bodyPost_ret (results_row_tmp rfl _ _ (w.heap.size + 1) 24 #[.int .i64 0, .int .i64 0, .int .i64 0, .int .i64 0, .int .i64 0] (0, 0) _ rfl (blk5 HG1.out) Tryz.underlying24 rfl size_hdr) rfl ?_
      rw [HR.out.2]
      exact HK1.out.fin (by rw [HR.out.1]; rfl) _ _ _ _ _
    · have d0 : (last.seq == 9007199254740992) = false := beq_eq_false_iff_ne.2 hm
      have hwr : IntKind.i64.wrap (last.seq + 1) = last.seq + 1 := Ga.wrap64 (by omega) (by omega)
      have HR0 : Hid (br = (if (digR L b).2 ≠ 0 then (H.zero, (digR L b).2) else if (hdigR (digT L b) last).2 ≠ 0 then (H.zero, (hdigR (digT L b) last).2) else (⟨last.seq + 1, (hdigR (digT L b) last).1, (digR L b).1, 0, 0⟩, 0)) ∧ bt = if (digR L b).2 ≠ 0 then digT L b else hdigT (digT L b) last) := Lib.hid ⟨by rw [HBR.out, if_neg (by simp), if_neg hm], by rw [HBT.out, if_neg (by simp), if_neg hm]⟩
      have HD1 := Lib.hid (HK1.out.ask (fun S1 ht => HBD.out w1 S1 HB1.out ht))
      clear hm HBR HBT q0 q1
      generalize digT L b = L1 at *
      generalize digR L b = dr at *
      obtain ⟨d1, d2⟩ := dr
      simp only at HD1 HR0
      clear HBD
      go_wp2_with fail
      refine HD1.out.mono ?_
      rintro e w2 ⟨rfl, hk2⟩
      have HK2 := Lib.hid hk2
      clear hk2 a0 a1 a2 a3 a4 r0 r1 r2 r3 r4 z0 z1 z2 z3 z4 HD1 HG1 HK1
      have hg0 : Blk w2 w.heap.size 24 #[.int .i64 last.seq, .int .i64 last.prev, .int .i64 last.batch, .int .i64 last.root, .int .i64 last.state] := HK2.out.g0
      have hg1 : Blk w2 (w.heap.size + 1) 24 #[.int .i64 0, .int .i64 0, .int .i64 0, .int .i64 0, .int .i64 0] := HK2.out.g1
      obtain ⟨⟨a0, a1, a2, a3, a4⟩, -⟩ := Blk.cells5 hg0
      obtain ⟨⟨r0, r1, r2, r3, r4⟩, ⟨z0, z1, z2, z3, z4⟩⟩ := Blk.cells5 hg1
      have HG1 := Lib.hid hg1
      clear hg0 hg1
      by_cases h2 : d2 = 0
      · subst h2
        have HR1 : Hid (br = (if (hdigR L1 last).2 ≠ 0 then (H.zero, (hdigR L1 last).2) else (⟨last.seq + 1, (hdigR L1 last).1, d1, 0, 0⟩, 0)) ∧ bt = hdigT L1 last) := Lib.hid ⟨by rw [HR0.out.1, if_neg (by simp)], by rw [HR0.out.2, if_neg (by simp)]⟩
        have HD2 := Lib.hid (HK2.out.ask (fun S1 ht => HHD.out w2 S1 L1 ht))
        clear HHD HR0
        generalize hdigT L1 last = L2 at *
        generalize hdigR L1 last = er at *
        obtain ⟨e1, e2⟩ := er
        simp only at HD2 HR1
        go_wp2_with fail
        refine HD2.out.mono ?_
        rintro e w3 ⟨rfl, hk3⟩
        have HK3 := Lib.hid hk3
        clear hk3 a0 a1 a2 a3 a4 r0 r1 r2 r3 r4 z0 z1 z2 z3 z4 HD2 HG1 HK2
        have hg0 : Blk w3 w.heap.size 24 #[.int .i64 last.seq, .int .i64 last.prev, .int .i64 last.batch, .int .i64 last.root, .int .i64 last.state] := HK3.out.g0
        have hg1 : Blk w3 (w.heap.size + 1) 24 #[.int .i64 0, .int .i64 0, .int .i64 0, .int .i64 0, .int .i64 0] := HK3.out.g1
        obtain ⟨⟨a0, a1, a2, a3, a4⟩, -⟩ := Blk.cells5 hg0
        obtain ⟨⟨r0, r1, r2, r3, r4⟩, ⟨z0, z1, z2, z3, z4⟩⟩ := Blk.cells5 hg1
        have HG1 := Lib.hid hg1
        clear hg0 hg1
        by_cases h3 : e2 = 0
        · subst h3
          have HR : Hid (br = (⟨last.seq + 1, e1, d1, 0, 0⟩, 0) ∧ bt = L2) := Lib.hid ⟨by rw [HR1.out.1, if_neg (by simp)], HR1.out.2⟩
          clear HR1
          go_wp2_with fail
          refine bodyPost_ret (results_row_tmp rfl _ _ (w.heap.size + 1) 24 #[.int .i64 (last.seq + 1), .int .i64 e1, .int .i64 d1, .int .i64 0, .int .i64 0] (0, 0) _ rfl (blk5 HG1.out) Tryz.underlying24 rfl size_hdr) rfl ?_
          rw [HR.out.2]
          exact HK3.out.fin (by rw [HR.out.1]; rfl) _ _ _ _ _
        · have t1 : (e2 == 0) = false := beq_eq_false_iff_ne.2 h3
          have t2 : (e2 != 0) = true := by rw [bne, t1]; rfl
          have HR : Hid (br = (H.zero, e2) ∧ bt = L2) := Lib.hid ⟨by rw [HR1.out.1, if_pos h3], HR1.out.2⟩
          clear h3 HR1
          go_wp2_with fail
          refine bodyPost_ret (results_row_tmp rfl _ _ (w.heap.size + 1) 24 #[.int .i64 0, .int .i64 0, .int .i64 0, .int .i64 0, .int .i64 0] (0, 0) _ rfl (blk5 HG1.out) Tryz.underlying24 rfl size_hdr) rfl ?_
          rw [HR.out.2]
          exact HK3.out.fin (by rw [HR.out.1]; rfl) _ _ _ _ _
      · have t1 : (d2 == 0) = false := beq_eq_false_iff_ne.2 h2
        have t2 : (d2 != 0) = true := by rw [bne, t1]; rfl
        have HR : Hid (br = (H.zero, d2) ∧ bt = L1) := Lib.hid ⟨by rw [HR0.out.1, if_pos h2], by rw [HR0.out.2, if_pos h2]⟩
        clear h2 HR0
        go_wp2_with fail
        refine bodyPost_ret (results_row_tmp rfl _ _ (w.heap.size + 1) 24 #[.int .i64 0, .int .i64 0, .int .i64 0, .int .i64 0, .int .i64 0] (0, 0) _ rfl (blk5 HG1.out) Tryz.underlying24 rfl size_hdr) rfl ?_
        rw [HR.out.2]
        exact HK2.out.fin (by rw [HR.out.1]; rfl) _ _ _ _ _
  · have t1 : (z == 0) = false := beq_eq_false_iff_ne.2 hz
    have t2 : (z != 0) = true := by rw [bne, t1]; rfl
    have HR : Hid (br = (H.zero, z) ∧ bt = L) := Lib.hid ⟨by rw [HBR.out, if_pos hz], by rw [HBT.out, if_pos hz]⟩
    clear hz HBR HBT HSQ
    go_wp2_with fail
    refine bodyPost_ret (results_row_tmp rfl _ _ (w.heap.size + 1) 24 #[.int .i64 0, .int .i64 0, .int .i64 0, .int .i64 0, .int .i64 0] (0, 0) _ rfl (blk5 HG1.out) Tryz.underlying24 rfl size_hdr) rfl ?_
    rw [HR.out.2]
    exact HK1.out.fin (by rw [HR.out.1]; rfl) _ _ _ _ _
end Go.Proofs.YtobphijbhghgmaaGreat.Zj

/-
  Layer 9 (block): the contracts of madeTopics, Execute (over what apply does) and Genesis.
-/
namespace Go.Proofs.YtobphijbhghgmaaGreat.Zk
set_option linter.unusedSimpArgs false
open Go Go.RowKit Ck Kw Ga Kf Pm Pe Qb Tm Tn Tq Ik Aa Ja Jm Jb Jn Ma Za Zb Ze Zt Zc Zg Zh Zi Zj
open Im (num isIn add sum)
attribute [local go_sem ↓] Go.wp_at_zero Go.wp_at_succ
set_option linter.unusedVariables false
set_option maxRecDepth 100000

/-- Four results, the first a struct in a cell of its own. -/
theorem results_row_tmp4 {P : Program} {fn : Func} {p q r u : Tmp} {ty : TypeId} (h : fn.results = #[.cell p ty, .tmp q, .tmp r, .tmp u]) (tmps : Array Value) (w : World) (g : Nat) (t : TypeId) (cs : Array Value) (fr : Nat × Nat) (d : TypeDesc)
    (hp : tmps.getD p undef = .pointer (some ⟨g, 0, none⟩)) (hg : w.heap[g]? = some (.cells cs t fr))
    (hu : P.underlying ty = some d) (hd : (match d with | .struct _ | .array _ _ => true | _ => false) = true) (hi : (P.info? ty).map (·.size) = some cs.size) :
    (results fn tmps).run P w = .ok (.tuple #[.agg cs, tmps.getD q undef, tmps.getD r undef, tmps.getD u undef]) w := by
  have hp' : tmps[p]?.getD undef = .pointer (some ⟨g, 0, none⟩) := by simpa using hp
  simp [results, h, hp', asAddr, run_loadVar_row w g t ty cs fr d hg hu hd hi]
theorem mtop_yes (w : World) (S R : Nat → Prop) (t : Nat) (s : St) (h : Tz w S R t s) :
    Calls Tryz.prog 47 #[.pointer (some ⟨t, 0, none⟩)] w fun e w' => e = .returned (.bool true) ∧ Below w.heap.size w w' := by
  have HP := Lib.hid (Am.bounds_any w S R t s [] (by simp) h)
  have he : ((To.boundsT s.L []).2.2 == 2) = false := by
    unfold To.boundsT
    split <;> rfl
  have he2 : ((To.boundsT s.L []).2.2 != 2) = true := by rw [bne, he]; rfl
  clear h
  generalize To.boundsT s.L [] = r at *
  obtain ⟨r1, r2, r3⟩ := r
  simp only at HP he he2
  go_enter Tryz.func47, Tryz.ntmps47
  go_wp2_with fail
  refine HP.out.mono ?_
  rintro e w1 ⟨rfl, hb1⟩
  have HB1 := Lib.hid hb1
  clear hb1
  go_wp2_with fail
  go_ret
  exact ⟨rfl, HB1.out⟩
theorem _root_.Go.Proofs.YtobphijbhghgmaaGreat.Zh.ST.tb {w0 W : World} {S N : Nat → Prop} {p t : Nat} {L : List Tx} {s : St} (h : ST w0 S N p t L s W) : ∃ S1, Tb W S1 p L := by
  obtain ⟨⟨S', ⟨S1, S2, R, k1, _⟩, h2⟩, h3, h4⟩ := h
  exact ⟨S1, k1⟩
/-- A step over both. -/
theorem _root_.Go.Proofs.YtobphijbhghgmaaGreat.Zh.ST.run {w0 W : World} {S N : Nat → Prop} {p t : Nat} {L L' : List Tx} {s s' : St} {P : Program} {f : FuncId} {args : Array Value} {Q : Ending → World → Prop} (h : ST w0 S N p t L s W)
    (hc : ∀ S', TS W S' p t L s → (∀ k, S' k → Fr w0 S N k) → Calls P f args W fun e w' => Q e w' ∧ TS w' (Up S' W w') p t L' s' ∧ Ch S' W w') :
    Calls P f args W fun e w' => Q e w' ∧ Zh.Stepped w0 S N p t L' s' W w' := by
  obtain ⟨⟨S', h1, h2⟩, h3, h4⟩ := h
  refine (hc _ h1.tight (fun k hk => h2 k hk.1)).mono ?_
  rintro e w' ⟨hq, ht, c⟩
  have hs := c.size
  have hs0 := h3.size
  refine ⟨hq, ⟨⟨_, ht, fun k hk => ?_⟩, h3.trans c (fun k hk hX => ?_), fun k hk => Nat.lt_of_lt_of_le (h4 k hk) hs⟩, c.mono (fun k _ hk => h2 k hk.1)⟩
  · rcases hk with hk | hk
    · exact h2 k hk.1
    · exact ⟨.inr (by omega), fun h => by have := h4 k h; omega⟩
  · rcases (h2 k hX.1).1 with q | q
    · exact q
    · omega
theorem bi_old {w : World} {X : Nat → Prop} {v : Value} {l : List Sd} (h : BI w X v l) {B : Nat} (hB : w.heap.size ≤ B) : BI w (fun k => X k ∨ B ≤ k) v l := by
  obtain ⟨rs, h1, h2, h3⟩ := h
  exact ⟨rs, h1, h2.old hB, fun i hi => by obtain ⟨r, h4, h5⟩ := h3 i hi; exact ⟨r, h4, Mc.Ls.old h5 hB⟩⟩
/-- What apply leaves. -/
def Aply (W : World) (S : Nat → Prop) (p t : Nat) (L : List Tx) (s : St) (b : List Sd) (e : Ending) (w' : World) : Prop :=
  (∃ vp va, e = .returned (.tuple #[vp, va]) ∧ (b = [] → vp = .slice none 0 0 ∧ va = .slice none 0 0) ∧ ∀ W', Below w'.heap.size w' W' → Calls Tryz.prog 66 #[vp] W' (Leaved W' ((appL s b).1.map plB))) ∧ TS w' (Up S W w') p t L (appL s b).2 ∧ Ch S W w'
theorem apply_nil (W : World) (S : Nat → Prop) (p t : Nat) (L : List Tx) (s : St) (k : TS W S p t L s) : Calls Tryz.prog 49 #[.pointer (some ⟨t, 0, none⟩), .slice none 0 0] W (Aply W S p t L s []) := by
  have HK := Lib.hid k
  clear k
  go_enter Tryz.func49, Tryz.ntmps49
  go_wp2_with fail
  go_loopw [6, 7, 15] (fun u v j wr => u = .slice none 0 0 ∧ v = .slice none 0 0 ∧ j = .int .i64 0 ∧ wr = W) (fun _ _ _ _ => 0)
  case atStart => exact ⟨rfl, rfl, rfl, rfl⟩
  case round =>
    obtain ⟨rfl, rfl, rfl, rfl⟩ := hrel
    go_wp2_with fail
    go_ret2
    refine ⟨⟨.slice none 0 0, .slice none 0 0, rfl, fun _ => ⟨rfl, rfl⟩, fun W' _ => leaves_nil W'⟩, ?_, Ch.refl _ _⟩
    exact HK.out.weaken (fun k _ hk => .inl hk)

/-- What Execute leaves. -/
def ExecD (w : World) (S : Nat → Prop) (p t : Nat) (L : List Tx) (s : St) (last : H) (b : List Sd) (e : Ending) (w' : World) : Prop :=
  ∃ vp va, e = .returned (.tuple #[HV (execR L s last b).1, vp, va, .int .i64 (execR L s last b).2]) ∧ (b = [] → vp = .slice none 0 0 ∧ va = .slice none 0 0) ∧ TS w' (Up S w w') p t (execT L s last b) (execS L s last b) ∧ Ch S w w'
theorem execd_of {w W : World} {S N : Nat → Prop} {p t : Nat} {L L' : List Tx} {s s' : St} {last : H} {b : List Sd} {h : H} {z : Int} {vp va : Value} (k : ST w S N p t L' s' W) (h1 : execR L s last b = (h, z)) (h2 : execT L s last b = L') (h3 : execS L s last b = s') (hn : b = [] → vp = .slice none 0 0 ∧ va = .slice none 0 0) {x0 x1 x2 x3 x4 : Value} (hN : N (w.heap.size + 1)) :
    ExecD w S p t L s last b (.returned (.tuple #[HV h, vp, va, .int .i64 z])) (((((W.setCell ⟨w.heap.size + 1, 0, none⟩ x0).setCell ⟨w.heap.size + 1, 1, none⟩ x1).setCell ⟨w.heap.size + 1, 2, none⟩ x2).setCell ⟨w.heap.size + 1, 3, none⟩ x3).setCell ⟨w.heap.size + 1, 4, none⟩ x4) := by
  have c : Ch (fun k => k = w.heap.size + 1) W (((((W.setCell ⟨w.heap.size + 1, 0, none⟩ x0).setCell ⟨w.heap.size + 1, 1, none⟩ x1).setCell ⟨w.heap.size + 1, 2, none⟩ x2).setCell ⟨w.heap.size + 1, 3, none⟩ x3).setCell ⟨w.heap.size + 1, 4, none⟩ x4) :=
    (((((Ch.refl (fun k => k = w.heap.size + 1) W).setCell (p := ⟨w.heap.size + 1, 0, none⟩) (fun _ => rfl) x0).setCell (p := ⟨w.heap.size + 1, 1, none⟩) (fun _ => rfl) x1).setCell (p := ⟨w.heap.size + 1, 2, none⟩) (fun _ => rfl) x2).setCell (p := ⟨w.heap.size + 1, 3, none⟩) (fun _ => rfl) x3).setCell (p := ⟨w.heap.size + 1, 4, none⟩) (fun _ => rfl) x4
  have f := (k.put c (fun k hk => by subst hk; exact ⟨hN, by omega⟩)).fin
  exact ⟨vp, va, by rw [h1], hn, by rw [h2, h3]; exact f.1, f.2⟩

set_option maxHeartbeats 8000000 in
theorem exec_gen (w : World) (S X : Nat → Prop) (p t : Nat) (L : List Tx) (s : St) (last : H) (b : List Sd) (vb : Value) (k : TS w S p t L s) (hb : BI w X vb b) (hX : ∀ k, S k → X k) (hr : ∀ x ∈ b, x.q.o.recs.length ≤ 140737488355328) (hl63 : b.length ≤ 140737488355328)
    (hap : ∀ (W : World) (S' : Nat → Prop) (L' : List Tx), BI W (fun k => X k ∨ w.heap.size ≤ k) vb b → TS W S' p t L' s → (∀ k, S' k → X k ∨ w.heap.size ≤ k) → Calls Tryz.prog 49 #[.pointer (some ⟨t, 0, none⟩), vb] W (Aply W S' p t L' s b))
    (hn : (appL s b).1.length ≤ 1000000) (hall : ∀ x ∈ (appL s b).1.map plB, x.length ≤ 140737488355327) :
    Calls Tryz.prog 24 #[.pointer (some ⟨p, 0, none⟩), .pointer (some ⟨t, 0, none⟩), HV last, vb] w (ExecD w S p t L s last b) := by
  have b2 : Below w.heap.size w ((w.alloc (.cells (HC last) 24)).alloc (.cells ZH 24)) := (op_below w _).trans ((op_below _ _).mono (by simp))
  have k0 : Blk ((w.alloc (.cells (HC last) 24)).alloc (.cells ZH 24)) w.heap.size 24 (HC last) := Blk.alloc (Blk.new w _ _) _
  have k1 : Blk ((w.alloc (.cells (HC last) 24)).alloc (.cells ZH 24)) (w.heap.size + 1) 24 ZH := Blk.new_at (by simp) rfl
  have hz : ((w.alloc (.cells (HC last) 24)).alloc (.cells ZH 24)).heap.size = w.heap.size + 2 := by simp
  have HST := Lib.hid ((ST.start k b2).less (N' := fun k => k = w.heap.size ∨ k = w.heap.size + 1) (fun k hk => by rw [hz]; omega))
  have HK0 := Lib.hid k0
  have HK1 := Lib.hid k1
  have HB2 := Lib.hid b2
  have HBI := Lib.hid (bi_old hb (Nat.le_refl _))
  have HX := Lib.hid hX
  have HBG := Lib.hid fun (W : World) (S1 : Nat → Prop) (ht : Tb W S1 p L) (hbi : BI W (fun k => X k ∨ w.heap.size ≤ k) vb b) => begin_any W S1 _ p L last b vb ht hbi hr hl63
  have HAP := Lib.hid hap
  have HNN := Lib.hid hn
  have HAL := Lib.hid hall
  have HR0 : Hid (execR L s last b = (if (beginR L last b).2 ≠ 0 then (H.zero, (beginR L last b).2) else if (endR (beginT L last b) (beginR L last b).1 (appL s b).1 (appL s b).2).2 ≠ 0 then (H.zero, (endR (beginT L last b) (beginR L last b).1 (appL s b).1 (appL s b).2).2) else ((endR (beginT L last b) (beginR L last b).1 (appL s b).1 (appL s b).2).1, 0))
    ∧ execT L s last b = (if (beginR L last b).2 ≠ 0 then beginT L last b else endT (beginT L last b) (appL s b).1 (appL s b).2) ∧ execS L s last b = (if (beginR L last b).2 ≠ 0 then s else (appL s b).2)) := Lib.hid ⟨rfl, rfl, rfl⟩
  have HFIN := Lib.hid fun (N : Nat → Prop) (W : World) (L' : List Tx) (s' : St) (h : H) (z : Int) (vp va : Value) (k : ST w S N p t L' s' W) (h1 : execR L s last b = (h, z)) (h2 : execT L s last b = L') (h3 : execS L s last b = s') (hn : b = [] → vp = .slice none 0 0 ∧ va = .slice none 0 0) (x0 x1 x2 x3 x4 : Value) (hN : N (w.heap.size + 1)) => execd_of (x0 := x0) (x1 := x1) (x2 := x2) (x3 := x3) (x4 := x4) k h1 h2 h3 hn hN
  have HVB : Hid (∃ A c, vb = .slice A b.length c) := Lib.hid (by obtain ⟨A, c, h, -⟩ := hb.shape; exact ⟨A, c, h⟩)
  generalize execR L s last b = xr at *
  generalize execT L s last b = xt at *
  generalize execS L s last b = xs at *
  generalize hQ : ExecD w S p t L s last b = Q at *
  clear b2 k0 k1 hz k hb hX hr hl63 hap hn hall
  obtain ⟨Ab, cb, rfl⟩ := HVB.out
  unfold HV at *
  unfold HC ZH at *
  go_enter Tryz.func24, Tryz.ntmps24
  go_wp2_with fail
  generalize (w.alloc (.cells #[.int .i64 last.seq, .int .i64 last.prev, .int .i64 last.batch, .int .i64 last.root, .int .i64 last.state] 24)).alloc (.cells #[.int .i64 0, .int .i64 0, .int .i64 0, .int .i64 0, .int .i64 0] 24) = W0 at *
  obtain ⟨S1, hS1⟩ := HST.out.tb
  refine (mtab_yes W0 S1 p L hS1).mono ?_
  rintro e w1 ⟨rfl, hb1⟩
  have HST1 := Lib.hid (HST.out.later hb1)
  have HK01 := Lib.hid (HK0.out.below hb1 HK0.out.lt)
  have HK11 := Lib.hid (HK1.out.below hb1 HK1.out.lt)
  have HB3 := Lib.hid (HB2.out.trans (hb1.mono HB2.out.size))
  clear hb1 hS1 HST HK0 HK1 HB2
  obtain ⟨S2, R, hz2, -⟩ := HST1.out.tz
  go_wp2_with fail
  refine (mtop_yes w1 S2 R t s hz2).mono ?_
  rintro e w2 ⟨rfl, hb2⟩
  have HST2 := Lib.hid (HST1.out.later hb2)
  have HK0 := Lib.hid (HK01.out.below hb2 HK01.out.lt)
  have HK1 := Lib.hid (HK11.out.below hb2 HK11.out.lt)
  have HB4 := Lib.hid (HB3.out.trans (hb2.mono HB3.out.size))
  clear hb2 hz2 HST1 HK01 HK11 HB3
  obtain ⟨⟨a0, a1, a2, a3, a4⟩, -⟩ := Blk.cells5 HK0.out
  have HBE := Lib.hid (HST2.out.ask (fun S1 ht _ => HBG.out w2 S1 ht (HBI.out.after HB4.out)))
  generalize hbt : beginT L last b = L1 at *
  generalize hbr : beginR L last b = br at *
  obtain ⟨bh, be⟩ := br
  simp only at HBE HR0
  clear hbt hbr HBG
  go_wp2_with fail
  refine HBE.out.mono ?_
  rintro e w3 ⟨rfl, hst3, hc3⟩
  have HK03 := Lib.hid (HK0.out.ch hc3 (fun hf => hf.2 (.inl rfl)))
  have HK13 := Lib.hid (HK1.out.ch hc3 (fun hf => hf.2 (.inr rfl)))
  have HST3 := Lib.hid hst3
  clear hst3 hc3 a0 a1 a2 a3 a4 HBE HK0 HK1 HST2
  have HG2 : Hid (Blk (w3.alloc (.cells #[.int .i64 bh.seq, .int .i64 bh.prev, .int .i64 bh.batch, .int .i64 bh.root, .int .i64 bh.state] 24)) w3.heap.size 24 #[.int .i64 bh.seq, .int .i64 bh.prev, .int .i64 bh.batch, .int .i64 bh.root, .int .i64 bh.state]) := Lib.hid (Blk.new w3 _ _)
  have b3 := op_below w3 (.cells #[.int .i64 bh.seq, .int .i64 bh.prev, .int .i64 bh.batch, .int .i64 bh.root, .int .i64 bh.state] 24)
  have HST4 := Lib.hid ((HST3.out.more b3).less (N' := fun k => k = w.heap.size ∨ k = w.heap.size + 1 ∨ k = w3.heap.size) (fun k hk => by
    have e : (w3.alloc (.cells #[.int .i64 bh.seq, .int .i64 bh.prev, .int .i64 bh.batch, .int .i64 bh.root, .int .i64 bh.state] 24)).heap.size = w3.heap.size + 1 := by simp
    rw [e]
    rcases hk with hk | hk | hk
    · exact .inl (.inl hk)
    · exact .inl (.inr hk)
    · exact .inr (by omega)))
  have HK1 := Lib.hid (HK13.out.below b3 HK13.out.lt)
  have HL3 : Hid (w.heap.size + 1 < w3.heap.size) := Lib.hid HK13.out.lt
  obtain ⟨⟨y0, y1, y2, y3, y4⟩, ⟨z0, z1, z2, z3, z4⟩⟩ := Blk.cells5 HK1.out
  clear b3 HK03 HK13 HST3
  by_cases hbe : be = 0
  · subst hbe
    have HR1 : Hid (xr = (if (endR L1 bh (appL s b).1 (appL s b).2).2 ≠ 0 then (H.zero, (endR L1 bh (appL s b).1 (appL s b).2).2) else ((endR L1 bh (appL s b).1 (appL s b).2).1, 0)) ∧ xt = endT L1 (appL s b).1 (appL s b).2 ∧ xs = (appL s b).2) := Lib.hid ⟨by rw [HR0.out.1, if_neg (by simp)], by rw [HR0.out.2.1, if_neg (by simp)], by rw [HR0.out.2.2, if_neg (by simp)]⟩
    clear HR0 y0 y1 y2 y3 y4 z0 z1 z2 z3 z4
    go_wp2_with fail
    generalize w3.alloc (.cells #[.int .i64 bh.seq, .int .i64 bh.prev, .int .i64 bh.batch, .int .i64 bh.root, .int .i64 bh.state] 24) = w4 at *
    generalize w3.heap.size = g2 at *
    have HBI4 := Lib.hid (HBI.out.ch HST4.out.ch (fun k _ hk => .inl (HX.out k hk.1)))
    have HRUN := Lib.hid (HST4.out.run (P := Tryz.prog) (f := 49) (args := #[.pointer (some ⟨t, 0, none⟩), .slice Ab b.length cb]) (L' := L1) (s' := (appL s b).2) (fun S' hts hfr => HAP.out w4 S' L1 HBI4.out hts (fun k hk => by
      rcases (hfr k hk).1 with q | q
      · exact .inl (HX.out k q.1)
      · exact .inr q)))
    refine HRUN.out.mono ?_
    rintro e w5 ⟨⟨vp, va, rfl, hnil, hlv⟩, hst5, hc5⟩
    have HNIL := Lib.hid hnil
    have HLV := Lib.hid hlv
    have HG5 := Lib.hid (HG2.out.ch hc5 (fun hf => hf.2 (.inr (.inr rfl))))
    have HK5 := Lib.hid (HK1.out.ch hc5 (fun hf => hf.2 (.inr (.inl rfl))))
    have HST5 := Lib.hid hst5
    obtain ⟨⟨a0, a1, a2, a3, a4⟩, ⟨f0, f1, f2, f3, f4⟩⟩ := Blk.cells5 HG5.out
    clear hnil hlv hst5 hc5 HRUN HST4 HG2 HK1 HBI4
    have HEND := Lib.hid (HST5.out.run (P := Tryz.prog) (f := 46) (args := #[.pointer (some ⟨p, 0, none⟩), HV bh, vp, .pointer (some ⟨t, 0, none⟩)]) (Q := fun e _ => e = .returned (.tuple #[HV (endR L1 bh (appL s b).1 (appL s b).2).1, .int .i64 (endR L1 bh (appL s b).1 (appL s b).2).2])) (L' := endT L1 (appL s b).1 (appL s b).2) (s' := (appL s b).2) (fun S' hts hfr => end_any w5 S' p t L1 _ bh vp (appL s b).1 hts HLV.out HNN.out HAL.out))
    generalize endR L1 bh (appL s b).1 (appL s b).2 = er at *
    generalize endT L1 (appL s b).1 (appL s b).2 = et at *
    generalize (appL s b).2 = s2 at *
    obtain ⟨eh, ee⟩ := er
    simp only at HEND HR1
    unfold HV HC at HEND
    clear HNN HAL HLV HAP
    go_wp2_with fail
    refine HEND.out.mono ?_
    rintro e w6 ⟨rfl, hst6, hc6⟩
    have HG6 := Lib.hid (HG5.out.ch hc6 (fun hf => hf.2 (.inr (.inr rfl))))
    have hk6 := HK5.out.ch hc6 (fun hf => hf.2 (.inr (.inl rfl)))
    have hne : w.heap.size + 1 ≠ g2 := by have := HL3.out; omega
    obtain ⟨⟨x0, x1, x2, x3, x4⟩, ⟨f0', f1', f2', f3', f4'⟩⟩ := Blk.cells5 HG6.out
    have HP6 : Hid (Blk (((((w6.setCell ⟨g2, 0, none⟩ (.int .i64 eh.seq)).setCell ⟨g2, 1, none⟩ (.int .i64 eh.prev)).setCell ⟨g2, 2, none⟩ (.int .i64 eh.batch)).setCell ⟨g2, 3, none⟩ (.int .i64 eh.root)).setCell ⟨g2, 4, none⟩ (.int .i64 eh.state)) (w.heap.size + 1) 24 #[.int .i64 0, .int .i64 0, .int .i64 0, .int .i64 0, .int .i64 0]) := Lib.hid (((((hk6.far hne _).far hne _).far hne _).far hne _).far hne _)
    have HS6 : Hid (ST w S (fun k => k = w.heap.size ∨ k = w.heap.size + 1 ∨ k = g2) p t et s2 (((((w6.setCell ⟨g2, 0, none⟩ (.int .i64 eh.seq)).setCell ⟨g2, 1, none⟩ (.int .i64 eh.prev)).setCell ⟨g2, 2, none⟩ (.int .i64 eh.batch)).setCell ⟨g2, 3, none⟩ (.int .i64 eh.root)).setCell ⟨g2, 4, none⟩ (.int .i64 eh.state))) := Lib.hid (hst6.put (X := fun k => k = g2) ((((((Ch.refl (fun k => k = g2) w6).setCell (p := ⟨g2, 0, none⟩) (fun _ => rfl) _).setCell (p := ⟨g2, 1, none⟩) (fun _ => rfl) _).setCell (p := ⟨g2, 2, none⟩) (fun _ => rfl) _).setCell (p := ⟨g2, 3, none⟩) (fun _ => rfl) _).setCell (p := ⟨g2, 4, none⟩) (fun _ => rfl) _) (fun k hk => by subst hk; exact ⟨.inr (.inr rfl), by have := HL3.out; omega⟩))
    have hbk : Blk (((((w6.setCell ⟨g2, 0, none⟩ (.int .i64 eh.seq)).setCell ⟨g2, 1, none⟩ (.int .i64 eh.prev)).setCell ⟨g2, 2, none⟩ (.int .i64 eh.batch)).setCell ⟨g2, 3, none⟩ (.int .i64 eh.root)).setCell ⟨g2, 4, none⟩ (.int .i64 eh.state)) g2 24 #[.int .i64 eh.seq, .int .i64 eh.prev, .int .i64 eh.batch, .int .i64 eh.root, .int .i64 eh.state] := blk5 HG6.out
    obtain ⟨⟨y0, y1, y2, y3, y4⟩, -⟩ := Blk.cells5 hbk
    obtain ⟨⟨r0, r1, r2, r3, r4⟩, ⟨z0, z1, z2, z3, z4⟩⟩ := Blk.cells5 HP6.out
    clear a0 a1 a2 a3 a4 f0 f1 f2 f3 f4 HG5 HK5 HST5 HEND hk6 hst6 hc6 hbk
    by_cases hee : ee = 0
    · subst hee
      have HR : Hid (xr = (eh, 0) ∧ xt = et ∧ xs = s2) := Lib.hid ⟨by rw [HR1.out.1, if_neg (by simp)], HR1.out.2⟩
      clear HR1
      go_wp2_with fail
      refine bodyPost_ret (results_row_tmp4 rfl _ _ (w.heap.size + 1) 24 #[.int .i64 eh.seq, .int .i64 eh.prev, .int .i64 eh.batch, .int .i64 eh.root, .int .i64 eh.state] (0, 0) _ rfl (blk5 HP6.out) Tryz.underlying24 rfl size_hdr) rfl ?_
      exact HFIN.out _ _ _ _ _ _ _ _ HS6.out HR.out.1 HR.out.2.1 HR.out.2.2 HNIL.out _ _ _ _ _ (.inr (.inl rfl))
    · have t1 : (ee == 0) = false := beq_eq_false_iff_ne.2 hee
      have t2 : (ee != 0) = true := by rw [bne, t1]; rfl
      have HR : Hid (xr = (H.zero, ee) ∧ xt = et ∧ xs = s2) := Lib.hid ⟨by rw [HR1.out.1, if_pos hee], HR1.out.2⟩
      clear hee HR1
      go_wp2_with fail
      refine bodyPost_ret (results_row_tmp4 rfl _ _ (w.heap.size + 1) 24 #[.int .i64 0, .int .i64 0, .int .i64 0, .int .i64 0, .int .i64 0] (0, 0) _ rfl (blk5 HP6.out) Tryz.underlying24 rfl size_hdr) rfl ?_
      exact HFIN.out _ _ _ _ H.zero _ (.slice none 0 0) (.slice none 0 0) HS6.out HR.out.1 HR.out.2.1 HR.out.2.2 (fun _ => ⟨rfl, rfl⟩) _ _ _ _ _ (.inr (.inl rfl))
  · have t1 : (be == 0) = false := beq_eq_false_iff_ne.2 hbe
    have t2 : (be != 0) = true := by rw [bne, t1]; rfl
    have HR : Hid (xr = (H.zero, be) ∧ xt = L1 ∧ xs = s) := Lib.hid ⟨by rw [HR0.out.1, if_pos hbe], by rw [HR0.out.2.1, if_pos hbe], by rw [HR0.out.2.2, if_pos hbe]⟩
    clear hbe HR0
    go_wp2_with fail
    refine bodyPost_ret (results_row_tmp4 rfl _ _ (w.heap.size + 1) 24 #[.int .i64 0, .int .i64 0, .int .i64 0, .int .i64 0, .int .i64 0] (0, 0) _ rfl (blk5 HK1.out) Tryz.underlying24 rfl size_hdr) rfl ?_
    exact HFIN.out _ _ _ _ H.zero _ (.slice none 0 0) (.slice none 0 0) HST4.out HR.out.1 HR.out.2.1 HR.out.2.2 (fun _ => ⟨rfl, rfl⟩) _ _ _ _ _ (.inr (.inl rfl))
end Go.Proofs.YtobphijbhghgmaaGreat.Zk

/-
  The plain mathematics of layer 7 (topics): what was given, record by record.
-/
namespace Go.Proofs.YtobphijbhghgmaaGreat.Tr
set_option linter.unusedSimpArgs false
open Cm Pm Pz Tm Tn Tq To
set_option linter.unusedVariables false

theorem placed_name (n : Tx) : ∀ (rs : List Tx) (k : Int), ∀ x ∈ placed n k rs, x.1 = n
  | [], k, x, h => by simp [placed] at h
  | r :: rs, k, x, h => by
    simp only [placed, List.mem_cons] at h
    rcases h with rfl | h
    · rfl
    · exact placed_name n rs (k + 1) x h
theorem placed_length (n : Tx) : ∀ (rs : List Tx) (k : Int), (placed n k rs).length = rs.length
  | [], k => rfl
  | r :: rs, k => by simp [placed, placed_length n rs (k + 1)]
/-- The places of a request's records are its topic's, at most four. -/
theorem does_pl (L : List Tp) (o : O) : (∀ x ∈ (doesS L o).2.1, x.1 = o.topic) ∧ (doesS L o).2.1.length ≤ 4 := by
  unfold doesS
  split
  · simp
  · rename_i hc
    have hc : check o = 0 := Classical.byContradiction hc
    split
    · simp
    · split
      · split
        · simp
        · split <;> simp
      · split
        · simp
        · split
          · rename_i hk
            split
            · simp
            · refine ⟨fun x hx => placed_name _ _ _ x hx, ?_⟩
              simp only [placed_length]
              exact ((check_lens hc).2.2.2 (by rw [hk]; rfl)).2.1
          · split
            · split
              · simp
              · split <;> simp
            · split <;> simp
theorem app_pl (s : St) (c t : Int) (o : O) : (∀ x ∈ (appS s c t o).2.1, x.1 = o.topic) ∧ (appS s c t o).2.1.length ≤ 4 := by
  unfold appS
  split
  · simp
  · simp only
    split
    · simp
    · split
      · simp
      · exact does_pl s.L o
/-- A topic that is there holds what was given, from its base on. -/
theorem held {L : List Tp} {f : Log} (hl : LogOk L f) {s : Tx} {t : Tp} (h : findT L s = some t) : ((f s).length : Int) = t.next ∧ t.recs = (f s).drop t.base.toNat := by
  obtain ⟨ht, rfl⟩ := findT_some h
  exact hl.held t ht
end Go.Proofs.YtobphijbhghgmaaGreat.Tr

/-
  The plain mathematics of layer 9's one past: runs of batches over one table. No program is named here.
-/
namespace Go.Proofs.YtobphijbhghgmaaGreat.Zu
set_option linter.unusedSimpArgs false
open Cm Pm Jm Jn Tm Tn Tq Mm Za Zg
open Im (num isIn add sum)
set_option linter.unusedVariables false

/-- The number of records that a batch puts. -/
theorem appL_len : ∀ (l : List Sd) (a : List (Tx × Int × Tx) × St), (l.foldl appF a).1.length ≤ a.1.length + 4 * l.length
  | [], a => by simp
  | d :: l, a => by
    have h1 := appL_len l (appF a d)
    have h2 := (Tr.app_pl a.2 d.q.client d.q.time d.q.o).2
    have h3 : (appF a d).1.length = a.1.length + (appS a.2 d.q.client d.q.time d.q.o).2.1.length := by simp [appF]
    simp only [List.foldl_cons, List.length_cons]
    omega
theorem put_len (s : St) (l : List Sd) : (appL s l).1.length ≤ 4 * l.length := by
  have := appL_len l ([], s)
  simpa [appL] using this

/-- A run: a table knows the batches, newest first; the topics behind them, the last header, those ahead of it. -/
inductive RP (L : List Tx) : List (List Sd) → St → H → List H → Prop
  | gen {r d : Nat} : Has L [] r → Mm.look L (stB St.zero) = some d → RP L [] St.zero ⟨0, 0, 0, (r : Int), (d : Int)⟩ []
  | next {bs : List (List Sd)} {s : St} {h : H} {hs : List H} {b : List Sd} {p q r d : Nat} : RP L bs s h hs → bcheck b = 0 → hcheck h = 0 → Mm.look L (hraw h) = some p → Mm.look L (braw b) = some q → Has L ((appL s b).1.map plB) r → Mm.look L (stB (appL s b).2) = some d →
      RP L (b :: bs) (appL s b).2 ⟨h.seq + 1, (p : Int), (q : Int), (r : Int), (d : Int)⟩ (h :: hs)
theorem RP.grown {L : List Tx} (K : List Tx) {bs : List (List Sd)} {s : St} {h : H} {hs : List H} (k : RP L bs s h hs) : RP (L ++ K) bs s h hs := by
  induction k with
  | gen h1 h2 => exact .gen (h1.grown K) (Mm.look_grown K h2)
  | next h1 h2 h3 h4 h5 h6 h7 ih => exact .next ih h2 h3 (Mm.look_grown K h4) (Mm.look_grown K h5) (h6.grown K) (Mm.look_grown K h7)
theorem RP.seq {L : List Tx} {bs : List (List Sd)} {s : St} {h : H} {hs : List H} (k : RP L bs s h hs) : h.seq = (bs.length : Int) ∧ hs.length = bs.length := by
  induction k with
  | gen h1 h2 => exact ⟨rfl, rfl⟩
  | next h1 h2 h3 h4 h5 h6 h7 ih => simp only [List.length_cons]; omega
theorem RP.det {L : List Tx} {bs : List (List Sd)} {s : St} {h : H} {hs : List H} (k : RP L bs s h hs) : ∀ {s' : St} {h' : H} {hs' : List H}, RP L bs s' h' hs' → s = s' ∧ h = h' ∧ hs = hs' := by
  induction k with
  | gen h1 h2 =>
    intro s' h' hs' k'
    cases k' with
    | gen h1' h2' =>
      have e1 := has_same h1 h1'
      have e2 := h2.symm.trans h2'
      injection e2 with e2
      subst e1; subst e2
      exact ⟨rfl, rfl, rfl⟩
  | next h1 h2 h3 h4 h5 h6 h7 ih =>
    intro s' h' hs' k'
    cases k' with
    | next h1' h2' h3' h4' h5' h6' h7' =>
      obtain ⟨rfl, rfl, rfl⟩ := ih h1'
      have e1 := has_same h6 h6'
      have e2 := h4.symm.trans h4'
      have e3 := h5.symm.trans h5'
      have e4 := h7.symm.trans h7'
      injection e2 with e2
      injection e3 with e3
      injection e4 with e4
      subst e1; subst e2; subst e3; subst e4
      exact ⟨rfl, rfl, rfl⟩
/-- One past. -/
theorem RP.past {L : List Tx} {bs : List (List Sd)} {s : St} {h : H} {hs : List H} (k : RP L bs s h hs) : ∀ {bs' : List (List Sd)} {s' : St} {hs' : List H}, RP L bs' s' h hs' → bs = bs' := by
  induction k with
  | gen h1 h2 =>
    intro bs' s' hs' k'
    have h3 := k'.seq.1
    simp only at h3
    cases bs' with
    | nil => rfl
    | cons b l => simp only [List.length_cons] at h3; omega
  | @next bs s h hs b p q r d h1 h2 h3 h4 h5 h6 h7 ih =>
    intro bs' s' hs' k'
    have hq := k'.seq.1
    have hq1 := h1.seq.1
    generalize hx : (⟨h.seq + 1, (p : Int), (q : Int), (r : Int), (d : Int)⟩ : H) = x at k' hq
    cases k' with
    | gen h1' h2' =>
      injection hx with e0
      omega
    | @next bs2 s2 h2 hs2 b2 p2 q2 r2 d2 h1' h2' h3' h4' h5' h6' h7' =>
      injection hx with e0 e1 e2 e3 e4
      have e1' : p = p2 := by omega
      have e2' : q = q2 := by omega
      subst e1'; subst e2'
      have f1 := hraw_inj h3 h3' (Mm.look_inj h4 h4')
      subst f1
      have f2 := braw_inj h2 h2' (Mm.look_inj h5 h5')
      subst f2
      rw [ih h1']
theorem RP.iff {L : List Tx} {bs bs' : List (List Sd)} {s s' : St} {h h' : H} {hs hs' : List H} (k : RP L bs s h hs) (k' : RP L bs' s' h' hs') : h = h' ↔ bs = bs' := by
  constructor
  · rintro rfl
    exact k.past k'
  · rintro rfl
    exact (k.det k').2.1

theorem look_isIn {L : List Tx} {s : Tx} {d : Nat} (h : Mm.look L s = some d) : isIn L s = true ∧ num L s = d := by
  obtain ⟨h1, h2⟩ := Mm.look_some.1 h
  exact ⟨Im.isIn_true (by omega), h1⟩
theorem RP.chk {L : List Tx} {bs : List (List Sd)} {s : St} {h : H} {hs : List H} (k : RP L bs s h hs) (hc : hcheck h = 0) : ∀ i, i < (hs.reverse ++ [h]).length → chk L (hs.reverse ++ [h]) i = true := by
  induction k with
  | gen h1 h2 =>
    intro i hi
    have : i = 0 := by simpa using hi
    subst this
    simp only [List.reverse_nil, List.nil_append, Zg.chk, List.getD_cons_zero, hc]
    rfl
  | @next bs s h hs b p q r d h1 h2 h3 h4 h5 h6 h7 ih =>
    intro i hi
    simp only [List.reverse_cons, List.length_append, List.length_reverse, List.length_cons, List.length_nil] at hi
    have hlen : (hs.reverse ++ [h]).length = hs.length + 1 := by simp
    simp only [List.reverse_cons]
    rcases Nat.lt_or_ge i (hs.length + 1) with hlt | hge
    · have ih1 := ih h3 i (by rw [hlen]; exact hlt)
      unfold Zg.chk at ih1 ⊢
      have g1 : (hs.reverse ++ [h] ++ [(⟨h.seq + 1, (p : Int), (q : Int), (r : Int), (d : Int)⟩ : H)]).getD i H.zero = (hs.reverse ++ [h]).getD i H.zero := by
        rw [List.getD_eq_getElem?_getD, List.getD_eq_getElem?_getD, List.getElem?_append_left (by rw [hlen]; exact hlt)]
      have g2 : (hs.reverse ++ [h] ++ [(⟨h.seq + 1, (p : Int), (q : Int), (r : Int), (d : Int)⟩ : H)]).getD (i - 1) H.zero = (hs.reverse ++ [h]).getD (i - 1) H.zero := by
        rw [List.getD_eq_getElem?_getD, List.getD_eq_getElem?_getD, List.getElem?_append_left (by rw [hlen]; omega)]
      rw [g1, g2]
      exact ih1
    · have hi' : i = hs.length + 1 := by omega
      subst hi'
      unfold Zg.chk
      have g1 : (hs.reverse ++ [h] ++ [(⟨h.seq + 1, (p : Int), (q : Int), (r : Int), (d : Int)⟩ : H)]).getD (hs.length + 1) H.zero = ⟨h.seq + 1, (p : Int), (q : Int), (r : Int), (d : Int)⟩ := by
        rw [List.getD_eq_getElem?_getD, List.getElem?_append_right (by rw [hlen]; omega), hlen]
        simp
      have g2 : (hs.reverse ++ [h] ++ [(⟨h.seq + 1, (p : Int), (q : Int), (r : Int), (d : Int)⟩ : H)]).getD (hs.length + 1 - 1) H.zero = h := by
        rw [List.getD_eq_getElem?_getD, List.getElem?_append_left (by rw [hlen]; omega), Nat.add_sub_cancel, List.getElem?_append_right (by simp)]
        simp
      rw [g1, g2, hc]
      obtain ⟨k1, k2⟩ := look_isIn h4
      simp only [Zg.stands, hform_eq h3, k1, k2]
      simp
theorem RP.chain {L : List Tx} {bs : List (List Sd)} {s : St} {h : H} {hs : List H} (k : RP L bs s h hs) (hc : hcheck h = 0) : chainB L (hs.reverse ++ [h]) = true := by
  unfold chainB
  rw [List.all_eq_true]
  intro i hi
  exact k.chk hc i (List.mem_range.1 hi)

theorem hcheck_of {L : List Tx} {n : Int} {p q r d : Nat} (hL : L.length ≤ 1048576) (h0 : 0 ≤ n) (h1 : n ≤ 9007199254740992) (hp : p ≤ L.length) (hq : q ≤ L.length) (hr : r ≤ L.length) (hd : d ≤ L.length) : hcheck ⟨n, (p : Int), (q : Int), (r : Int), (d : Int)⟩ = 0 := by
  rw [hcheck_ok]
  simp only
  omega
/-- The header ahead of all blocks, and the table behind it. -/
def genR' (L : List Tx) : H × Int := endR L H.zero [] St.zero
def genT' (L : List Tx) : List Tx := endT L [] St.zero
/-- The first header. -/
theorem gen_run {L : List Tx} (hL : L.length + 4 ≤ 1048576) : (genR' L).2 = 0 ∧ RP (genT' L) [] St.zero (genR' L).1 [] ∧ hcheck (genR' L).1 = 0 ∧ ∃ K, genT' L = L ++ K ∧ K.length ≤ 2 := by
  obtain ⟨h1, K1, h2, h3⟩ := root_has [] L (by simp; omega)
  simp only [List.length_nil, Nat.mul_zero, Nat.zero_add, if_pos] at h3
  have hlen : (root L []).2.length ≤ L.length + 1 := by rw [h2, List.length_append]; omega
  obtain ⟨h4, K2, h5, h6⟩ := sum_known (L := (root L []).2) (s := stB St.zero) (by omega)
  have hr0 : (root L []).1 ≠ 0 := (Mm.look_some.1 (has_nil.1 h1)).2
  have hd0 := (Mm.look_some.1 h4).2
  have e1 : genR' L = (⟨0, 0, 0, ((root L []).1 : Int), (sum (root L []).2 (stB St.zero) : Int)⟩, 0) := by
    unfold genR' endR
    simp only [List.map_nil]
    rw [if_neg (by simp only [not_or]; exact ⟨hr0, hd0⟩)]
    rfl
  have e2 : genT' L = add (root L []).2 (stB St.zero) := by unfold genT' endT; simp only [List.map_nil]
  have hT : add (root L []).2 (stB St.zero) = L ++ (K1 ++ K2) := by rw [h5, h2, List.append_assoc]
  have hle : (add (root L []).2 (stB St.zero)).length ≤ L.length + 2 := by rw [hT]; simp only [List.length_append]; omega
  have hhas : Has (add (root L []).2 (stB St.zero)) [] (root L []).1 := by rw [h5]; exact h1.grown K2
  rw [e1, e2]
  refine ⟨rfl, .gen hhas h4, ?_, K1 ++ K2, hT, by simp only [List.length_append]; omega⟩
  exact hcheck_of (L := add (root L []).2 (stB St.zero)) (p := 0) (q := 0) (by omega) (by omega) (by omega) (by omega) (by omega) (has_le hhas) (Mm.look_le h4)
/-- One batch more. -/
theorem exec_run {L : List Tx} {bs : List (List Sd)} {s : St} {h : H} {hs : List H} {b : List Sd} (k : RP L bs s h hs) (hc : hcheck h = 0) (hb : bcheck b = 0) (hbs : bs.length ≤ 1000) (hL : L.length + 50 ≤ 1048576) :
    (execR L s h b).2 = 0 ∧ RP (execT L s h b) (b :: bs) (execS L s h b) (execR L s h b).1 (h :: hs) ∧ hcheck (execR L s h b).1 = 0 ∧ ∃ K, execT L s h b = L ++ K ∧ K.length ≤ 50 := by
  have hseq := k.seq.1
  have hn := (bcheck_ok hb).1
  have hpl := put_len s b
  obtain ⟨a1, K1, a2, a3⟩ := sum_known (L := L) (s := braw b) (by omega)
  have b1 : digR L b = ((sum L (braw b) : Int), 0) := digR_ok hb (Mm.look_some.1 a1).2
  have b2 : digT L b = add L (braw b) := digT_ok hb
  have l1 : (add L (braw b)).length ≤ L.length + 1 := by rw [a2, List.length_append]; omega
  obtain ⟨c1, K2, c2, c3⟩ := sum_known (L := add L (braw b)) (s := hraw h) (by omega)
  have d1 : hdigR (add L (braw b)) h = ((sum (add L (braw b)) (hraw h) : Int), 0) := by
    rw [hdigR, if_neg (by omega), if_neg (Mm.look_some.1 c1).2]
  have d2 : hdigT (add L (braw b)) h = add (add L (braw b)) (hraw h) := by rw [hdigT, if_neg (by omega)]
  generalize hM : add (add L (braw b)) (hraw h) = M at *
  have l2 : M.length ≤ L.length + 2 := by rw [c2, List.length_append]; omega
  have e1 : beginR L h b = (⟨h.seq + 1, (sum (add L (braw b)) (hraw h) : Int), (sum L (braw b) : Int), 0, 0⟩, 0) := by
    unfold beginR
    rw [if_neg (by omega), if_neg (by omega), b1, b2, d1]
    rfl
  have e2 : beginT L h b = M := by
    unfold beginT
    rw [if_neg (by omega), if_neg (by omega), b1, b2, if_neg (by simp), d2]
  generalize hpq : sum (add L (braw b)) (hraw h) = p at *
  generalize hqq : sum L (braw b) = q at *
  obtain ⟨f1, K3, f2, f3⟩ := root_has ((appL s b).1.map plB) M (by rw [List.length_map]; omega)
  have hK3 : K3.length ≤ 33 := by
    rw [List.length_map] at f3
    split at f3 <;> omega
  have l3 : (root M ((appL s b).1.map plB)).2.length ≤ M.length + 33 := by rw [f2, List.length_append]; omega
  obtain ⟨g1, K4, g2, g3⟩ := sum_known (L := (root M ((appL s b).1.map plB)).2) (s := stB (appL s b).2) (by omega)
  have hle0 : ∀ {l N : List Tx} {d : Nat}, N.length < 1048576 → Has N l d → d ≠ 0 := by
    intro l N d hN hh hd
    have := has_root hh
    subst hd
    exact absurd hh (fun hh => by
      rcases Nat.lt_or_ge l.length 2 with hl | hl
      · rcases Nat.lt_or_ge l.length 1 with h0 | h0
        · have : l = [] := List.length_eq_zero_iff.1 (by omega)
          subst this
          exact (Mm.look_some.1 (has_nil.1 hh)).2 rfl
        · exact (Mm.look_some.1 ((has_one (by omega)).1 hh)).2 rfl
      · have := (has_more hl).1 hh
        obtain ⟨x, y, _, _, h3⟩ := this
        exact (Mm.look_some.1 h3).2 rfl)
  have hr0 : (root M ((appL s b).1.map plB)).1 ≠ 0 := hle0 (by omega) f1
  have hd0 := (Mm.look_some.1 g1).2
  have hhas : Has (add (root M ((appL s b).1.map plB)).2 (stB (appL s b).2)) ((appL s b).1.map plB) (root M ((appL s b).1.map plB)).1 := by rw [g2]; exact f1.grown K4
  have e3 : endR M ⟨h.seq + 1, (p : Int), (q : Int), 0, 0⟩ (appL s b).1 (appL s b).2 = (⟨h.seq + 1, (p : Int), (q : Int), ((root M ((appL s b).1.map plB)).1 : Int), (sum (root M ((appL s b).1.map plB)).2 (stB (appL s b).2) : Int)⟩, 0) := by
    unfold endR
    rw [if_neg (by simp only [not_or]; exact ⟨hr0, hd0⟩)]
  have e4 : execR L s h b = (⟨h.seq + 1, (p : Int), (q : Int), ((root M ((appL s b).1.map plB)).1 : Int), (sum (root M ((appL s b).1.map plB)).2 (stB (appL s b).2) : Int)⟩, 0) := by
    unfold execR
    rw [e1, e2]
    simp only [ne_eq, not_true, if_false, e3]
  have e5 : execT L s h b = add (root M ((appL s b).1.map plB)).2 (stB (appL s b).2) := by
    unfold execT
    rw [e1, e2]
    simp only [ne_eq, not_true, if_false]
    rfl
  have e6 : execS L s h b = (appL s b).2 := by
    unfold execS
    rw [e1]
    simp only [ne_eq, not_true, if_false]
  have hT : add (root M ((appL s b).1.map plB)).2 (stB (appL s b).2) = L ++ (K1 ++ (K2 ++ (K3 ++ K4))) := by rw [g2, f2, c2, a2]; simp only [List.append_assoc]
  have hTM : add (root M ((appL s b).1.map plB)).2 (stB (appL s b).2) = M ++ (K3 ++ K4) := by rw [g2, f2]; simp only [List.append_assoc]
  have hTK : add (root M ((appL s b).1.map plB)).2 (stB (appL s b).2) = add L (braw b) ++ (K2 ++ (K3 ++ K4)) := by rw [g2, f2, c2]; simp only [List.append_assoc]
  have kk : RP (L ++ (K1 ++ (K2 ++ (K3 ++ K4)))) bs s h hs := k.grown _
  rw [← hT] at kk
  have cc := Mm.look_grown (K3 ++ K4) c1
  rw [← hTM] at cc
  have aa := Mm.look_grown (K2 ++ (K3 ++ K4)) a1
  rw [← hTK] at aa
  rw [e4, e5, e6]
  refine ⟨rfl, .next kk hb hc cc aa hhas g1, ?_, _, hT, by simp only [List.length_append]; omega⟩
  refine hcheck_of (L := add (root M ((appL s b).1.map plB)).2 (stB (appL s b).2)) ?_ (by omega) (by omega) (Mm.look_le cc) (Mm.look_le aa) (has_le hhas) (Mm.look_le g1)
  rw [hT]
  simp only [List.length_append]
  omega
end Go.Proofs.YtobphijbhghgmaaGreat.Zu

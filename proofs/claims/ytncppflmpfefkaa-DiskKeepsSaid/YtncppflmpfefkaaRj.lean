/-
  Contract of the document's disk: Rename.
-/
import Derived.Test.YtncppflmpfefkaaRh
namespace Go.Proofs.Ytncppflmpfefkaa.Rj
open Go Go.RowKit Go.Maps Ck Kw Ga Dm Dw Da Db Dc Dd De Df Dg Dh Di Ra Rb Rc Rd Re Rf Rg Rh
attribute [local go_sem ↓] Go.wp_at_zero Go.wp_at_succ
set_option linter.unusedVariables false

theorem rparts_tight {w : World} {S : Nat → Prop} {q most : Nat} {l : List (Fl × Value)} {down : Bool} {lv : Value} (h : RParts w S q l most down lv) : RParts w (fun k => S k ∧ k < w.heap.size) q l most down lv :=
  ⟨h.blk, h.row, ⟨h.sq, h.blk.lt⟩, fun k hk => ⟨h.slv k hk, (h.row.lt k hk).2⟩, fun x hx => (h.bytes x hx).weaken (fun k hk hy => by
    rcases hy with hy | hy
    · exact .inl (fun hs => hy ⟨hs, hk⟩)
    · exact .inr hy), h.good⟩
theorem del_none {L : List Fl} {t : Tx} (h : isIn L t = false) : del L t = L := List.filter_eq_self.2 (fun g hg => by
  have : g.n ≠ t := fun e => by rw [isIn_iff.2 ⟨g, hg, e⟩] at h; cases h
  simpa using this)
theorem ins_upd {t b : Tx} {d : Nat} {L : List Fl} (h : isIn L t = false) : upd (ins ⟨t, [], 0⟩ L) t (setf b d) = ins ⟨t, b, d⟩ L := by
  induction L with
  | nil => simp [ins, upd, setf]
  | cons x L ih =>
    have hx : x.n ≠ t := fun e => by rw [isIn_iff.2 ⟨x, by simp, e⟩] at h; cases h
    have hL : isIn L t = false := by
      cases hi : isIn L t with
      | false => rfl
      | true =>
        obtain ⟨f, hf, e⟩ := isIn_iff.1 hi
        rw [isIn_iff.2 ⟨f, by simp [hf], e⟩] at h
        cases h
    rw [ins, ins]
    by_cases hl : x.n < t
    · rw [if_pos hl, if_pos hl]
      show (if x.n = t then _ else x) :: upd (ins ⟨t, [], 0⟩ L) t (setf b d) = _
      rw [if_neg hx, ih hL]
    · rw [if_neg hl, if_neg hl]
      show (if t = t then setf b d ⟨t, [], 0⟩ else _) :: (if x.n = t then _ else x) :: upd L t (setf b d) = _
      rw [if_pos rfl, if_neg hx, upd_other (fun g hg e => by rw [isIn_iff.2 ⟨g, hg, e⟩] at hL; cases hL)]
      rfl

theorem addr_off {x : Addr} {n : Nat} (h : n ≠ 0) : (x = ⟨x.block, x.off + n, none⟩) = False := eq_false fun e => by
  have := congrArg Addr.off e
  simp at this
  exact h this
theorem addr_off' {x : Addr} {n : Nat} (h : n ≠ 0) : ((⟨x.block, x.off + n, none⟩ : Addr) = x) = False := eq_false fun e => by
  have := congrArg Addr.off e
  simp at this
  exact h this
theorem idx_unique {L : List Fl} (hn : (L.map (·.n)).Nodup) {i j : Nat} {f g : Fl} (hi : L[i]? = some f) (hj : L[j]? = some g) (h : f.n = g.n) : i = j := by
  have hl : i < (L.map (·.n)).length := by
    rw [List.length_map]
    exact (List.getElem?_eq_some_iff.1 hi).1
  refine (List.getElem?_inj hl hn).1 ?_
  rw [List.getElem?_map, List.getElem?_map, hi, hj]
  simp [h]
theorem puts_three {W : World} {ad : Addr} (had : ad = ⟨ad.block, 0, none⟩) {i : Nat} {x : Fl × Value} (h : FlAt W ad i x) (v : Value) (d : Nat) :
    Puts W (((W.setCell (ad.add (i * 3)) (.string ⟨x.1.n.toArray⟩)).setCell ⟨(ad.add (i * 3)).block, (ad.add (i * 3)).off + 1, none⟩ v).setCell ⟨(ad.add (i * 3)).block, (ad.add (i * 3)).off + 2, none⟩ (.int .i64 (d : Int))) ad i v d := by
  have ha := add_zero had (i * 3)
  have a0 := h.a0
  rw [ha] at a0 ⊢
  refine ⟨(((Ch.refl (fun k => k = ad.block) W).setCell (p := ⟨ad.block, i * 3, none⟩) (fun _ => rfl) _).setCell (p := ⟨ad.block, i * 3 + 1, none⟩) (fun _ => rfl) _).setCell (p := ⟨ad.block, i * 3 + 2, none⟩) (fun _ => rfl) _, fun cur hk => ⟨_, ((hk.set_ (i * 3) _).set_ (i * 3 + 1) v).set_ (i * 3 + 2) _, by simp, ?_⟩⟩
  have h1 : cur.toList[i * 3]? = some (.string ⟨x.1.n.toArray⟩) := by rw [← a0, hk.cell]; simp
  obtain ⟨hl, he⟩ := List.getElem?_eq_some_iff.1 h1
  simp only [Array.toList_setIfInBounds]
  rw [← he, List.set_getElem_self]
theorem rrename_end {w W1 w4 W5 : World} {S : Nat → Prop} {q most j m c d4 : Nat} {l4 : List (Fl × Value)} {L2 : List Fl} {ad4 ad : Addr} {t b : Tx} {d : Nat} {v : Value} {g4 : Fl} (hql : q < w.heap.size) (hq : S q) (hL4 : l4.map (·.1) = ins ⟨t, [], 0⟩ L2) (hi2 : isIn L2 t = false)
    (hP5 : RParts W5 (Up (fun k => S k ∧ k < w.heap.size) W1 w4) q l4 most false (.slice (some ad4) l4.length d4)) (had4 : ad4 = ⟨ad4.block, 0, none⟩) (hj : (ins ⟨t, [], 0⟩ L2)[j]? = some g4) (hg4 : g4.n = t)
    (hby : Sl w (fun k => ¬ S k ∨ k = q ∨ (Value.slice (some ad) m c).ownBlock = some k) 1 v b.length (BVs b)) (hgr : GoodL (ins ⟨t, b, d⟩ L2) most) (hb1 : Below w.heap.size w W1) (hs1 : W1.heap.size = w.heap.size + 1) (hc4 : Ch (fun k => k = q) W1 w4) (hc5 : Ch (fun k => k = w.heap.size) w4 W5) (hn4 : w.heap.size < ad4.block) :
    RDid S q (ins ⟨t, b, d⟩ L2, 0) most false w (.returned (.int .i64 0)) (((W5.setCell (ad4.add (j * 3)) (.string ⟨t.toArray⟩)).setCell ⟨(ad4.add (j * 3)).block, (ad4.add (j * 3)).off + 1, none⟩ v).setCell ⟨(ad4.add (j * 3)).block, (ad4.add (j * 3)).off + 2, none⟩ (.int .i64 (d : Int))) := by
  have hlt := rows_lt hL4 hj
  have hfe := rows_eq hL4 hj hlt
  obtain ⟨ad', e, -, -, hfa⟩ := hP5.at_ hlt
  obtain rfl := Option.some.inj e
  have hp := puts_three had4 hfa v d
  rw [hfe, hg4] at hp
  have h1 : Sl w (fun k => ¬ Up (fun k => S k ∧ k < w.heap.size) W1 w4 k ∨ k = q ∨ k = ad4.block ∨ k = w.heap.size) 1 v b.length (BVs b) := hby.weaken (fun k hk hy => by
    rcases hy with hy | hy | hy | hy
    · exact .inl (fun hs => hy (.inl ⟨hs, hk⟩))
    · exact .inr (.inl hy)
    · omega
    · omega)
  have h2 := ((h1.after hb1).ch hc4 (fun k _ e => .inr (.inl e))).ch hc5 (fun k _ e => .inr (.inr (.inr e)))
  have hset : (l4.set j (⟨l4[j].1.n, b, d⟩, v)).map (·.1) = ins ⟨t, b, d⟩ L2 := by
    rw [List.map_set, hL4, hfe]
    have h3 := set_upd (L := ins ⟨t, [], 0⟩ L2) (by rw [← hL4]; exact hP5.good.nodup) hj b d
    rw [hg4, ins_upd hi2] at h3
    rw [← h3]
    unfold setf
    rw [hg4]
  have r1 := rparts_set hP5 hlt b d v hp (h2.weaken (fun k _ hk => by
    rcases hk with hk | hk | hk
    · exact .inl hk
    · exact .inr (.inl hk)
    · exact .inr (.inr (.inl hk)))) (by rw [hset]; exact hgr)
  have s4 := hc4.size
  have s5 := hc5.size
  have s6 := hp.1.size
  refine ⟨rfl, ⟨_, _, hset, r1.weaken (fun k hk => ?_)⟩, ?_⟩
  · rcases hk with ⟨hk, _⟩ | ⟨g1, g2⟩
    · exact .inl hk
    · exact .inr ⟨by omega, by omega⟩
  · exact (((Ch.of_below hb1 (Nat.le_refl _)).trans (hc4.mono (T := S) (fun k _ hk => by rw [hk]; exact hq)) (fun _ _ h => h)).trans hc5 (fun k hk e => by omega)).trans hp.1 (fun k hk e => by omega)

/-- at, where the place is known. -/
theorem rat_one {w : World} {S : Nat → Prop} {q : Nat} {L : List Fl} {most : Nat} {t : Tx} {j : Nat} {g : Fl} (h : Rk w S q L most false) (hj : L[j]? = some g) (hg : g.n = t) :
    Calls Try.prog 58 #[.pointer (some ⟨q, 0, none⟩), .string ⟨t.toArray⟩] w fun e w' => e = .returned (.int .i64 (j : Int)) ∧ w = w' := by
  refine (rat_any w S q L most false t h).mono ?_
  rintro e w' ⟨⟨z, rfl, hz⟩, rfl⟩
  refine ⟨?_, rfl⟩
  rcases hz with ⟨i, f, h1, h2, rfl⟩ | ⟨h1, _⟩
  · rw [idx_unique h.good.nodup h2 hj ((find_some h1).2.trans hg.symm)]
  · exact absurd hg (find_none h1 g (List.mem_of_getElem? hj))

set_option maxRecDepth 100000 in
set_option maxHeartbeats 4000000 in
theorem rrename_any (w : World) (S : Nat → Prop) (q : Nat) (L : List Fl) (most : Nat) (down : Bool) (s t : Tx) (ht : t.length ≤ 140737488355328) (h : Rk w S q L most down) :
    Calls Try.prog 38 #[.pointer (some ⟨q, 0, none⟩), .string ⟨s.toArray⟩, .string ⟨t.toArray⟩] w (RDid S q (renS L down s t) most down w) := by
  rcases find_cases L down s with ⟨c, hc1, hc2, hc⟩ | ⟨rfl, f, hf⟩
  · have HM := Lib.hid (rmay_no w S q L most down s h c hc)
    have H := Lib.hid h
    rw [ren_no hc]
    have hne : ((c : Int) == 0) = false := by rw [beq_eq_false_iff_ne]; omega
    clear h hc
    go_enter Try.func38, Try.ntmps38
    go_wp2_with (go_at_call 59; refine HM.out.mono ?_; rintro e w' ⟨rfl, rfl⟩)
    go_ret
    exact rdid_refl H.out
  · have H := Lib.hid h
    have HM := Lib.hid (rmay_in w S q L most s h f hf)
    have HG := Lib.hid h.good
    have HF := Lib.hid hf
    by_cases h0 : t = []
    · have e : renS L false s t = (L, 1) := by rw [ren_some hf, if_pos h0]
      rw [e]
      subst h0
      clear h hf e
      go_enter Try.func38, Try.ntmps38
      go_wp2_with fail
      refine HM.out.mono ?_
      rintro e w' ⟨⟨i, hi, rfl⟩, rfl⟩
      clear hi
      go_wp2_with fail
      go_ret
      exact rdid_refl H.out
    · have hse := str_ne h0
      by_cases hts : t = s
      · have e : renS L false s t = (L, 0) := by rw [ren_some hf, if_neg h0, if_pos hts]
        rw [e]
        have hts' : (t == s) = true := by rw [hts]; exact beq_self_eq_true _
        clear h hf e hts h0
        go_enter Try.func38, Try.ntmps38
        go_wp2_with fail
        refine HM.out.mono ?_
        rintro e w' ⟨⟨i, hi, rfl⟩, rfl⟩
        clear hi
        go_wp2_with fail
        go_ret
        exact rdid_refl H.out
      · have e : renS L false s t = (ins ⟨t, f.b, f.d⟩ (del (del L s) t), 0) := by rw [ren_some hf, if_neg h0, if_neg hts]
        have HE := Lib.hid e
        have hts' : (t == s) = false := by rw [beq_eq_false_iff_ne]; exact hts
        have hlen := h.good.len (find_some hf).1
        obtain ⟨l, lv, hL, hP⟩ := h
        have hfew := hP.good.few
        rw [List.length_map] at hfew
        obtain ⟨A, c, rfl, -⟩ := hP.shape
        have c0 : w.cell? ⟨q, 0, none⟩ = some (.slice A l.length c) := hP.blk.cell 0
        have HP := Lib.hid hP
        have HL := Lib.hid hL
        have HH := Lib.hid (And.intro h0 hts)
        clear hP hL hf e h0 hts
        go_enter Try.func38, Try.ntmps38
        go_wp2_with fail
        refine HM.out.mono ?_
        rintro e w' ⟨⟨i, hi, rfl⟩, rfl⟩
        have hlt : i < l.length := rows_lt HL.out hi
        obtain ⟨ad, rfl, had, hadq, hfa⟩ := HP.out.at_ hlt
        have hfe : l[i].1 = f := rows_eq HL.out hi hlt
        have hby := HP.out.bytes _ (List.getElem_mem hlt)
        rw [hfe] at hby
        obtain ⟨B, d, hxx⟩ : ∃ B d, l[i].2 = .slice B f.b.length d := by
          obtain ⟨B, d, h, _⟩ := hby
          exact ⟨B, d, h⟩
        have a0 := hfa.a0
        have a1 := hfa.a1
        have a2 := hfa.a2
        rw [hfe] at a0 a2
        rw [hxx] at a1 hby
        have HBY := Lib.hid hby
        have hi2 : (i : Int) < (l.length : Int) := by omega
        have hi0 : (0 : Int) ≤ (i : Int) := by omega
        clear hfa hfe hi hby had hxx
        have HB1 : Hid (Below w.heap.size w (w.alloc (.cells #[.string ⟨f.n.toArray⟩, .slice B f.b.length d, .int .i64 (f.d : Int)] 84))) := Lib.hid ((Below.refl _ w).alloc (Nat.le_refl _) _)
        have HM1 : Hid (Blk (w.alloc (.cells #[.string ⟨f.n.toArray⟩, .slice B f.b.length d, .int .i64 (f.d : Int)] 84)) w.heap.size 84 #[.string ⟨f.n.toArray⟩, .slice B f.b.length d, .int .i64 (f.d : Int)]) := Lib.hid (Blk.new _ _ _)
        have HR1 : Hid (Rk (w.alloc (.cells #[.string ⟨f.n.toArray⟩, .slice B f.b.length d, .int .i64 (f.d : Int)] 84)) (fun k => S k ∧ k < w.heap.size) q L most false) := Lib.hid (Rk.later ⟨l, _, HL.out, rparts_tight HP.out⟩ HB1.out)
        have HS1 : Hid ((w.alloc (.cells #[.string ⟨f.n.toArray⟩, .slice B f.b.length d, .int .i64 (f.d : Int)] 84)).heap.size = w.heap.size + 1) := Lib.hid (by simp)
        go_wp2_with fail
        generalize w.alloc (.cells #[.string ⟨f.n.toArray⟩, .slice B f.b.length d, .int .i64 (f.d : Int)] 84) = W1 at HB1 HM1 HR1 HS1 ⊢
        refine (rremove_new W1 _ q L most false s HR1.out).mono ?_
        rintro e w2 hn2
        have hr : remS L false s = (del L s, 0) := by rw [rem_some HF.out, (find_some HF.out).2]
        rw [hr] at hn2
        obtain ⟨rfl, hk2, -, hc2⟩ := hn2
        have HK2 : Hid (Rk w2 (Up (fun k => S k ∧ k < w.heap.size) W1 w2) q (del L s) most false) := Lib.hid (by obtain ⟨l', lv', h1, h2, _⟩ := hk2; exact ⟨l', lv', h1, h2⟩)
        have HC2 := Lib.hid hc2
        clear hk2 hc2 hr
        go_wp2_with fail
        refine (rat_any w2 _ q (del L s) most false t HK2.out).mono ?_
        rintro e w' ⟨⟨z, rfl, hz⟩, rfl⟩
        have hL2 : isIn (del (del L s) t) t = false := by rw [isIn_del]; simp
        have hgr := good_ren HG.out (find_some HF.out).1 t ht
        rw [(find_some HF.out).2] at hgr
        have hlen2 : (del (del L s) t).length < 64 := by
          have h1 := hgr.few
          rw [(ins_perm _ _).length_eq, List.length_cons] at h1
          omega
        have hcr : createS (del (del L s) t) false t = (ins ⟨t, [], 0⟩ (del (del L s) t), 0) := by rw [createS, if_neg (by simp), if_neg HH.out.1, if_neg (by rw [hL2]; simp), if_neg (by omega)]
        have HT := Lib.hid (And.intro ht (And.intro hL2 hcr))
        have HGR := Lib.hid hgr
        clear hcr hlen2 hL2 ht hgr
        rcases hz with ⟨j, g, hg1, hg2, rfl⟩ | ⟨hg1, rfl⟩
        · have hj0 : (0 : Int) ≤ (j : Int) := by omega
          have hr : remS (del L s) false t = (del (del L s) t, 0) := by rw [rem_some hg1, (find_some hg1).2]
          have HR := Lib.hid hr
          clear hr hg1 hg2
          go_wp2_with fail
          refine (rremove_new w2 _ q (del L s) most false t HK2.out).mono ?_
          rintro e w3 hn3
          rw [HR.out] at hn3
          obtain ⟨rfl, ⟨l3, lv3, hl3, hp3, -⟩, -, hc3⟩ := hn3
          have HK3 : Hid (Rk w3 (Up (fun k => S k ∧ k < w.heap.size) W1 w3) q (del (del L s) t) most false) := Lib.hid ⟨l3, lv3, hl3, hp3.weaken (fun k hk => up_two HC2.out.size hc3.size hk)⟩
          have HC3 : Hid (Ch (fun k => k = q) W1 w3) := Lib.hid (HC2.out.trans hc3 (fun _ _ h => h))
          clear hl3 hp3 hc3
          go_wp2_with fail
          refine (rcreate_new w3 _ q (del (del L s) t) most false t HT.out.1 HK3.out).mono ?_
          rintro e w4 hn4
          rw [HT.out.2.2] at hn4
          obtain ⟨rfl, ⟨l4, lv4, hl4, hp4, hnew4⟩, -, hc4⟩ := hn4
          have hc14 : Ch (fun k => k = q) W1 w4 := HC3.out.trans hc4 (fun _ _ h => h)
          have HC4 := Lib.hid hc14
          have HP4 : Hid (RParts w4 (Up (fun k => S k ∧ k < w.heap.size) W1 w4) q l4 most false lv4) := Lib.hid (hp4.weaken (fun k hk => up_two HC3.out.size hc4.size hk))
          have HL4 : Hid (l4.map (·.1) = ins ⟨t, [], 0⟩ (del (del L s) t)) := Lib.hid hl4
          have HN4 : Hid (∀ k, lv4.ownBlock = some k → w.heap.size < k) := Lib.hid (fun k hk => by have := hnew4 rfl k hk; have := HC3.out.size; have := HS1.out; omega)
          have hq0 : q < w.heap.size := HP.out.blk.lt
          have hm4 : Blk w4 w.heap.size 84 #[.string ⟨f.n.toArray⟩, .slice B f.b.length d, .int .i64 (f.d : Int)] := HM1.out.ch hc14 (fun e => by omega)
          have n0 := hm4.cell 0
          have n0f := hm4.frozen 0
          have HM4 := Lib.hid hm4
          clear hp4 hl4 hnew4 hc4 hc14 hm4
          go_wp2_with fail
          have hP5 : RParts (w4.setCell ⟨w.heap.size, 0, none⟩ (.string ⟨t.toArray⟩)) (Up (fun k => S k ∧ k < w.heap.size) W1 w4) q l4 most false lv4 := HP4.out.ch ((Ch.refl (fun k => k = w.heap.size) w4).setCell (p := ⟨w.heap.size, 0, none⟩) (fun _ => rfl) _) (fun k hk e => by
            have := HS1.out
            rcases hk with ⟨_, h1⟩ | ⟨h1, _⟩ <;> omega)
          have hm5 : Blk (w4.setCell ⟨w.heap.size, 0, none⟩ (.string ⟨t.toArray⟩)) w.heap.size 84 #[.string ⟨t.toArray⟩, .slice B f.b.length d, .int .i64 (f.d : Int)] := HM4.out.set_ 0 _
          have HW5 : Hid (Ch (fun k => k = w.heap.size) w4 (w4.setCell ⟨w.heap.size, 0, none⟩ (.string ⟨t.toArray⟩))) := Lib.hid ((Ch.refl (fun k => k = w.heap.size) w4).setCell (p := ⟨w.heap.size, 0, none⟩) (fun _ => rfl) _)
          have HZ5 : Hid ((w4.setCell ⟨w.heap.size, 0, none⟩ (.string ⟨t.toArray⟩)).heap.size = w4.heap.size) := Lib.hid (by simp [World.setCell])
          generalize w4.setCell ⟨w.heap.size, 0, none⟩ (.string ⟨t.toArray⟩) = W5 at hP5 hm5 HW5 HZ5 ⊢
          obtain ⟨A4, d4, rfl, -⟩ := hP5.shape
          obtain ⟨j, g4, hj1, hj2⟩ : ∃ (j : Nat) (g4 : Fl), (ins ⟨t, [], 0⟩ (del (del L s) t))[j]? = some g4 ∧ g4.n = t := by
            obtain ⟨j, hj, e⟩ := List.mem_iff_getElem.1 (mem_ins.2 (.inl rfl) : (⟨t, [], 0⟩ : Fl) ∈ ins ⟨t, [], 0⟩ (del (del L s) t))
            exact ⟨j, _, List.getElem?_eq_getElem hj, by rw [e]⟩
          have hat := rat_one (w := W5.drew) (S := Up (fun k => S k ∧ k < w.heap.size) W1 w4) (q := q) (most := most) (t := t) (Rk.drewN ⟨l4, _, HL4.out, hP5⟩ 1) hj1 hj2
          have hlt4 := rows_lt HL4.out hj1
          obtain ⟨ad4, rfl, had4, hadq4, hfa4⟩ := hP5.at_ hlt4
          have e0 : W5.cell? ⟨q, 0, none⟩ = some (.slice (some ad4) l4.length d4) := hP5.blk.cell 0
          have o0 := hm5.cell 0
          have o1 := hm5.cell 1
          have o2 := hm5.cell 2
          simp only [List.getElem?_toArray, List.getElem?_cons_zero, List.getElem?_cons_succ] at o0 o1 o2
          have b0 := hfa4.a0
          have b1 := hfa4.a1
          have b2 := hfa4.a2
          have h0f := hfa4.f0
          have h1f := hfa4.f1
          have h2f := hfa4.f2
          have hj3 : (j : Int) < (l4.length : Int) := by omega
          have hj0' : (0 : Int) ≤ (j : Int) := by omega
          have HAT := Lib.hid hat
          have HP5 := Lib.hid hP5
          have HM5 := Lib.hid hm5
          have HJ := Lib.hid (And.intro hj1 (And.intro hj2 had4))
          clear hat hP5 hm5 hfa4 hj1 hj2 had4
          have i1 := addr_off (x := ad4.add (j * 3)) (n := 1) (by omega)
          have i2 := addr_off (x := ad4.add (j * 3)) (n := 2) (by omega)
          have i3 := addr_off' (x := ad4.add (j * 3)) (n := 1) (by omega)
          have i4 := addr_off' (x := ad4.add (j * 3)) (n := 2) (by omega)
          go_region_with (go_at_call 58; refine HAT.out.mono ?_; rintro e w' ⟨rfl, rfl⟩)
          all_goals
            go_wp2_with fail
            go_ret
            rw [HE.out]
            exact rdid_drew (rrename_end HP.out.blk.lt HP.out.sq HL4.out HT.out.2.1 HP5.out HJ.out.2.2 HJ.out.1 HJ.out.2.1 HBY.out HGR.out HB1.out HS1.out HC4.out HW5.out (HN4.out _ rfl))
        · have HK3 : Hid (Rk w2 (Up (fun k => S k ∧ k < w.heap.size) W1 w2) q (del (del L s) t) most false) := Lib.hid (by
            rw [del_none (show isIn (del L s) t = false by rw [isIn_find, hg1]; rfl)]
            exact HK2.out)
          clear hg1
          go_wp2_with fail
          refine (rcreate_new w2 _ q (del (del L s) t) most false t HT.out.1 HK3.out).mono ?_
          rintro e w4 hn4
          rw [HT.out.2.2] at hn4
          obtain ⟨rfl, ⟨l4, lv4, hl4, hp4, hnew4⟩, -, hc4⟩ := hn4
          have hc14 : Ch (fun k => k = q) W1 w4 := HC2.out.trans hc4 (fun _ _ h => h)
          have HC4 := Lib.hid hc14
          have HP4 : Hid (RParts w4 (Up (fun k => S k ∧ k < w.heap.size) W1 w4) q l4 most false lv4) := Lib.hid (hp4.weaken (fun k hk => up_two HC2.out.size hc4.size hk))
          have HL4 : Hid (l4.map (·.1) = ins ⟨t, [], 0⟩ (del (del L s) t)) := Lib.hid hl4
          have HN4 : Hid (∀ k, lv4.ownBlock = some k → w.heap.size < k) := Lib.hid (fun k hk => by have := hnew4 rfl k hk; have := HC2.out.size; have := HS1.out; omega)
          have hq0 : q < w.heap.size := HP.out.blk.lt
          have hm4 : Blk w4 w.heap.size 84 #[.string ⟨f.n.toArray⟩, .slice B f.b.length d, .int .i64 (f.d : Int)] := HM1.out.ch hc14 (fun e => by omega)
          have n0 := hm4.cell 0
          have n0f := hm4.frozen 0
          have HM4 := Lib.hid hm4
          clear hp4 hl4 hnew4 hc4 hc14 hm4
          go_wp2_with fail
          have hP5 : RParts (w4.setCell ⟨w.heap.size, 0, none⟩ (.string ⟨t.toArray⟩)) (Up (fun k => S k ∧ k < w.heap.size) W1 w4) q l4 most false lv4 := HP4.out.ch ((Ch.refl (fun k => k = w.heap.size) w4).setCell (p := ⟨w.heap.size, 0, none⟩) (fun _ => rfl) _) (fun k hk e => by
            have := HS1.out
            rcases hk with ⟨_, h1⟩ | ⟨h1, _⟩ <;> omega)
          have hm5 : Blk (w4.setCell ⟨w.heap.size, 0, none⟩ (.string ⟨t.toArray⟩)) w.heap.size 84 #[.string ⟨t.toArray⟩, .slice B f.b.length d, .int .i64 (f.d : Int)] := HM4.out.set_ 0 _
          have HW5 : Hid (Ch (fun k => k = w.heap.size) w4 (w4.setCell ⟨w.heap.size, 0, none⟩ (.string ⟨t.toArray⟩))) := Lib.hid ((Ch.refl (fun k => k = w.heap.size) w4).setCell (p := ⟨w.heap.size, 0, none⟩) (fun _ => rfl) _)
          have HZ5 : Hid ((w4.setCell ⟨w.heap.size, 0, none⟩ (.string ⟨t.toArray⟩)).heap.size = w4.heap.size) := Lib.hid (by simp [World.setCell])
          generalize w4.setCell ⟨w.heap.size, 0, none⟩ (.string ⟨t.toArray⟩) = W5 at hP5 hm5 HW5 HZ5 ⊢
          obtain ⟨A4, d4, rfl, -⟩ := hP5.shape
          obtain ⟨j, g4, hj1, hj2⟩ : ∃ (j : Nat) (g4 : Fl), (ins ⟨t, [], 0⟩ (del (del L s) t))[j]? = some g4 ∧ g4.n = t := by
            obtain ⟨j, hj, e⟩ := List.mem_iff_getElem.1 (mem_ins.2 (.inl rfl) : (⟨t, [], 0⟩ : Fl) ∈ ins ⟨t, [], 0⟩ (del (del L s) t))
            exact ⟨j, _, List.getElem?_eq_getElem hj, by rw [e]⟩
          have hat := rat_one (w := W5.drew) (S := Up (fun k => S k ∧ k < w.heap.size) W1 w4) (q := q) (most := most) (t := t) (Rk.drewN ⟨l4, _, HL4.out, hP5⟩ 1) hj1 hj2
          have hlt4 := rows_lt HL4.out hj1
          obtain ⟨ad4, rfl, had4, hadq4, hfa4⟩ := hP5.at_ hlt4
          have e0 : W5.cell? ⟨q, 0, none⟩ = some (.slice (some ad4) l4.length d4) := hP5.blk.cell 0
          have o0 := hm5.cell 0
          have o1 := hm5.cell 1
          have o2 := hm5.cell 2
          simp only [List.getElem?_toArray, List.getElem?_cons_zero, List.getElem?_cons_succ] at o0 o1 o2
          have b0 := hfa4.a0
          have b1 := hfa4.a1
          have b2 := hfa4.a2
          have h0f := hfa4.f0
          have h1f := hfa4.f1
          have h2f := hfa4.f2
          have hj3 : (j : Int) < (l4.length : Int) := by omega
          have hj0' : (0 : Int) ≤ (j : Int) := by omega
          have HAT := Lib.hid hat
          have HP5 := Lib.hid hP5
          have HM5 := Lib.hid hm5
          have HJ := Lib.hid (And.intro hj1 (And.intro hj2 had4))
          clear hat hP5 hm5 hfa4 hj1 hj2 had4
          have i1 := addr_off (x := ad4.add (j * 3)) (n := 1) (by omega)
          have i2 := addr_off (x := ad4.add (j * 3)) (n := 2) (by omega)
          have i3 := addr_off' (x := ad4.add (j * 3)) (n := 1) (by omega)
          have i4 := addr_off' (x := ad4.add (j * 3)) (n := 2) (by omega)
          go_region_with (go_at_call 58; refine HAT.out.mono ?_; rintro e w' ⟨rfl, rfl⟩)
          all_goals
            go_wp2_with fail
            go_ret
            rw [HE.out]
            exact rdid_drew (rrename_end HP.out.blk.lt HP.out.sq HL4.out HT.out.2.1 HP5.out HJ.out.2.2 HJ.out.1 HJ.out.2.1 HBY.out HGR.out HB1.out HS1.out HC4.out HW5.out (HN4.out _ rfl))

end Go.Proofs.Ytncppflmpfefkaa.Rj

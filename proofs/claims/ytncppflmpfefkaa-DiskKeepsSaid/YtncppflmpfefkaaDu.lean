/-
  Contract of the program's disk: Clone.
-/
import Derived.Test.YtncppflmpfefkaaDj
namespace Go.Proofs.Ytncppflmpfefkaa.Du
open Go Go.RowKit Go.Maps Ck Kw Ga Dm Dw Da Db Dc Dd De Df Dg Dh Dj
attribute [local go_sem ↓] Go.wp_at_zero Go.wp_at_succ
set_option linter.unusedVariables false

theorem good_filter {L : List Fl} {room : Nat} (h : GoodL L room) (P : Fl → Bool) : GoodL (L.filter P) room :=
  ⟨h.nodup.sublist (List.filter_sublist.map _), Nat.le_trans (List.length_filter_le _ _) h.few, Nat.le_trans (used_filter_le _ _) h.fits, h.room, fun f hf => h.name f (List.mem_filter.1 hf).1, fun f hf => h.done f (List.mem_filter.1 hf).1⟩
/-- The files that are no longer to come. -/
def gone (left : Lit → Bool) (L : List Fl) : List Fl := L.filter (fun f => !left (.string f.n))
theorem mem_gone {left : Lit → Bool} {L : List Fl} {f : Fl} : f ∈ gone left L ↔ f ∈ L ∧ left (.string f.n) = false := by
  unfold gone
  rw [List.mem_filter]
  simp
theorem gone_step {left : Lit → Bool} {L : List Fl} (hn : (L.map (·.n)).Nodup) {f : Fl} (hf : f ∈ L) (hl : left (.string f.n) = true) (g : Fl) : g ∈ gone (fun z => left z && !z.sameKey (.string f.n)) L ↔ g ∈ gone left L ∨ g = f := by
  rw [mem_gone, mem_gone, sameKey_str]
  constructor
  · rintro ⟨h1, h2⟩
    by_cases e : g.n = f.n
    · exact .inr (nodup_eq hn h1 hf e)
    · have : (g.n == f.n) = false := by rw [beq_eq_false_iff_ne]; exact e
      rw [this] at h2
      exact .inl ⟨h1, by simpa using h2⟩
  · rintro (⟨h1, h2⟩ | rfl)
    · exact ⟨h1, by rw [h2]; rfl⟩
    · exact ⟨hf, by simp⟩
theorem gone_all {left : Lit → Bool} {L : List Fl} (h : ∀ s : Tx, left (.string s) = false) : gone left L = L := List.filter_eq_self.2 (fun f _ => by rw [h]; rfl)
theorem gone_none {left : Lit → Bool} {L : List Fl} (h : ∀ f ∈ L, left (.string f.n) = true) : gone left L = [] := List.filter_eq_nil_iff.2 (fun f hf => by rw [h f hf]; simp)

/-- A file more, cloned into new blocks. -/
theorem parts_cloned {w w1 w2 : World} {S : Nat → Prop} {p m room g : Nat} {L L' : List Fl} {off : Bool} {D : DataW Unit} {G : Tx → Nat} {T : Tx → Nat → Prop} {f : Fl} (h : Parts w S p m L room off D G T) (hn : isIn L f.n = false) (hL : ∀ x, x ∈ L' ↔ x ∈ L ∨ x = f) (hg : GoodL L' room)
    (hb : Below w.heap.size w w1) (hF : Fw w1 (New w w1) g f.b f.d) (c : Ch (fun k => k = m) w1 w2) (ho : w2.ownsMap Try.prog 9 ptrElem m 64 (D.put (.string f.n) (.lit (.int .i64 (g : Int))))) :
    Parts w2 (Up S w w2) p m L' room off (D.put (.string f.n) (.lit (.int .i64 (g : Int)))) (fun t => if t = f.n then g else G t) (fun t => if t = f.n then New w w1 else T t) := by
  have h1 := h.later hb
  have hs1 := hb.size
  have hs2 := c.size
  have hml : m < w.heap.size := h.own.lt
  have hpl : p < w.heap.size := h.blk.lt
  have hne : ∀ x ∈ L, x.n ≠ f.n := fun x hx e => by rw [isIn_iff.2 ⟨x, hx, e⟩] at hn; cases hn
  refine ⟨h1.blk.ch c (fun e => h.sm.2 e.symm), .inl h.sp, ho, ⟨fun t => ?_, fun x hx zd => ?_⟩, ⟨.inl h.sm.1, h.sm.2⟩, fun x hx => ?_, fun x hx k hk => ?_, fun x hx y hy hxy k hk hk' => ?_, hg⟩
  · rw [has_put h.own.isMap, h.tells.1]
    rw [Bool.eq_iff_iff, Bool.or_eq_true, isIn_iff, isIn_iff]
    constructor
    · rintro (e | ⟨x, hx, e⟩)
      · exact ⟨f, (hL f).2 (.inr rfl), by simpa using e⟩
      · exact ⟨x, (hL x).2 (.inl hx), e⟩
    · rintro ⟨x, hx, e⟩
      rcases (hL x).1 hx with hx | rfl
      · exact .inr ⟨x, hx, e⟩
      · exact .inl (by simpa using e)
  · rcases (hL x).1 hx with hx | rfl
    · rw [Maps.atKey_put_other (strKey_ne (hne x hx))]
      simp only [if_neg (hne x hx)]
      exact h.tells.2 x hx zd
    · rw [Maps.atKey_put_same h.own.isMap (strKey _)]
      simp
  · rcases (hL x).1 hx with hx | rfl
    · simp only [if_neg (hne x hx)]
      exact (h1.file x hx).ch c (fun k hk e => (h1.sub x hx k hk).2.2.1 e)
    · simp only [if_pos]
      exact hF.ch c (fun k hk e => by have := hk.1; omega)
  · rcases (hL x).1 hx with hx | rfl
    · simp only [if_neg (hne x hx)] at hk
      have := h.sub x hx k hk
      exact ⟨.inl this.1, this.2.1, this.2.2.1, by omega⟩
    · simp only [if_pos] at hk
      exact ⟨.inr ⟨hk.1, by have := hk.2; omega⟩, by have := hk.1; omega, by have := hk.1; omega, by have := hk.2; omega⟩
  · rcases (hL x).1 hx with hx | rfl
    · simp only [if_neg (hne x hx)] at hk
      rcases (hL y).1 hy with hy | rfl
      · simp only [if_neg (hne y hy)] at hk'
        exact h.apart x hx y hy hxy k hk hk'
      · simp only [if_pos] at hk'
        have := (h.sub x hx k hk).2.2.2
        have := hk'.1
        omega
    · simp only [if_pos] at hk
      rcases (hL y).1 hy with hy | rfl
      · simp only [if_neg (hne y hy)] at hk'
        have := (h.sub y hy k hk').2.2.2
        have := hk.1
        omega
      · exact hxy rfl

set_option maxRecDepth 100000 in
set_option maxHeartbeats 4000000 in
theorem clone_on (w : World) (S : Nat → Prop) (p : Nat) (L : List Fl) (room : Nat) (off : Bool) (h : Dk w S p L room off) :
    Calls Try.prog 12 #[.pointer (some ⟨p, 0, none⟩)] w fun e w' => ∃ p', e = .returned (.pointer (some ⟨p', 0, none⟩)) ∧ Dk w' (New w w') p' L room off ∧ Below w.heap.size w w' := by
  have HM := Lib.hid (made_on w S p L room off h)
  obtain ⟨m, D, G, T, hP⟩ := h.opened
  have hsz := size_names hP.own hP.tells hP.good.nodup
  have hfew := hP.good.few
  have hmm : ∀ W : World, (Instr.makeMap 60 (some (.int .i64 (L.length : Int)))).run Try.prog W = .ok (.map (some W.heap.size)) (W.alloc (.map #[] 0)) := fun W => by
    simp [Instr.makeMap, run_underlying Try.underlying60, asInt, asIntOf]
  have HF : Hid (∀ W, Below w.heap.size w W → W.cell? ⟨p, 0, none⟩ = some (.map (some m)) ∧ W.cell? ⟨p, 1, none⟩ = some (.int .i64 (room : Int)) ∧ W.cell? ⟨p, 2, none⟩ = some (.bool off) ∧ (Builtin.len_ #[60] 3 #[.map (some m)]).run Try.prog W = .ok (.int .i64 (L.length : Int)) W) := Lib.hid fun W hb => by
    have h1 := hP.later hb
    refine ⟨h1.blk.cell 0, h1.blk.cell 1, h1.blk.cell 2, ?_⟩
    rw [h1.own.len Try.underlying60, hsz]
  have HB0 : Hid (Below w.heap.size w w.drew) := Lib.hid (below_drewN (Below.refl _ w) 1)
  have HB1 : Hid (Below w.heap.size w (w.drew.alloc (.map #[] 0))) := Lib.hid ((below_drewN (Below.refl _ w) 1).alloc (Nat.le_refl _) _)
  have HP := Lib.hid hP
  have HB2 : Hid (Below w.heap.size w ((w.alloc (.map #[] 0)).alloc (.cells #[.map (some w.heap.size), .int .i64 (room : Int), .bool off] 62)).drew) := Lib.hid (below_drewN (((Below.refl _ w).alloc (Nat.le_refl _) _).alloc ((Below.refl _ w).alloc (Nat.le_refl _) _).size _) 1)
  have HW : Hid (∀ W2, W2 = ((w.alloc (.map #[] 0)).alloc (.cells #[.map (some w.heap.size), .int .i64 (room : Int), .bool off] 62)).drew → Parts W2 (New w W2) (w.heap.size + 1) w.heap.size (gone (fun l => Maps.has D l) L) room off (.map []) (fun _ => 0) (fun _ _ => False) ∧ W2.heap.size = w.heap.size + 2) := Lib.hid fun W2 e => by
    subst e
    refine ⟨?_, by simp⟩
    rw [gone_none (fun f hf => by rw [hP.tells.1]; exact isIn_iff.2 ⟨f, hf, rfl⟩)]
    exact ⟨Blk.new_at (by simp) rfl, ⟨by simp, by simp⟩, ((World.ownsMap_made w _ _ _).alloc _).mono (by omega), ⟨fun _ => rfl, (fun f hf => (nomatch hf))⟩, ⟨⟨Nat.le_refl _, by simp; omega⟩, by simp⟩, (fun f hf => (nomatch hf)), (fun f hf => (nomatch hf)), (fun f hf => (nomatch hf)), ⟨by simp, by simp, by simp [used], hP.good.room, (fun f hf => (nomatch hf)), (fun f hf => (nomatch hf))⟩⟩
  have b0 := HF.out _ HB0.out
  have b2 := HF.out _ HB2.out
  have b1 := HF.out _ HB1.out
  clear h hP hsz
  go_enter Try.func12, Try.ntmps12
  go_wp2_with (go_at_call 47; refine HM.out.mono ?_; rintro e w' ⟨rfl, rfl⟩)
  go_region_held3 (fun w' => w'.cell? ⟨p, 0, none⟩ = some (.map (some m)) ∧ w'.cell? ⟨p, 1, none⟩ = some (.int .i64 (room : Int)) ∧ w'.cell? ⟨p, 2, none⟩ = some (.bool off) ∧ (Builtin.len_ #[60] 3 #[.map (some m)]).run Try.prog w' = .ok (.int .i64 (L.length : Int)) w') (first | exact b0 | exact b1 | exact b2) (fail)
  generalize hW2 : ((w.alloc (.map #[] 0)).alloc (.cells #[.map (some w.heap.size), .int .i64 (room : Int), .bool off] 62)).drew = W2 at b2 ⊢
  obtain ⟨hN, hsz2⟩ := HW.out W2 hW2.symm
  have hB2 : Below w.heap.size w W2 := by rw [← hW2]; exact HB2.out
  have HN := Lib.hid hN
  have HB := Lib.hid hB2
  have HSZ2 := Lib.hid hsz2
  clear hW2 hN hB2 hsz2 b0 b1 HB0 HB1 HB2 HW
  go_wp2_with (at_range; refine wpList_range_own _ rfl _ 60 rfl 9 69 law_str Try.underlying60 _ m 64 D rfl (HP.out.later HB.out).own ?_; intro w0 hrg0 hg0 hs0)
  have hb0 : Below W2.heap.size W2 w0 := below_of_grown hg0 (fun k hk => by cases hk)
  have hbw : Below w.heap.size w w0 := below_tr HB.out hb0
  have hrl : W2.heap.size = w.heap.size + 2 := HSZ2.out
  have hml : m < w.heap.size := HP.out.own.lt
  have hpl : p < w.heap.size := HP.out.blk.lt
  have hN0 : Parts w0 (fun k => New w w0 k ∧ k ≠ W2.heap.size) (w.heap.size + 1) w.heap.size (gone (fun l => Maps.has D l) L) room off (.map []) (fun _ => 0) (fun _ _ => False) :=
    parts_lt (HN.out.later (below_of_grown hg0 (fun k hk => by cases hk))) (fun k _ hk => ⟨⟨hk.1, by have := hk.2; omega⟩, by have := hk.2; omega⟩)
  rw [hrl] at hrg0 hN0 ⊢
  clear hg0 hb0 hrl
  go_frame
  go_loopw [4, 5] (fun _ _ wr => ∃ (left : Lit → Bool) (cnt : Nat) (D' : DataW Unit) (G' : Tx → Nat) (T' : Tx → Nat → Prop), Parts wr (fun k => New w wr k ∧ k ≠ (w.heap.size + 2)) (w.heap.size + 1) w.heap.size (gone left L) room off D' G' T' ∧ wr.ranges Try.prog 9 ptrElem m (w.heap.size + 2) 64 D left cnt ∧ Below w.heap.size w wr)
    (fun _ _ wr => wr.rangeLeft m (w.heap.size + 2))
  case atStart => exact ⟨_, _, _, _, _, hN0, hrg0, hbw⟩
  case round =>
    obtain ⟨left, cnt, D', G', T', hPr, hrg, hbr⟩ := hrel
    have hT : TellsD D L G := HP.out.tells
    go_wp2_with (at_next; refine wpList_next_files _ rfl _ rfl m (w.heap.size + 2) 64 D left cnt L G HP.out.tells rfl hrg ?_ ?_)
    · intro h0
      rw [gone_all h0] at hPr
      have HPr := Lib.hid hPr
      have HBr := Lib.hid hbr
      clear hPr hrg hbr
      go_wp2
      go_ret
      exact ⟨_, rfl, (HPr.out.shut.weaken (fun k hk => hk.1)), HBr.out⟩
    · intro f w1 cnt1 hf hl hrg1 hlt hg1 hs1 hen
      have hc1 : Ch (fun k => k = (w.heap.size + 2)) wr w1 := Ch.of_grown hg1 (fun g hg _ => (Option.some.inj hg).symm)
      have hrlt : (w.heap.size + 2) < w1.heap.size := hrg1.lt
      have hb1 : Below w.heap.size w w1 := by
        refine ⟨by rw [hg1.os]; exact hbr.os, by rw [hg1.tape]; exact hbr.tape, by rw [hg1.output]; exact hbr.output, Nat.le_trans hbr.size hg1.size, fun i hi => ?_⟩
        rw [hg1.block i (Nat.lt_of_lt_of_le hi hbr.size) (fun e => by have := Option.some.inj e; omega)]
        exact hbr.block i hi
      have hP1 : Parts w1 (fun k => New w w1 k ∧ k ≠ (w.heap.size + 2)) (w.heap.size + 1) w.heap.size (gone left L) room off D' G' T' :=
        parts_lt (hPr.ch hc1 (fun k hk e => hk.2 e)) (fun k _ hk => ⟨⟨hk.1.1, by have := hk.1.2; omega⟩, hk.2⟩)
      have hFo : Fw w1 (T f.n) (G f.n) f.b f.d := (HP.out.later hb1).file f hf
      have hszD : Maps.size D' = (gone left L).length := size_names hPr.own hPr.tells hPr.good.nodup
      have hlen : (gone left L).length < L.length := by
        unfold gone
        rw [List.length_filter_lt_length_iff_exists]
        exact ⟨f, hf, by rw [hl]; simp⟩
      have hno : isIn (gone left L) f.n = false := by
        cases he : isIn (gone left L) f.n with
        | false => rfl
        | true =>
          obtain ⟨x, hx, e⟩ := isIn_iff.1 he
          have := (mem_gone.1 hx).2
          rw [e, hl] at this
          cases this
      have hkey := key_str f.n (by have := HP.out.good.name f hf; simp only [maxLen]; omega)
      have q0 : w1.cell? ⟨w.heap.size + 1, 0, none⟩ = some (.map (some w.heap.size)) := hP1.blk.cell 0
      have hdl : Maps.size D' < maxLen := by rw [hszD]; simp only [maxLen]; omega
      have HP1 := Lib.hid hP1
      have HRG := Lib.hid hrg1
      have HRO := Lib.hid hrg
      have HB1 := Lib.hid hb1
      have HFO := Lib.hid hFo
      have HSZ := Lib.hid (And.intro hszD (And.intro hlen hdl))
      have HNO := Lib.hid hno
      have HK := Lib.hid hkey
      have HLT := Lib.hid (And.intro hlt (And.intro hrlt hl))
      clear hPr hrg hbr hg1 hs1 hc1 hrlt hb1 hP1 hFo hszD hlen hno hkey hrg1 hlt hdl hl
      go_wp2_with fail
      go_region_held3 (fun w' => w'.cell? ⟨w.heap.size + 1, 0, none⟩ = some (.map (some w.heap.size))) (first | exact q0 | exact j0 | exact j1)
        (first
          | (go_at_call 48; refine (fclone_any _ _ _ _ _ (show Fw w1.drew (T f.n) (G f.n) f.b f.d from HFO.out)).mono ?_; rintro e w2 ⟨g', rfl, hF2, hb2⟩; have hb2' : Below w1.heap.size w1 w2 := below_of_drew hb2; have j0 := (HP1.out.later hb2').blk.cell 0; simp only [List.getElem?_toArray, List.getElem?_cons_zero] at j0; obtain ⟨w3, hst, hmap3, hturn3⟩ := (own_tight (HP1.out.later hb2').own).store law_str Try.underlying60 HSZ.out.2.2 HK.out (ptrElem_mk g'); have j1 := ((HP1.out.later hb2').blk.ch (Ch.of_grown hturn3.grown (fun g hg _ => (Option.some.inj hg).symm) : Ch (fun k => k = w.heap.size) w2 w3) (fun e => by omega)).cell 0; simp only [List.getElem?_toArray, List.getElem?_cons_zero] at j1))
      have hc3 : Ch (fun k => k = w.heap.size) w2 w3 := Ch.of_grown hturn3.grown (fun g hg _ => (Option.some.inj hg).symm)
      have hs2 := hb2'.size
      have hs3 := hc3.size
      have hgn : GoodL (gone (fun z => left z && !z.sameKey (.string f.n)) L) room := good_filter HP.out.good _
      have hF2' : Fw w2 (New w1 w2) g' f.b f.d := hF2
      have hP3 := parts_cloned HP1.out HNO.out (fun x => gone_step HP.out.good.nodup hf HLT.out.2.2 x) hgn hb2' hF2' hc3 (hmap3.mono (by have := HSZ.out; omega))
      have hrg3 := ranges_ch (ranges_ch HRG.out (Ch.of_below (S := fun _ => False) hb2' (Nat.le_refl _)) (fun h => h) (fun h => h)) hc3 (fun e => by omega) (fun e => by omega)
      have hlt1 := HLT.out.2.1
      have hsw := HB1.out.size
      have hc13 : Ch (fun k => k = w.heap.size) w1 w3 := (Ch.of_below (S := fun k => k = w.heap.size) hb2' (Nat.le_refl _)).trans hc3 (fun _ _ h => h)
      have hb3 : Below w.heap.size w w3 := by
        refine ⟨hc13.os.trans HB1.out.os, hc13.tape.trans HB1.out.tape, hc13.output.trans HB1.out.output, Nat.le_trans hsw hc13.size, fun i hi => ?_⟩
        rw [hc13.block i (by omega) (fun e => by omega)]
        exact HB1.out.block i hi
      go_roundw
      case rel =>
        refine ⟨_, _, _, _, _, _, _, _, _, _, _, _, _, _, ?_, rfl⟩
        exact ⟨_, cnt1, _, _, _, parts_lt hP3 (fun k hk3 hk => by
          rcases hk with ⟨h, h2⟩ | ⟨g1, g2⟩
          · exact ⟨⟨h.1, hk3⟩, h2⟩
          · exact ⟨⟨by omega, hk3⟩, by omega⟩), hrg3, hb3⟩
      case measure => rw [hrg3.left_eq, HRO.out.left_eq]; exact HLT.out.1

end Go.Proofs.Ytncppflmpfefkaa.Du

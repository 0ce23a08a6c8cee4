/-
  Contract of the program's disk: Crash.
-/
import Derived.Test.YtncppflmpfefkaaDi
namespace Go.Proofs.Ytncppflmpfefkaa.Dj
open Go Go.RowKit Go.Maps Ck Kw Ga Dm Dw Da Db Dc Dd De Df Dg Dh Di
attribute [local go_sem ↓] Go.wp_at_zero Go.wp_at_succ
set_option linter.unusedVariables false

theorem ranges_ch {H : Type} {P : Program} {k : TypeId} {R : Value → Option (DataW H × List MemPlace)} {w w' : World} {S : Nat → Prop} {b r n cnt : Nat} {D : DataW H} {left : Lit → Bool} (h : w.ranges P k R b r n D left cnt) (c : Ch S w w') (hb : ¬ S b) (hr : ¬ S r) : w'.ranges P k R b r n D left cnt := by
  have h1 := h.owns.lt
  have h2 := h.lt
  obtain ⟨es, clock, since, seen, c0, e1, e2, e3, e4, e5, rest⟩ := h
  exact ⟨es, clock, since, seen, c0, (c.block b h1 hb).trans e1, e2, e3, e4, (c.block r h2 hr).trans e5, rest⟩

theorem size_any (w : World) (z : Int) (h : -9223372036854775808 ≤ z) (h' : z ≤ 9223372036854775807) : Calls Try.prog 55 #[.int .i64 z] w fun e w' => e = .returned (.int .i64 (Dm.size z : Int)) ∧ w = w' := by
  by_cases h0 : z = -9223372036854775808
  · subst h0
    go_enter Try.func55, Try.ntmps55
    go_wp2
    go_ret
    exact ⟨rfl, rfl⟩
  · have hb : (z == -9223372036854775808) = false := by rw [beq_eq_false_iff_ne]; exact h0
    have hw : IntKind.i64.wrap (-z) = -z := wrap64 (by omega) (by omega)
    have hm : max z (-z) = (Dm.size z : Int) := by unfold Dm.size; rw [if_neg h0]; omega
    have HM := Lib.hid hm
    clear hm h h'
    go_enter Try.func55, Try.ntmps55
    go_wp2
    go_ret
    refine ⟨?_, rfl⟩
    rw [← HM.out]
    rfl

theorem parts_lt {w : World} {S S' : Nat → Prop} {p m room : Nat} {L : List Fl} {off : Bool} {D : DataW Unit} {G : Tx → Nat} {T : Tx → Nat → Prop} (h : Parts w S p m L room off D G T) (hS : ∀ k, k < w.heap.size → S k → S' k) : Parts w S' p m L room off D G T :=
  ⟨h.blk, hS _ h.blk.lt h.sp, h.own, h.tells, ⟨hS _ h.own.lt h.sm.1, h.sm.2⟩, h.file, fun f hf k hk => ⟨hS _ (h.sub f hf k hk).2.2.2 (h.sub f hf k hk).1, (h.sub f hf k hk).2⟩, h.apart, h.good⟩

/-- Some files torn, and some still to come. -/
def mix (k : Nat) (left : Lit → Bool) (L : List Fl) : List Fl := L.map (fun f => if left (.string f.n) then f else tear k f)
theorem mix_all {k : Nat} {left : Lit → Bool} {L : List Fl} (h : ∀ f ∈ L, left (.string f.n) = true) : mix k left L = L := by
  unfold mix
  rw [List.map_congr_left (g := id) (fun f hf => by rw [if_pos (h f hf)]; rfl), List.map_id]
theorem mix_none {k : Nat} {left : Lit → Bool} {L : List Fl} (h : ∀ s : Tx, left (.string s) = false) : mix k left L = L.map (tear k) := by
  unfold mix
  exact List.map_congr_left (fun f hf => by rw [if_neg (by rw [h]; simp)])
theorem mix_step {k : Nat} {left : Lit → Bool} {L : List Fl} (hn : (L.map (·.n)).Nodup) {f : Fl} (hf : f ∈ L) : mix k (fun z => left z && !z.sameKey (.string f.n)) L = upd (mix k left L) f.n (setf (tear k f).b (tear k f).d) := by
  unfold mix upd
  rw [List.map_map]
  refine List.map_congr_left (fun g hg => ?_)
  have e : (if left (.string g.n) then g else tear k g).n = g.n := by split <;> rfl
  simp only [Function.comp, e, sameKey_str]
  by_cases h : g.n = f.n
  · rw [if_pos h, nodup_eq hn hg hf h]
    simp only [beq_self_eq_true, Bool.not_true, Bool.and_false, Bool.false_eq_true, if_false]
    unfold setf
    split <;> rfl
  · have hb : (g.n == f.n) = false := by rw [beq_eq_false_iff_ne]; exact h
    rw [if_neg h, hb]
    simp
theorem mix_used {k : Nat} {left : Lit → Bool} {L : List Fl} : used (mix k left L) ≤ used L :=
  used_map (fun f hf => by
    split
    · exact Nat.le_refl _
    · unfold tear; simp only [List.length_take]; omega)

def crashS (L : List Fl) (off : Bool) (z : Int) : List Fl × Nat := if off then (L, 32) else (L.map (tear (Dm.size z)), 0)

set_option maxRecDepth 100000 in
set_option maxHeartbeats 2000000 in
theorem crash_on (w : World) (S : Nat → Prop) (p : Nat) (L : List Fl) (room : Nat) (off : Bool) (z : Int) (hz : -9223372036854775808 ≤ z) (hz' : z ≤ 9223372036854775807) (h : Dk w S p L room off) :
    Calls Try.prog 20 #[.pointer (some ⟨p, 0, none⟩), .int .i64 z] w (Did S p (crashS L off z) room true w) := by
  have HR := Lib.hid (ready_on w S p L room off h)
  have H := Lib.hid h
  cases off
  · have e : crashS L false z = (L.map (tear (Dm.size z)), 0) := rfl
    rw [e]
    clear e
    obtain ⟨m, D, G, T, hP⟩ := h.opened
    have c0 : w.cell? ⟨p, 0, none⟩ = some (.map (some m)) := hP.blk.cell 0
    have hin : ∀ f ∈ L, Maps.has D (.string f.n) = true := fun f hf => by rw [hP.tells.1]; exact isIn_iff.2 ⟨f, hf, rfl⟩
    have hst := mix_all (k := Dm.size z) hin
    have HP := Lib.hid hP
    have HS := Lib.hid hst
    have HZ := Lib.hid (And.intro hz hz')
    clear h hP hin hst hz hz'
    go_enter Try.func20, Try.ntmps20
    go_wp2_with (first
      | (go_at_call 49; refine HR.out.mono ?_; rintro e w' ⟨rfl, rfl⟩)
      | (at_range; refine wpList_range_own _ rfl _ 60 rfl 9 69 law_str Try.underlying60 _ m 64 D rfl HP.out.own ?_; intro w0 hrg0 hg0 hs0))
    have hb0 : Below w.heap.size w w0 := below_of_grown hg0 (fun k hk => by cases hk)
    have hP0 : Parts w0 (fun k => Up S w w0 k ∧ k ≠ w.heap.size) p m L room false D G T :=
      parts_lt ((parts_lt HP.out (S' := fun k => S k ∧ k ≠ w.heap.size) (fun k hk hs => ⟨hs, by omega⟩)).later hb0) (fun k _ hk => ⟨.inl hk.1, hk.2⟩)
    clear hg0
    go_frame
    go_loopw [7] (fun _ wr => ∃ (left : Lit → Bool) (cnt : Nat) (T' : Tx → Nat → Prop), Parts wr (fun k => Up S w wr k ∧ k ≠ w.heap.size) p m (mix (Dm.size z) left L) room false D G T' ∧ wr.ranges Try.prog 9 ptrElem m w.heap.size 64 D left cnt ∧ Ch S w wr)
      (fun _ wr => wr.rangeLeft m w.heap.size)
    case atStart => exact ⟨_, _, T, by rw [HS.out]; exact hP0, hrg0, Ch.of_below hb0 (Nat.le_refl _)⟩
    case round =>
      obtain ⟨left, cnt, T', hPr, hrg, hcw⟩ := hrel
      have hT : TellsD D L G := HP.out.tells
      go_wp2_with (at_next; refine wpList_next_files _ rfl _ rfl m w.heap.size 64 D left cnt L G HP.out.tells rfl hrg ?_ ?_)
      · intro h0
        rw [mix_none h0] at hPr
        have c2 := hPr.blk.cell 2
        have c0 := hPr.blk.cell 0
        have f2 := hPr.blk.frozen 2
        simp only [List.getElem?_toArray, List.getElem?_cons_zero, List.getElem?_cons_succ] at c2
        have HPr := Lib.hid hPr
        clear hPr hrg
        go_wp2
        go_ret
        refine ⟨rfl, (HPr.out.set_off true).shut.weaken (fun k hk => ?_), hcw.setCell (fun _ => HP.out.sp) _⟩
        rcases hk.1 with hk | ⟨g1, g2⟩
        · exact .inl hk
        · exact .inr ⟨g1, by simpa [World.setCell] using g2⟩
      · intro f w1 cnt1 hf hl hrg1 hlt hg1 hs1 hen
        have hc1 : Ch (fun k => k = w.heap.size) _ w1 := Ch.of_grown hg1 (fun g hg _ => (Option.some.inj hg).symm)
        have hsw := hcw.size
        have hrlt : w.heap.size < w1.heap.size := hrg1.lt
        have hP1 : Parts w1 (fun k => Up S w w1 k ∧ k ≠ w.heap.size) p m (mix (Dm.size z) left L) room false D G T' :=
          parts_lt (hPr.ch hc1 (fun k hk e => hk.2 e)) (fun k _ hk => ⟨up_mono (by omega) hk.1, hk.2⟩)
        have hfm : f ∈ mix (Dm.size z) left L := List.mem_map.2 ⟨f, hf, by rw [if_pos hl]⟩
        have hcw1 : Ch S w w1 := hcw.trans hc1 (fun k hk e => by omega)
        have HP1 := Lib.hid hP1
        have HFM := Lib.hid hfm
        have HL := Lib.hid hl
        have HR1 := Lib.hid hrg1
        have HRO := Lib.hid hrg
        have HC1 := Lib.hid hcw1
        have HLT := Lib.hid (And.intro hlt hrlt)
        clear hP1 hfm hl hPr hrg1 hrg hcw1 hcw hc1 hsw hrlt hlt hg1 hs1
        go_wp2_with (first
          | (go_at_call 55; refine (size_any _ z HZ.out.1 HZ.out.2).mono ?_; rintro e w' ⟨rfl, rfl⟩)
          | (go_at_call 54; refine (ftear_any _ _ _ _ _ (Dm.size z) (HP1.out.file f HFM.out)).mono ?_; rintro e w2 ⟨rfl, hF2, hC2⟩))
        have hu : used (upd (mix (Dm.size z) left L) f.n (setf (tear (Dm.size z) f).b (tear (Dm.size z) f).d)) ≤ room := by
          rw [← mix_step HP.out.good.nodup hf]
          exact Nat.le_trans mix_used HP.out.good.fits
        have hP2 := parts_put HP1.out HFM.out (b := (tear (Dm.size z) f).b) (d := (tear (Dm.size z) f).d) hF2 hC2 hu
        rw [← mix_step HP.out.good.nodup hf] at hP2
        have hrt : ¬ T' f.n w.heap.size := fun hk => (HP1.out.sub f HFM.out _ hk).1.2 rfl
        have hrg2 := ranges_ch HR1.out hC2 (fun hk => (HP1.out.sub f HFM.out _ hk).2.2.1 rfl) hrt
        have hs2 := hC2.size
        have hP3 : Parts w2 (fun k => Up S w w2 k ∧ k ≠ w.heap.size) p m (mix (Dm.size z) (fun z => left z && !z.sameKey (.string f.n)) L) room false D G _ := parts_lt hP2 (fun k _ hk => by
          rcases hk with hk | ⟨g1, g2⟩
          · exact ⟨up_mono hs2 hk.1, hk.2⟩
          · have := HLT.out.2
            exact ⟨.inr ⟨by omega, g2⟩, by omega⟩)
        have hc2 : Ch S w w2 := HC1.out.trans hC2 (fun k hk ht => by
          rcases (HP1.out.sub f HFM.out k ht).1.1 with h | ⟨g1, _⟩
          · exact h
          · omega)
        go_roundw
        case rel => exact ⟨_, cnt1, _, hP3, hrg2, hc2⟩
        case measure => rw [hrg2.left_eq, HRO.out.left_eq]; exact HLT.out.1
  · clear h
    have e : crashS L true z = (L, 32) := rfl
    rw [e]
    go_enter Try.func20, Try.ntmps20
    go_wp2_with (go_at_call 49; refine HR.out.mono ?_; rintro e w' ⟨rfl, rfl⟩)
    go_ret
    exact did_refl H.out

end Go.Proofs.Ytncppflmpfefkaa.Dj

/-
  Contracts of layer 5: Root of a list, the program's and the document's.
-/
import Derived.Test.YtobphijbhghgmaaGreatU13
import Derived.StillTailTactics
import Derived.Laws.EntriesVeiled
import Derived.Test.YtobphijbhghgmaaGreatU05
import Derived.Deep.RegionLaw
import Derived.Deep.QuietTactic
import Derived.BigQuiet
import Derived.Test.YtobphijbhghgmaaGreatU03
import Derived.Test.YtobphijbhghgmaaGreatU04
import Derived.Outline
import Derived.Test.YtobphijbhghgmaaGreatU07
import Derived.Test.YtobphijbhghgmaaGreatShelf
import Derived.Test.YtobphijbhghgmaaGreatU01
import Derived.RangeFuncNested
import Derived.RangeFuncBound
import Derived.RangeFuncCalls
import Derived.RangeFuncLeaves
import Derived.RangeFuncWrites
namespace Go.Proofs.YtobphijbhghgmaaGreat.Mc
set_option linter.unusedSimpArgs false
open Go Go.RowKit Ck Im Kw Ik Ia Ib Ic Ig Ih Ij Mm Ma Mb
attribute [local go_sem ↓] Go.wp_at_zero Go.wp_at_succ
set_option linter.unusedVariables false

theorem up_mono {S : Nat → Prop} {a b c : World} (h : b.heap.size ≤ c.heap.size) {k : Nat} (hk : Up S a b k) : Up S a c k := by
  rcases hk with hk | ⟨h1, h2⟩
  · exact .inl hk
  · exact .inr ⟨h1, by omega⟩
theorem up_two {S : Nat → Prop} {a b c : World} (h : a.heap.size ≤ b.heap.size) (h' : b.heap.size ≤ c.heap.size) {k : Nat} (hk : Up (Up S a b) b c k) : Up S a c k := by
  rcases hk with hk | ⟨h1, h2⟩
  · exact up_mono h' hk
  · exact .inr ⟨by omega, h2⟩
theorem ch_two {S : Nat → Prop} {a b c : World} (h : Ch S a b) (h' : Ch (Up S a b) b c) : Ch S a c :=
  h.trans h' (fun k hk hu => by
    rcases hu with hu | ⟨h1, _⟩
    · exact hu
    · omega)
theorem Ls.old {w : World} {X : Nat → Prop} {v : Value} {ls : List (List UInt8)} (h : Ls w X v ls) {B : Nat} (hB : w.heap.size ≤ B) : Ls w (fun k => X k ∨ B ≤ k) v ls := by
  obtain ⟨vals, h1, h2⟩ := h
  exact ⟨vals, h1.old hB, fun i hi => by obtain ⟨u, hu, h3⟩ := h2 i hi; exact ⟨u, hu, h3.old hB⟩⟩

/-- A cut up to k, and from k on, of a slice of slices. -/
theorem cut_upto (A : Option Addr) (n c k : Nat) (hk : k ≤ c) (W : World) : (Instr.slice 38 (.slice A n c) none (some (.int .i64 (k : Int))) none).run Tryz.prog W = .ok (.slice A k c) W := by
  have he : ∀ W : World, (sizeOf (Tryz.prog.elem 38)).run Tryz.prog W = .ok 1 W := fun _ => by kernel_rfl
  rw [run_slice_h W 38 A n c (by kernel_rfl) .i64 k (by omega) (by omega), he]
  simp only [Result.andThen_ok, sliced, Int.toNat_natCast]
  congr 2
  by_cases h0 : c = 0
  · simp [h0]
  · cases A <;> simp [h0, Addr.add]
theorem cut_from (A : Option Addr) (n c k : Nat) (hk : k ≤ n) (hc : n ≤ c) : ∃ A', (∀ W : World, (Instr.slice 38 (.slice A n c) (some (.int .i64 (k : Int))) none none).run Tryz.prog W = .ok (.slice A' (n - k) (c - k)) W) ∧ (∀ ad, A = some ad → k < n → A' = some (ad.add (k * 1))) := by
  have he : ∀ W : World, (sizeOf (Tryz.prog.elem 38)).run Tryz.prog W = .ok 1 W := fun _ => by kernel_rfl
  refine ⟨if c = k then A else A.map (·.add (k * 1)), fun W => ?_, ?_⟩
  · rw [run_slice_l W 38 A n c (by kernel_rfl) .i64 k (by omega) (by omega), he]
    rfl
  · rintro ad rfl hlt
    rw [if_neg (by omega)]
    rfl
theorem Ls.cap {w : World} {X : Nat → Prop} {A : Option Addr} {n c : Nat} {ls : List (List UInt8)} (h : Ls w X (.slice A n c) ls) : n = ls.length ∧ n ≤ c := by
  obtain ⟨vals, ⟨A0, c0, hv, hl, hc, _⟩, _⟩ := h
  obtain ⟨_, e2, e3⟩ := Value.slice.inj hv
  omega
theorem Ls.upto {w : World} {X : Nat → Prop} {A : Option Addr} {c k : Nat} {ls : List (List UInt8)} (h : Ls w X (.slice A ls.length c) ls) (hk : k ≤ ls.length) : Ls w X (.slice A (ls.take k).length c) (ls.take k) := by
  obtain ⟨vals, h1, h2⟩ := h
  have hl : (ls.take k).length = k := by rw [List.length_take]; omega
  refine ⟨vals.take (k * 1), by rw [hl]; exact h1.upto hk, fun i hi => ?_⟩
  obtain ⟨u, hu, h3⟩ := h2 i (by omega)
  rw [hl] at hi
  refine ⟨u, by rw [List.getElem?_take, if_pos (by omega)]; exact hu, ?_⟩
  rw [List.getElem_take]
  exact h3
theorem Ls.from {w : World} {X : Nat → Prop} {A A' : Option Addr} {c k : Nat} {ls : List (List UInt8)} (h : Ls w X (.slice A ls.length c) ls) (hk : k ≤ ls.length) (hA : ∀ ad, A = some ad → k < ls.length → A' = some (ad.add (k * 1))) : Ls w X (.slice A' (ls.drop k).length (c - k)) (ls.drop k) := by
  obtain ⟨vals, h1, h2⟩ := h
  have hl : (ls.drop k).length = ls.length - k := List.length_drop
  refine ⟨vals.drop (k * 1), by rw [hl]; exact h1.cut hk A' hA, fun i hi => ?_⟩
  obtain ⟨u, hu, h3⟩ := h2 (k + i) (by omega)
  refine ⟨u, by rw [List.getElem?_drop, Nat.mul_one]; exact hu, ?_⟩
  rw [List.getElem_drop]
  exact h3

/-- What Root leaves of the program's table, and of the document's. -/
def Rooted (S : Nat → Prop) (p : Nat) (r : Nat × List Tx) (w : World) (e : Ending) (w' : World) : Prop := e = .returned (.int .i64 (r.1 : Int)) ∧ Tb w' (Up S w w') p r.2 ∧ Ch S w w'
def RRooted (S : Nat → Prop) (p : Nat) (r : Nat × List Tx) (w : World) (e : Ending) (w' : World) : Prop := e = .returned (.int .i64 (r.1 : Int)) ∧ Rf w' (Up S w w') p r.2 ∧ Ch S w w'
theorem root_le : ∀ (l L : List Tx), L.length ≤ 1048576 → (root L l).1 ≤ 1048576 ∧ (root L l).2.length ≤ 1048576
  | l, L, h => by
    by_cases h0 : l.length = 0
    · rw [List.eq_nil_of_length_eq_zero h0, root_nil]
      exact ⟨sum_le h, add_len h⟩
    · by_cases h1 : l.length = 1
      · rw [root_one L h1]
        exact ⟨sum_le h, add_len h⟩
      · obtain ⟨s1, s2, s3⟩ := split_spec (n := l.length) (by omega)
        rw [root_more L (by omega)]
        have a := root_le (l.take (split l.length)) L h
        have b := root_le (l.drop (split l.length)) _ a.2
        exact ⟨sum_le b.2, add_len b.2⟩
  termination_by l => l.length
  decreasing_by all_goals simp only [List.length_take, List.length_drop]; omega
theorem Tb.len {w : World} {S : Nat → Prop} {p : Nat} {L : List Tx} (h : Tb w S p L) : L.length ≤ 1048576 := by
  obtain ⟨m, tv, D, _, _, _, _, _, _, _, _, h⟩ := h
  exact h
theorem Rf.len {w : World} {S : Nat → Prop} {p : Nat} {L : List Tx} (h : Rf w S p L) : L.length ≤ 1048576 := by
  obtain ⟨lv, _, _, _, _, h⟩ := h
  exact h

theorem addr_zero (a : Addr) : a.add 0 = a := by unfold Addr.add; simp
theorem ch_of_drew {S : Nat → Prop} {w w2 : World} (h : Ch S w.drew w2) : Ch S w w2 := ⟨h.os, h.tape, h.output, h.size, h.block⟩
theorem Rooted.of_drew {S : Nat → Prop} {p : Nat} {r : Nat × List Tx} {w w2 : World} {e : Ending} (h : Rooted S p r w.drew e w2) : Rooted S p r w e w2 := ⟨h.1, h.2.1, ch_of_drew h.2.2⟩
/-- Root's own closure: the block of the table's variable, and of its own. -/
def Clo (w : World) (p Bt Bd : Nat) : Prop :=
  Blk w Bt 34 #[.pointer (some ⟨p, 0, none⟩)] ∧ Blk w Bd 146 #[.func (.func 80) #[] #[.pointer (some ⟨Bt, 0, none⟩), .pointer (some ⟨Bd, 0, none⟩)]]
theorem Clo.ch {w w' : World} {S : Nat → Prop} {p Bt Bd : Nat} (h : Clo w p Bt Bd) (c : Ch S w w') (ht : ¬ S Bt) (hd : ¬ S Bd) : Clo w' p Bt Bd := ⟨h.1.ch c ht, h.2.ch c hd⟩
theorem up_not {S : Nat → Prop} {w w' : World} {B : Nat} (h : ¬ S B) (hB : B < w.heap.size) : ¬ Up S w w' B := by
  rintro (h1 | h1)
  · exact h h1
  · omega

set_option maxRecDepth 100000 in
set_option maxHeartbeats 1000000 in
theorem down_any : ∀ (f : Nat) (w : World) (S X : Nat → Prop) (p : Nat) (L : List Tx) (A : Option Addr) (c : Nat) (ls : List Tx) (Bt Bd : Nat), ls.length ≤ f → 1 ≤ ls.length → ls.length ≤ 140737488355328 → Tb w S p L → Ls w X (.slice A ls.length c) ls →
    (∀ k, S k → X k) → Clo w p Bt Bd → ¬ S Bt → ¬ S Bd → (∀ x ∈ ls, x.length ≤ 140737488355327) →
    Calls Tryz.prog 80 #[.slice A ls.length c, .pointer (some ⟨Bt, 0, none⟩), .pointer (some ⟨Bd, 0, none⟩)] w (Rooted S p (root L ls) w)
  | 0, w, S, X, p, L, A, c, ls, Bt, Bd, hf, h1, _, _, _, _, _, _, _, _ => by omega
  | f + 1, w, S, X, p, L, A, c, ls, Bt, Bd, hf, h1, hbig, hT, hls, hSX, hC, hnt, hnd, hall => by
    have ct : w.cell? ⟨Bt, 0, none⟩ = some (.pointer (some ⟨p, 0, none⟩)) := hC.1.cell 0
    have cd : w.cell? ⟨Bd, 0, none⟩ = some (.func (.func 80) #[] #[.pointer (some ⟨Bt, 0, none⟩), .pointer (some ⟨Bd, 0, none⟩)]) := hC.2.cell 0
    by_cases hone : ls.length = 1
    · obtain ⟨x, rfl⟩ : ∃ x, ls = [x] := ⟨_, one_of hone⟩
      obtain ⟨ad, B, d, rfl, hcell, hx⟩ := hls.at_ (i := 0) (by simp)
      have hcell : w.cell? (ad.add 0) = some (.slice B x.length d) := hcell
      have hx : Sl w X 1 (.slice B x.length d) x.length (BVs x) := hx
      rw [addr_zero] at hcell
      have HL := Lib.hid (leaf_any w.drew S X p L (.slice B x.length d) x.length x hT hx (hall x (by simp)))
      have HR := Lib.hid (root_one L (l := [x]) rfl)
      clear hf h1 hbig hT hls hSX hC hnt hnd hall hone hx
      go_enter Tryz.func80, Tryz.ntmps80
      go_wp2_with fail
      go_still_tail 4, (by kernel_rfl)
      change wpList _ _ _ _ _ w.drew
      go_wp2_with fail
      refine HL.out.mono ?_
      rintro e w2 ⟨rfl, ht, hc⟩
      have HE := Lib.hid (And.intro ht hc)
      clear ht hc
      go_wp2_with fail
      go_ret
      rw [HR.out]
      exact ⟨rfl, HE.out.1, ⟨HE.out.2.os, HE.out.2.tape, HE.out.2.output, HE.out.2.size, HE.out.2.block⟩⟩
    · obtain ⟨s1, s2, s3⟩ := split_spec (n := ls.length) (by omega)
      have HM := Lib.hid (root_more L (l := ls) (by omega))
      have hsp := split_any w ls.length (by omega)
      rw [show ((ls.length : Int)).toNat = ls.length from by omega] at hsp
      obtain ⟨hle, hcap⟩ := Ls.cap hls
      have hL := Tb.len hT
      generalize hk : split ls.length = k at *
      clear hk
      have hlt : (ls.take k).length = k := by rw [List.length_take]; omega
      have hld : (ls.drop k).length = ls.length - k := List.length_drop
      have h1' := down_any f w.drew S X p L A c (ls.take k) Bt Bd (by omega) (by omega) (by omega) hT (Ls.upto hls (by omega)) hSX hC hnt hnd (fun x hx => hall x (List.mem_of_mem_take hx))
      rw [hlt] at h1'
      have r1 := cut_upto A ls.length c k (by omega)
      obtain ⟨A', r2, a2⟩ := cut_from A ls.length c k (by omega) hcap
      have hls2 := Ls.old (Ls.from hls (by omega) a2) (Nat.le_refl _)
      have hr1 := root_le (ls.take k) L hL
      have hr2 := root_le (ls.drop k) _ hr1.2
      have H2 : Hid (∀ w1, Rooted S p (root L (ls.take k)) w (.returned (.int .i64 ((root L (ls.take k)).1 : Int))) w1 → Clo w1 p Bt Bd ∧
          Calls Tryz.prog 80 #[.slice A' (ls.length - k) (c - k), .pointer (some ⟨Bt, 0, none⟩), .pointer (some ⟨Bd, 0, none⟩)] w1.drew (Rooted (Up S w w1) p (root (root L (ls.take k)).2 (ls.drop k)) w1)) := Lib.hid fun w1 hr => by
        obtain ⟨_, ht1, hc1⟩ := hr
        have hC1 := hC.ch hc1 hnt hnd
        refine ⟨hC1, ?_⟩
        have := down_any f w1.drew (Up S w w1) (fun k => X k ∨ w.heap.size ≤ k) p _ A' (c - k) (ls.drop k) Bt Bd (by omega) (by omega) (by omega) ht1 (hls2.ch hc1.drew (fun k _ hk => .inl (hSX k hk))) (fun k hk => by
          rcases hk with hk | hk
          · exact .inl (hSX k hk)
          · exact .inr hk.1) hC1 (up_not hnt hC.1.lt) (up_not hnd hC.2.lt) (fun x hx => hall x (List.mem_of_mem_drop hx))
        rw [hld] at this
        exact this.mono fun _ _ h => Rooted.of_drew h
      have H1 := Lib.hid h1'
      have HS := Lib.hid hsp
      have hk2 : k ≤ c := by omega
      have hk3 : k ≤ ls.length := by omega
      have h2 : 2 ≤ ls.length := by omega
      have HB := Lib.hid (And.intro hr1 hr2)
      have HNN := Lib.hid (And.intro hnt (And.intro hC.1.lt hnd))
      clear h1' hsp hf h1 hbig hT hls hSX hC hnt hnd hall hlt hld hls2 a2 hr1 hr2 hle s1 s2 s3
      go_enter Tryz.func80, Tryz.ntmps80
      go_wp2_with fail
      refine HS.out.mono ?_
      rintro e w' ⟨rfl, rfl⟩
      go_wp2_with fail
      go_still_tail 4, (by kernel_rfl)
      change wpList _ _ _ _ _ w.drew
      go_wp2_with fail
      refine H1.out.mono ?_
      rintro e w1 hr
      obtain ⟨rfl, ht1, hc1⟩ := Rooted.of_drew hr
      obtain ⟨hC1, h2c⟩ := H2.out w1 ⟨rfl, ht1, hc1⟩
      have ct1 : w1.cell? ⟨Bt, 0, none⟩ = some (.pointer (some ⟨p, 0, none⟩)) := hC1.1.cell 0
      have cd1 : w1.cell? ⟨Bd, 0, none⟩ = some (.func (.func 80) #[] #[.pointer (some ⟨Bt, 0, none⟩), .pointer (some ⟨Bd, 0, none⟩)]) := hC1.2.cell 0
      have H2C := Lib.hid h2c
      have HC1 := Lib.hid hc1
      have HCL := Lib.hid hC1
      clear hr ht1 hc1 h2c hC1 H2 ct cd
      go_wp2_with fail
      go_still_tail 4, (by kernel_rfl)
      change wpList _ _ _ _ _ w1.drew
      go_wp2_with fail
      refine H2C.out.mono ?_
      rintro e w2 ⟨rfl, ht2, hc2⟩
      have HN := Lib.hid (node_any w2 _ p _ ((root L (ls.take k)).1 : Int) ((root (root L (ls.take k)).2 (ls.drop k)).1 : Int) ht2 (by have := HB.out.1.1; omega) (by have := HB.out.2.1; omega))
      have ct2 : w2.cell? ⟨Bt, 0, none⟩ = some (.pointer (some ⟨p, 0, none⟩)) := (HCL.out.1.ch hc2 (up_not HNN.out.1 HNN.out.2.1)).cell 0
      have HC2 := Lib.hid hc2
      clear ht2 hc2
      go_wp2_with fail
      refine HN.out.mono ?_
      rintro e w3 ⟨rfl, ht3, hc3⟩
      have HR3 := Lib.hid (And.intro ht3 hc3)
      clear ht3 hc3
      go_wp2_with fail
      go_ret
      rw [HM.out]
      refine ⟨rfl, ?_, ?_⟩
      · exact HR3.out.1.weaken fun j hj => up_two HC1.out.size (Nat.le_trans HC2.out.size HR3.out.2.size) (by
          rcases hj with hj | hj
          · exact up_mono HR3.out.2.size hj
          · exact .inr ⟨Nat.le_trans HC2.out.size hj.1, hj.2⟩)
      · exact ch_two HC1.out (HC2.out.trans HR3.out.2 (fun j hj hu => by
          rcases hu with hu | hu
          · exact hu
          · have := hu.1; omega))

/-- The closure's value. -/
def FV (f : FuncId) (caps : List Nat) : Value := .func (.func f) #[] (caps.map fun b => Value.pointer (some ⟨b, 0, none⟩)).toArray
theorem clo_new (w : World) (p : Nat) :
    Clo ((w.alloc (.cells #[.pointer (some ⟨p, 0, none⟩)] 34)).alloc (.cells #[.func (.func 80) #[] #[.pointer (some ⟨w.heap.size, 0, none⟩), .pointer (some ⟨w.heap.size + 1, 0, none⟩)]] 146)) p w.heap.size (w.heap.size + 1)
    ∧ Below w.heap.size w ((w.alloc (.cells #[.pointer (some ⟨p, 0, none⟩)] 34)).alloc (.cells #[.func (.func 80) #[] #[.pointer (some ⟨w.heap.size, 0, none⟩), .pointer (some ⟨w.heap.size + 1, 0, none⟩)]] 146)) :=
  ⟨⟨(Blk.new w _ _).alloc _, Blk.new_at (by simp) rfl⟩, ((Below.refl _ w).alloc (Nat.le_refl _) _).alloc (by simp) _⟩
theorem Rooted.later {S : Nat → Prop} {p : Nat} {r : Nat × List Tx} {w w1 w2 : World} {e : Ending} (b1 : Below w.heap.size w w1) (h : Rooted S p r w1 e w2) : Rooted S p r w e w2 := by
  obtain ⟨he, ht, hc⟩ := h
  refine ⟨he, ht.weaken fun k hk => ?_, (Ch.of_below (S := fun _ => False) b1 (Nat.le_refl _)).mono (fun _ _ h => h.elim) |>.trans hc (fun _ _ h => h)⟩
  rcases hk with hk | ⟨h1, h2⟩
  · exact .inl hk
  · exact .inr ⟨Nat.le_trans b1.size h1, h2⟩
theorem RRooted.later {S : Nat → Prop} {p : Nat} {r : Nat × List Tx} {w w1 w2 : World} {e : Ending} (b1 : Below w.heap.size w w1) (h : RRooted S p r w1 e w2) : RRooted S p r w e w2 := by
  obtain ⟨he, ht, hc⟩ := h
  refine ⟨he, Rf.weaken ht fun k hk => ?_, (Ch.of_below (S := fun _ => False) b1 (Nat.le_refl _)).mono (fun _ _ h => h.elim) |>.trans hc (fun _ _ h => h)⟩
  rcases hk with hk | ⟨h1, h2⟩
  · exact .inl hk
  · exact .inr ⟨Nat.le_trans b1.size h1, h2⟩

set_option maxHeartbeats 400000 in
theorem root_any (w : World) (S X : Nat → Prop) (p : Nat) (L : List Tx) (A : Option Addr) (c : Nat) (ls : List Tx) (hbig : ls.length ≤ 140737488355328) (hT : Tb w S p L) (hS : ∀ k, S k → k < w.heap.size) (hls : Ls w X (.slice A ls.length c) ls)
    (hSX : ∀ k, S k → X k) (hall : ∀ x ∈ ls, x.length ≤ 140737488355327) :
    Calls Tryz.prog 65 #[.pointer (some ⟨p, 0, none⟩), .slice A ls.length c] w (Rooted S p (root L ls) w) := by
  by_cases h0 : ls.length = 0
  · have h00 : ls = [] := List.eq_nil_of_length_eq_zero h0
    subst h00
    have hb : Below w.heap.size w ((w.alloc (.cells #[.pointer (some ⟨p, 0, none⟩)] 34)).alloc (.cells #[.int .u8 2] 5)) := ((Below.refl _ w).alloc (Nat.le_refl _) _).alloc (by simp) _
    have hs := (sum_yes _ S (fun _ => False) p L _ 1 noneB (Tb.after hT hb) (Cd.one_new (w.alloc (.cells #[.pointer (some ⟨p, 0, none⟩)] 34)) (fun _ => False) 5 (z := 2) (n := 2) rfl (by omega) (fun h => h)) (by decide))
    rw [show (w.alloc (.cells #[.pointer (some ⟨p, 0, none⟩)] 34)).heap.size = w.heap.size + 1 from by simp, show noneB.length = 1 from rfl] at hs
    have HS := Lib.hid hs
    clear hs
    have HB := Lib.hid hb
    have HR := Lib.hid (root_nil L)
    clear hbig hT hS hls hSX hall h0 hb
    go_enter Tryz.func65, Tryz.ntmps65
    go_wp2_with fail
    refine HS.out.mono ?_
    rintro e w' ⟨rfl, ht, hc⟩
    have HE := Lib.hid (And.intro ht hc)
    clear ht hc
    go_wp2_with fail
    go_ret
    rw [HR.out]
    exact Rooted.later HB.out ⟨rfl, HE.out.1, HE.out.2⟩
  · obtain ⟨hC, hb⟩ := clo_new w p
    have HD := Lib.hid (down_any ls.length _ S X p L A c ls w.heap.size (w.heap.size + 1) (Nat.le_refl _) (by omega) hbig (Tb.after hT hb) (hls.after hb) hSX hC (fun h => by have := hS _ h; omega) (fun h => by have := hS _ h; omega) hall)
    have HB := Lib.hid hb
    have h1 : 1 ≤ ls.length := by omega
    clear hbig hT hS hls hSX hall h0 hb hC
    go_enter Tryz.func65, Tryz.ntmps65
    go_wp2_with fail
    refine HD.out.mono ?_
    rintro e w' ⟨rfl, ht, hc⟩
    have HE := Lib.hid (And.intro ht hc)
    clear ht hc
    go_wp2_with fail
    go_ret
    exact Rooted.later HB.out ⟨rfl, HE.out.1, HE.out.2⟩

end Go.Proofs.YtobphijbhghgmaaGreat.Mc

/-
  Two things side by side in memory, each in blocks of its own, none of them among the blocks K of others: what a call on one of them leaves of all. For any layer.
-/
namespace Go.Proofs.YtobphijbhghgmaaGreat.Pr
set_option linter.unusedSimpArgs false
set_option linter.unusedVariables false
open Go Go.RowKit Ck Kw Ik

/-- The blocks of S are there, and none is in K. -/
def Own (K : Nat → Prop) (w : World) (S : Nat → Prop) : Prop := ∀ k, S k → ¬ K k ∧ k < w.heap.size
/-- What changes of other blocks leave alone. -/
def Stable (P : World → (Nat → Prop) → Prop) : Prop := ∀ (w w' : World) (S T : Nat → Prop), P w S → Ch T w w' → (∀ k, S k → T k → False) → P w' S
/-- Two things side by side. -/
def Two (K : Nat → Prop) (w : World) (P Q : World → (Nat → Prop) → Prop) : Prop :=
  (∀ k, K k → k < w.heap.size) ∧ ∃ S T, P w S ∧ Q w T ∧ Own K w S ∧ Own K w T ∧ ∀ k, S k → T k → False
/-- Three. -/
def Three (K : Nat → Prop) (w : World) (O P Q : World → (Nat → Prop) → Prop) : Prop :=
  (∀ k, K k → k < w.heap.size) ∧ ∃ R S T, O w R ∧ P w S ∧ Q w T ∧ Own K w R ∧ Own K w S ∧ Own K w T ∧ (∀ k, R k → S k → False) ∧ (∀ k, R k → T k → False) ∧ ∀ k, S k → T k → False
/-- Blocks of others, and one more. -/
def And1 (K : Nat → Prop) (g : Nat) (k : Nat) : Prop := K k ∨ k = g

section
variable {K K' : Nat → Prop} {w w' : World} {S T : Nat → Prop} {O P P' Q Q' : World → (Nat → Prop) → Prop}
theorem Own.later (h : Own K w S) (hs : w.heap.size ≤ w'.heap.size) : Own K w' S := fun k hk => ⟨(h k hk).1, Nat.lt_of_lt_of_le (h k hk).2 hs⟩
theorem Own.up (h : Own K w S) (hs : w.heap.size ≤ w'.heap.size) (hK : ∀ k, K k → k < w.heap.size) : Own K w' (Up S w w') := fun k hk => by
  rcases hk with hk | hk
  · exact h.later hs k hk
  · exact ⟨fun h => by have := hK k h; omega, hk.2⟩
theorem up_apart (h : ∀ k, S k → T k → False) (hT : Own K w T) : ∀ k, Up S w w' k → T k → False := fun k hk ht => by
  rcases hk with hk | hk
  · exact h k hk ht
  · have := (hT k ht).2
    omega
theorem new_apart (hT : Own K w T) : ∀ k, New w w' k → T k → False := fun k hk ht => by
  have := (hT k ht).2
  have := hk.1
  omega
theorem Own.new (hK : ∀ k, K k → k < w.heap.size) : Own K w' (New w w') := fun k hk => ⟨fun h => by have := hK k h; have := hk.1; omega, hk.2⟩
theorem ch_own (c : Ch S w w') (h : Own K w S) : Ch (fun k => ¬ K k) w w' := c.mono fun k _ hk => (h k hk).1
theorem Two.later (h : Two K w P Q) (hP : Stable P) (hQ : Stable Q) (b : Below w.heap.size w w') : Two K w' P Q := by
  obtain ⟨hK, S, T, h1, h2, h3, h4, h5⟩ := h
  have c : Ch (fun _ => False) w w' := Ch.of_below b (Nat.le_refl _)
  exact ⟨fun k hk => Nat.lt_of_lt_of_le (hK k hk) b.size, S, T, hP _ _ _ _ h1 c (fun _ _ h => h), hQ _ _ _ _ h2 c (fun _ _ h => h), h3.later b.size, h4.later b.size, h5⟩
/-- A block that others have made since is theirs. -/
theorem Two.more (h : Two K w P Q) (hP : Stable P) (hQ : Stable Q) (b : Below w.heap.size w w') {g : Nat} (hg : w.heap.size ≤ g) (hg' : g < w'.heap.size) : Two (And1 K g) w' P Q := by
  obtain ⟨hK, S, T, h1, h2, h3, h4, h5⟩ := h
  have c : Ch (fun _ => False) w w' := Ch.of_below b (Nat.le_refl _)
  refine ⟨fun k hk => ?_, S, T, hP _ _ _ _ h1 c (fun _ _ h => h), hQ _ _ _ _ h2 c (fun _ _ h => h), fun k hk => ?_, fun k hk => ?_, h5⟩
  · rcases hk with hk | rfl
    · exact Nat.lt_of_lt_of_le (hK k hk) b.size
    · exact hg'
  · have := h3 k hk
    exact ⟨by rintro (hn | rfl); exact this.1 hn; omega, by have := b.size; omega⟩
  · have := h4 k hk
    exact ⟨by rintro (hn | rfl); exact this.1 hn; omega, by have := b.size; omega⟩
theorem Two.less (h : Two K w P Q) (hK : ∀ k, K' k → K k) : Two K' w P Q := by
  obtain ⟨h0, S, T, h1, h2, h3, h4, h5⟩ := h
  exact ⟨fun k hk => h0 k (hK k hk), S, T, h1, h2, fun k hk => ⟨fun hn => (h3 k hk).1 (hK k hn), (h3 k hk).2⟩, fun k hk => ⟨fun hn => (h4 k hk).1 (hK k hn), (h4 k hk).2⟩, h5⟩
theorem Two.left (h : Two K w P Q) : ∃ S, P w S ∧ Own K w S := by
  obtain ⟨hK, S, T, h1, h2, h3, h4, h5⟩ := h
  exact ⟨S, h1, h3⟩
variable {pg : Program} {f : FuncId} {args : Array Value} {R : Ending → Prop}
/-- A call that changes the left one. -/
theorem Two.call (h : Two K w P Q) (hQ : Stable Q) (hc : ∀ S, P w S → Calls pg f args w fun e w' => R e ∧ P' w' (Up S w w') ∧ Ch S w w') :
    Calls pg f args w fun e w' => R e ∧ Two K w' P' Q ∧ Ch (fun k => ¬ K k) w w' := by
  obtain ⟨hK, S, T, h1, h2, h3, h4, h5⟩ := h
  refine (hc S h1).mono fun e w' ⟨he, hP, c⟩ => ⟨he, ⟨fun k hk => Nat.lt_of_lt_of_le (hK k hk) c.size, Up S w w', T, hP, hQ _ _ _ _ h2 c (fun k a b => h5 k b a), h3.up c.size hK, h4.later c.size, up_apart h5 h4⟩, ch_own c h3⟩
/-- A call that makes one more of the left kind. -/
theorem Two.clone {P' : Nat → World → (Nat → Prop) → Prop} {R : Nat → Ending → Prop} (h : Two K w P Q) (hP : Stable P) (hQ : Stable Q)
    (hc : ∀ S, P w S → Calls pg f args w fun e w' => ∃ p, R p e ∧ P' p w' (New w w') ∧ Below w.heap.size w w') :
    Calls pg f args w fun e w' => ∃ p, R p e ∧ Three K w' P (P' p) Q ∧ Below w.heap.size w w' := by
  obtain ⟨hK, S, T, h1, h2, h3, h4, h5⟩ := h
  refine (hc S h1).mono fun e w' ⟨p, he, hP', b⟩ => ⟨p, he, ?_, b⟩
  have c : Ch (fun _ => False) w w' := Ch.of_below b (Nat.le_refl _)
  exact ⟨fun k hk => Nat.lt_of_lt_of_le (hK k hk) b.size, S, New w w', T, hP _ _ _ _ h1 c (fun _ _ h => h), hP', hQ _ _ _ _ h2 c (fun _ _ h => h), h3.later b.size, Own.new hK, h4.later b.size, fun k a b => new_apart h3 k b a, h5, new_apart h4⟩
theorem Three.later (h : Three K w O P Q) (hO : Stable O) (hP : Stable P) (hQ : Stable Q) (b : Below w.heap.size w w') : Three K w' O P Q := by
  obtain ⟨hK, R, S, T, h0, h1, h2, h3, h4, h5, h6, h7, h8⟩ := h
  have c : Ch (fun _ => False) w w' := Ch.of_below b (Nat.le_refl _)
  exact ⟨fun k hk => Nat.lt_of_lt_of_le (hK k hk) b.size, R, S, T, hO _ _ _ _ h0 c (fun _ _ h => h), hP _ _ _ _ h1 c (fun _ _ h => h), hQ _ _ _ _ h2 c (fun _ _ h => h), h3.later b.size, h4.later b.size, h5.later b.size, h6, h7, h8⟩
/-- A call that changes the first: the others stay, and it is let go. -/
theorem Three.call (h : Three K w O P Q) (hP : Stable P) (hQ : Stable Q) (hc : ∀ S, O w S → Calls pg f args w fun e w' => R e ∧ Ch S w w') :
    Calls pg f args w fun e w' => R e ∧ Two K w' P Q ∧ Ch (fun k => ¬ K k) w w' := by
  obtain ⟨hK, X, S, T, h0, h1, h2, h3, h4, h5, h6, h7, h8⟩ := h
  refine (hc X h0).mono fun e w' ⟨he, c⟩ => ⟨he, ⟨fun k hk => Nat.lt_of_lt_of_le (hK k hk) c.size, S, T, hP _ _ _ _ h1 c (fun k a b => h6 k b a), hQ _ _ _ _ h2 c (fun k a b => h7 k b a), h4.later c.size, h5.later c.size, h8⟩, ch_own c h3⟩
end

end Go.Proofs.YtobphijbhghgmaaGreat.Pr

/-
  Contracts of layer 5: Prove of a list, the program's: its closure.
-/
namespace Go.Proofs.YtobphijbhghgmaaGreat.Me
set_option linter.unusedSimpArgs false
open Go Go.RowKit Ck Im Kw Ik Ia Ib Ic Ig Ih Ij Mm Ma Mb Mc Pr
attribute [local go_sem ↓] Go.wp_at_zero Go.wp_at_succ
set_option linter.unusedVariables false

/-- The closure's blocks. -/
def CloP (w : World) (p Bt Bd Bp : Nat) : Prop :=
  Blk w Bt 34 #[.pointer (some ⟨p, 0, none⟩)] ∧ Blk w Bd 142 #[.func (.func 75) #[] #[.pointer (some ⟨Bd, 0, none⟩), .pointer (some ⟨Bp, 0, none⟩), .pointer (some ⟨Bt, 0, none⟩)]]
theorem CloP.ch {w w' : World} {S : Nat → Prop} {p Bt Bd Bp : Nat} (h : CloP w p Bt Bd Bp) (c : Ch S w w') (ht : ¬ S Bt) (hd : ¬ S Bd) : CloP w' p Bt Bd Bp := ⟨h.1.ch c ht, h.2.ch c hd⟩

end Go.Proofs.YtobphijbhghgmaaGreat.Me

/-
  Contracts of layer 5: Prove, the program's.
-/
namespace Go.Proofs.YtobphijbhghgmaaGreat.Mf
set_option linter.unusedSimpArgs false
open Go Go.RowKit Ck Im Kw Ik Ia Ib Ic Ig Ih Ij Mm Ma Mb Mc Pr Me
attribute [local go_sem ↓] Go.wp_at_zero Go.wp_at_succ
set_option linter.unusedVariables false

theorem mmade_yes (w : World) (S : Nat → Prop) (p : Nat) (L : List Tx) (h : Tb w S p L) :
    Calls Tryz.prog 72 #[.pointer (some ⟨p, 0, none⟩)] w fun e w' => e = .returned (.bool true) ∧ Below w.heap.size w w' := by
  have HN := Lib.hid (len_yes w S p L h)
  by_cases h0 : 0 < L.length
  · clear h
    go_enter Tryz.func72, Tryz.ntmps72
    go_wp2_with fail
    refine HN.out.mono ?_
    rintro e w' ⟨rfl, rfl⟩
    go_wp2_with fail
    go_ret
    exact ⟨rfl, Below.refl _ _⟩
  · have HC := Lib.hid (tclone_any w S p L h)
    have hl : (L.length : Int) = 0 := by omega
    rw [hl] at HN
    clear h h0 hl
    go_enter Tryz.func72, Tryz.ntmps72
    go_wp2_with fail
    refine HN.out.mono ?_
    rintro e w' ⟨rfl, rfl⟩
    go_wp2_with fail
    refine HC.out.mono ?_
    rintro e w2 ⟨p2, rfl, ht, hb⟩
    have HB := Lib.hid hb
    clear ht hb
    go_wp2_with fail
    go_ret
    exact ⟨rfl, HB.out⟩

theorem prove_bad (w : World) (S : Nat → Prop) (p : Nat) (L : List Tx) (i : Int) (A : Option Addr) (c n : Nat) (hn : n ≤ 140737488355328) (hi : ¬ (0 ≤ i ∧ i < n)) (hT : Tb w S p L) :
    Calls Tryz.prog 58 #[.pointer (some ⟨p, 0, none⟩), .int .i64 i, .slice A n c] w fun e w' => e = .returned (.tuple #[.slice none 0 0, .int .i64 1]) ∧ Below w.heap.size w w' := by
  have b0 : Below w.heap.size w (w.alloc (.cells #[.pointer (some ⟨p, 0, none⟩)] 34)) := (Below.refl _ w).alloc (Nat.le_refl _) _
  have HM := Lib.hid (mmade_yes _ S p L (Tb.after hT b0))
  have HP := fun W => isplace_any W i n
  rw [isPl_no hi] at HP
  have HP := Lib.hid HP
  have HB := Lib.hid b0
  clear hT b0 hi
  go_enter Tryz.func58, Tryz.ntmps58
  go_wp2_with fail
  refine HM.out.mono ?_
  rintro e w1 ⟨rfl, hb1⟩
  have HB1 := Lib.hid (below_tr HB.out hb1)
  clear hb1
  go_wp2_with fail
  refine (HP.out _).mono ?_
  rintro e w' ⟨rfl, rfl⟩
  go_wp2_with fail
  go_ret2
  exact ⟨rfl, HB1.out⟩

end Go.Proofs.YtobphijbhghgmaaGreat.Mf

/-
  Contracts of the program's topics: putNum, putBytes.
-/
namespace Go.Proofs.YtobphijbhghgmaaGreat.Bp
set_option linter.unusedSimpArgs false
open Go Go.RowKit Ck Kw Ca Cb Ga Pk
attribute [local go_sem ↓] Go.wp_at_zero Go.wp_at_succ
set_option linter.unusedVariables false

theorem none_sl (w : World) : Sl w (fun _ => False) 1 (.slice none 0 0) 0 (BVs []) := Sl.of_own (World.ownsRow_nil w 0 5 1) (fun _ _ _ h => h)

set_option maxRecDepth 100000 in
set_option maxHeartbeats 1000000 in
theorem pnum_any (B : Nat) (v : Value) (n : Nat) (b : List UInt8) (w : World) (hown : w.ownsRow B 5 1 v b.length (BVs b)) (hB : B ≤ w.heap.size) (hl : b.length ≤ 140737488355318) (hn : n < 9223372036854775808) :
    Calls Tryz.prog 102 #[v, .int .i64 (n : Int)] w fun e w' => Onto w B 5 v (b ++ Cm.enc n) e w' := by
  have hlen := Cm.enc_len n
  obtain ⟨i0, hi0, hz0, hz1, hz2⟩ := info_parts Cb.info_u8
  have hw := wrap_u64' n (by omega)
  have HP := Lib.hid (putnum_any (fun _ => False) (.slice none 0 0) 0 [] n w (none_sl w) (by omega) (by omega))
  obtain ⟨A0, c0, rfl⟩ := own_shape hown
  have HO := Lib.hid hown
  clear hown
  go_enter Tryz.func102, Tryz.ntmps102
  go_wp2_with fail
  refine HP.out.mono ?_
  rintro e w1 ⟨v1, rfl, ho1, hb1⟩
  simp only [List.nil_append] at ho1
  obtain ⟨A1, c1, rfl⟩ := own_shape ho1
  have HO1 := Lib.hid ho1
  have HB1 := Lib.hid hb1
  clear ho1 hb1
  go_wp2_with (at_builtin; refine wpList_append_sl _ rfl (.tmp 5) (.tmp 8) _ rfl B 5 i0 _ 1 1 Tryz.underlying25 hi0 hz0 hz1 hz2 rfl (by omega) _ b.length (BVs b) rfl (own_below HO.out HB1.out) (fun _ => False) _ (Cm.enc n).length (BVs (Cm.enc n)) rfl (Sl.of_own HO1.out (fun _ _ _ h => h)) (BVs_one _) (by simp only [maxLen]; omega) (by omega) (Nat.le_trans hB HB1.out.size) ?_; intro v2 w2 happ)
  go_ret
  exact Onto.of HB1.out happ

set_option maxRecDepth 100000 in
set_option maxHeartbeats 1000000 in
theorem pbytes_any (B : Nat) (X : Nat → Prop) (v vx : Value) (k : Nat) (b x : List UInt8) (w : World) (hown : w.ownsRow B 5 1 v b.length (BVs b)) (hB : B ≤ w.heap.size) (hx : Sl w X 1 vx k (BVs x)) (hl : b.length ≤ 140737488355300) (hk : b.length + x.length ≤ 140737488355300) :
    Calls Tryz.prog 101 #[v, vx] w fun e w' => Onto w B 5 v (b ++ Cm.encB x) e w' := by
  have hkl : k = x.length := by obtain ⟨A, c, _, h, _⟩ := hx; rw [BVs_len] at h; omega
  obtain ⟨Ax, cx, rfl⟩ : ∃ A c, vx = .slice A k c := by obtain ⟨A, c, h, _⟩ := hx; exact ⟨A, c, h⟩
  subst hkl
  have hlen := Cm.enc_len x.length
  have HBL := Lib.hid (Cm.encB_len x)
  obtain ⟨i0, hi0, hz0, hz1, hz2⟩ := info_parts Cb.info_u8
  have HP := Lib.hid (putbytes_any X (.slice none 0 0) (.slice Ax x.length cx) 0 x.length [] x w (Sl.nil w X 1) hx (by omega) (by omega))
  obtain ⟨A0, c0, rfl⟩ := own_shape hown
  have HO := Lib.hid hown
  clear hown
  go_enter Tryz.func101, Tryz.ntmps101
  go_wp2_with fail
  refine HP.out.mono ?_
  rintro e w1 ⟨v1, rfl, ho1, hb1⟩
  simp only [List.nil_append] at ho1
  obtain ⟨A1, c1, rfl⟩ := own_shape ho1
  have HO1 := Lib.hid ho1
  have HB1 := Lib.hid hb1
  clear ho1 hb1
  go_wp2_with (at_builtin; refine wpList_append_sl _ rfl (.tmp 5) (.tmp 7) _ rfl B 5 i0 _ 1 1 Tryz.underlying25 hi0 hz0 hz1 hz2 rfl (by omega) _ b.length (BVs b) rfl (own_below HO.out HB1.out) (fun _ => False) _ (Cm.encB x).length (BVs (Cm.encB x)) rfl (Sl.of_own HO1.out (fun _ _ _ h => h)) (BVs_one _) (by have := HBL.out; simp only [maxLen]; omega) (by have := HBL.out; omega) (Nat.le_trans hB HB1.out.size) ?_; intro v2 w2 happ)
  go_ret
  exact Onto.of HB1.out happ
end Go.Proofs.YtobphijbhghgmaaGreat.Bp

/-
  Contracts of the program's topics: Names, groupNames: the keys of a map, sorted.
-/
namespace Go.Proofs.YtobphijbhghgmaaGreat.Bq
set_option linter.unusedSimpArgs false
open Go Go.RowKit Go.Maps Go.Sort Go.Shelf Ck Kw Ga Kf Km Pm Pz Tm Tn Tq Aa
attribute [local go_sem ↓] Go.wp_at_zero Go.wp_at_succ
set_option linter.unusedVariables false

theorem keysT_call (mb : Option Nat) (W : World) : Calls Tryz.prog 122 #[.map mb] W fun e w' =>
    e = .returned (.func (.func 149) #[] #[.pointer (some ⟨W.heap.size, 0, none⟩)]) ∧ w' = W.alloc (.cells #[.map mb] 67) :=
  (callsIn_wide (n := 5)).1 (AnyZ.keys_in Tryz.keys122 Fence.wide 5 trivial rfl mb W)
theorem keysG_call (mb : Option Nat) (W : World) : Calls Tryz.prog 151 #[.map mb] W fun e w' =>
    e = .returned (.func (.func 165) #[] #[.pointer (some ⟨W.heap.size, 0, none⟩)]) ∧ w' = W.alloc (.cells #[.map mb] 156) :=
  (callsIn_wide (n := 5)).1 (AnyZ.keys_in Tryz.keys151 Fence.wide 5 trivial rfl mb W)
theorem sorts (m : Nat) : AnyZ.SortsIn Tryz.prog Tryz.sorted121_ren Fence.wide m :=
  ⟨fun blk off cap ss W hH hblk hsz => callsIn_wide.2 (AnyM.slices_Sort_string Tryz.sort148 blk off cap ss W hH hblk hsz),
   fun p cap W => callsIn_wide.2 (AnyM.slices_Sort_string_none Tryz.sort148 p cap W)⟩

set_option maxHeartbeats 1000000 in
/-- The keys of the map of topics, sorted: w is the world ahead of maps.Keys. -/
theorem sortedT_call (b nn : Nat) (D0 : DataW Unit) (w : World) (hown : w.ownsMap Tryz.prog 9 ptrElem b nn D0) (hs : Maps.size D0 ≤ 64) :
    Calls Tryz.prog 121 #[.func (.func 149) #[] #[.pointer (some ⟨w.heap.size, 0, none⟩)]] (w.alloc (.cells #[.map (some b)] 67)) fun e w' =>
      ∃ (v : Value) (ss : List (List UInt8)), e = .returned v ∧ ss.Perm (strKeys D0) ∧ w'.ownsRow (w.alloc (.cells #[.map (some b)] 67)).heap.size 9 1 v ss.length ((ss.mergeSort (fun x y => decide (x ≤ y))).map encStr) ∧
        Below (w.alloc (.cells #[.map (some b)] 67)).heap.size (w.alloc (.cells #[.map (some b)] 67)) w' := by
  have hbl := hown.lt
  have hseq : SeqGives Fence.wide 2 Tryz.prog 149 #[.pointer (some ⟨w.heap.size, 0, none⟩)] encStr (fun ss => ss.Perm (strKeys D0)) (Maps.size D0) (w.alloc (.cells #[.map (some b)] 67)) :=
    AnyZ.keys_gives (ρ := Tryz.keys122_ren) { Tryz.keys122 with } Fence.wide _ trivial rfl (by omega) w.heap.size b nn D0 _ (by simp) (by simp) (by
      obtain ⟨es, clock, hb, Ft, hs, hD⟩ := hown
      exact ⟨es, clock, (Below.heap_alloc _ _ b hbl).trans hb, Ft, hs, hD⟩)
  refine ((callsIn_wide (n := 5)).1 (AnyZ.sorted_in Tryz.sorted121 Fence.wide 5 trivial trivial trivial trivial rfl (by omega) (sorts _) (enters_of Tryz.func148 (by kernel_rfl) rfl) 149 #[.pointer (some ⟨w.heap.size, 0, none⟩)] trivial (enters_of Tryz.func149 (by kernel_rfl) rfl) _ _ (by simp only [maxLen]; omega) (by omega) _ hseq)).mono ?_
  rintro e w' ⟨v, ss, h1, h2, h3, _, h5⟩
  exact ⟨v, ss, h1, h2, h3, h5⟩
set_option maxHeartbeats 1000000 in
/-- The keys of a map of groups, sorted. -/
theorem sortedG_call (b nn : Nat) (D0 : DataW Unit) (w : World) (hown : w.ownsMap Tryz.prog 9 inElem b nn D0) (hs : Maps.size D0 ≤ 64) :
    Calls Tryz.prog 121 #[.func (.func 165) #[] #[.pointer (some ⟨w.heap.size, 0, none⟩)]] (w.alloc (.cells #[.map (some b)] 156)) fun e w' =>
      ∃ (v : Value) (ss : List (List UInt8)), e = .returned v ∧ ss.Perm (strKeys D0) ∧ w'.ownsRow (w.alloc (.cells #[.map (some b)] 156)).heap.size 9 1 v ss.length ((ss.mergeSort (fun x y => decide (x ≤ y))).map encStr) ∧
        Below (w.alloc (.cells #[.map (some b)] 156)).heap.size (w.alloc (.cells #[.map (some b)] 156)) w' := by
  have hbl := hown.lt
  have hseq : SeqGives Fence.wide 2 Tryz.prog 165 #[.pointer (some ⟨w.heap.size, 0, none⟩)] encStr (fun ss => ss.Perm (strKeys D0)) (Maps.size D0) (w.alloc (.cells #[.map (some b)] 156)) :=
    AnyZ.keys_gives (ρ := Tryz.keys151_ren) { Tryz.keys151 with } Fence.wide _ trivial rfl (by omega) w.heap.size b nn D0 _ (by simp) (by simp) (by
      obtain ⟨es, clock, hb, Ft, hs, hD⟩ := hown
      exact ⟨es, clock, (Below.heap_alloc _ _ b hbl).trans hb, Ft, hs, hD⟩)
  refine ((callsIn_wide (n := 5)).1 (AnyZ.sorted_in Tryz.sorted121 Fence.wide 5 trivial trivial trivial trivial rfl (by omega) (sorts _) (enters_of Tryz.func148 (by kernel_rfl) rfl) 165 #[.pointer (some ⟨w.heap.size, 0, none⟩)] trivial (enters_of Tryz.func165 (by kernel_rfl) rfl) _ _ (by simp only [maxLen]; omega) (by omega) _ hseq)).mono ?_
  rintro e w' ⟨v, ss, h1, h2, h3, _, h5⟩
  exact ⟨v, ss, h1, h2, h3, h5⟩

theorem pos_some_iff {gs : List Gp} {x : Tx} : (pos gs x).isSome = true ↔ x ∈ gs.map (·.n) := by
  constructor
  · intro h
    by_cases hx : x ∈ gs.map (·.n)
    · exact hx
    · rw [pos_none.2 (fun g hg e => hx (List.mem_map.2 ⟨g, hg, e⟩))] at h
      cases h
  · intro h
    cases hp : pos gs x with
    | some _ => rfl
    | none =>
      obtain ⟨g, hg, e⟩ := List.mem_map.1 h
      exact absurd e (pos_none.1 hp g hg)
/-- Names that rise stand sorted. -/
theorem sorted_rise {L ss : List Tx} (h : L.Pairwise (· < ·)) (hp : ss.Perm L) : ss.mergeSort (fun x y => decide (x ≤ y)) = L := by
  have e : ss.mergeSort (fun x y => decide (x ≤ y)) = L.mergeSort leB := mergeSort_of_perm hp
  rw [e]
  exact List.mergeSort_of_pairwise (h.imp fun h => by simpa [leB] using List.le_of_lt h)
/-- What Names leaves. -/
def Named (w : World) (L : List Tx) (e : Ending) (w' : World) : Prop :=
  ∃ A c, e = .returned (.slice A L.length c) ∧ w'.ownsRow w.heap.size 9 1 (.slice A L.length c) L.length (L.map fun x => .string ⟨x.toArray⟩) ∧ Below w.heap.size w w'

set_option maxHeartbeats 1000000 in
theorem names_on (w : World) (S R : Nat → Prop) (p : Nat) (s : St) (h : Tz w S R p s) :
    Calls Tryz.prog 103 #[.pointer (some ⟨p, 0, none⟩)] w (Named w (s.L.map (·.n))) := by
  have HM := Lib.hid (made_on w S R p s h)
  obtain ⟨m, D, G, V, M, F, hP⟩ := h
  have c0 := hP.cell0
  have hpm : (s.L.map (·.n)).Perm (strKeys D) := names_perm hP.own hP.names (fun x => by rw [hP.tells.1, isSome_find])
  have HP := Lib.hid hP
  have HN := Lib.hid hpm
  have HSZ := Lib.hid (show Maps.size D ≤ 64 by rw [hP.size]; have := hP.good.L.few; omega)
  have HR : Hid ((s.L.map (·.n)).Pairwise (· < ·)) := Lib.hid (List.pairwise_map.2 hP.good.L.rises)
  clear hP hpm
  go_enter Tryz.func103, Tryz.ntmps103
  go_wp2_with (first
    | (go_at_call 84; refine HM.out.mono ?_; rintro e w' ⟨rfl, rfl⟩)
    | (go_at_call 122; refine (keysT_call _ _).mono ?_; rintro e w' ⟨rfl, rfl⟩)
    | (go_at_call 121; refine (sortedT_call m _ D w HP.out.own HSZ.out).mono ?_; rintro e w2 ⟨v, ss, rfl, hp, ho, hb⟩))
  go_ret
  have hp' : ss.Perm (s.L.map (·.n)) := hp.trans HN.out.symm
  have hl : ss.length = (s.L.map (·.n)).length := hp'.length_eq
  have hb1 : Below w.heap.size w w2 := ((Below.refl _ w).alloc (Nat.le_refl _) _).trans (hb.mono (by simp))
  have ho2 := own_base (b' := w.heap.size) ho (by simp)
  rw [sorted_rise HR.out hp', hl] at ho2
  obtain ⟨A, c, rfl⟩ := own_shape ho2
  exact ⟨A, c, rfl, ho2, hb1⟩

set_option maxHeartbeats 1000000 in
theorem gnames_on (w : World) (T R : Nat → Prop) (g : Nat) (t : Tp) (v : Value) (mg : Nat) (h : Tg w T R g t v mg) (hr : (t.gs.map (·.n)).Pairwise (· < ·)) (hf : t.gs.length ≤ 8) :
    Calls Tryz.prog 124 #[.pointer (some ⟨g, 0, none⟩)] w (Named w (t.gs.map (·.n))) := by
  obtain ⟨D, hD, hT⟩ := h.gs
  have c2 : w.cell? ⟨g, 2, none⟩ = some (.map (some mg)) := h.blk.cell 2
  have hnd : (t.gs.map (·.n)).Nodup := hr.imp (fun {a b} hab e => by rw [e] at hab; exact List.lt_irrefl _ hab)
  have hpm : (t.gs.map (·.n)).Perm (strKeys D) := names_perm hD hnd (fun x => by rw [hT.1, pos_some_iff])
  have hsz : Maps.size D = t.gs.length := by rw [size_names hD hnd (fun x => by rw [hT.1, pos_some_iff]), List.length_map]
  have HD := Lib.hid hD
  have HN := Lib.hid hpm
  have HSZ := Lib.hid (show Maps.size D ≤ 64 by rw [hsz]; omega)
  have HR := Lib.hid hr
  clear h hD hT hpm hnd hsz hr
  go_enter Tryz.func124, Tryz.ntmps124
  go_wp2_with (first
    | (go_at_call 151; refine (keysG_call _ _).mono ?_; rintro e w' ⟨rfl, rfl⟩)
    | (go_at_call 121; refine (sortedG_call mg _ D w HD.out HSZ.out).mono ?_; rintro e w2 ⟨v, ss, rfl, hp, ho, hb⟩))
  go_ret
  have hp' : ss.Perm (t.gs.map (·.n)) := hp.trans HN.out.symm
  have hl : ss.length = (t.gs.map (·.n)).length := hp'.length_eq
  have hb1 : Below w.heap.size w w2 := ((Below.refl _ w).alloc (Nat.le_refl _) _).trans (hb.mono (by simp))
  have ho2 := own_base (b' := w.heap.size) ho (by simp)
  rw [sorted_rise HR.out hp', hl] at ho2
  obtain ⟨A, c, rfl⟩ := own_shape ho2
  exact ⟨A, c, rfl, ho2, hb1⟩
end Go.Proofs.YtobphijbhghgmaaGreat.Bq

/-
  A range over a function whose parts lie in memory: what the iterator hands on is known in the world in which it is handed on. For any layer; nothing of a program is in it.
-/
namespace Go.Proofs.YtobphijbhghgmaaGreat.Kr
set_option linter.unusedSimpArgs false
set_option linter.unusedVariables false
open Go Go.RowKit Ck Kw

/-- The loop's own two blocks, the first one at D. -/
def Bk (D k : Nat) : Prop := k = D ∨ k = D + 1

/-- What an iterator owes that hands on the parts bs, one behind the other: R says what its values are, all made since it was called; a round writes to blocks of S alone. -/
def SeqR {β : Type} (F : Fence) (n : Nat) (P : Program) (g : Nat) (lb : Array Value) (R : Nat → β → Array Value → World → Prop) (S : Nat → Prop) (bs : List β) (w : World) : Prop :=
  ∀ (l : Nat) (J Jx : Nat → World → Prop) (W : World), Below w.heap.size w W → w.heap.size + 2 ≤ W.heap.size → (∀ k A B, J k A → Below A.heap.size A B → J k B) → (∀ k A B, Jx k A → Below A.heap.size A B → Jx k B) →
    (∀ (k : Nat) (h : k < bs.length) (args : Array Value) (W1 : World), J k W1 → Ch S W W1 → R W.heap.size bs[k] args W1 → YieldAt F (n - 1) P l args W1 fun e W' =>
      (e = .returned (.bool true) ∧ J (k + 1) W' ∧ Ch S W1 W') ∨ (e = .returned (.bool false) ∧ Jx (k + 1) W' ∧ Ch S W1 W')) →
    J 0 W →
    CallsIn F n P g (#[.func (.yield l) #[] #[]] ++ lb) W fun e W' => (∃ v, e = .returned v) ∧ Ch S W W' ∧ (J bs.length W' ∨ ∃ k, k ≤ bs.length ∧ Jx k W')

/-- What a round's body owes. -/
def PostR (D : Nat) (S : Nat → Prop) (I : Nat → World → Prop) (Ix : Code → Nat → World → Prop) (k : Nat) (W : World) : Exit → Act → World → Prop
  | .normal, _, W' => Ch (fun j => S j ∧ ¬ Bk D j) W W' ∧ I k W'
  | .ret, _, W' => Ch (fun j => S j ∧ ¬ Bk D j) W W' ∧ Ix .ret k W'
  | .exit id, _, W' => Ch (fun j => S j ∧ ¬ Bk D j) W W' ∧ Ix (.exit id) k W'
  | .goto t, _, W' => Ch (fun j => S j ∧ ¬ Bk D j) W W' ∧ Ix (.goto t) k W'
  | .panic _, _, _ => False
  | .outgrown, _, _ => False

theorem putObj_size (W : World) (l : Nat) (o : Obj) : (W.putObj l o).heap.size = W.heap.size := by simp [World.putObj]
theorem ch_putObj (W : World) (l : Nat) (o : Obj) : Ch (fun k => k = l) W (W.putObj l o) :=
  Ch.of_grown (grownBy_putObj' W l o) (fun g e _ => by injection e with e; exact e.symm)

section
variable {F : Fence} {n : Nat} {P : Program}
theorem wpIn_rangeR {β : Type} {g : Operand} {ps : Array Tmp} {assign body : Code} {Q : Exit → Act → World → Prop} {a : Act} {w : World}
    (hro : F.round = none) (h1 : 1 ≤ n) {gf : Nat} {lb : Array Value} (hg : a.eval g = .func (.func gf) #[] lb) (hFg : F.fn gf) (eg : ∀ args w, (callFunc gf args).run P w = .ok (.enter gf args) w)
    {R : Nat → β → Array Value → World → Prop} {S : Nat → Prop} {bs : List β} (hseq : SeqR F (n - 1) P gf lb R S bs w) (hS : ∀ k, w.heap.size ≤ k → S k)
    (hps : ∀ B b args W, R B b args W → args.size = ps.size) (hR : ∀ b args W W', R (w.heap.size + 2) b args W → Ch (Bk w.heap.size) W W' → R (w.heap.size + 2) b args W')
    (I : Nat → World → Prop) (Ix : Code → Nat → World → Prop)
    (hI : ∀ k W W', I k W → w.heap.size ≤ W.heap.size → Ch (Bk w.heap.size) W W' → I k W') (hIx : ∀ c k W W', Ix c k W → w.heap.size ≤ W.heap.size → Ch (Bk w.heap.size) W W' → Ix c k W') (h0 : I 0 w) (a₁ : Array Value → Act)
    (hassign : ∀ (l : Nat) (args : Array Value) (W : World) (K : Act → World → Prop), args.size = ps.size → K (a₁ args) W →
      assign.wpIn (F.inRound l) (n - 1 - 1) P (Exit.then K (fun _ _ _ => False)) { tmps := (ps.zip args).foldl (fun t (p, v) => t.setIfInBounds p v) a.tmps, defers := [] } W)
    (hbody : ∀ (l k : Nat) (h : k < bs.length) (args : Array Value) (W : World), w.heap.size + 2 ≤ W.heap.size → Ch S w W → I k W → R (w.heap.size + 2) bs[k] args W → body.wpIn (F.inRound l) (n - 1 - 1) P (PostR w.heap.size S I Ix (k + 1) W) (a₁ args) W)
    (hdone : ∀ (W : World), Ch S w W → I bs.length W → W.heap[w.heap.size]? = some (.deferred (some [])) → Q .normal { a with defers := { target := .collected w.heap.size, args := #[] } :: a.defers } W)
    (hstop : ∀ (c : Code) (k : Nat) (W : World), k ≤ bs.length → Ch S w W → Ix c k W → W.heap[w.heap.size]? = some (.deferred (some [])) → c.wpIn F n P Q { a with defers := { target := .collected w.heap.size, args := #[] } :: a.defers } W) :
    (Code.rangeFunc g ps assign body).wpIn F n P Q a w := by
  refine wpIn_rangeFunc ?_
  intro fn hfn
  rw [hro]
  obtain ⟨D, hD⟩ : ∃ D, D = w.heap.size := ⟨_, rfl⟩
  obtain ⟨rec, hrec⟩ : ∃ rec : LoopState → Option Code → Loop, rec = fun st pe => { state := st, pending := pe, fn, tmps := a.tmps, params := ps, assign, body, defers := w.heap.size } := ⟨_, rfl⟩
  obtain ⟨W1, hW1⟩ : ∃ W1, (w.alloc (.deferred (some []))).alloc (.loop (rec .ready none)) = W1 := ⟨_, rfl⟩
  have hsz1 : W1.heap.size = D + 2 := by rw [← hW1, hD]; simp
  have hb1 : Below w.heap.size w W1 := by rw [← hW1]; exact ((Below.refl _ w).alloc (Nat.le_refl _) _).alloc (by simp) _
  have hL1 : W1.heap[D + 1]? = some (.loop (rec .ready none)) := by
    have := World.alloc_heap_new (w.alloc (.deferred (some []))) (.loop (rec .ready none))
    rw [World.size_alloc, hW1, ← hD] at this
    exact this
  have hK1 : W1.heap[D]? = some (.deferred (some [])) := by
    rw [← hW1, hD]; exact (Below.heap_alloc _ _ _ (by simp)).trans (World.alloc_heap_new w _)
  have hI1 : I 0 W1 := hI 0 w W1 h0 (Nat.le_refl _) (Ch.of_below (S := Bk w.heap.size) hb1 (Nat.le_refl _))
  have hpo : ∀ (W : World) (o : Obj), Ch (Bk w.heap.size) W (W.putObj (D + 1) o) := fun W o => (ch_putObj W (D + 1) o).mono (fun k _ e => .inr (by rw [e, hD]))
  have hbk : ∀ k, Bk w.heap.size k → S k := fun k h => hS k (by rcases h with h | h <;> omega)
  refine ⟨D + 1, [{ target := .collected D, args := #[] }], W1, { target := .fn (.func gf) lb, args := #[.func (.yield (D + 1)) #[] #[]] }, W1, gf, #[.func (.yield (D + 1)) #[] #[]] ++ lb, W1, ?_, ?_, ?_, ?_, fun _ => h1, ?_⟩
  · rw [← hW1, hrec, hD]; exact run_enterLoop_outer _ _ _ _ _
  · simp only [resolve, hg]
    simp [go_sem]
  · intro f' hf'
    simp [Target.leads] at hf'
    subst hf'
    exact hFg
  · simp [invoke, go_sem, eg]
  · have keep : ∀ {A B : World} {j : Nat} {o : Obj}, A.heap[j]? = some o → Below A.heap.size A B → B.heap[j]? = some o := fun ho hb => (hb.block _ (Array.getElem?_eq_some_iff.1 ho).1).trans ho
    have bch : ∀ {A B : World}, Below A.heap.size A B → Ch (Bk w.heap.size) A B := fun hb => Ch.of_below hb (Nat.le_refl _)
    refine (hseq (D + 1)
      (fun k W => I k W ∧ Ch S w W ∧ W.heap[D + 1]? = some (.loop (rec .ready none)) ∧ W.heap[D]? = some (.deferred (some [])))
      (fun k W => ∃ c, Ix c k W ∧ Ch S w W ∧ W.heap[D + 1]? = some (.loop (rec .done (some c))) ∧ W.heap[D]? = some (.deferred (some [])))
      W1 hb1 (by omega)
      (fun k A B hs hb => ⟨hI k A B hs.1 hs.2.1.size (bch hb), hs.2.1.trans (bch hb) (fun j _ h => hbk j h), keep hs.2.2.1 hb, keep hs.2.2.2 hb⟩)
      (fun k A B hs hb => by
        obtain ⟨c, h1, h2, h3, h4⟩ := hs
        exact ⟨c, hIx c k A B h1 h2.size (bch hb), h2.trans (bch hb) (fun j _ h => hbk j h), keep h3 hb, keep h4 hb⟩)
      ?_ ⟨hI1, Ch.of_below hb1 (Nat.le_refl _), hL1, hK1⟩).mono ?_
    · -- a round
      rintro k hk args W ⟨hi, hc, hl, hd⟩ hc1 hr
      rw [hsz1, hD] at hr
      have hsz : D + 2 ≤ W.heap.size := by have := hc1.size; omega
      have hy := run_yield (P := P) (args := args) hl (by rw [hrec]; exact hps _ _ _ _ hr)
      rw [hrec] at hy
      refine ⟨fn, _, assign, body, hy, roundIn_of_wpIn hfn (hassign (D + 1) args W _ (hps _ _ _ _ hr) ?_)⟩
      refine ⟨_, run_beginRound hl (by rw [hrec]), ?_⟩
      have hpo1 := hpo W (.loop { rec .ready none with state := .busy })
      have hl2 : (W.putObj (D + 1) (.loop { rec .ready none with state := .busy })).heap[D + 1]? = some (.loop { rec .ready none with state := .busy }) := World.putObj_heap_same (by omega)
      have hd2 : (W.putObj (D + 1) (.loop { rec .ready none with state := .busy })).heap[D]? = some (.deferred (some [])) := (World.putObj_heap_other (by omega)).trans hd
      refine wpIn_mono (hbody (D + 1) k hk args _ (by rw [putObj_size]; omega) (hc.trans hpo1 (fun j _ h => hbk j h)) (hI k _ _ hi hc.size hpo1) (hR _ _ _ _ hr hpo1)) ?_
      -- behind the round
      have fin : ∀ (jump : Option Code) (W3 : World), Ch (fun j => S j ∧ ¬ Bk w.heap.size j) (W.putObj (D + 1) (.loop { rec .ready none with state := .busy })) W3 →
          (Instr.endRound (D + 1) jump).run P W3 = .ok (.bool jump.isNone) (W3.putObj (D + 1) (.loop (rec (if jump.isNone then .ready else .done) jump))) ∧
          (W3.putObj (D + 1) (.loop (rec (if jump.isNone then .ready else .done) jump))).heap[D + 1]? = some (.loop (rec (if jump.isNone then .ready else .done) jump)) ∧
          (W3.putObj (D + 1) (.loop (rec (if jump.isNone then .ready else .done) jump))).heap[D]? = some (.deferred (some [])) ∧
          Ch S W (W3.putObj (D + 1) (.loop (rec (if jump.isNone then .ready else .done) jump))) := fun jump W3 c3 => by
        have e1 := c3.block (D + 1) (by have := hpo1.size; omega) (fun h => h.2 (.inr (by rw [hD])))
        have e0 := c3.block D (by have := hpo1.size; omega) (fun h => h.2 (.inl hD))
        have hl3 := e1.trans hl2
        have hend := run_endRound (P := P) jump hl3
        have hlt := (Array.getElem?_eq_some_iff.1 hl3).1
        rw [hrec] at hend ⊢
        refine ⟨hend, World.putObj_heap_same hlt, (World.putObj_heap_other (by omega)).trans (e0.trans hd2), ?_⟩
        exact ((hpo1.mono (fun j _ h => hbk j h)).trans (c3.mono (fun j _ h => h.1)) (fun j _ h => h)).trans (hpo W3 _) (fun j _ h => hbk j h)
      rintro e a3 W3 hp
      cases e with
      | normal =>
        obtain ⟨c3, hi3⟩ := hp
        obtain ⟨hr3, hl4, hd4, c4⟩ := fin none W3 c3
        exact ⟨_, _, hr3, .inl ⟨rfl, ⟨hI _ _ _ hi3 (by have h1 := c3.size; rw [putObj_size] at h1; omega) (hpo W3 _), hc.trans c4 (fun _ _ h => h), hl4, hd4⟩, c4⟩⟩
      | ret =>
        obtain ⟨c3, hi3⟩ := hp
        obtain ⟨hr3, hl4, hd4, c4⟩ := fin (some .ret) W3 c3
        exact ⟨_, _, hr3, .inr ⟨rfl, ⟨.ret, hIx _ _ _ _ hi3 (by have h1 := c3.size; rw [putObj_size] at h1; omega) (hpo W3 _), hc.trans c4 (fun _ _ h => h), hl4, hd4⟩, c4⟩⟩
      | exit id =>
        obtain ⟨c3, hi3⟩ := hp
        obtain ⟨hr3, hl4, hd4, c4⟩ := fin (some (.exit id)) W3 c3
        exact ⟨_, _, hr3, .inr ⟨rfl, ⟨.exit id, hIx _ _ _ _ hi3 (by have h1 := c3.size; rw [putObj_size] at h1; omega) (hpo W3 _), hc.trans c4 (fun _ _ h => h), hl4, hd4⟩, c4⟩⟩
      | goto t =>
        obtain ⟨c3, hi3⟩ := hp
        obtain ⟨hr3, hl4, hd4, c4⟩ := fin (some (.goto t)) W3 c3
        exact ⟨_, _, hr3, .inr ⟨rfl, ⟨.goto t, hIx _ _ _ _ hi3 (by have h1 := c3.size; rw [putObj_size] at h1; omega) (hpo W3 _), hc.trans c4 (fun _ _ h => h), hl4, hd4⟩, c4⟩⟩
      | panic ch => exact hp.elim
      | outgrown => exact hp.elim
    · -- behind the iterator
      rintro e W2 ⟨⟨v, rfl⟩, -, (⟨hi, hc, hl, hd⟩ | ⟨k, hk, c, hi, hc, hl, hd⟩)⟩
      · refine ⟨none, _, by have := run_endLoop (P := P) hl (by rw [hrec]; simp); rw [hrec] at this; exact this, ?_⟩
        have hp := hpo W2 (.loop { rec .ready none with state := .exhausted })
        rw [hrec] at hp
        have := hdone _ (hc.trans hp (fun j _ h => hbk j h)) (hI _ _ _ hi hc.size hp) ((World.putObj_heap_other (by omega)).trans (by rw [← hD]; exact hd))
        subst hD
        exact this
      · refine ⟨some c, _, by have := run_endLoop (P := P) hl (by rw [hrec]; simp); rw [hrec] at this; exact this, ?_⟩
        have hp := hpo W2 (.loop { rec .done (some c) with state := .exhausted })
        rw [hrec] at hp
        have := hstop c k _ hk (hc.trans hp (fun j _ h => hbk j h)) (hIx _ _ _ _ hi hc.size hp) ((World.putObj_heap_other (by omega)).trans (by rw [← hD]; exact hd))
        subst hD
        exact this

end

end Go.Proofs.YtobphijbhghgmaaGreat.Kr

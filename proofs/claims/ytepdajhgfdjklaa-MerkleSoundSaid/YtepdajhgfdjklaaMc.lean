/-
  Contracts of layer 5: Root of a list, the program's and the document's.
-/
import Derived.Test.YtepdajhgfdjklaaMb
import Derived.StillTailTactics
import Derived.Laws.EntriesVeiled
namespace Go.Proofs.Ytepdajhgfdjklaa.Mc
open Go Go.RowKit Ck Im Ik Ia Ib Ic Ig Ih Ij Mm Ma Mb
attribute [local go_sem ↓] Go.wp_at_zero Go.wp_at_succ
set_option linter.unusedVariables false

theorem up_mono {S : Nat → Prop} {a b c : World} (h : b.heap.size ≤ c.heap.size) {k : Nat} (hk : Up S a b k) : Up S a c k := by
  rcases hk with hk | ⟨h1, h2⟩
  · exact .inl hk
  · exact .inr ⟨h1, by omega⟩
theorem up_two {S : Nat → Prop} {a b c : World} (h : a.heap.size ≤ b.heap.size) (h' : b.heap.size ≤ c.heap.size) {k : Nat} (hk : Up (Up S a b) b c k) : Up S a c k := by
  rcases hk with hk | ⟨h1, h2⟩
  · exact up_mono h' hk
  · exact .inr ⟨by omega, h2⟩
theorem ch_two {S : Nat → Prop} {a b c : World} (h : Ch S a b) (h' : Ch (Up S a b) b c) : Ch S a c :=
  h.trans h' (fun k hk hu => by
    rcases hu with hu | ⟨h1, _⟩
    · exact hu
    · omega)
theorem Ls.old {w : World} {X : Nat → Prop} {v : Value} {ls : List (List UInt8)} (h : Ls w X v ls) {B : Nat} (hB : w.heap.size ≤ B) : Ls w (fun k => X k ∨ B ≤ k) v ls := by
  obtain ⟨vals, h1, h2⟩ := h
  exact ⟨vals, h1.old hB, fun i hi => by obtain ⟨u, hu, h3⟩ := h2 i hi; exact ⟨u, hu, h3.old hB⟩⟩

/-- A cut up to k, and from k on, of a slice of slices. -/
theorem cut_upto (A : Option Addr) (n c k : Nat) (hk : k ≤ c) (W : World) : (Instr.slice 22 (.slice A n c) none (some (.int .i64 (k : Int))) none).run Try.prog W = .ok (.slice A k c) W := by
  have he : ∀ W : World, (sizeOf (Try.prog.elem 22)).run Try.prog W = .ok 1 W := fun _ => by kernel_rfl
  rw [run_slice_h W 22 A n c (by kernel_rfl) .i64 k (by omega) (by omega), he]
  simp only [Result.andThen_ok, sliced, Int.toNat_natCast]
  congr 2
  by_cases h0 : c = 0
  · simp [h0]
  · cases A <;> simp [h0, Addr.add]
theorem cut_from (A : Option Addr) (n c k : Nat) (hk : k ≤ n) (hc : n ≤ c) : ∃ A', (∀ W : World, (Instr.slice 22 (.slice A n c) (some (.int .i64 (k : Int))) none none).run Try.prog W = .ok (.slice A' (n - k) (c - k)) W) ∧ (∀ ad, A = some ad → k < n → A' = some (ad.add (k * 1))) := by
  have he : ∀ W : World, (sizeOf (Try.prog.elem 22)).run Try.prog W = .ok 1 W := fun _ => by kernel_rfl
  refine ⟨if c = k then A else A.map (·.add (k * 1)), fun W => ?_, ?_⟩
  · rw [run_slice_l W 22 A n c (by kernel_rfl) .i64 k (by omega) (by omega), he]
    rfl
  · rintro ad rfl hlt
    rw [if_neg (by omega)]
    rfl
theorem Ls.cap {w : World} {X : Nat → Prop} {A : Option Addr} {n c : Nat} {ls : List (List UInt8)} (h : Ls w X (.slice A n c) ls) : n = ls.length ∧ n ≤ c := by
  obtain ⟨vals, ⟨A0, c0, hv, hl, hc, _⟩, _⟩ := h
  obtain ⟨_, e2, e3⟩ := Value.slice.inj hv
  omega
theorem Ls.upto {w : World} {X : Nat → Prop} {A : Option Addr} {c k : Nat} {ls : List (List UInt8)} (h : Ls w X (.slice A ls.length c) ls) (hk : k ≤ ls.length) : Ls w X (.slice A (ls.take k).length c) (ls.take k) := by
  obtain ⟨vals, h1, h2⟩ := h
  have hl : (ls.take k).length = k := by rw [List.length_take]; omega
  refine ⟨vals.take (k * 1), by rw [hl]; exact h1.upto hk, fun i hi => ?_⟩
  obtain ⟨u, hu, h3⟩ := h2 i (by omega)
  rw [hl] at hi
  refine ⟨u, by rw [List.getElem?_take, if_pos (by omega)]; exact hu, ?_⟩
  rw [List.getElem_take]
  exact h3
theorem Ls.from {w : World} {X : Nat → Prop} {A A' : Option Addr} {c k : Nat} {ls : List (List UInt8)} (h : Ls w X (.slice A ls.length c) ls) (hk : k ≤ ls.length) (hA : ∀ ad, A = some ad → k < ls.length → A' = some (ad.add (k * 1))) : Ls w X (.slice A' (ls.drop k).length (c - k)) (ls.drop k) := by
  obtain ⟨vals, h1, h2⟩ := h
  have hl : (ls.drop k).length = ls.length - k := List.length_drop
  refine ⟨vals.drop (k * 1), by rw [hl]; exact h1.cut hk A' hA, fun i hi => ?_⟩
  obtain ⟨u, hu, h3⟩ := h2 (k + i) (by omega)
  refine ⟨u, by rw [List.getElem?_drop, Nat.mul_one]; exact hu, ?_⟩
  rw [List.getElem_drop]
  exact h3

/-- What Root leaves of the program's table, and of the document's. -/
def Rooted (S : Nat → Prop) (p : Nat) (r : Nat × List Tx) (w : World) (e : Ending) (w' : World) : Prop := e = .returned (.int .i64 (r.1 : Int)) ∧ Tb w' (Up S w w') p r.2 ∧ Ch S w w'
def RRooted (S : Nat → Prop) (p : Nat) (r : Nat × List Tx) (w : World) (e : Ending) (w' : World) : Prop := e = .returned (.int .i64 (r.1 : Int)) ∧ Rf w' (Up S w w') p r.2 ∧ Ch S w w'
theorem sum_lt {L : List Tx} (b : Tx) (h : L.length ≤ 1048576) : (sum L b : Int) ≤ 9223372036854775807 := by have := sum_le (s := b) h; omega
theorem root_le : ∀ (l L : List Tx), L.length ≤ 1048576 → (root L l).1 ≤ 1048576 ∧ (root L l).2.length ≤ 1048576
  | l, L, h => by
    by_cases h0 : l.length = 0
    · rw [List.eq_nil_of_length_eq_zero h0, root_nil]
      exact ⟨sum_le h, add_len h⟩
    · by_cases h1 : l.length = 1
      · rw [root_one L h1]
        exact ⟨sum_le h, add_len h⟩
      · obtain ⟨s1, s2, s3⟩ := split_spec (n := l.length) (by omega)
        rw [root_more L (by omega)]
        have a := root_le (l.take (split l.length)) L h
        have b := root_le (l.drop (split l.length)) _ a.2
        exact ⟨sum_le b.2, add_len b.2⟩
  termination_by l => l.length
  decreasing_by all_goals simp only [List.length_take, List.length_drop]; omega
theorem Tb.len {w : World} {S : Nat → Prop} {p : Nat} {L : List Tx} (h : Tb w S p L) : L.length ≤ 1048576 := by
  obtain ⟨m, tv, D, _, _, _, _, _, _, _, _, h⟩ := h
  exact h
theorem Rf.len {w : World} {S : Nat → Prop} {p : Nat} {L : List Tx} (h : Rf w S p L) : L.length ≤ 1048576 := by
  obtain ⟨lv, _, _, _, _, h⟩ := h
  exact h

theorem addr_zero (a : Addr) : a.add 0 = a := by unfold Addr.add; simp
theorem ch_of_drew {S : Nat → Prop} {w w2 : World} (h : Ch S w.drew w2) : Ch S w w2 := ⟨h.os, h.tape, h.output, h.size, h.block⟩
theorem Rooted.of_drew {S : Nat → Prop} {p : Nat} {r : Nat × List Tx} {w w2 : World} {e : Ending} (h : Rooted S p r w.drew e w2) : Rooted S p r w e w2 := ⟨h.1, h.2.1, ch_of_drew h.2.2⟩
/-- Root's own closure: the block of the table's variable, and of its own. -/
def Clo (w : World) (p Bt Bd : Nat) : Prop :=
  Blk w Bt 24 #[.pointer (some ⟨p, 0, none⟩)] ∧ Blk w Bd 69 #[.func (.func 33) #[] #[.pointer (some ⟨Bt, 0, none⟩), .pointer (some ⟨Bd, 0, none⟩)]]
theorem Clo.ch {w w' : World} {S : Nat → Prop} {p Bt Bd : Nat} (h : Clo w p Bt Bd) (c : Ch S w w') (ht : ¬ S Bt) (hd : ¬ S Bd) : Clo w' p Bt Bd := ⟨h.1.ch c ht, h.2.ch c hd⟩
theorem up_not {S : Nat → Prop} {w w' : World} {B : Nat} (h : ¬ S B) (hB : B < w.heap.size) : ¬ Up S w w' B := by
  rintro (h1 | h1)
  · exact h h1
  · omega

set_option maxRecDepth 100000 in
set_option maxHeartbeats 1000000 in
theorem down_any : ∀ (f : Nat) (w : World) (S X : Nat → Prop) (p : Nat) (L : List Tx) (A : Option Addr) (c : Nat) (ls : List Tx) (Bt Bd : Nat), ls.length ≤ f → 1 ≤ ls.length → ls.length ≤ 140737488355328 → Tb w S p L → Ls w X (.slice A ls.length c) ls →
    (∀ k, S k → X k) → Clo w p Bt Bd → ¬ S Bt → ¬ S Bd → (∀ x ∈ ls, x.length ≤ 140737488355327) →
    Calls Try.prog 33 #[.slice A ls.length c, .pointer (some ⟨Bt, 0, none⟩), .pointer (some ⟨Bd, 0, none⟩)] w (Rooted S p (root L ls) w)
  | 0, w, S, X, p, L, A, c, ls, Bt, Bd, hf, h1, _, _, _, _, _, _, _, _ => by omega
  | f + 1, w, S, X, p, L, A, c, ls, Bt, Bd, hf, h1, hbig, hT, hls, hSX, hC, hnt, hnd, hall => by
    have ct : w.cell? ⟨Bt, 0, none⟩ = some (.pointer (some ⟨p, 0, none⟩)) := hC.1.cell 0
    have cd : w.cell? ⟨Bd, 0, none⟩ = some (.func (.func 33) #[] #[.pointer (some ⟨Bt, 0, none⟩), .pointer (some ⟨Bd, 0, none⟩)]) := hC.2.cell 0
    by_cases hone : ls.length = 1
    · obtain ⟨x, rfl⟩ : ∃ x, ls = [x] := ⟨_, one_of hone⟩
      obtain ⟨ad, B, d, rfl, hcell, hx⟩ := hls.at_ (i := 0) (by simp)
      have hcell : w.cell? (ad.add 0) = some (.slice B x.length d) := hcell
      have hx : Sl w X 1 (.slice B x.length d) x.length (BVs x) := hx
      rw [addr_zero] at hcell
      have HL := Lib.hid (leaf_any w.drew S X p L (.slice B x.length d) x.length x hT hx (hall x (by simp)))
      have HR := Lib.hid (root_one L (l := [x]) rfl)
      clear hf h1 hbig hT hls hSX hC hnt hnd hall hone hx
      go_enter Try.func33, Try.ntmps33
      go_wp2_with fail
      go_still_tail 4, (by kernel_rfl)
      change wpList _ _ _ _ _ w.drew
      go_wp2_with fail
      refine HL.out.mono ?_
      rintro e w2 ⟨rfl, ht, hc⟩
      have HE := Lib.hid (And.intro ht hc)
      clear ht hc
      go_wp2_with fail
      go_ret
      rw [HR.out]
      exact ⟨rfl, HE.out.1, ⟨HE.out.2.os, HE.out.2.tape, HE.out.2.output, HE.out.2.size, HE.out.2.block⟩⟩
    · obtain ⟨s1, s2, s3⟩ := split_spec (n := ls.length) (by omega)
      have HM := Lib.hid (root_more L (l := ls) (by omega))
      have hsp := split_any w ls.length (by omega)
      rw [show ((ls.length : Int)).toNat = ls.length from by omega] at hsp
      obtain ⟨hle, hcap⟩ := Ls.cap hls
      have hL := Tb.len hT
      generalize hk : split ls.length = k at *
      clear hk
      have hlt : (ls.take k).length = k := by rw [List.length_take]; omega
      have hld : (ls.drop k).length = ls.length - k := List.length_drop
      have h1' := down_any f w.drew S X p L A c (ls.take k) Bt Bd (by omega) (by omega) (by omega) hT (Ls.upto hls (by omega)) hSX hC hnt hnd (fun x hx => hall x (List.mem_of_mem_take hx))
      rw [hlt] at h1'
      have r1 := cut_upto A ls.length c k (by omega)
      obtain ⟨A', r2, a2⟩ := cut_from A ls.length c k (by omega) hcap
      have hls2 := Ls.old (Ls.from hls (by omega) a2) (Nat.le_refl _)
      have hr1 := root_le (ls.take k) L hL
      have hr2 := root_le (ls.drop k) _ hr1.2
      have H2 : Hid (∀ w1, Rooted S p (root L (ls.take k)) w (.returned (.int .i64 ((root L (ls.take k)).1 : Int))) w1 → Clo w1 p Bt Bd ∧
          Calls Try.prog 33 #[.slice A' (ls.length - k) (c - k), .pointer (some ⟨Bt, 0, none⟩), .pointer (some ⟨Bd, 0, none⟩)] w1.drew (Rooted (Up S w w1) p (root (root L (ls.take k)).2 (ls.drop k)) w1)) := Lib.hid fun w1 hr => by
        obtain ⟨_, ht1, hc1⟩ := hr
        have hC1 := hC.ch hc1 hnt hnd
        refine ⟨hC1, ?_⟩
        have := down_any f w1.drew (Up S w w1) (fun k => X k ∨ w.heap.size ≤ k) p _ A' (c - k) (ls.drop k) Bt Bd (by omega) (by omega) (by omega) ht1 (hls2.ch hc1.drew (fun k _ hk => .inl (hSX k hk))) (fun k hk => by
          rcases hk with hk | hk
          · exact .inl (hSX k hk)
          · exact .inr hk.1) hC1 (up_not hnt hC.1.lt) (up_not hnd hC.2.lt) (fun x hx => hall x (List.mem_of_mem_drop hx))
        rw [hld] at this
        exact this.mono fun _ _ h => Rooted.of_drew h
      have H1 := Lib.hid h1'
      have HS := Lib.hid hsp
      have hk2 : k ≤ c := by omega
      have hk3 : k ≤ ls.length := by omega
      have h2 : 2 ≤ ls.length := by omega
      have HB := Lib.hid (And.intro hr1 hr2)
      have HNN := Lib.hid (And.intro hnt (And.intro hC.1.lt hnd))
      clear h1' hsp hf h1 hbig hT hls hSX hC hnt hnd hall hlt hld hls2 a2 hr1 hr2 hle s1 s2 s3
      go_enter Try.func33, Try.ntmps33
      go_wp2_with fail
      refine HS.out.mono ?_
      rintro e w' ⟨rfl, rfl⟩
      go_wp2_with fail
      go_still_tail 4, (by kernel_rfl)
      change wpList _ _ _ _ _ w.drew
      go_wp2_with fail
      refine H1.out.mono ?_
      rintro e w1 hr
      obtain ⟨rfl, ht1, hc1⟩ := Rooted.of_drew hr
      obtain ⟨hC1, h2c⟩ := H2.out w1 ⟨rfl, ht1, hc1⟩
      have ct1 : w1.cell? ⟨Bt, 0, none⟩ = some (.pointer (some ⟨p, 0, none⟩)) := hC1.1.cell 0
      have cd1 : w1.cell? ⟨Bd, 0, none⟩ = some (.func (.func 33) #[] #[.pointer (some ⟨Bt, 0, none⟩), .pointer (some ⟨Bd, 0, none⟩)]) := hC1.2.cell 0
      have H2C := Lib.hid h2c
      have HC1 := Lib.hid hc1
      have HCL := Lib.hid hC1
      clear hr ht1 hc1 h2c hC1 H2 ct cd
      go_wp2_with fail
      go_still_tail 4, (by kernel_rfl)
      change wpList _ _ _ _ _ w1.drew
      go_wp2_with fail
      refine H2C.out.mono ?_
      rintro e w2 ⟨rfl, ht2, hc2⟩
      have HN := Lib.hid (node_any w2 _ p _ ((root L (ls.take k)).1 : Int) ((root (root L (ls.take k)).2 (ls.drop k)).1 : Int) ht2 (by have := HB.out.1.1; omega) (by have := HB.out.2.1; omega))
      have ct2 : w2.cell? ⟨Bt, 0, none⟩ = some (.pointer (some ⟨p, 0, none⟩)) := (HCL.out.1.ch hc2 (up_not HNN.out.1 HNN.out.2.1)).cell 0
      have HC2 := Lib.hid hc2
      clear ht2 hc2
      go_wp2_with fail
      refine HN.out.mono ?_
      rintro e w3 ⟨rfl, ht3, hc3⟩
      have HR3 := Lib.hid (And.intro ht3 hc3)
      clear ht3 hc3
      go_wp2_with fail
      go_ret
      rw [HM.out]
      refine ⟨rfl, ?_, ?_⟩
      · exact HR3.out.1.weaken fun j hj => up_two HC1.out.size (Nat.le_trans HC2.out.size HR3.out.2.size) (by
          rcases hj with hj | hj
          · exact up_mono HR3.out.2.size hj
          · exact .inr ⟨Nat.le_trans HC2.out.size hj.1, hj.2⟩)
      · exact ch_two HC1.out (HC2.out.trans HR3.out.2 (fun j hj hu => by
          rcases hu with hu | hu
          · exact hu
          · have := hu.1; omega))

/-- The closure's value. -/
def FV (f : FuncId) (caps : List Nat) : Value := .func (.func f) #[] (caps.map fun b => Value.pointer (some ⟨b, 0, none⟩)).toArray
theorem clo_new (w : World) (p : Nat) :
    Clo ((w.alloc (.cells #[.pointer (some ⟨p, 0, none⟩)] 24)).alloc (.cells #[.func (.func 33) #[] #[.pointer (some ⟨w.heap.size, 0, none⟩), .pointer (some ⟨w.heap.size + 1, 0, none⟩)]] 69)) p w.heap.size (w.heap.size + 1)
    ∧ Below w.heap.size w ((w.alloc (.cells #[.pointer (some ⟨p, 0, none⟩)] 24)).alloc (.cells #[.func (.func 33) #[] #[.pointer (some ⟨w.heap.size, 0, none⟩), .pointer (some ⟨w.heap.size + 1, 0, none⟩)]] 69)) :=
  ⟨⟨(Blk.new w _ _).alloc _, Blk.new_at (by simp) rfl⟩, ((Below.refl _ w).alloc (Nat.le_refl _) _).alloc (by simp) _⟩
theorem Rooted.later {S : Nat → Prop} {p : Nat} {r : Nat × List Tx} {w w1 w2 : World} {e : Ending} (b1 : Below w.heap.size w w1) (h : Rooted S p r w1 e w2) : Rooted S p r w e w2 := by
  obtain ⟨he, ht, hc⟩ := h
  refine ⟨he, ht.weaken fun k hk => ?_, (Ch.of_below (S := fun _ => False) b1 (Nat.le_refl _)).mono (fun _ _ h => h.elim) |>.trans hc (fun _ _ h => h)⟩
  rcases hk with hk | ⟨h1, h2⟩
  · exact .inl hk
  · exact .inr ⟨Nat.le_trans b1.size h1, h2⟩
theorem RRooted.later {S : Nat → Prop} {p : Nat} {r : Nat × List Tx} {w w1 w2 : World} {e : Ending} (b1 : Below w.heap.size w w1) (h : RRooted S p r w1 e w2) : RRooted S p r w e w2 := by
  obtain ⟨he, ht, hc⟩ := h
  refine ⟨he, Rf.weaken ht fun k hk => ?_, (Ch.of_below (S := fun _ => False) b1 (Nat.le_refl _)).mono (fun _ _ h => h.elim) |>.trans hc (fun _ _ h => h)⟩
  rcases hk with hk | ⟨h1, h2⟩
  · exact .inl hk
  · exact .inr ⟨Nat.le_trans b1.size h1, h2⟩

set_option maxHeartbeats 400000 in
theorem root_any (w : World) (S X : Nat → Prop) (p : Nat) (L : List Tx) (A : Option Addr) (c : Nat) (ls : List Tx) (hbig : ls.length ≤ 140737488355328) (hT : Tb w S p L) (hS : ∀ k, S k → k < w.heap.size) (hls : Ls w X (.slice A ls.length c) ls)
    (hSX : ∀ k, S k → X k) (hall : ∀ x ∈ ls, x.length ≤ 140737488355327) :
    Calls Try.prog 12 #[.pointer (some ⟨p, 0, none⟩), .slice A ls.length c] w (Rooted S p (root L ls) w) := by
  by_cases h0 : ls.length = 0
  · have h00 : ls = [] := List.eq_nil_of_length_eq_zero h0
    subst h00
    have hb : Below w.heap.size w ((w.alloc (.cells #[.pointer (some ⟨p, 0, none⟩)] 24)).alloc (.cells #[.int .u8 2] 5)) := ((Below.refl _ w).alloc (Nat.le_refl _) _).alloc (by simp) _
    have hs := (sum_yes _ S (fun _ => False) p L _ 1 noneB (Tb.after hT hb) (Cd.one_new (w.alloc (.cells #[.pointer (some ⟨p, 0, none⟩)] 24)) (fun _ => False) 5 (z := 2) (n := 2) rfl (by omega) (fun h => h)) (by decide))
    rw [show (w.alloc (.cells #[.pointer (some ⟨p, 0, none⟩)] 24)).heap.size = w.heap.size + 1 from by simp, show noneB.length = 1 from rfl] at hs
    have HS := Lib.hid hs
    clear hs
    have HB := Lib.hid hb
    have HR := Lib.hid (root_nil L)
    clear hbig hT hS hls hSX hall h0 hb
    go_enter Try.func12, Try.ntmps12
    go_wp2_with fail
    refine HS.out.mono ?_
    rintro e w' ⟨rfl, ht, hc⟩
    have HE := Lib.hid (And.intro ht hc)
    clear ht hc
    go_wp2_with fail
    go_ret
    rw [HR.out]
    exact Rooted.later HB.out ⟨rfl, HE.out.1, HE.out.2⟩
  · obtain ⟨hC, hb⟩ := clo_new w p
    have HD := Lib.hid (down_any ls.length _ S X p L A c ls w.heap.size (w.heap.size + 1) (Nat.le_refl _) (by omega) hbig (Tb.after hT hb) (hls.after hb) hSX hC (fun h => by have := hS _ h; omega) (fun h => by have := hS _ h; omega) hall)
    have HB := Lib.hid hb
    have h1 : 1 ≤ ls.length := by omega
    clear hbig hT hS hls hSX hall h0 hb hC
    go_enter Try.func12, Try.ntmps12
    go_wp2_with fail
    refine HD.out.mono ?_
    rintro e w' ⟨rfl, ht, hc⟩
    have HE := Lib.hid (And.intro ht hc)
    clear ht hc
    go_wp2_with fail
    go_ret
    exact Rooted.later HB.out ⟨rfl, HE.out.1, HE.out.2⟩

end Go.Proofs.Ytepdajhgfdjklaa.Mc

/-
  Layer 15 (prepared): whether a vote's signature is valid (layer 11, the document's), where its numbers may be.
-/
import Derived.Test.YtmhmnkpaijoaaaaGreatQ09
import Derived.Test.YtmhmnkpaijoaaaaGreatQ08
import Derived.Deep.QuietTactic
import Derived.Deep.MidRow
import Derived.Test.YtmhmnkpaijoaaaaGreatQ06
import Derived.Test.YtmhmnkpaijoaaaaGreatQ05
import Derived.Test.YtmhmnkpaijoaaaaGreatQ02
import Derived.Lib.AppendZeros
import Derived.Lib.AppendZerosOnto
import Derived.Lib.BufferWrite
import Derived.Lib.UnsafeStr
import Derived.Lib.Strings
import Derived.Lib.Walk
import Derived.Laws.MakeOwn
import Derived.Outline
import Derived.Lib.MinMax
import Derived.Deep.RegionHeld3
namespace Go.Proofs.YtmhmnkpaijoaaaaGreat.Prm
set_option linter.unusedSimpArgs false
open Go Go.RowKit Ck Kw Ga Ik Lk Pra Prh Pri Prj Prk Prl
open Im (num isIn)
attribute [local go_sem ↓] Go.wp_at_zero Go.wp_at_succ
set_option linter.unusedVariables false
set_option maxRecDepth 100000

theorem nat_of {n : Int} (h : numP n = true) : ∃ m : Nat, n = (m : Int) ∧ m ≤ 9007199254740992 := by
  simp only [numP, Bool.and_eq_true, decide_eq_true_eq] at h
  exact ⟨n.toNat, by omega, by omega⟩
theorem may_parts {k v q d : Int} (h : mayP k v q d = true) : ∃ k' v' q' d' : Nat, k = (k' : Int) ∧ v = (v' : Int) ∧ q = (q' : Int) ∧ d = (d' : Int) ∧ k' ≤ 9007199254740992 ∧ v' ≤ 9007199254740992 ∧ q' ≤ 9007199254740992 ∧ d' ≤ 9007199254740992 := by
  simp only [mayP, Bool.and_eq_true] at h
  obtain ⟨k', e1, h1⟩ := nat_of h.1.1.1
  obtain ⟨v', e2, h2⟩ := nat_of h.1.1.2
  obtain ⟨q', e3, h3⟩ := nat_of h.1.2
  obtain ⟨d', e4, h4⟩ := nat_of h.2
  exact ⟨k', v', q', d', e1, e2, e3, e4, h1, h2, h3, h4⟩
theorem own_base {w : World} {B B' : Nat} {t : TypeId} {v : Value} {n : Nat} {l : List Value} {size : Nat} (hB : B' ≤ B) (h : w.ownsRow B t size v n l) : w.ownsRow B' t size v n l := by
  refine ⟨h.1, ?_⟩
  rcases h.2 with h | ⟨gg, cc, cur, e1, e2, e3⟩
  · exact .inl h
  · exact .inr ⟨gg, cc, cur, e1, Nat.le_trans hB e2, e3⟩
theorem two_later {w w2 : World} {t : TypeId} {a b : Value} (h : Below ((w.alloc (.cells #[a, b] t)).drew).heap.size (w.alloc (.cells #[a, b] t)).drew w2) : w2.cell? ⟨w.heap.size, 0, none⟩ = some a ∧ w2.cell? ⟨w.heap.size, 1, none⟩ = some b := by
  have hk : Blk (w.alloc (.cells #[a, b] t)) w.heap.size t #[a, b] := Blk.new w _ _
  have hk2 : Blk w2 w.heap.size t #[a, b] := (show Blk (w.alloc (.cells #[a, b] t)).drew w.heap.size t #[a, b] from hk).below h (show w.heap.size < (w.alloc (.cells #[a, b] t)).heap.size by simp)
  exact ⟨hk2.cell 0, hk2.cell 1⟩
set_option maxHeartbeats 4000000 in
theorem validvote_yes (w : World) (p g : Nat) (L : List (List UInt8)) (G : List Sg) (s : Sg) (key k v q d : Int)
    (ht : ∀ W, Below w.heap.size w W → ∃ S1, Rf W S1 p L) (hg : ∀ W, Below w.heap.size w W → ∃ S2, Rl W S2 g G) (hG : G.length ≤ 140737488355328) (hm : mayP k v q d = true) :
    Calls Tryz.prog 54 #[.pointer (some ⟨p, 0, none⟩), .pointer (some ⟨g, 0, none⟩), GV s, .int .i64 key, .int .i64 k, .int .i64 v, .int .i64 q, .int .i64 d] w fun e w' => e = .returned (.bool (validVoteB L G s key k v q d)) ∧ Below w.heap.size w w' := by
  have hb0 : Below w.heap.size w (w.alloc (.cells #[.int .i64 s.1, .int .i64 s.2] 36)) := (Below.refl _ w).alloc (Nat.le_refl _) _
  have HB0 := Lib.hid hb0
  have HM : Hid (∀ W, Calls Tryz.prog 73 #[.int .i64 k, .int .i64 v, .int .i64 q, .int .i64 d] W fun e w' => e = .returned (.bool true) ∧ W = w') := Lib.hid fun W => by
    have := may_any W k v q d
    rw [hm] at this
    exact this
  have HV : Hid (validVoteB L G s key k v q d = signedB L G s key (voteB k.toNat v.toNat q.toNat d.toNat)) := Lib.hid (by rw [validVoteB, hm]; rfl)
  have HVB : Hid (∀ W, Calls Tryz.prog 75 #[.int .i64 k, .int .i64 v, .int .i64 q, .int .i64 d] W fun e w' => Made W 5 (voteB k.toNat v.toNat q.toNat d.toNat) e w') := Lib.hid fun W => by
    obtain ⟨k', v', q', d', e1, e2, e3, e4, h1, h2, h3, h4⟩ := may_parts hm
    have := votebytes_any W k' v' q' d' h1 h2 h3 h4
    subst e1 e2 e3 e4
    simpa using this
  have HSG : Hid (∀ W, Below w.heap.size w W → ∀ (v1 : Value) (b : List UInt8), W.ownsRow w.heap.size 5 1 v1 b.length (BVs b) → Calls Tryz.prog 91 #[.pointer (some ⟨p, 0, none⟩), .pointer (some ⟨g, 0, none⟩), GV s, .int .i64 key, v1] W fun e w' => e = .returned (.bool (signedB L G s key b)) ∧ Below w.heap.size w w') := Lib.hid fun W hW v1 b hv => by
    refine (signed_any W (fun _ => False) p g L G s key v1 b.length b (fun W' h' => ht W' (hW.trans (h'.mono hW.size))) (fun W' h' => hg W' (hW.trans (h'.mono hW.size))) hG (Sl.of_own hv (fun _ _ _ h => h))).mono ?_
    rintro e w' ⟨he, hb⟩
    exact ⟨he, hW.trans (hb.mono hW.size)⟩
  clear hb0 hm ht hg hG
  unfold GV at HSG ⊢
  go_enter Tryz.func54, Tryz.ntmps54
  go_wp2_with fail
  go_region_law (first
    | (go_simp; refine (HM.out _).mono ?_; rintro e w1 ⟨rfl, rfl⟩)
    | (go_simp; refine (HVB.out _).mono ?_; rintro e w2 ⟨v2, rfl, ho2, hb2⟩; obtain ⟨u0, u1⟩ := two_later hb2; have HB2 := Lib.hid ((below_drewN HB0.out 1).trans (hb2.mono HB0.out.size)); have HS2 := Lib.hid (HSG.out w2 HB2.out v2 _ (own_base HB0.out.size ho2)); clear ho2 hb2)
    | (go_simp; refine HS2.out.mono ?_; rintro e w3 ⟨rfl, hb3⟩))
  all_goals
    go_wp2_with fail
    go_ret
    exact ⟨by rw [HV.out]; rfl, hb3⟩
theorem rvalidvote_any (w : World) (p g : Nat) (L : List (List UInt8)) (G : List Sg) (s : Sg) (key k v q d : Int)
    (ht : ∀ W, Below w.heap.size w W → ∃ S1, Rf W S1 p L) (hg : ∀ W, Below w.heap.size w W → ∃ S2, Rl W S2 g G) (hG : G.length ≤ 140737488355328) :
    Calls Tryz.prog 54 #[.pointer (some ⟨p, 0, none⟩), .pointer (some ⟨g, 0, none⟩), GV s, .int .i64 key, .int .i64 k, .int .i64 v, .int .i64 q, .int .i64 d] w fun e w' => e = .returned (.bool (validVoteB L G s key k v q d)) ∧ Below w.heap.size w w' := by
  by_cases hm : mayP k v q d = true
  · exact validvote_yes w p g L G s key k v q d ht hg hG hm
  · have hm' : mayP k v q d = false := by simpa using hm
    have := validvote_no w (.pointer (some ⟨p, 0, none⟩)) (.pointer (some ⟨g, 0, none⟩)) s key k v q d hm'
    have e : validVoteB L G s key k v q d = false := by rw [validVoteB, hm']; rfl
    rw [e]
    exact this
end Go.Proofs.YtmhmnkpaijoaaaaGreat.Prm

/-
  Layer 8 (request): the contracts of isTwice and CheckBatch.
-/
namespace Go.Proofs.YtmhmnkpaijoaaaaGreat.Jc
set_option linter.unusedSimpArgs false
open Go Go.RowKit Ck Kw Ga Kf Pm Pe Pg Ph Qb Lk Jm Ja Jb
attribute [local go_sem ↓] Go.wp_at_zero Go.wp_at_succ
set_option linter.unusedVariables false

theorem slice_upto (A : Option Addr) (n c k : Nat) (hk : k ≤ c) (W : World) : (Instr.slice 39 (.slice A n c) none (some (.int .i64 (k : Int))) none).run Tryz.prog W = .ok (.slice A k c) W := by
  have he : ∀ W : World, (sizeOf (Tryz.prog.elem 39)).run Tryz.prog W = .ok 9 W := fun _ => by kernel_rfl
  rw [run_slice_h W 39 A n c (by kernel_rfl) .i64 k (by omega) (by omega), he]
  simp only [Result.andThen_ok, sliced, Int.toNat_natCast]
  congr 2
  by_cases h0 : c = 0
  · simp [h0]
  · cases A <;> simp [h0, Addr.add]
theorem size_signed : (Tryz.prog.info? 113).map (·.size) = some 9 := by kernel_rfl
theorem hasM_of {l : List Sd} {i k : Nat} (hk : k < i) (hl : k < l.length) {x : Sd} (h : (mom x == mom l[k]) = true) : hasM (l.take i) x = true := by
  unfold hasM
  rw [List.any_eq_true]
  refine ⟨l[k], ?_, h⟩
  rw [List.mem_take_iff_getElem]
  exact ⟨k, by omega, rfl⟩
/-- A signed request lies there. -/
structure K1 (w0 : World) (g : Nat) (d : Sd) (A : Option Addr) (c : Nat) (W : World) : Prop where
  below : Below w0.heap.size w0 W
  new : w0.heap.size ≤ g
  one : DK W g d A c
theorem K1.later {w0 W W' : World} {g : Nat} {d : Sd} {A : Option Addr} {c : Nat} (h : K1 w0 g d A c W) (b : Below W.heap.size W W') : K1 w0 g d A c W' := ⟨h.below.trans (b.mono h.below.size), h.new, h.one.below b h.one.lt⟩
theorem k1_new {w0 W : World} (h : Below w0.heap.size w0 W) (d : Sd) (A : Option Addr) (c : Nat) : K1 w0 W.heap.size d A c (W.alloc (.cells (DC d A c) 113)) := ⟨h.alloc h.size _, h.size, Blk.new W _ _⟩
structure K2 (w0 : World) (g1 g2 : Nat) (x y : Sd) (A B : Option Addr) (c d : Nat) (W : World) : Prop where
  one : K1 w0 g1 x A c W
  two : DK W g2 y B d
theorem K2.later {w0 W W' : World} {g1 g2 : Nat} {x y : Sd} {A B : Option Addr} {c d : Nat} (h : K2 w0 g1 g2 x y A B c d W) (b : Below W.heap.size W W') : K2 w0 g1 g2 x y A B c d W' := ⟨h.one.later b, h.two.below b h.two.lt⟩
theorem K2.drew {w0 W : World} {g1 g2 : Nat} {x y : Sd} {A B : Option Addr} {c d : Nat} (h : K2 w0 g1 g2 x y A B c d W) : K2 w0 g1 g2 x y A B c d W.drew := h.later ⟨rfl, rfl, rfl, Nat.le_refl _, fun _ _ => rfl⟩

set_option maxRecDepth 100000 in
set_option maxHeartbeats 8000000 in
theorem twice_any (w : World) (X : Nat → Prop) (A : Option Addr) (c : Nat) (l : List Sd) (h : BI w X (.slice A l.length c) l) (h4 : l.length ≤ 4) :
    Calls Tryz.prog 123 #[.slice A l.length c] w fun e w' => e = .returned (.bool (twice l)) ∧ Below w.heap.size w w' := by
  obtain ⟨_, _, e, hc⟩ := h.shape
  injection e with e1 _ e2
  subst e1; subst e2
  have HB := Lib.hid h
  have HT : Hid (twI (l.take 0) (l.drop 0) = twice l) := Lib.hid rfl
  have hq := run_eql_moment
  have hg := guard_moment
  have HCC := Lib.hid hc
  clear h hc
  go_enter Tryz.func123, Tryz.ntmps123
  go_wp2_with fail
  go_loopw [9] (fun j wr => ∃ i : Nat, i ≤ l.length ∧ j = .int .i64 i ∧ twI (l.take i) (l.drop i) = twice l ∧ Below w.heap.size w wr) (fun j _ => l.length - (intOf j).toNat)
  case atStart => exact ⟨0, Nat.zero_le _, rfl, HT.out, Below.refl _ w⟩
  case round =>
    obtain ⟨i, hi, rfl, htw, hb⟩ := hrel
    clear HT
    by_cases hlt : i < l.length
    · rw [twI_step hlt] at htw
      obtain ⟨ad, Ar, cr, rfl, ⟨a0, a1, a2, a3, a4, a5, a6, a7, a8⟩, hls⟩ := (HB.out.after hb).at_ hlt
      have HTW := Lib.hid htw
      have hk1 := k1_new hb l[i] Ar cr
      have HLT := Lib.hid hlt
      have HBB := Lib.hid hb
      clear htw hls hb
      have hsl := slice_upto (some ad) l.length c i (by have := HCC.out; omega)
      generalize hx : l[i] = x at *
      have HX := Lib.hid hx
      clear hx
      unfold DC at hk1
      go_wp2_with fail
      generalize wr.alloc (.cells #[.int .i64 x.q.client, .int .i64 x.q.time, .int .i64 x.q.o.kind, .string ⟨x.q.o.topic.toArray⟩, .string ⟨x.q.o.group.toArray⟩, .int .i64 x.q.o.off, .slice Ar x.q.o.recs.length cr, .int .i64 x.s.1, .int .i64 x.s.2] 113) = w1 at *
      generalize wr.heap.size = g1 at *
      have HK := Lib.hid hk1
      clear hk1 a0 a1 a2 a3 a4 a5 a6 a7 a8
      have HM0 : Hid (hasM (l.take 0) x = false) := Lib.hid rfl
      go_loopw [18] (fun j wr => ∃ k : Nat, k ≤ i ∧ j = .int .i64 k ∧ hasM (l.take k) x = false ∧ K1 w g1 x Ar cr wr) (fun j _ => i - (intOf j).toNat)
      case atStart => exact ⟨0, Nat.zero_le _, rfl, HM0.out, HK.out⟩
      case round =>
        obtain ⟨k, hk, rfl, hm, hk1⟩ := hrel
        clear HM0 HK
        by_cases hlt2 : k < i
        · have hl2 : k < l.length := by omega
          obtain ⟨ad', Ar2, cr2, hA, ⟨a0, a1, a2, a3, a4, a5, a6, a7, a8⟩, hls⟩ := (HB.out.after hk1.below).at_ hl2
          obtain rfl : ad = ad' := Option.some.inj hA
          have hst := hasM_take (x := x) hl2
          have hof : (mom x == mom l[k]) = true → hasM (l.take i) x = true := fun e => hasM_of hlt2 hl2 e
          generalize hy : l[k] = y at *
          have HHM : Hid (hasM (l.take (k + 1)) x = (mom x == mom y)) := Lib.hid (by rw [hst, hm, Bool.false_or])
          have HOF := Lib.hid hof
          have hk2 : K2 w g1 wr.heap.size x y Ar Ar2 cr cr2 (wr.alloc (.cells (DC y Ar2 cr2) 113)) := ⟨hk1.later (op_below _ _), Blk.new wr _ _⟩
          clear hst hm hls hA hy hof hk1 hl2
          unfold DC at hk2
          go_wp2_with fail
          generalize wr.alloc (.cells #[.int .i64 y.q.client, .int .i64 y.q.time, .int .i64 y.q.o.kind, .string ⟨y.q.o.topic.toArray⟩, .string ⟨y.q.o.group.toArray⟩, .int .i64 y.q.o.off, .slice Ar2 y.q.o.recs.length cr2, .int .i64 y.s.1, .int .i64 y.s.2] 113) = w2 at *
          generalize wr.heap.size = g2 at *
          clear a0 a1 a2 a3 a4 a5 a6 a7 a8
          have HK2 := Lib.hid hk2
          have HMX := fun W : World => Lib.hid (moment_any x Ar cr W)
          have HMY := fun W : World => Lib.hid (moment_any y Ar2 cr2 W)
          unfold DV DC MV at HMX HMY
          clear hk2
          by_cases heq : (mom x == mom y) = true
          · rw [heq] at HHM HOF
            have hqq : ∀ W : World, (binOp .eql 190 (MV x) (MV y)).run Tryz.prog W = .ok (.bool true) W := fun W => by rw [hq, heq]
            unfold MV at hqq
            clear heq hq
            have tok1 : True := trivial
            go_region_held3 (fun w' => (w'.cell? ⟨g1, 0, none⟩ = some (.int .i64 x.q.client) ∧ w'.cell? ⟨g1, 1, none⟩ = some (.int .i64 x.q.time) ∧ w'.cell? ⟨g1, 2, none⟩ = some (.int .i64 x.q.o.kind) ∧ w'.cell? ⟨g1, 3, none⟩ = some (.string ⟨x.q.o.topic.toArray⟩) ∧ w'.cell? ⟨g1, 4, none⟩ = some (.string ⟨x.q.o.group.toArray⟩) ∧ w'.cell? ⟨g1, 5, none⟩ = some (.int .i64 x.q.o.off) ∧ w'.cell? ⟨g1, 6, none⟩ = some (.slice Ar x.q.o.recs.length cr) ∧ w'.cell? ⟨g1, 7, none⟩ = some (.int .i64 x.s.1) ∧ w'.cell? ⟨g1, 8, none⟩ = some (.int .i64 x.s.2)) ∧ (w'.cell? ⟨g2, 0, none⟩ = some (.int .i64 y.q.client) ∧ w'.cell? ⟨g2, 1, none⟩ = some (.int .i64 y.q.time) ∧ w'.cell? ⟨g2, 2, none⟩ = some (.int .i64 y.q.o.kind) ∧ w'.cell? ⟨g2, 3, none⟩ = some (.string ⟨y.q.o.topic.toArray⟩) ∧ w'.cell? ⟨g2, 4, none⟩ = some (.string ⟨y.q.o.group.toArray⟩) ∧ w'.cell? ⟨g2, 5, none⟩ = some (.int .i64 y.q.o.off) ∧ w'.cell? ⟨g2, 6, none⟩ = some (.slice Ar2 y.q.o.recs.length cr2) ∧ w'.cell? ⟨g2, 7, none⟩ = some (.int .i64 y.s.1) ∧ w'.cell? ⟨g2, 8, none⟩ = some (.int .i64 y.s.2))) (first | exact ⟨DK.cells HK2.out.one.one, DK.cells HK2.out.two⟩ | exact ⟨DK.cells HK3.out.one.one, DK.cells HK3.out.two⟩ | exact ⟨DK.cells HK4.out.one.one, DK.cells HK4.out.two⟩)
              (first
              | (go_at_call 118; have _t := tok1; clear tok1 _t; refine (HMX _).out.mono ?_; rintro e w3 ⟨rfl, hb3⟩; have HK3 := Lib.hid (HK2.out.drew.later hb3); clear hb3)
              | (go_at_call 118; refine (HMY _).out.mono ?_; rintro e w4 ⟨rfl, hb4⟩; have HK4 := Lib.hid (HK3.out.later hb4); clear hb4))
            all_goals
              go_wp2_with fail
              go_ret
              exact ⟨by rw [← HTW.out, HOF.out trivial]; rfl, HK4.out.one.below⟩
          · have heq := Bool.eq_false_iff.2 heq
            rw [heq] at HHM
            have hqq : ∀ W : World, (binOp .eql 190 (MV x) (MV y)).run Tryz.prog W = .ok (.bool false) W := fun W => by rw [hq, heq]
            unfold MV at hqq
            clear heq hq
            have tok1 : True := trivial
            go_region_held3 (fun w' => (w'.cell? ⟨g1, 0, none⟩ = some (.int .i64 x.q.client) ∧ w'.cell? ⟨g1, 1, none⟩ = some (.int .i64 x.q.time) ∧ w'.cell? ⟨g1, 2, none⟩ = some (.int .i64 x.q.o.kind) ∧ w'.cell? ⟨g1, 3, none⟩ = some (.string ⟨x.q.o.topic.toArray⟩) ∧ w'.cell? ⟨g1, 4, none⟩ = some (.string ⟨x.q.o.group.toArray⟩) ∧ w'.cell? ⟨g1, 5, none⟩ = some (.int .i64 x.q.o.off) ∧ w'.cell? ⟨g1, 6, none⟩ = some (.slice Ar x.q.o.recs.length cr) ∧ w'.cell? ⟨g1, 7, none⟩ = some (.int .i64 x.s.1) ∧ w'.cell? ⟨g1, 8, none⟩ = some (.int .i64 x.s.2)) ∧ (w'.cell? ⟨g2, 0, none⟩ = some (.int .i64 y.q.client) ∧ w'.cell? ⟨g2, 1, none⟩ = some (.int .i64 y.q.time) ∧ w'.cell? ⟨g2, 2, none⟩ = some (.int .i64 y.q.o.kind) ∧ w'.cell? ⟨g2, 3, none⟩ = some (.string ⟨y.q.o.topic.toArray⟩) ∧ w'.cell? ⟨g2, 4, none⟩ = some (.string ⟨y.q.o.group.toArray⟩) ∧ w'.cell? ⟨g2, 5, none⟩ = some (.int .i64 y.q.o.off) ∧ w'.cell? ⟨g2, 6, none⟩ = some (.slice Ar2 y.q.o.recs.length cr2) ∧ w'.cell? ⟨g2, 7, none⟩ = some (.int .i64 y.s.1) ∧ w'.cell? ⟨g2, 8, none⟩ = some (.int .i64 y.s.2))) (first | exact ⟨DK.cells HK2.out.one.one, DK.cells HK2.out.two⟩ | exact ⟨DK.cells HK3.out.one.one, DK.cells HK3.out.two⟩ | exact ⟨DK.cells HK4.out.one.one, DK.cells HK4.out.two⟩)
              (first
              | (go_at_call 118; have _t := tok1; clear tok1 _t; refine (HMX _).out.mono ?_; rintro e w3 ⟨rfl, hb3⟩; have HK3 := Lib.hid (HK2.out.drew.later hb3); clear hb3)
              | (go_at_call 118; refine (HMY _).out.mono ?_; rintro e w4 ⟨rfl, hb4⟩; have HK4 := Lib.hid (HK3.out.later hb4); clear hb4))
            all_goals
              go_wp2_with fail
              go_roundw
              case rel => exact ⟨k + 1, by omega, by go_num, HHM.out, HK4.out.one⟩
              case measure => simp [intOf]; omega
        · have hke : k = i := by omega
          subst hke
          have HN := Lib.hid hm
          have HK1 := Lib.hid hk1
          clear hm hk1
          go_wp2_with fail
          go_roundw
          case rel => exact ⟨k + 1, by omega, by go_num, by rw [← HTW.out, HN.out]; rfl, HK1.out.below⟩
          case measure => simp [intOf]; omega
    · have hz : l.drop i = [] := List.drop_eq_nil_iff.2 (by omega)
      rw [hz] at htw
      have HN : Hid (twice l = false) := Lib.hid htw.symm
      have HBB := Lib.hid hb
      clear htw hz hb
      go_wp2_with fail
      go_ret
      exact ⟨by rw [HN.out]; rfl, HBB.out⟩

set_option maxRecDepth 100000 in
set_option maxHeartbeats 4000000 in
theorem cbatch_any (w : World) (X : Nat → Prop) (v : Value) (l : List Sd) (h : BI w X v l) (hr : ∀ x ∈ l, x.q.o.recs.length ≤ 140737488355328) (hl63 : l.length ≤ 140737488355328) :
    Calls Tryz.prog 106 #[v] w fun e w' => e = .returned (.int .i64 (bcheck l)) ∧ Below w.heap.size w w' := by
  obtain ⟨A, c, rfl, -⟩ := h.shape
  by_cases h4 : 4 < l.length
  · have hd : decide (4 < (l.length : Int)) = true := decide_eq_true (by omega)
    have HN : Hid (bcheck l = 3) := Lib.hid (by rw [bcheck, if_pos h4])
    clear h
    go_enter Tryz.func106, Tryz.ntmps106
    go_wp2_with fail
    go_ret
    exact ⟨by rw [HN.out]; rfl, Below.refl _ w⟩
  · have hd : decide (4 < (l.length : Int)) = false := decide_eq_false (by omega)
    have h4' : l.length ≤ 4 := by omega
    have HB := Lib.hid h
    have HR := Lib.hid hr
    have HQ : Hid (bcheck l = if lcheck l ≠ 0 then lcheck l else if twice l then 5 else 0) := Lib.hid (by rw [bcheck, if_neg h4])
    clear h hr h4
    go_enter Tryz.func106, Tryz.ntmps106
    go_wp2_with fail
    go_loopw [11] (fun j wr => ∃ i : Nat, i ≤ l.length ∧ j = .int .i64 i ∧ lcheck (l.drop i) = lcheck l ∧ Below w.heap.size w wr) (fun j _ => l.length - (intOf j).toNat)
    case atStart => exact ⟨0, Nat.zero_le _, rfl, rfl, Below.refl _ w⟩
    case round =>
      obtain ⟨i, hi, rfl, hlc, hb⟩ := hrel
      by_cases hlt : i < l.length
      · rw [lcheck_drop hlt] at hlc
        obtain ⟨ad, Ar, cr, rfl, ⟨a0, a1, a2, a3, a4, a5, a6, a7, a8⟩, hls⟩ := (HB.out.after hb).at_ hlt
        have hrl := HR.out _ (List.getElem_mem hlt)
        generalize hx : l[i] = x at *
        have hk1 := k1_new hb x Ar cr
        have HC := Lib.hid (signed_any x Ar cr X _ (hls.after (op_below wr (.cells (DC x Ar cr) 113))) hrl)
        have HBB := Lib.hid hb
        have HLC := Lib.hid hlc
        clear hlc hls hb hx
        unfold DV at HC
        unfold DC at hk1 HC
        go_wp2_with fail
        generalize wr.alloc (.cells #[.int .i64 x.q.client, .int .i64 x.q.time, .int .i64 x.q.o.kind, .string ⟨x.q.o.topic.toArray⟩, .string ⟨x.q.o.group.toArray⟩, .int .i64 x.q.o.off, .slice Ar x.q.o.recs.length cr, .int .i64 x.s.1, .int .i64 x.s.2] 113) = w1 at *
        generalize wr.heap.size = g1 at *
        have HK := Lib.hid hk1
        clear hk1 a0 a1 a2 a3 a4 a5 a6 a7 a8
        refine HC.out.mono ?_
        rintro e w2 ⟨he, hb2⟩
        have HK2 := Lib.hid (HK.out.later hb2)
        clear hb2
        by_cases hd0 : dcheck x = 0
        · rw [hd0] at he
          subst he
          have HN := Lib.hid (show lcheck (l.drop (i + 1)) = lcheck l by rw [← HLC.out, if_neg (by rw [hd0]; simp)])
          clear hd0
          go_wp2_with fail
          go_roundw
          case rel => exact ⟨i + 1, by omega, by go_num, HN.out, HK2.out.below⟩
          case measure => simp [intOf]; omega
        · subst he
          have HN := Lib.hid (show bcheck l = dcheck x by
            have e : dcheck x = lcheck l := by have := HLC.out; rwa [if_pos hd0] at this
            rw [HQ.out, ← e, if_pos hd0])
          have hne : (dcheck x != 0) = true := by simpa using hd0
          have hne2 : (dcheck x == 0) = false := by simpa using hd0
          clear hd0
          go_wp2_with fail
          go_ret
          exact ⟨by rw [HN.out]; rfl, HK2.out.below⟩
      · have hz : l.drop i = [] := List.drop_eq_nil_iff.2 (by omega)
        rw [hz] at hlc
        have HN : Hid (bcheck l = if twice l then 5 else 0) := Lib.hid (by rw [HQ.out, ← hlc]; rfl)
        have HBB := Lib.hid hb
        have HTA := Lib.hid (twice_any wr X A c l (HB.out.after hb) h4')
        clear hlc hz hb
        go_wp2_with fail
        refine HTA.out.mono ?_
        rintro e w2 ⟨he, hb2⟩
        have HB2 := Lib.hid (HBB.out.trans (hb2.mono HBB.out.size))
        clear hb2
        by_cases ht : twice l = true
        · rw [ht] at he HN
          subst he
          clear ht
          go_wp2_with fail
          go_ret
          exact ⟨by rw [HN.out]; rfl, HB2.out⟩
        · have ht := Bool.eq_false_iff.2 ht
          rw [ht] at he HN
          subst he
          clear ht
          go_wp2_with fail
          go_ret
          exact ⟨by rw [HN.out]; rfl, HB2.out⟩
end Go.Proofs.YtmhmnkpaijoaaaaGreat.Jc

/-
  Layer 6 (op): the document's own Put, kind by kind, and its Bytes.
-/
namespace Go.Proofs.YtmhmnkpaijoaaaaGreat.Pn
set_option linter.unusedSimpArgs false
open Go Go.RowKit Ck Kw Ca Cb Cc Cd Ci Pm Pa Pe Pf Pg Ph Ppi Kx Pk
set_option linter.unusedVariables false

/-- The operation stands there, and a row of the call's own. -/
structure RB (w0 : World) (g1 : Nat) (o : O) (A : Option Addr) (c : Nat) (v : Value) (l : Tx) (W : World) : Prop where
  rk : RK w0 g1 o A c W
  row : W.ownsRow w0.heap.size 5 1 v l.length (BVs l)
theorem RB.put {w0 W W1 W2 : World} {g1 : Nat} {o : O} {A : Option Addr} {c : Nat} {v' : Value} {l' : Tx} (h : RK w0 g1 o A c W) (b1 : Below W.heap.size W W1) (hown : W2.ownsRow W1.heap.size 5 1 v' l'.length (BVs l')) (b2 : Below W1.heap.size W1 W2) : RB w0 g1 o A c v' l' W2 := by
  have b : Below W.heap.size W W2 := b1.trans (b2.mono b1.size)
  exact ⟨h.later b, own_base hown (Nat.le_trans h.below.size b1.size)⟩
/-- What Put leaves of an operation that may be. -/
def Putted (w : World) (b : Tx) (o : O) (e : Ending) (w' : World) : Prop := Made w 5 (b ++ raw o) e w'
theorem putted_of {w W : World} {g1 : Nat} {o : O} {A : Option Addr} {c : Nat} {v : Value} {b l : Tx} (h : RB w g1 o A c v l W) (hl : b ++ raw o = l) : Putted w b o (.returned v) W := by
  subst hl
  exact ⟨v, rfl, h.row, h.rk.below⟩

set_option maxRecDepth 100000 in
set_option maxHeartbeats 1000000 in
theorem rput_no (o : O) (A : Option Addr) (c : Nat) (X : Nat → Prop) (vb : Value) (w : World) (hl : o.recs.length ≤ 140737488355328) (hls : Ls w X (.slice A o.recs.length c) o.recs) (hc : check o ≠ 0) :
    Calls Tryz.prog 100 #[vb, OV o A c] w fun e w' => e = .returned vb ∧ Below w.heap.size w w' := by
  have hls1 := hls.after (rk_start w o A c).below
  have HCH := Lib.hid (rcheck_any o (OV o A c) X _ ⟨A, c, rfl, hls1⟩ hl)
  have HC := Lib.hid (rk_start w o A c)
  generalize check o = q at *
  have q1 : (q == 0) = false := beq_eq_false_iff_ne.2 hc
  have q2 : (q != 0) = true := by rw [bne, q1]; rfl
  clear hls hls1 hc
  unfold OV at HCH ⊢
  go_enter Tryz.func100, Tryz.ntmps100
  go_wp2_with fail
  refine HCH.out.mono ?_
  rintro e w2 ⟨rfl, hb2⟩
  have HC2 := Lib.hid (HC.out.later hb2)
  clear hb2
  go_wp2_with fail
  go_ret
  exact ⟨rfl, HC2.out.below⟩

set_option maxRecDepth 100000 in
set_option maxHeartbeats 4000000 in
theorem rput_0 (o : O) (A : Option Addr) (c : Nat) (X Y : Nat → Prop) (vb : Value) (nb : Nat) (b : Tx) (hk : o.kind = 0) (w : World) (hl : o.recs.length ≤ 140737488355328) (hls : Ls w X (.slice A o.recs.length c) o.recs) (hb : Sl w Y 1 vb nb (BVs b)) (hbl : b.length ≤ 140737488351232) (hc : check o = 0) :
    Calls Tryz.prog 100 #[vb, OV o A c] w (Putted w b o) := by
  have hnb : nb = b.length := by obtain ⟨_, _, _, h, _⟩ := hb; rw [BVs_len] at h; omega
  subst hnb
  have hls1 := hls.after (rk_start w o A c).below
  have HCH := Lib.hid (rcheck_any o (OV o A c) X _ ⟨A, c, rfl, hls1⟩ hl)
  rw [hc] at HCH
  have HC := Lib.hid (rk_start w o A c)
  obtain ⟨lT, lG, lO, lR⟩ := check_lens hc
  rw [hk] at lT lG lO lR
  have HLS := Lib.hid hls
  have HSB := Lib.hid hb
  have HRF := Lib.hid (rfields_any 0)
  have HRAW : Hid (raw o = Cm.enc 0 ++ ([] ++ ([] ++ ([] ++ [])))) := Lib.hid (by
    unfold raw
    rw [hk]
    rfl)
  clear hls hls1 hc lT lG lO lR hb
  obtain ⟨kind, topic, group, off, recs⟩ := o
  simp only at hk
  subst hk
  unfold OV at HCH ⊢
  simp only at HLS HCH hl ⊢
  go_enter Tryz.func100, Tryz.ntmps100
  go_wp2_with fail
  refine HCH.out.mono ?_
  rintro e w2 ⟨rfl, hb2⟩
  have HC2 := Lib.hid (HC.out.later hb2)
  clear hb2
  obtain ⟨a0, a1, a2, a3, a4⟩ := HC2.out.op.cells
  simp only at a0 a1 a2 a3 a4
  go_wp2_with fail
  refine (HRF.out _).mono ?_
  rintro e w3 ⟨he, rfl⟩
  have he : e = .returned (.tuple #[.bool false, .bool false, .bool false, .bool false]) := he
  subst he
  go_wp2_with fail
  refine (rputnum_any Y vb b.length b 0 _ (HSB.out.after HC2.out.below) (by omega) (by omega)).mono ?_
  rintro e w4 ⟨v4, rfl, hown4, hb4⟩
  have HK4 := Lib.hid (RB.put HC2.out (Below.refl _ _) hown4 hb4)
  clear hown4 hb4 a0 a1 a2 a3 a4
  obtain ⟨a0, a1, a2, a3, a4⟩ := HK4.out.rk.op.cells
  simp only at a0 a1 a2 a3 a4
  have hl4 := Cm.enc_len 0
  go_wp2_with fail
  go_ret
  exact putted_of HK4.out (by rw [HRAW.out]; simp only [List.append_assoc, List.append_nil, List.nil_append, Int.toNat_natCast])

set_option maxRecDepth 100000 in
set_option maxHeartbeats 4000000 in
theorem rput_1 (o : O) (A : Option Addr) (c : Nat) (X Y : Nat → Prop) (vb : Value) (nb : Nat) (b : Tx) (hk : o.kind = 1) (w : World) (hl : o.recs.length ≤ 140737488355328) (hls : Ls w X (.slice A o.recs.length c) o.recs) (hb : Sl w Y 1 vb nb (BVs b)) (hbl : b.length ≤ 140737488351232) (hc : check o = 0) :
    Calls Tryz.prog 100 #[vb, OV o A c] w (Putted w b o) := by
  have hnb : nb = b.length := by obtain ⟨_, _, _, h, _⟩ := hb; rw [BVs_len] at h; omega
  subst hnb
  have hls1 := hls.after (rk_start w o A c).below
  have HCH := Lib.hid (rcheck_any o (OV o A c) X _ ⟨A, c, rfl, hls1⟩ hl)
  rw [hc] at HCH
  have HC := Lib.hid (rk_start w o A c)
  obtain ⟨lT, lG, lO, lR⟩ := check_lens hc
  rw [hk] at lT lG lO lR
  have HLS := Lib.hid hls
  have HSB := Lib.hid hb
  have HRF := Lib.hid (rfields_any 1)
  have HRAW : Hid (raw o = Cm.enc 1 ++ (Cm.encB o.topic ++ ([] ++ ([] ++ [])))) := Lib.hid (by
    unfold raw
    rw [hk]
    rfl)
  have tl := lT rfl
  clear hls hls1 hc lT lG lO lR hb
  obtain ⟨kind, topic, group, off, recs⟩ := o
  simp only at hk
  subst hk
  unfold OV at HCH ⊢
  simp only at HLS HCH hl tl ⊢
  go_enter Tryz.func100, Tryz.ntmps100
  go_wp2_with fail
  refine HCH.out.mono ?_
  rintro e w2 ⟨rfl, hb2⟩
  have HC2 := Lib.hid (HC.out.later hb2)
  clear hb2
  obtain ⟨a0, a1, a2, a3, a4⟩ := HC2.out.op.cells
  simp only at a0 a1 a2 a3 a4
  go_wp2_with fail
  refine (HRF.out _).mono ?_
  rintro e w3 ⟨he, rfl⟩
  have he : e = .returned (.tuple #[.bool true, .bool false, .bool false, .bool false]) := he
  subst he
  go_wp2_with fail
  refine (rputnum_any Y vb b.length b 1 _ (HSB.out.after HC2.out.below) (by omega) (by omega)).mono ?_
  rintro e w4 ⟨v4, rfl, hown4, hb4⟩
  have HK4 := Lib.hid (RB.put HC2.out (Below.refl _ _) hown4 hb4)
  clear hown4 hb4 a0 a1 a2 a3 a4
  obtain ⟨a0, a1, a2, a3, a4⟩ := HK4.out.rk.op.cells
  simp only at a0 a1 a2 a3 a4
  have hl4 := Cm.enc_len 1
  have kc5 := conv_bytes topic
  have HO5 := Lib.hid (bytesWorld_out w4 topic (by omega))
  have HB5 := Lib.hid (bytesWorld_below w4 5 ⟨topic.toArray⟩)
  have le5 := Cm.enc_len topic.length
  go_wp2_with fail
  refine (rputbytes_any (fun _ => False) (fun _ => False) v4 _ _ _ (b ++ Cm.enc 1) topic _ ((Sl.of_own HK4.out.row (fun _ _ _ h => h)).after HB5.out) (HO5.out.sl (fun _ _ _ h => h)) (by (try simp only [List.length_append, Cm.encB_len]); omega) (by (try simp only [List.length_append, Cm.encB_len]); omega)).mono ?_
  rintro e w5 ⟨v5, rfl, hown, hb⟩
  have HK5 := Lib.hid (RB.put HK4.out.rk HB5.out hown hb)
  clear hown hb kc5 a0 a1 a2 a3 a4
  obtain ⟨a0, a1, a2, a3, a4⟩ := HK5.out.rk.op.cells
  simp only at a0 a1 a2 a3 a4
  go_wp2_with fail
  go_ret
  exact putted_of HK5.out (by rw [HRAW.out]; simp only [List.append_assoc, List.append_nil, List.nil_append, Int.toNat_natCast])

set_option maxRecDepth 100000 in
set_option maxHeartbeats 4000000 in
theorem rput_2 (o : O) (A : Option Addr) (c : Nat) (X Y : Nat → Prop) (vb : Value) (nb : Nat) (b : Tx) (hk : o.kind = 2) (w : World) (hl : o.recs.length ≤ 140737488355328) (hls : Ls w X (.slice A o.recs.length c) o.recs) (hb : Sl w Y 1 vb nb (BVs b)) (hbl : b.length ≤ 140737488351232) (hc : check o = 0) :
    Calls Tryz.prog 100 #[vb, OV o A c] w (Putted w b o) := by
  have hnb : nb = b.length := by obtain ⟨_, _, _, h, _⟩ := hb; rw [BVs_len] at h; omega
  subst hnb
  have hls1 := hls.after (rk_start w o A c).below
  have HCH := Lib.hid (rcheck_any o (OV o A c) X _ ⟨A, c, rfl, hls1⟩ hl)
  rw [hc] at HCH
  have HC := Lib.hid (rk_start w o A c)
  obtain ⟨lT, lG, lO, lR⟩ := check_lens hc
  rw [hk] at lT lG lO lR
  have HLS := Lib.hid hls
  have HSB := Lib.hid hb
  have HRF := Lib.hid (rfields_any 2)
  have HRAW : Hid (raw o = Cm.enc 2 ++ (Cm.encB o.topic ++ ([] ++ ([] ++ Cm.encL o.recs)))) := Lib.hid (by
    unfold raw
    rw [hk]
    rfl)
  have tl := lT rfl
  obtain ⟨r1, r4, rx, rl⟩ := lR rfl
  clear hls hls1 hc lT lG lO lR hb
  obtain ⟨kind, topic, group, off, recs⟩ := o
  simp only at hk
  subst hk
  unfold OV at HCH ⊢
  simp only at HLS HCH hl tl r1 r4 rx rl ⊢
  go_enter Tryz.func100, Tryz.ntmps100
  go_wp2_with fail
  refine HCH.out.mono ?_
  rintro e w2 ⟨rfl, hb2⟩
  have HC2 := Lib.hid (HC.out.later hb2)
  clear hb2
  obtain ⟨a0, a1, a2, a3, a4⟩ := HC2.out.op.cells
  simp only at a0 a1 a2 a3 a4
  go_wp2_with fail
  refine (HRF.out _).mono ?_
  rintro e w3 ⟨he, rfl⟩
  have he : e = .returned (.tuple #[.bool true, .bool false, .bool false, .bool true]) := he
  subst he
  go_wp2_with fail
  refine (rputnum_any Y vb b.length b 2 _ (HSB.out.after HC2.out.below) (by omega) (by omega)).mono ?_
  rintro e w4 ⟨v4, rfl, hown4, hb4⟩
  have HK4 := Lib.hid (RB.put HC2.out (Below.refl _ _) hown4 hb4)
  clear hown4 hb4 a0 a1 a2 a3 a4
  obtain ⟨a0, a1, a2, a3, a4⟩ := HK4.out.rk.op.cells
  simp only at a0 a1 a2 a3 a4
  have hl4 := Cm.enc_len 2
  have kc5 := conv_bytes topic
  have HO5 := Lib.hid (bytesWorld_out w4 topic (by omega))
  have HB5 := Lib.hid (bytesWorld_below w4 5 ⟨topic.toArray⟩)
  have le5 := Cm.enc_len topic.length
  go_wp2_with fail
  refine (rputbytes_any (fun _ => False) (fun _ => False) v4 _ _ _ (b ++ Cm.enc 2) topic _ ((Sl.of_own HK4.out.row (fun _ _ _ h => h)).after HB5.out) (HO5.out.sl (fun _ _ _ h => h)) (by (try simp only [List.length_append, Cm.encB_len]); omega) (by (try simp only [List.length_append, Cm.encB_len]); omega)).mono ?_
  rintro e w5 ⟨v5, rfl, hown, hb⟩
  have HK5 := Lib.hid (RB.put HK4.out.rk HB5.out hown hb)
  clear hown hb kc5 a0 a1 a2 a3 a4
  obtain ⟨a0, a1, a2, a3, a4⟩ := HK5.out.rk.op.cells
  simp only at a0 a1 a2 a3 a4
  have le6 := Cm.enc_len recs.length
  go_wp2_with fail
  refine (rputnum_any (fun _ => False) v5 _ (b ++ Cm.enc 2 ++ Cm.encB topic) recs.length _ (Sl.of_own HK5.out.row (fun _ _ _ h => h)) (by (try simp only [List.length_append, Cm.encB_len]); omega) (by omega)).mono ?_
  rintro e w6 ⟨v6, rfl, hown, hb⟩
  have HK6 := Lib.hid (RB.put HK5.out.rk (Below.refl _ _) hown hb)
  clear hown hb a0 a1 a2 a3 a4
  obtain ⟨a0, a1, a2, a3, a4⟩ := HK6.out.rk.op.cells
  simp only at a0 a1 a2 a3 a4
  have HX := Lib.hid rx
  clear rx
  clear a0 a1 a2 a3 a4
  go_wp2_with fail
  go_loopw [0, 9] (fun u i wr => ∃ k : Nat, k ≤ recs.length ∧ i = .int .i64 k ∧ RB w w.heap.size ⟨2, topic, group, off, recs⟩ A c u (b ++ Cm.enc 2 ++ Cm.encB topic ++ Cm.enc recs.length ++ Cm.encP (recs.take k)) wr) (fun _ i _ => recs.length - (intOf i).toNat)
  case atStart => exact ⟨0, Nat.zero_le _, rfl, by simpa [Cm.encP] using HK6.out⟩
  case round =>
    obtain ⟨k, hk, rfl, hrb⟩ := hrel
    obtain ⟨a0, a1, a2, a3, a4⟩ := hrb.rk.op.cells
    simp only at a0 a1 a2 a3 a4
    have HRB := Lib.hid hrb
    have hle := Cm.encP_le recs k
    clear hrb
    by_cases hlt : k < recs.length
    · have htk := Lib.hid (Cm.encP_take hlt)
      have hpl := Lib.hid (HX.out _ (List.getElem_mem hlt))
      have hle2 := Cm.encP_le recs (k + 1)
      obtain ⟨ad, Bq, d, rfl, hcell, hxs⟩ := (HLS.out.after HRB.out.rk.below).at_ hlt
      have HXS := Lib.hid hxs
      clear hxs
      go_wp2_with fail
      refine (rputbytes_any (fun _ => False) X _ _ _ _ _ recs[k] _ (Sl.of_own HRB.out.row (fun _ _ _ h => h)) HXS.out (by simp only [List.length_append, Cm.encB_len]; omega) (by have := hpl.out; simp only [List.length_append, Cm.encB_len]; omega)).mono ?_
      rintro e w9 ⟨v9, rfl, hown, hb⟩
      have HR9 := Lib.hid (RB.put HRB.out.rk (Below.refl _ _) hown hb)
      clear hown hb
      obtain ⟨q0, q1, q2, q3, q4⟩ := HR9.out.rk.op.cells
      simp only at q0 q1 q2 q3 q4
      clear a0 a1 a2 a3 a4 hcell
      go_wp2_with fail
      go_roundw
      case rel => exact ⟨k + 1, by omega, by go_num, by rw [htk.out, ← List.append_assoc]; exact HR9.out⟩
      case measure => simp [intOf]; omega
    · have hke : k = recs.length := by omega
      have HE : Hid (Cm.encP (recs.take k) = Cm.encP recs) := Lib.hid (by rw [hke, List.take_length])
      go_wp2_with fail
      go_ret
      exact putted_of HRB.out (by rw [HRAW.out, HE.out]; simp only [Cm.encL, List.append_assoc, List.append_nil, List.nil_append])

set_option maxRecDepth 100000 in
set_option maxHeartbeats 4000000 in
theorem rput_3 (o : O) (A : Option Addr) (c : Nat) (X Y : Nat → Prop) (vb : Value) (nb : Nat) (b : Tx) (hk : o.kind = 3) (w : World) (hl : o.recs.length ≤ 140737488355328) (hls : Ls w X (.slice A o.recs.length c) o.recs) (hb : Sl w Y 1 vb nb (BVs b)) (hbl : b.length ≤ 140737488351232) (hc : check o = 0) :
    Calls Tryz.prog 100 #[vb, OV o A c] w (Putted w b o) := by
  have hnb : nb = b.length := by obtain ⟨_, _, _, h, _⟩ := hb; rw [BVs_len] at h; omega
  subst hnb
  have hls1 := hls.after (rk_start w o A c).below
  have HCH := Lib.hid (rcheck_any o (OV o A c) X _ ⟨A, c, rfl, hls1⟩ hl)
  rw [hc] at HCH
  have HC := Lib.hid (rk_start w o A c)
  obtain ⟨lT, lG, lO, lR⟩ := check_lens hc
  rw [hk] at lT lG lO lR
  have HLS := Lib.hid hls
  have HSB := Lib.hid hb
  have HRF := Lib.hid (rfields_any 3)
  have HRAW : Hid (raw o = Cm.enc 3 ++ (Cm.encB o.topic ++ (Cm.encB o.group ++ (Cm.enc o.off.toNat ++ [])))) := Lib.hid (by
    unfold raw
    rw [hk]
    rfl)
  have tl := lT rfl
  have gl := lG rfl
  obtain ⟨ol, oh⟩ := lO rfl
  clear hls hls1 hc lT lG lO lR hb
  obtain ⟨kind, topic, group, off, recs⟩ := o
  simp only at hk
  subst hk
  unfold OV at HCH ⊢
  simp only at HLS HCH hl tl gl ol oh ⊢
  go_enter Tryz.func100, Tryz.ntmps100
  go_wp2_with fail
  refine HCH.out.mono ?_
  rintro e w2 ⟨rfl, hb2⟩
  have HC2 := Lib.hid (HC.out.later hb2)
  clear hb2
  obtain ⟨a0, a1, a2, a3, a4⟩ := HC2.out.op.cells
  simp only at a0 a1 a2 a3 a4
  go_wp2_with fail
  refine (HRF.out _).mono ?_
  rintro e w3 ⟨he, rfl⟩
  have he : e = .returned (.tuple #[.bool true, .bool true, .bool true, .bool false]) := he
  subst he
  go_wp2_with fail
  refine (rputnum_any Y vb b.length b 3 _ (HSB.out.after HC2.out.below) (by omega) (by omega)).mono ?_
  rintro e w4 ⟨v4, rfl, hown4, hb4⟩
  have HK4 := Lib.hid (RB.put HC2.out (Below.refl _ _) hown4 hb4)
  clear hown4 hb4 a0 a1 a2 a3 a4
  obtain ⟨a0, a1, a2, a3, a4⟩ := HK4.out.rk.op.cells
  simp only at a0 a1 a2 a3 a4
  have hl4 := Cm.enc_len 3
  have kc5 := conv_bytes topic
  have HO5 := Lib.hid (bytesWorld_out w4 topic (by omega))
  have HB5 := Lib.hid (bytesWorld_below w4 5 ⟨topic.toArray⟩)
  have le5 := Cm.enc_len topic.length
  go_wp2_with fail
  refine (rputbytes_any (fun _ => False) (fun _ => False) v4 _ _ _ (b ++ Cm.enc 3) topic _ ((Sl.of_own HK4.out.row (fun _ _ _ h => h)).after HB5.out) (HO5.out.sl (fun _ _ _ h => h)) (by (try simp only [List.length_append, Cm.encB_len]); omega) (by (try simp only [List.length_append, Cm.encB_len]); omega)).mono ?_
  rintro e w5 ⟨v5, rfl, hown, hb⟩
  have HK5 := Lib.hid (RB.put HK4.out.rk HB5.out hown hb)
  clear hown hb kc5 a0 a1 a2 a3 a4
  obtain ⟨a0, a1, a2, a3, a4⟩ := HK5.out.rk.op.cells
  simp only at a0 a1 a2 a3 a4
  have kc6 := conv_bytes group
  have HO6 := Lib.hid (bytesWorld_out w5 group (by omega))
  have HB6 := Lib.hid (bytesWorld_below w5 5 ⟨group.toArray⟩)
  have le6 := Cm.enc_len group.length
  go_wp2_with fail
  refine (rputbytes_any (fun _ => False) (fun _ => False) v5 _ _ _ (b ++ Cm.enc 3 ++ Cm.encB topic) group _ ((Sl.of_own HK5.out.row (fun _ _ _ h => h)).after HB6.out) (HO6.out.sl (fun _ _ _ h => h)) (by (try simp only [List.length_append, Cm.encB_len]); omega) (by (try simp only [List.length_append, Cm.encB_len]); omega)).mono ?_
  rintro e w6 ⟨v6, rfl, hown, hb⟩
  have HK6 := Lib.hid (RB.put HK5.out.rk HB6.out hown hb)
  clear hown hb kc6 a0 a1 a2 a3 a4
  obtain ⟨a0, a1, a2, a3, a4⟩ := HK6.out.rk.op.cells
  simp only at a0 a1 a2 a3 a4
  obtain ⟨z, rfl⟩ := Int.eq_ofNat_of_zero_le ol
  have hw7 := wrap_u64' z (by omega)
  have OH := Lib.hid oh
  clear ol oh
  have le7 := Cm.enc_len z
  go_wp2_with fail
  refine (rputnum_any (fun _ => False) v6 _ (b ++ Cm.enc 3 ++ Cm.encB topic ++ Cm.encB group) z _ (Sl.of_own HK6.out.row (fun _ _ _ h => h)) (by (try simp only [List.length_append, Cm.encB_len]); omega) (by have := OH.out; omega)).mono ?_
  rintro e w7 ⟨v7, rfl, hown, hb⟩
  have HK7 := Lib.hid (RB.put HK6.out.rk (Below.refl _ _) hown hb)
  clear hown hb a0 a1 a2 a3 a4
  obtain ⟨a0, a1, a2, a3, a4⟩ := HK7.out.rk.op.cells
  simp only at a0 a1 a2 a3 a4
  go_wp2_with fail
  go_ret
  exact putted_of HK7.out (by rw [HRAW.out]; simp only [List.append_assoc, List.append_nil, List.nil_append, Int.toNat_natCast])

set_option maxRecDepth 100000 in
set_option maxHeartbeats 4000000 in
theorem rput_4 (o : O) (A : Option Addr) (c : Nat) (X Y : Nat → Prop) (vb : Value) (nb : Nat) (b : Tx) (hk : o.kind = 4) (w : World) (hl : o.recs.length ≤ 140737488355328) (hls : Ls w X (.slice A o.recs.length c) o.recs) (hb : Sl w Y 1 vb nb (BVs b)) (hbl : b.length ≤ 140737488351232) (hc : check o = 0) :
    Calls Tryz.prog 100 #[vb, OV o A c] w (Putted w b o) := by
  have hnb : nb = b.length := by obtain ⟨_, _, _, h, _⟩ := hb; rw [BVs_len] at h; omega
  subst hnb
  have hls1 := hls.after (rk_start w o A c).below
  have HCH := Lib.hid (rcheck_any o (OV o A c) X _ ⟨A, c, rfl, hls1⟩ hl)
  rw [hc] at HCH
  have HC := Lib.hid (rk_start w o A c)
  obtain ⟨lT, lG, lO, lR⟩ := check_lens hc
  rw [hk] at lT lG lO lR
  have HLS := Lib.hid hls
  have HSB := Lib.hid hb
  have HRF := Lib.hid (rfields_any 4)
  have HRAW : Hid (raw o = Cm.enc 4 ++ (Cm.encB o.topic ++ ([] ++ (Cm.enc o.off.toNat ++ [])))) := Lib.hid (by
    unfold raw
    rw [hk]
    rfl)
  have tl := lT rfl
  obtain ⟨ol, oh⟩ := lO rfl
  clear hls hls1 hc lT lG lO lR hb
  obtain ⟨kind, topic, group, off, recs⟩ := o
  simp only at hk
  subst hk
  unfold OV at HCH ⊢
  simp only at HLS HCH hl tl ol oh ⊢
  go_enter Tryz.func100, Tryz.ntmps100
  go_wp2_with fail
  refine HCH.out.mono ?_
  rintro e w2 ⟨rfl, hb2⟩
  have HC2 := Lib.hid (HC.out.later hb2)
  clear hb2
  obtain ⟨a0, a1, a2, a3, a4⟩ := HC2.out.op.cells
  simp only at a0 a1 a2 a3 a4
  go_wp2_with fail
  refine (HRF.out _).mono ?_
  rintro e w3 ⟨he, rfl⟩
  have he : e = .returned (.tuple #[.bool true, .bool false, .bool true, .bool false]) := he
  subst he
  go_wp2_with fail
  refine (rputnum_any Y vb b.length b 4 _ (HSB.out.after HC2.out.below) (by omega) (by omega)).mono ?_
  rintro e w4 ⟨v4, rfl, hown4, hb4⟩
  have HK4 := Lib.hid (RB.put HC2.out (Below.refl _ _) hown4 hb4)
  clear hown4 hb4 a0 a1 a2 a3 a4
  obtain ⟨a0, a1, a2, a3, a4⟩ := HK4.out.rk.op.cells
  simp only at a0 a1 a2 a3 a4
  have hl4 := Cm.enc_len 4
  have kc5 := conv_bytes topic
  have HO5 := Lib.hid (bytesWorld_out w4 topic (by omega))
  have HB5 := Lib.hid (bytesWorld_below w4 5 ⟨topic.toArray⟩)
  have le5 := Cm.enc_len topic.length
  go_wp2_with fail
  refine (rputbytes_any (fun _ => False) (fun _ => False) v4 _ _ _ (b ++ Cm.enc 4) topic _ ((Sl.of_own HK4.out.row (fun _ _ _ h => h)).after HB5.out) (HO5.out.sl (fun _ _ _ h => h)) (by (try simp only [List.length_append, Cm.encB_len]); omega) (by (try simp only [List.length_append, Cm.encB_len]); omega)).mono ?_
  rintro e w5 ⟨v5, rfl, hown, hb⟩
  have HK5 := Lib.hid (RB.put HK4.out.rk HB5.out hown hb)
  clear hown hb kc5 a0 a1 a2 a3 a4
  obtain ⟨a0, a1, a2, a3, a4⟩ := HK5.out.rk.op.cells
  simp only at a0 a1 a2 a3 a4
  obtain ⟨z, rfl⟩ := Int.eq_ofNat_of_zero_le ol
  have hw6 := wrap_u64' z (by omega)
  have OH := Lib.hid oh
  clear ol oh
  have le6 := Cm.enc_len z
  go_wp2_with fail
  refine (rputnum_any (fun _ => False) v5 _ (b ++ Cm.enc 4 ++ Cm.encB topic) z _ (Sl.of_own HK5.out.row (fun _ _ _ h => h)) (by (try simp only [List.length_append, Cm.encB_len]); omega) (by have := OH.out; omega)).mono ?_
  rintro e w6 ⟨v6, rfl, hown, hb⟩
  have HK6 := Lib.hid (RB.put HK5.out.rk (Below.refl _ _) hown hb)
  clear hown hb a0 a1 a2 a3 a4
  obtain ⟨a0, a1, a2, a3, a4⟩ := HK6.out.rk.op.cells
  simp only at a0 a1 a2 a3 a4
  go_wp2_with fail
  go_ret
  exact putted_of HK6.out (by rw [HRAW.out]; simp only [List.append_assoc, List.append_nil, List.nil_append, Int.toNat_natCast])

/-- What Put leaves. -/
def Behind (w : World) (X : Nat → Prop) (l : Tx) (e : Ending) (w' : World) : Prop := ∃ v, e = .returned v ∧ Sl w' (fun k => X k ∧ k < w.heap.size) 1 v l.length (BVs l) ∧ Below w.heap.size w w'
theorem behind_of {w w' : World} {X : Nat → Prop} {l : Tx} {e : Ending} (h : Made w 5 l e w') : Behind w X l e w' := by
  obtain ⟨v, rfl, hown, hb⟩ := h
  exact ⟨v, rfl, Sl.of_own hown (fun k hk _ hx => by omega), hb⟩
theorem rput_any (o : O) (v : Value) (X Y : Nat → Prop) (vb : Value) (nb : Nat) (b : Tx) (w : World) (h : OI w X v o) (hl : o.recs.length ≤ 140737488355328) (hb : Sl w Y 1 vb nb (BVs b)) (hbl : b.length ≤ 140737488351232) : Calls Tryz.prog 100 #[vb, v] w (Behind w Y (b ++ form o)) := by
  obtain ⟨A, c, rfl, hls⟩ := h
  by_cases hc : check o = 0
  · have hf : form o = raw o := by rw [form, if_neg (by omega)]
    rw [hf]
    have key : Calls Tryz.prog 100 #[vb, OV o A c] w (Putted w b o) := by
      rcases kind_cases (check_ok hc).1 with h | h | h | h | h
      · exact rput_0 o A c X Y vb nb b h w hl hls hb hbl hc
      · exact rput_1 o A c X Y vb nb b h w hl hls hb hbl hc
      · exact rput_2 o A c X Y vb nb b h w hl hls hb hbl hc
      · exact rput_3 o A c X Y vb nb b h w hl hls hb hbl hc
      · exact rput_4 o A c X Y vb nb b h w hl hls hb hbl hc
    exact key.mono fun e w' h => behind_of h
  · have hf : form o = [] := by rw [form, if_pos hc]
    rw [hf, List.append_nil]
    have hnb : nb = b.length := by obtain ⟨_, _, _, h, _⟩ := hb; rw [BVs_len] at h; omega
    subst hnb
    refine (rput_no o A c X vb w hl hls hc).mono ?_
    rintro e w' ⟨rfl, hb2⟩
    exact ⟨vb, rfl, (hb.after hb2).weaken (fun k _ h => h.1), hb2⟩

end Go.Proofs.YtmhmnkpaijoaaaaGreat.Pn

/-
  Layer 6 (op): the contracts of slices.Grow, slices.Concat, strings.Clone.
-/
namespace Go.Proofs.YtmhmnkpaijoaaaaGreat.Pj
set_option linter.unusedSimpArgs false
open Go Go.RowKit Ck Kw Ca Cb Pm Pa
set_option linter.unusedVariables false

set_option maxRecDepth 100000 in
set_option maxHeartbeats 1000000 in
theorem grow_any (n : Nat) (hn : n ≤ 140737488355328) (w : World) :
    Calls Tryz.prog 143 #[.slice none 0 0, .int .i64 n] w fun e w' => ∃ v, e = .returned v ∧ w'.ownsRow w.heap.size 5 1 v 0 [] ∧ Below w.heap.size w w' := by
  obtain ⟨i0, hi0, hz0, hz1, hz2⟩ := info_parts info_u8
  by_cases h0 : n = 0
  · subst h0
    go_enter Tryz.func143, Tryz.ntmps143
    go_wp2
    go_ret
    exact ⟨_, rfl, World.ownsRow_nil _ _ _ _, Below.refl _ _⟩
  · have hp : 0 < n := by omega
    have hrun := fun (W : World) (ty : TypeId) => Lib.run_append_nil_zeros (P := Tryz.prog) W 32 3 ty 5 i0 (.int .u8 0) .i64 .i64 Tryz.underlying32 Tryz.underlying3 hi0 hz0 n hp (by omega) (by omega) (by rw [hz2]; omega)
    have hge := fun (W : World) => grownCap_ge W n 0 5
    have hle := fun (W : World) => grownCap_le_maxLen W n 0 5 (by unfold maxLen; omega)
    generalize hG : grownCap w n 0 5 = G at *
    have hg1 := hge w
    have hg2 := hle w
    have hrw := hrun w
    rw [hG] at hg1 hg2 hrw
    have hg3 : G ≤ 9223372036854775807 := by unfold maxLen at hg2; exact hg2
    have HG2 := Lib.hid hg2
    have HRW := Lib.hid hrw
    have HG := Lib.hid hG
    have h0' : ¬ (G = 0) := by omega
    clear hrun hge hle hrw hG hg2 h0
    go_enter Tryz.func143, Tryz.ntmps143
    go_wp2_with (at_builtin; refine Lib.wpList_append_run _ rfl _ _ _ _ rfl _ _ rfl rfl _ _ (HRW.out _) ?_)
    go_ret
    refine ⟨_, rfl, ⟨by simp, .inr ⟨w.heap.size, G, _, rfl, Nat.le_refl _, heap_alloc_new w.drew _, Nat.zero_le _, HG2.out, ?_, by simp⟩⟩, ?_⟩
    · rw [Array.size_append, size_zeroCells, size_zeroCells]
      simp [Value.cells]
      omega
    · exact ((Below.refl _ w).drew).alloc (Nat.le_refl _) _

theorem flat_take {ls : List Tx} {k : Nat} (h : k < ls.length) : (ls.take (k + 1)).flatten = (ls.take k).flatten ++ ls[k] := by
  rw [List.take_succ_eq_append_getElem h, List.flatten_append]
  simp
theorem flat_le {ls : List Tx} (k : Nat) : (ls.take k).flatten.length ≤ ls.flatten.length := by
  have : ls.flatten = (ls.take k).flatten ++ (ls.drop k).flatten := by rw [← List.flatten_append, List.take_append_drop]
  rw [this, List.length_append]
  omega
set_option maxRecDepth 100000 in
set_option maxHeartbeats 2000000 in
theorem concat_any (w : World) (X : Nat → Prop) (A : Option Addr) (c : Nat) (ls : List Tx) (hls : Ls w X (.slice A ls.length c) ls) (hl : ls.length ≤ 1000000) (ht : ls.flatten.length ≤ 140737488355328) :
    Calls Tryz.prog 127 #[.slice A ls.length c] w fun e w' => Made w 5 ls.flatten e w' := by
  have HLS := Lib.hid hls
  have HT := Lib.hid ht
  obtain ⟨i0, hi0, hz0, hz1, hz2⟩ := info_parts info_u8
  clear hls ht
  go_enter Tryz.func127, Tryz.ntmps127
  go_wp2
  go_loop [3, 11] (fun z i => ∃ k : Nat, k ≤ ls.length ∧ i = .int .i64 k ∧ z = .int .i64 ((ls.take k).flatten.length : Nat)) (fun _ i => ls.length - (intOf i).toNat)
  case atStart => exact ⟨0, Nat.zero_le _, rfl, rfl⟩
  case round =>
    obtain ⟨k, hk, rfl, rfl⟩ := hrel
    have hle := flat_le (ls := ls) k
    by_cases hlt : k < ls.length
    · have hle1 := flat_le (ls := ls) (k + 1)
      have ht := HT.out
      obtain ⟨ad, B, d, rfl, hcell, -⟩ := HLS.out.at_ hlt
      have HF := Lib.hid (congrArg List.length (flat_take hlt))
      have hsum : (ls.take k).flatten.length + ls[k].length ≤ 140737488355328 := by
        have := HF.out
        rw [List.length_append] at this
        omega
      generalize hq : (ls.take k).flatten.length = q at *
      have HQ := Lib.hid hq
      clear hq hle hle1 ht
      go_wp2
      go_round
      case rel =>
        refine ⟨k + 1, by omega, by go_num, ?_⟩
        rw [HF.out, List.length_append, HQ.out]
        go_num
      case measure => simp [intOf]; omega
    · have hke : k = ls.length := by omega
      subst hke
      rw [List.take_length] at hle ⊢
      have ht := HT.out
      generalize hq : ls.flatten.length = q at *
      have HQ := Lib.hid hq
      clear hq hle
      go_wp2_with (go_at_call 143; refine (grow_any q ht _).mono ?_; rintro e w1 ⟨v1, rfl, hown1, hb1⟩)
      go_loopw [6, 27] (fun u i wr => ∃ k : Nat, k ≤ ls.length ∧ i = .int .i64 k ∧ wr.ownsRow w.heap.size 5 1 u (ls.take k).flatten.length (BVs (ls.take k).flatten) ∧ Below w.heap.size w wr) (fun _ i _ => ls.length - (intOf i).toNat)
      case atStart => exact ⟨0, Nat.zero_le _, rfl, hown1, hb1⟩
      case round =>
        obtain ⟨k, hk, rfl, hown, hb⟩ := hrel
        have HB := Lib.hid hb
        by_cases hlt : k < ls.length
        · have hx := HLS.out.after hb
          obtain ⟨ad, B, d, rfl, hcell, hx⟩ := hx.at_ hlt
          have HF := Lib.hid (flat_take hlt)
          have HFL := Lib.hid (congrArg List.length (flat_take hlt))
          have hsum : (ls.take k).flatten.length + ls[k].length ≤ 140737488355328 := by
            have := flat_le (ls := ls) (k + 1)
            have h2 := HFL.out
            rw [List.length_append] at h2
            have := HQ.out
            omega
          have hsz := hb.size
          clear hb
          go_wp2_with (at_builtin; refine wpList_append_sl _ rfl (.tmp 31) (.tmp 32) _ rfl w.heap.size 5 i0 _ 1 1 Tryz.underlying32 hi0 hz0 hz1 hz2 rfl (by omega) u6 _ _ rfl hown X _ ls[k].length (BVs ls[k]) rfl hx (BVs_one _) (by simp only [maxLen]; omega) (by omega) hsz ?_; intro v2 w2 happ)
          go_roundw
          case rel =>
            refine ⟨k + 1, by omega, by go_num, ?_, HB.out.grown happ.2.1 hsz (fun g hg => (hown.lt g hg).1)⟩
            rw [HF.out, List.length_append, BVs_app]
            exact happ.1
          case measure => simp [intOf]; omega
        · have hke : k = ls.length := by omega
          subst hke
          rw [List.take_length] at hown
          go_wp2
          go_ret
          exact ⟨_, rfl, hown, HB.out⟩

set_option maxRecDepth 100000 in
set_option maxHeartbeats 2000000 in
theorem slclone_any (l : Tx) (w : World) (hlim : l.length ≤ 140737488355328) :
    Calls Tryz.prog 162 #[SV l] w fun e w' => e = .returned (SV l) ∧ Below w.heap.size w w' := by
  unfold SV
  have hsl := sv_size l
  generalize hs : ByteArray.mk l.toArray = s at *
  have hlim' : s.size ≤ 140737488355328 := by omega
  clear hs hsl hlim
  by_cases h0 : s.size = 0
  · have hs : s = ⟨#[]⟩ := by
      apply ByteArray.ext
      exact Array.eq_empty_of_size_eq_zero h0
    subst hs
    go_enter Tryz.func162, Tryz.ntmps162
    go_wp2
    go_ret
    exact ⟨rfl, Below.refl _ _⟩
  · obtain ⟨i0, hi, hz0, hz1, hz2⟩ := info_parts info_u8
    have hinfo : (Tryz.prog.info? 5).map (·.size) = some 1 := by rw [hi]; simp [hz1]
    have hco : Tryz.prog.cellsOf 5 = 1 := by simp [Program.cellsOf, hi, hz1]
    obtain ⟨M, hM⟩ : ∃ M, M = madeCells (Value.int .u8 0).cells (((s.size : Nat) : Int).toNat * i0.size) := ⟨_, rfl⟩
    have hMs : M.size = s.size := by rw [hM, size_madeCells, hz1]; simp
    have hmk : ∀ W : World, (Instr.makeSlice 32 (.int .i64 (s.size : Int)) (.int .i64 (s.size : Int))).run Tryz.prog W = .ok (.slice (some ⟨W.heap.size, 0, none⟩) s.size s.size) (W.alloc (.cells M 5)) := fun W => by
      have h := run_make (P := Tryz.prog) W 32 5 i0 (.int .u8 0) Tryz.underlying32 hi hz0 .i64 .i64 (s.size : Int) (s.size : Int) (by omega) (by omega) (by rw [hz2]; omega) (by omega)
      rw [← hM] at h
      simpa using h
    clear hM
    have hcp := Lib.run_copy_row_string (P := Tryz.prog) (w.alloc (.cells M 5)) 32 9 3 5 w.heap.size 0 s.size s.size s M 5 Tryz.underlying32 hinfo (heap_alloc_new w _) (Nat.le_refl _) (by omega)
    obtain ⟨Y, hY⟩ : ∃ Y, Y = (M.toList.take 0 ++ Lib.byteCells s.data.toList ++ M.toList.drop (0 + s.size)).toArray := ⟨_, rfl⟩
    rw [← hY] at hcp
    have hYl : Y.toList = Lib.byteCells s.data.toList := by
      rw [hY, List.toList_toArray, List.take_zero, List.nil_append, List.drop_of_length_le (by rw [Array.length_toList]; omega), List.append_nil]
    have hYs : Y.size = s.size := by rw [← Array.length_toList, hYl, Lib.byteCells_length, ← Lib.size_eq]
    have hgY : ((w.alloc (.cells M 5)).setRow w.heap.size Y).heap[w.heap.size]? = some (.cells Y 5 (0, 0)) := setRow_heap _ _ M _ 5 (0, 0) (heap_alloc_new w _)
    have hne : s.data.toList ≠ [] := fun e => h0 (by rw [Lib.size_eq, e]; rfl)
    have hUS := Lib.run_unsafeString_row (P := Tryz.prog) ((w.alloc (.cells M 5)).setRow w.heap.size Y) 244 3 9 5 Tryz.underlying244 hco w.heap.size Y.size (by unfold World.shape?; rw [hgY]) s.data.toList hne (by rw [← Lib.size_eq]; omega) (by rw [← Lib.size_eq]; omega)
      (fun j x hx => Lib.cells_of_row hgY Y.size j _ (by rw [List.take_of_length_le (by rw [Array.length_toList]; exact Nat.le_refl _), hYl]; simp [Lib.byteCells, hx]))
    rw [← Lib.size_eq] at hUS
    clear hY
    go_enter Tryz.func162, Tryz.ntmps162
    go_wp2
    go_ret
    have hb1 : Below w.heap.size w (w.alloc (.cells M 5)) := (Below.refl _ w).alloc (Nat.le_refl _) _
    have hb2 : Below w.heap.size (w.alloc (.cells M 5)) ((w.alloc (.cells M 5)).setRow w.heap.size Y) := ⟨rfl, rfl, rfl, by simp, fun k hk => setRow_other _ _ _ _ (by omega)⟩
    exact ⟨rfl, Lib.below_freeze (hb1.trans hb2) (p := ⟨w.heap.size, 0, none⟩) (Nat.le_refl _) _⟩

theorem sclone_any (l : Tx) (w : World) (hlim : l.length ≤ 140737488355328) :
    Calls Tryz.prog 150 #[SV l] w fun e w' => e = .returned (SV l) ∧ Below w.heap.size w w' := by
  have HC := Lib.hid (slclone_any l w hlim)
  unfold SV at HC ⊢
  go_enter Tryz.func150, Tryz.ntmps150
  go_wp2_with (go_at_call 162; refine HC.out.mono ?_; rintro e w1 ⟨rfl, hb⟩)
  go_ret
  exact ⟨rfl, hb⟩

end Go.Proofs.YtmhmnkpaijoaaaaGreat.Pj

/-
  Layer 6 (op): the contract of bullalaw06.begun; the walk of the statement OpNames.
-/
namespace Go.Proofs.YtmhmnkpaijoaaaaGreat.Pl
set_option linter.unusedSimpArgs false
open Go Go.RowKit Ck Kw Ca Cb Cc Ci Pm Pa Pb Pc Pd Pe Pf Pg Ph Ppi Kx Pk
set_option linter.unusedVariables false

/-- The operation that begun asks about. -/
def o0 : O := ⟨2, [116], [], 0, [[9]]⟩
def W0 (w : World) : World := (w.alloc (.cells #[.int .u8 9] 5)).alloc (.cells #[.slice (some ⟨w.heap.size, 0, none⟩) 1 1] 195)
end Go.Proofs.YtmhmnkpaijoaaaaGreat.Pl

/-
  Layer 6 (op): the contracts of Put and PutResult, the document's PutResult, and the walk of the statement OpBytes.
-/
namespace Go.Proofs.YtmhmnkpaijoaaaaGreat.Po
set_option linter.unusedSimpArgs false
open Go Go.RowKit Ck Kw Ca Cb Cc Cd Ci Pm Pa Pe Pf Pg Ph Ppi Pj Kx Pk Pl Pn
attribute [local go_sem ↓] Go.wp_at_zero Go.wp_at_succ
set_option linter.unusedVariables false

theorem two_new {W : World} {X : Nat → Prop} {t : TypeId} {va vb : Value} {a b : Tx} (ha : Sl W X 1 va a.length (BVs a)) (hb : Sl W X 1 vb b.length (BVs b)) (hX : ¬ X W.heap.size) :
    Ls (W.alloc (.cells #[va, vb] t)) X (.slice (some ⟨W.heap.size, 0, none⟩) 2 2) [a, b] := by
  refine ⟨[va, vb], ⟨_, _, rfl, rfl, Nat.le_refl _, by simp only [maxLen]; omega, fun _ => ⟨_, rfl, by simp, hX, fun j u hu => ?_⟩⟩, fun i hi => ?_⟩
  · have h2 : (⟨W.heap.size, 0, none⟩ : Addr).add j = ⟨W.heap.size, j, none⟩ := by unfold Addr.add; split <;> simp_all
    rw [h2, Blk.cell (Blk.new W t _) j]
    simpa using hu
  · have hi2 : i = 0 ∨ i = 1 := by simp at hi; omega
    rcases hi2 with rfl | rfl
    · exact ⟨va, rfl, ha.alloc _⟩
    · exact ⟨vb, rfl, hb.alloc _⟩

set_option maxRecDepth 100000 in
set_option maxHeartbeats 1000000 in
theorem put_any (o : O) (v : Value) (X Y : Nat → Prop) (vb : Value) (nb : Nat) (b : Tx) (w : World) (h : OI w X v o) (hl : o.recs.length ≤ 140737488355328) (hb : Sl w Y 1 vb nb (BVs b)) (hbl : b.length ≤ 140737488351232) :
    Calls Tryz.prog 141 #[vb, v] w fun e w' => Made w 5 (b ++ form o) e w' := by
  have hnb : nb = b.length := by obtain ⟨_, _, _, h, _⟩ := hb; rw [BVs_len] at h; omega
  subst hnb
  obtain ⟨A, c, rfl, hls⟩ := h
  have hls1 := hls.after (rk_start w o A c).below
  have HB := Lib.hid (bytes_any o (OV o A c) X _ ⟨A, c, rfl, hls1⟩ hl)
  have HC := Lib.hid (rk_start w o A c)
  have HSB := Lib.hid hb
  have hfl := form_len o
  clear hls hls1
  obtain ⟨Ab, cb, rfl, -⟩ := hb
  unfold OV at HB ⊢
  go_enter Tryz.func141, Tryz.ntmps141
  go_wp2_with fail
  refine HB.out.mono ?_
  rintro e w2 ⟨v2, rfl, hown2, hb2⟩
  obtain ⟨A2, c2, rfl⟩ := own_shape hown2
  have HB2 := Lib.hid (HC.out.below.trans (hb2.mono HC.out.below.size))
  have HL : Hid (Ls (w2.alloc (.cells #[.slice Ab b.length cb, .slice A2 (form o).length c2] 32)) (fun _ => False) (.slice (some ⟨w2.heap.size, 0, none⟩) 2 2) [b, form o]) := Lib.hid (two_new ((HSB.out.after HB2.out).weaken (fun _ _ h => h.elim)) (Sl.of_own hown2 (fun _ _ _ h => h)) (fun h => h))
  have HB3 : Hid (Below w.heap.size w (w2.alloc (.cells #[.slice Ab b.length cb, .slice A2 (form o).length c2] 32))) := Lib.hid (HB2.out.alloc HB2.out.size _)
  clear hown2 hb2
  go_wp2_with fail
  refine (concat_any _ _ _ _ [b, form o] HL.out (by simp) (by simp; omega)).mono ?_
  rintro e w4 ⟨v4, rfl, hown4, hb4⟩
  have HO4 := Lib.hid hown4
  have HB4 := Lib.hid (HB3.out.trans (hb4.mono HB3.out.size))
  clear hown4 hb4
  go_wp2_with fail
  go_ret
  refine ⟨v4, rfl, ?_, HB4.out⟩
  have := own_base HO4.out HB3.out.size
  simpa using this

end Go.Proofs.YtmhmnkpaijoaaaaGreat.Po

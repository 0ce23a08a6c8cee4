/-
  Layer 8 (request): the contracts of isTwice and CheckBatch.
-/
import Derived.Test.YtjdmadfjfjenjaaJb
import Derived.Deep.QuietTactic
import Derived.Deep.MidRow
namespace Go.Proofs.Ytjdmadfjfjenjaa.Jc
set_option linter.unusedSimpArgs false
open Go Go.RowKit Ck Kw Ga Kf Pm Pe Pg Ph Qb Lk Jm Ja Jb
attribute [local go_sem ↓] Go.wp_at_zero Go.wp_at_succ
set_option linter.unusedVariables false

theorem slice_upto (A : Option Addr) (n c k : Nat) (hk : k ≤ c) (W : World) : (Instr.slice 31 (.slice A n c) none (some (.int .i64 (k : Int))) none).run Try.prog W = .ok (.slice A k c) W := by
  have he : ∀ W : World, (sizeOf (Try.prog.elem 31)).run Try.prog W = .ok 9 W := fun _ => by kernel_rfl
  rw [run_slice_h W 31 A n c (by kernel_rfl) .i64 k (by omega) (by omega), he]
  simp only [Result.andThen_ok, sliced, Int.toNat_natCast]
  congr 2
  by_cases h0 : c = 0
  · simp [h0]
  · cases A <;> simp [h0, Addr.add]
theorem size_signed : (Try.prog.info? 41).map (·.size) = some 9 := by kernel_rfl
/-- A signed request is read whole. -/
theorem run_ld {W : World} {g : Nat} {d : Sd} {A : Option Addr} {c : Nat} (h : DK W g d A c) : (Instr.loadAt 41 (.pointer (some ⟨g, 0, none⟩))).run Try.prog W = .ok (.agg (DC d A c)) W :=
  run_loadAt_mid W g 0 41 (DC d A c).toList _ (fun j v hv => by rw [Nat.zero_add, Blk.cell h j]; simpa using hv) Try.underlying41 rfl size_signed
theorem hasM_of {l : List Sd} {i k : Nat} (hk : k < i) (hl : k < l.length) {x : Sd} (h : (mom x == mom l[k]) = true) : hasM (l.take i) x = true := by
  unfold hasM
  rw [List.any_eq_true]
  refine ⟨l[k], ?_, h⟩
  rw [List.mem_take_iff_getElem]
  exact ⟨k, by omega, rfl⟩
theorem hasM_nil (x : Sd) : hasM [] x = false := rfl
/-- A signed request lies there. -/
structure K1 (w0 : World) (g : Nat) (d : Sd) (A : Option Addr) (c : Nat) (W : World) : Prop where
  below : Below w0.heap.size w0 W
  new : w0.heap.size ≤ g
  one : DK W g d A c
theorem K1.later {w0 W W' : World} {g : Nat} {d : Sd} {A : Option Addr} {c : Nat} (h : K1 w0 g d A c W) (b : Below W.heap.size W W') : K1 w0 g d A c W' := ⟨h.below.trans (b.mono h.below.size), h.new, h.one.below b h.one.lt⟩
theorem k1_new {w0 W : World} (h : Below w0.heap.size w0 W) (d : Sd) (A : Option Addr) (c : Nat) : K1 w0 W.heap.size d A c (W.alloc (.cells (DC d A c) 41)) := ⟨h.alloc h.size _, h.size, Blk.new W _ _⟩
structure K2 (w0 : World) (g1 g2 : Nat) (x y : Sd) (A B : Option Addr) (c d : Nat) (W : World) : Prop where
  one : K1 w0 g1 x A c W
  two : DK W g2 y B d
theorem K2.later {w0 W W' : World} {g1 g2 : Nat} {x y : Sd} {A B : Option Addr} {c d : Nat} (h : K2 w0 g1 g2 x y A B c d W) (b : Below W.heap.size W W') : K2 w0 g1 g2 x y A B c d W' := ⟨h.one.later b, h.two.below b h.two.lt⟩
theorem K2.drew {w0 W : World} {g1 g2 : Nat} {x y : Sd} {A B : Option Addr} {c d : Nat} (h : K2 w0 g1 g2 x y A B c d W) : K2 w0 g1 g2 x y A B c d W.drew := h.later ⟨rfl, rfl, rfl, Nat.le_refl _, fun _ _ => rfl⟩

set_option maxRecDepth 100000 in
set_option maxHeartbeats 8000000 in
theorem twice_any (w : World) (X : Nat → Prop) (A : Option Addr) (c : Nat) (l : List Sd) (h : BI w X (.slice A l.length c) l) (h4 : l.length ≤ 4) :
    Calls Try.prog 44 #[.slice A l.length c] w fun e w' => e = .returned (.bool (twice l)) ∧ Below w.heap.size w w' := by
  obtain ⟨_, _, e, hc⟩ := h.shape
  injection e with e1 _ e2
  subst e1; subst e2
  have HB := Lib.hid h
  have HT : Hid (twI (l.take 0) (l.drop 0) = twice l) := Lib.hid rfl
  have hq := run_eql_moment
  have hg := guard_moment
  have HCC := Lib.hid hc
  clear h hc
  go_enter Try.func44, Try.ntmps44
  go_wp2_with fail
  go_loopw [9] (fun j wr => ∃ i : Nat, i ≤ l.length ∧ j = .int .i64 i ∧ twI (l.take i) (l.drop i) = twice l ∧ Below w.heap.size w wr) (fun j _ => l.length - (intOf j).toNat)
  case atStart => exact ⟨0, Nat.zero_le _, rfl, HT.out, Below.refl _ w⟩
  case round =>
    obtain ⟨i, hi, rfl, htw, hb⟩ := hrel
    clear HT
    by_cases hlt : i < l.length
    · rw [twI_step hlt] at htw
      obtain ⟨ad, Ar, cr, rfl, ⟨a0, a1, a2, a3, a4, a5, a6, a7, a8⟩, hls⟩ := (HB.out.after hb).at_ hlt
      have HTW := Lib.hid htw
      have hk1 := k1_new hb l[i] Ar cr
      have HLT := Lib.hid hlt
      have HBB := Lib.hid hb
      clear htw hls hb
      have hsl := slice_upto (some ad) l.length c i (by have := HCC.out; omega)
      generalize hx : l[i] = x at *
      have HX := Lib.hid hx
      clear hx
      unfold DC at hk1
      go_wp2_with fail
      generalize wr.alloc (.cells #[.int .i64 x.q.client, .int .i64 x.q.time, .int .i64 x.q.o.kind, .string ⟨x.q.o.topic.toArray⟩, .string ⟨x.q.o.group.toArray⟩, .int .i64 x.q.o.off, .slice Ar x.q.o.recs.length cr, .int .i64 x.s.1, .int .i64 x.s.2] 41) = w1 at *
      generalize wr.heap.size = g1 at *
      have HK := Lib.hid hk1
      clear hk1 a0 a1 a2 a3 a4 a5 a6 a7 a8
      have HM0 : Hid (hasM (l.take 0) x = false) := Lib.hid rfl
      go_loopw [18] (fun j wr => ∃ k : Nat, k ≤ i ∧ j = .int .i64 k ∧ hasM (l.take k) x = false ∧ K1 w g1 x Ar cr wr) (fun j _ => i - (intOf j).toNat)
      case atStart => exact ⟨0, Nat.zero_le _, rfl, HM0.out, HK.out⟩
      case round =>
        obtain ⟨k, hk, rfl, hm, hk1⟩ := hrel
        clear HM0 HK
        by_cases hlt2 : k < i
        · have hl2 : k < l.length := by omega
          obtain ⟨ad', Ar2, cr2, hA, ⟨a0, a1, a2, a3, a4, a5, a6, a7, a8⟩, hls⟩ := (HB.out.after hk1.below).at_ hl2
          obtain rfl : ad = ad' := Option.some.inj hA
          have hst := hasM_take (x := x) hl2
          have hof : (mom x == mom l[k]) = true → hasM (l.take i) x = true := fun e => hasM_of hlt2 hl2 e
          generalize hy : l[k] = y at *
          have HHM : Hid (hasM (l.take (k + 1)) x = (mom x == mom y)) := Lib.hid (by rw [hst, hm, Bool.false_or])
          have HOF := Lib.hid hof
          have hk2 : K2 w g1 wr.heap.size x y Ar Ar2 cr cr2 (wr.alloc (.cells (DC y Ar2 cr2) 41)) := ⟨hk1.later (op_below _ _), Blk.new wr _ _⟩
          clear hst hm hls hA hy hof hk1 hl2
          unfold DC at hk2
          go_wp2_with fail
          generalize wr.alloc (.cells #[.int .i64 y.q.client, .int .i64 y.q.time, .int .i64 y.q.o.kind, .string ⟨y.q.o.topic.toArray⟩, .string ⟨y.q.o.group.toArray⟩, .int .i64 y.q.o.off, .slice Ar2 y.q.o.recs.length cr2, .int .i64 y.s.1, .int .i64 y.s.2] 41) = w2 at *
          generalize wr.heap.size = g2 at *
          clear a0 a1 a2 a3 a4 a5 a6 a7 a8
          have HK2 := Lib.hid hk2
          have HMX := fun W : World => Lib.hid (moment_any x Ar cr W)
          have HMY := fun W : World => Lib.hid (moment_any y Ar2 cr2 W)
          unfold DV DC MV at HMX HMY
          clear hk2
          by_cases heq : (mom x == mom y) = true
          · rw [heq] at HHM HOF
            have hqq : ∀ W : World, (binOp .eql 119 (MV x) (MV y)).run Try.prog W = .ok (.bool true) W := fun W => by rw [hq, heq]
            unfold MV at hqq
            clear heq hq
            have tok1 : True := trivial
            go_region_held3 (fun w' => (w'.cell? ⟨g1, 0, none⟩ = some (.int .i64 x.q.client) ∧ w'.cell? ⟨g1, 1, none⟩ = some (.int .i64 x.q.time) ∧ w'.cell? ⟨g1, 2, none⟩ = some (.int .i64 x.q.o.kind) ∧ w'.cell? ⟨g1, 3, none⟩ = some (.string ⟨x.q.o.topic.toArray⟩) ∧ w'.cell? ⟨g1, 4, none⟩ = some (.string ⟨x.q.o.group.toArray⟩) ∧ w'.cell? ⟨g1, 5, none⟩ = some (.int .i64 x.q.o.off) ∧ w'.cell? ⟨g1, 6, none⟩ = some (.slice Ar x.q.o.recs.length cr) ∧ w'.cell? ⟨g1, 7, none⟩ = some (.int .i64 x.s.1) ∧ w'.cell? ⟨g1, 8, none⟩ = some (.int .i64 x.s.2)) ∧ (w'.cell? ⟨g2, 0, none⟩ = some (.int .i64 y.q.client) ∧ w'.cell? ⟨g2, 1, none⟩ = some (.int .i64 y.q.time) ∧ w'.cell? ⟨g2, 2, none⟩ = some (.int .i64 y.q.o.kind) ∧ w'.cell? ⟨g2, 3, none⟩ = some (.string ⟨y.q.o.topic.toArray⟩) ∧ w'.cell? ⟨g2, 4, none⟩ = some (.string ⟨y.q.o.group.toArray⟩) ∧ w'.cell? ⟨g2, 5, none⟩ = some (.int .i64 y.q.o.off) ∧ w'.cell? ⟨g2, 6, none⟩ = some (.slice Ar2 y.q.o.recs.length cr2) ∧ w'.cell? ⟨g2, 7, none⟩ = some (.int .i64 y.s.1) ∧ w'.cell? ⟨g2, 8, none⟩ = some (.int .i64 y.s.2))) (first | exact ⟨DK.cells HK2.out.one.one, DK.cells HK2.out.two⟩ | exact ⟨DK.cells HK3.out.one.one, DK.cells HK3.out.two⟩ | exact ⟨DK.cells HK4.out.one.one, DK.cells HK4.out.two⟩)
              (first
              | (go_at_call 77; have _t := tok1; clear tok1 _t; refine (HMX _).out.mono ?_; rintro e w3 ⟨rfl, hb3⟩; have HK3 := Lib.hid (HK2.out.drew.later hb3); clear hb3)
              | (go_at_call 77; refine (HMY _).out.mono ?_; rintro e w4 ⟨rfl, hb4⟩; have HK4 := Lib.hid (HK3.out.later hb4); clear hb4))
            all_goals
              go_wp2_with fail
              go_ret
              exact ⟨by rw [← HTW.out, HOF.out trivial]; rfl, HK4.out.one.below⟩
          · have heq := Bool.eq_false_iff.2 heq
            rw [heq] at HHM
            have hqq : ∀ W : World, (binOp .eql 119 (MV x) (MV y)).run Try.prog W = .ok (.bool false) W := fun W => by rw [hq, heq]
            unfold MV at hqq
            clear heq hq
            have tok1 : True := trivial
            go_region_held3 (fun w' => (w'.cell? ⟨g1, 0, none⟩ = some (.int .i64 x.q.client) ∧ w'.cell? ⟨g1, 1, none⟩ = some (.int .i64 x.q.time) ∧ w'.cell? ⟨g1, 2, none⟩ = some (.int .i64 x.q.o.kind) ∧ w'.cell? ⟨g1, 3, none⟩ = some (.string ⟨x.q.o.topic.toArray⟩) ∧ w'.cell? ⟨g1, 4, none⟩ = some (.string ⟨x.q.o.group.toArray⟩) ∧ w'.cell? ⟨g1, 5, none⟩ = some (.int .i64 x.q.o.off) ∧ w'.cell? ⟨g1, 6, none⟩ = some (.slice Ar x.q.o.recs.length cr) ∧ w'.cell? ⟨g1, 7, none⟩ = some (.int .i64 x.s.1) ∧ w'.cell? ⟨g1, 8, none⟩ = some (.int .i64 x.s.2)) ∧ (w'.cell? ⟨g2, 0, none⟩ = some (.int .i64 y.q.client) ∧ w'.cell? ⟨g2, 1, none⟩ = some (.int .i64 y.q.time) ∧ w'.cell? ⟨g2, 2, none⟩ = some (.int .i64 y.q.o.kind) ∧ w'.cell? ⟨g2, 3, none⟩ = some (.string ⟨y.q.o.topic.toArray⟩) ∧ w'.cell? ⟨g2, 4, none⟩ = some (.string ⟨y.q.o.group.toArray⟩) ∧ w'.cell? ⟨g2, 5, none⟩ = some (.int .i64 y.q.o.off) ∧ w'.cell? ⟨g2, 6, none⟩ = some (.slice Ar2 y.q.o.recs.length cr2) ∧ w'.cell? ⟨g2, 7, none⟩ = some (.int .i64 y.s.1) ∧ w'.cell? ⟨g2, 8, none⟩ = some (.int .i64 y.s.2))) (first | exact ⟨DK.cells HK2.out.one.one, DK.cells HK2.out.two⟩ | exact ⟨DK.cells HK3.out.one.one, DK.cells HK3.out.two⟩ | exact ⟨DK.cells HK4.out.one.one, DK.cells HK4.out.two⟩)
              (first
              | (go_at_call 77; have _t := tok1; clear tok1 _t; refine (HMX _).out.mono ?_; rintro e w3 ⟨rfl, hb3⟩; have HK3 := Lib.hid (HK2.out.drew.later hb3); clear hb3)
              | (go_at_call 77; refine (HMY _).out.mono ?_; rintro e w4 ⟨rfl, hb4⟩; have HK4 := Lib.hid (HK3.out.later hb4); clear hb4))
            all_goals
              go_wp2_with fail
              go_roundw
              case rel => exact ⟨k + 1, by omega, by go_num, HHM.out, HK4.out.one⟩
              case measure => simp [intOf]; omega
        · have hke : k = i := by omega
          subst hke
          have HN := Lib.hid hm
          have HK1 := Lib.hid hk1
          clear hm hk1
          go_wp2_with fail
          go_roundw
          case rel => exact ⟨k + 1, by omega, by go_num, by rw [← HTW.out, HN.out]; rfl, HK1.out.below⟩
          case measure => simp [intOf]; omega
    · have hz : l.drop i = [] := List.drop_eq_nil_iff.2 (by omega)
      rw [hz] at htw
      have HN : Hid (twice l = false) := Lib.hid htw.symm
      have HBB := Lib.hid hb
      clear htw hz hb
      go_wp2_with fail
      go_ret
      exact ⟨by rw [HN.out]; rfl, HBB.out⟩

set_option maxRecDepth 100000 in
set_option maxHeartbeats 4000000 in
theorem cbatch_any (w : World) (X : Nat → Prop) (v : Value) (l : List Sd) (h : BI w X v l) (hr : ∀ x ∈ l, x.q.o.recs.length ≤ 140737488355328) (hl63 : l.length ≤ 140737488355328) :
    Calls Try.prog 12 #[v] w fun e w' => e = .returned (.int .i64 (bcheck l)) ∧ Below w.heap.size w w' := by
  obtain ⟨A, c, rfl, -⟩ := h.shape
  by_cases h4 : 4 < l.length
  · have hd : decide (4 < (l.length : Int)) = true := decide_eq_true (by omega)
    have HN : Hid (bcheck l = 3) := Lib.hid (by rw [bcheck, if_pos h4])
    clear h
    go_enter Try.func12, Try.ntmps12
    go_wp2_with fail
    go_ret
    exact ⟨by rw [HN.out]; rfl, Below.refl _ w⟩
  · have hd : decide (4 < (l.length : Int)) = false := decide_eq_false (by omega)
    have h4' : l.length ≤ 4 := by omega
    have HB := Lib.hid h
    have HR := Lib.hid hr
    have HQ : Hid (bcheck l = if lcheck l ≠ 0 then lcheck l else if twice l then 5 else 0) := Lib.hid (by rw [bcheck, if_neg h4])
    clear h hr h4
    go_enter Try.func12, Try.ntmps12
    go_wp2_with fail
    go_loopw [11] (fun j wr => ∃ i : Nat, i ≤ l.length ∧ j = .int .i64 i ∧ lcheck (l.drop i) = lcheck l ∧ Below w.heap.size w wr) (fun j _ => l.length - (intOf j).toNat)
    case atStart => exact ⟨0, Nat.zero_le _, rfl, rfl, Below.refl _ w⟩
    case round =>
      obtain ⟨i, hi, rfl, hlc, hb⟩ := hrel
      by_cases hlt : i < l.length
      · rw [lcheck_drop hlt] at hlc
        obtain ⟨ad, Ar, cr, rfl, ⟨a0, a1, a2, a3, a4, a5, a6, a7, a8⟩, hls⟩ := (HB.out.after hb).at_ hlt
        have hrl := HR.out _ (List.getElem_mem hlt)
        generalize hx : l[i] = x at *
        have hk1 := k1_new hb x Ar cr
        have HC := Lib.hid (signed_any x Ar cr X _ (hls.after (op_below wr (.cells (DC x Ar cr) 41))) hrl)
        have HBB := Lib.hid hb
        have HLC := Lib.hid hlc
        clear hlc hls hb hx
        unfold DV at HC
        unfold DC at hk1 HC
        go_wp2_with fail
        generalize wr.alloc (.cells #[.int .i64 x.q.client, .int .i64 x.q.time, .int .i64 x.q.o.kind, .string ⟨x.q.o.topic.toArray⟩, .string ⟨x.q.o.group.toArray⟩, .int .i64 x.q.o.off, .slice Ar x.q.o.recs.length cr, .int .i64 x.s.1, .int .i64 x.s.2] 41) = w1 at *
        generalize wr.heap.size = g1 at *
        have HK := Lib.hid hk1
        clear hk1 a0 a1 a2 a3 a4 a5 a6 a7 a8
        refine HC.out.mono ?_
        rintro e w2 ⟨he, hb2⟩
        have HK2 := Lib.hid (HK.out.later hb2)
        clear hb2
        by_cases hd0 : dcheck x = 0
        · rw [hd0] at he
          subst he
          have HN := Lib.hid (show lcheck (l.drop (i + 1)) = lcheck l by rw [← HLC.out, if_neg (by rw [hd0]; simp)])
          clear hd0
          go_wp2_with fail
          go_roundw
          case rel => exact ⟨i + 1, by omega, by go_num, HN.out, HK2.out.below⟩
          case measure => simp [intOf]; omega
        · subst he
          have HN := Lib.hid (show bcheck l = dcheck x by
            have e : dcheck x = lcheck l := by have := HLC.out; rwa [if_pos hd0] at this
            rw [HQ.out, ← e, if_pos hd0])
          have hne : (dcheck x != 0) = true := by simpa using hd0
          have hne2 : (dcheck x == 0) = false := by simpa using hd0
          clear hd0
          go_wp2_with fail
          go_ret
          exact ⟨by rw [HN.out]; rfl, HK2.out.below⟩
      · have hz : l.drop i = [] := List.drop_eq_nil_iff.2 (by omega)
        rw [hz] at hlc
        have HN : Hid (bcheck l = if twice l then 5 else 0) := Lib.hid (by rw [HQ.out, ← hlc]; rfl)
        have HBB := Lib.hid hb
        have HTA := Lib.hid (twice_any wr X A c l (HB.out.after hb) h4')
        clear hlc hz hb
        go_wp2_with fail
        refine HTA.out.mono ?_
        rintro e w2 ⟨he, hb2⟩
        have HB2 := Lib.hid (HBB.out.trans (hb2.mono HBB.out.size))
        clear hb2
        by_cases ht : twice l = true
        · rw [ht] at he HN
          subst he
          clear ht
          go_wp2_with fail
          go_ret
          exact ⟨by rw [HN.out]; rfl, HB2.out⟩
        · have ht := Bool.eq_false_iff.2 ht
          rw [ht] at he HN
          subst he
          clear ht
          go_wp2_with fail
          go_ret
          exact ⟨by rw [HN.out]; rfl, HB2.out⟩
end Go.Proofs.Ytjdmadfjfjenjaa.Jc

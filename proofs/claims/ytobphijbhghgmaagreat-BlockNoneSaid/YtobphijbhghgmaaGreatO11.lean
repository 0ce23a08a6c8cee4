/-
  Contracts of the program's table: Clone, Plain, From.
-/
import Derived.Test.YtobphijbhghgmaaGreatO10
import Derived.Deep.RegionWith
import Derived.Deep.RegionHeld3
import Derived.Deep.DrawnRows
import Derived.Test.YtobphijbhghgmaaGreatO05
import Derived.Deep.QuietTactic
import Derived.Deep.MidRow
import Derived.Test.YtobphijbhghgmaaGreatO06
import Derived.BigQuiet
import Derived.Test.YtobphijbhghgmaaGreatO04
import Derived.StillTailTactics
import Derived.Deep.RegionLaw
import Derived.Test.YtobphijbhghgmaaGreatO09
import Derived.Test.YtobphijbhghgmaaGreatO07
namespace Go.Proofs.YtobphijbhghgmaaGreat.Ig
set_option linter.unusedSimpArgs false
set_option linter.unusedVariables false
set_option maxRecDepth 100000
open Go Go.RowKit Ck Im Kw Ik Ia Ib Ic
attribute [local go_sem ↓] Go.wp_at_zero Go.wp_at_succ

theorem tclone_end {w w2 : World} {L : List Tx} {D : DataW Unit} {es : Array MapEntry} {clock : Nat} {tv : Value} (hN : Nums D L) (hF : WideElems.Fit Tryz.prog 9 (plainElem (H := Unit) Tryz.prog 22) es clock) (hsz : es.size ≤ L.length)
    (hD : D = .map ((es.toList.map (WideElems.rg Tryz.prog 9 (plainElem Tryz.prog 22))).foldr DataW.insert [])) (hall : ∀ l ∈ L, l.length ≤ 140737488355328) (hL : L.length ≤ 1048576)
    (ho : w2.ownsRow (w.alloc (.map es clock)).drew.heap.size 9 1 tv L.length (L.map SV)) (hb : Below (w.alloc (.map es clock)).drew.heap.size (w.alloc (.map es clock)).drew w2) :
    Tb (w2.alloc (.cells #[.map (some w.heap.size), tv] 58)) (New w (w2.alloc (.cells #[.map (some w.heap.size), tv] 58))) w2.heap.size L ∧ Below w.heap.size w (w2.alloc (.cells #[.map (some w.heap.size), tv] 58)) := by
  have b1 : Below w.heap.size w (w.alloc (.map es clock)).drew := below_drewN ((Below.refl _ w).alloc (Nat.le_refl _) _) 1
  have hs : (w.alloc (.map es clock)).drew.heap.size = w.heap.size + 1 := by simp
  rw [hs] at ho hb
  have hs2 := hb.size
  rw [hs] at hs2
  have b2 : Below w.heap.size w w2 := b1.trans (hb.mono (by omega))
  have hm : w2.heap[w.heap.size]? = some (.map es clock) := (hb.block w.heap.size (by omega)).trans (heap_alloc_new w _)
  refine ⟨⟨w.heap.size, tv, D, Blk.new _ _ _, ?_, hN, own_base (ho.alloc _) (Nat.zero_le _), ⟨by omega, by simp⟩, ⟨by omega, by simp; omega⟩, fun g hg => ?_, hall, hL⟩, b2.alloc b2.size _⟩
  · exact ⟨es, clock, (Below.heap_alloc w2 _ _ (by omega)).trans hm, hF, hsz, hD⟩
  · have := ho.lt g hg
    exact ⟨by omega, by simp; omega⟩

set_option maxHeartbeats 1000000 in
theorem tclone_any (w : World) (S : Nat → Prop) (p : Nat) (L : List Tx) (h : Tb w S p L) :
    Calls Tryz.prog 94 #[.pointer (some ⟨p, 0, none⟩)] w fun e w' => ∃ p', e = .returned (.pointer (some ⟨p', 0, none⟩)) ∧ Tb w' (New w w') p' L ∧ Below w.heap.size w w' := by
  have HM := Lib.hid (made_yes w S p L h)
  obtain ⟨m, tv, D, h1, hmap, hN, hown, hp, hm, hg, hall, hL⟩ := h
  obtain ⟨es, clock, hb, hF, hsz, hD⟩ := hmap
  obtain ⟨A', c', rfl⟩ := own_shape hown
  have c0 : w.cell? ⟨p, 0, none⟩ = some (.map (some m)) := h1.cell 0
  have c1 : w.cell? ⟨p, 1, none⟩ = some (.slice A' L.length c') := h1.cell 1
  have HB := Lib.hid hb
  have HO := Lib.hid hown
  have H1 := Lib.hid h1
  have HR := Lib.hid (And.intro hN (And.intro hF (And.intro hsz (And.intro hD hall))))
  have HL := Lib.hid hL
  clear h1 hb hF hsz hD hown hp hm hg hN hall hL
  go_enter Tryz.func94, Tryz.ntmps94
  go_wp2_with (go_at_call 60; refine HM.out.mono ?_; rintro e w' ⟨rfl, rfl⟩)
  have HS : Hid (Sl (w.drew.alloc (.map es clock)) (fun _ => False) 1 (.slice A' L.length c') L.length (L.map SV)) := Lib.hid ((show Sl w.drew _ _ _ _ _ from Sl.of_own HO.out (fun _ _ _ h => h)).alloc _)
  have k0 : (w.drew.alloc (.map es clock)).cell? ⟨p, 0, none⟩ = some (.map (some m)) := (show Blk w.drew _ _ _ from H1.out).alloc _ |>.cell 0
  have k1 : (w.drew.alloc (.map es clock)).cell? ⟨p, 1, none⟩ = some (.slice A' L.length c') := (show Blk w.drew _ _ _ from H1.out).alloc _ |>.cell 1
  go_region_held3 (fun w' => w'.cell? ⟨p, 0, none⟩ = some (.map (some m)) ∧ w'.cell? ⟨p, 1, none⟩ = some (.slice A' L.length c')) (first | exact ⟨c0, c1⟩ | exact ⟨k0, k1⟩ | exact ⟨j0, j1⟩ | go_keep)
   (first
    | (go_at_call 114; refine (mclone_strs _ m es clock (by exact HB.out)).mono ?_; rintro e w1 ⟨rfl, rfl⟩)
    | (go_at_call 115; refine (clone_strs (fun _ => False) _ L.length (L.map SV) _ (by exact HS.out) (svs_one L) (by have := HL.out; omega)).mono ?_; rintro e w2 ⟨A2, c2, rfl, ho2, hb2⟩; have j0 := (hb2.cell (World.block_lt_of_cell? _ _ k0)).trans k0; have j1 := (hb2.cell (World.block_lt_of_cell? _ _ k1)).trans k1))
  go_wp2
  go_ret
  exact ⟨_, rfl, tclone_end HR.out.1 HR.out.2.1 HR.out.2.2.1 HR.out.2.2.2.1 HR.out.2.2.2.2 HL.out ho2 hb2⟩

theorem tclone_nil (w : World) : Calls Tryz.prog 94 #[.pointer none] w fun e w' => e = .returned (.pointer none) ∧ w = w' := by
  go_enter Tryz.func94, Tryz.ntmps94
  go_wp2_with (go_at_call 60; refine (made_nil _).mono ?_; rintro e w' ⟨rfl, rfl⟩)
  go_ret
  exact ⟨rfl, rfl⟩
theorem tclone_no (w : World) (p : Nat) (tv : Value) (h : Blk w p 58 #[.map none, tv]) : Calls Tryz.prog 94 #[.pointer (some ⟨p, 0, none⟩)] w fun e w' => e = .returned (.pointer none) ∧ w = w' := by
  have HH := Lib.hid h
  clear h
  go_enter Tryz.func94, Tryz.ntmps94
  go_wp2_with (go_at_call 60; refine (made_no _ _ _ HH.out).mono ?_; rintro e w' ⟨rfl, rfl⟩)
  go_ret
  exact ⟨rfl, rfl⟩
end Go.Proofs.YtobphijbhghgmaaGreat.Ig

/-
  Layer 9: a table beside topics, apart, all of it in blocks of S.
-/
namespace Go.Proofs.YtobphijbhghgmaaGreat.Zt
set_option linter.unusedSimpArgs false
open Go Go.RowKit Ck Kw Ga Kf Pm Pe Tm Tn Tq Ik Aa Ab Ag Ah Ai Aj Al An
attribute [local go_sem ↓] Go.wp_at_zero Go.wp_at_succ
set_option linter.unusedVariables false

/-- A table at p and topics at t, apart. -/
def TS (w : World) (S : Nat → Prop) (p t : Nat) (L : List Tx) (s : St) : Prop :=
  ∃ S1 S2 R, Tb w S1 p L ∧ Tz w S2 R t s ∧ (∀ k, S1 k → ¬ S2 k ∧ ¬ R k) ∧ (∀ k, S1 k → S k ∧ k < w.heap.size) ∧ (∀ k, S2 k → S k ∧ k < w.heap.size) ∧ (∀ k, R k → S k ∧ k < w.heap.size)
section
variable {w w' : World} {S X : Nat → Prop} {p t : Nat} {L L' : List Tx} {s s' : St}
theorem TS.ch (h : TS w S p t L s) (c : Ch X w w') (hx : ∀ k, S k → ¬ X k) : TS w' S p t L s := by
  obtain ⟨S1, S2, R, h1, h2, h3, h4, h5, h6⟩ := h
  have hs := c.size
  exact ⟨S1, S2, R, h1.ch c (fun k hk hX => hx k (h4 k hk).1 hX), h2.ch c (fun k hk => hx k (h5 k hk).1) (fun k hk => hx k (h6 k hk).1), h3, fun k hk => ⟨(h4 k hk).1, Nat.lt_of_lt_of_le (h4 k hk).2 hs⟩, fun k hk => ⟨(h5 k hk).1, Nat.lt_of_lt_of_le (h5 k hk).2 hs⟩, fun k hk => ⟨(h6 k hk).1, Nat.lt_of_lt_of_le (h6 k hk).2 hs⟩⟩
theorem TS.later (h : TS w S p t L s) (b : Below w.heap.size w w') : TS w' S p t L s := h.ch (Ch.of_below (S := fun _ => False) b (Nat.le_refl _)) (fun _ _ h => h)
theorem TS.good (h : TS w S p t L s) : GoodS s := by
  obtain ⟨S1, S2, R, h1, h2, h3⟩ := h
  exact h2.good
theorem TS.len (h : TS w S p t L s) : L.length ≤ 1048576 := by
  obtain ⟨S1, S2, R, ⟨m, tv, D, _, _, _, _, _, _, _, _, h⟩, _⟩ := h
  exact h
theorem TS.tight (h : TS w S p t L s) : TS w (fun k => S k ∧ k < w.heap.size) p t L s := by
  obtain ⟨S1, S2, R, h1, h2, h3, h4, h5, h6⟩ := h
  exact ⟨S1, S2, R, h1, h2, h3, fun k hk => ⟨h4 k hk, (h4 k hk).2⟩, fun k hk => ⟨h5 k hk, (h5 k hk).2⟩, fun k hk => ⟨h6 k hk, (h6 k hk).2⟩⟩
theorem TS.weaken {T : Nat → Prop} (h : TS w S p t L s) (hk : ∀ k, k < w.heap.size → S k → T k) : TS w T p t L s := by
  obtain ⟨S1, S2, R, h1, h2, h3, h4, h5, h6⟩ := h
  exact ⟨S1, S2, R, h1, h2, h3, fun k hk' => ⟨hk k (h4 k hk').2 (h4 k hk').1, (h4 k hk').2⟩, fun k hk' => ⟨hk k (h5 k hk').2 (h5 k hk').1, (h5 k hk').2⟩, fun k hk' => ⟨hk k (h6 k hk').2 (h6 k hk').1, (h6 k hk').2⟩⟩
/-- A request was done. -/
theorem TS.apply {X : Nat → Prop} {client time : Int} {o : O} {A : Option Addr} {c : Nat} {k off : Int} {b : Bool} {pl : List (Tx × Int × Tx)} (h : TS w S p t L s) (hls : Ls w X (.slice A o.recs.length c) o.recs) (hl : o.recs.length ≤ 140737488355328) (ha : appS s client time o = ((k, off), pl, b, s')) :
    Calls Tryz.prog 70 #[.pointer (some ⟨t, 0, none⟩), RV client time o A c] w fun e w' => ∃ v B, e = .returned (.tuple #[.agg #[.int .i64 k, .int .i64 off], v, .bool b]) ∧ w.heap.size ≤ B ∧ Ps w' B v pl ∧ TS w' (fun k => (S k ∧ k < w.heap.size) ∨ (w.heap.size ≤ k ∧ k < B)) p t L s' ∧ Ch (fun k => S k ∧ k < w.heap.size) w w' := by
  obtain ⟨S1, S2, R, h1, h2, h3, h4, h5, h6⟩ := h
  refine (apply_any w S2 R t s client time o X A c h2 hls hl).mono ?_
  intro e w' he
  unfold Asked at he
  rw [ha] at he
  obtain ⟨v, B, hv, hB, hp, S', R', g1, g2, g3, g4⟩ := he
  have hs := g4.size
  refine ⟨v, B, hv, hB, hp, ⟨S1, _, R', h1.ch g4 (fun k hk hX => (h3 k hk).1 hX), Tz.bound g1, ?_, ?_, ?_, ?_⟩, g4.mono (fun k _ hk => h5 k hk)⟩
  · intro k hk
    have hlt := (h4 k hk).2
    refine ⟨fun h => ?_, fun h => ?_⟩
    · rcases (g2 k h.1).1 with q | q
      · exact (h3 k hk).1 q
      · omega
    · rcases (g3 k h).1 with q | q
      · exact (h3 k hk).2 q
      · omega
  · exact fun k hk => ⟨.inl (h4 k hk), by have := (h4 k hk).2; omega⟩
  · intro k hk
    refine ⟨?_, hk.2⟩
    obtain ⟨q1, q2⟩ := g2 k hk.1
    rcases q1 with q | q
    · exact .inl (h5 k q)
    · exact .inr ⟨by omega, q2⟩
  · intro k hk
    refine ⟨?_, (Tz.rlt g1 k hk).2⟩
    obtain ⟨q1, q2⟩ := g3 k hk
    rcases q1 with q | q
    · exact .inl (h6 k q)
    · exact .inr ⟨by omega, q2⟩
end
end Go.Proofs.YtobphijbhghgmaaGreat.Zt

/-
  Layer 8 (request): the contracts of isTwice and CheckBatch.
-/
namespace Go.Proofs.YtobphijbhghgmaaGreat.Jc
set_option linter.unusedSimpArgs false
open Go Go.RowKit Ck Kw Ga Kf Pm Pe Pg Ph Qb Lk Jm Ja Jb
attribute [local go_sem ↓] Go.wp_at_zero Go.wp_at_succ
set_option linter.unusedVariables false

theorem slice_upto (A : Option Addr) (n c k : Nat) (hk : k ≤ c) (W : World) : (Instr.slice 52 (.slice A n c) none (some (.int .i64 (k : Int))) none).run Tryz.prog W = .ok (.slice A k c) W := by
  have he : ∀ W : World, (sizeOf (Tryz.prog.elem 52)).run Tryz.prog W = .ok 9 W := fun _ => by kernel_rfl
  rw [run_slice_h W 52 A n c (by kernel_rfl) .i64 k (by omega) (by omega), he]
  simp only [Result.andThen_ok, sliced, Int.toNat_natCast]
  congr 2
  by_cases h0 : c = 0
  · simp [h0]
  · cases A <;> simp [h0, Addr.add]
theorem hasM_of {l : List Sd} {i k : Nat} (hk : k < i) (hl : k < l.length) {x : Sd} (h : (mom x == mom l[k]) = true) : hasM (l.take i) x = true := by
  unfold hasM
  rw [List.any_eq_true]
  refine ⟨l[k], ?_, h⟩
  rw [List.mem_take_iff_getElem]
  exact ⟨k, by omega, rfl⟩
/-- A signed request lies there. -/
structure K1 (w0 : World) (g : Nat) (d : Sd) (A : Option Addr) (c : Nat) (W : World) : Prop where
  below : Below w0.heap.size w0 W
  new : w0.heap.size ≤ g
  one : DK W g d A c
theorem K1.later {w0 W W' : World} {g : Nat} {d : Sd} {A : Option Addr} {c : Nat} (h : K1 w0 g d A c W) (b : Below W.heap.size W W') : K1 w0 g d A c W' := ⟨h.below.trans (b.mono h.below.size), h.new, h.one.below b h.one.lt⟩
theorem k1_new {w0 W : World} (h : Below w0.heap.size w0 W) (d : Sd) (A : Option Addr) (c : Nat) : K1 w0 W.heap.size d A c (W.alloc (.cells (DC d A c) 104)) := ⟨h.alloc h.size _, h.size, Blk.new W _ _⟩
structure K2 (w0 : World) (g1 g2 : Nat) (x y : Sd) (A B : Option Addr) (c d : Nat) (W : World) : Prop where
  one : K1 w0 g1 x A c W
  two : DK W g2 y B d
theorem K2.later {w0 W W' : World} {g1 g2 : Nat} {x y : Sd} {A B : Option Addr} {c d : Nat} (h : K2 w0 g1 g2 x y A B c d W) (b : Below W.heap.size W W') : K2 w0 g1 g2 x y A B c d W' := ⟨h.one.later b, h.two.below b h.two.lt⟩
theorem K2.drew {w0 W : World} {g1 g2 : Nat} {x y : Sd} {A B : Option Addr} {c d : Nat} (h : K2 w0 g1 g2 x y A B c d W) : K2 w0 g1 g2 x y A B c d W.drew := h.later ⟨rfl, rfl, rfl, Nat.le_refl _, fun _ _ => rfl⟩

set_option maxRecDepth 100000 in
set_option maxHeartbeats 8000000 in
theorem twice_any (w : World) (X : Nat → Prop) (A : Option Addr) (c : Nat) (l : List Sd) (h : BI w X (.slice A l.length c) l) (h4 : l.length ≤ 4) :
    Calls Tryz.prog 107 #[.slice A l.length c] w fun e w' => e = .returned (.bool (twice l)) ∧ Below w.heap.size w w' := by
  obtain ⟨_, _, e, hc⟩ := h.shape
  injection e with e1 _ e2
  subst e1; subst e2
  have HB := Lib.hid h
  have HT : Hid (twI (l.take 0) (l.drop 0) = twice l) := Lib.hid rfl
  have hq := run_eql_moment
  have hg := guard_moment
  have HCC := Lib.hid hc
  clear h hc
  go_enter Tryz.func107, Tryz.ntmps107
  go_wp2_with fail
  go_loopw [9] (fun j wr => ∃ i : Nat, i ≤ l.length ∧ j = .int .i64 i ∧ twI (l.take i) (l.drop i) = twice l ∧ Below w.heap.size w wr) (fun j _ => l.length - (intOf j).toNat)
  case atStart => exact ⟨0, Nat.zero_le _, rfl, HT.out, Below.refl _ w⟩
  case round =>
    obtain ⟨i, hi, rfl, htw, hb⟩ := hrel
    clear HT
    by_cases hlt : i < l.length
    · rw [twI_step hlt] at htw
      obtain ⟨ad, Ar, cr, rfl, ⟨a0, a1, a2, a3, a4, a5, a6, a7, a8⟩, hls⟩ := (HB.out.after hb).at_ hlt
      have HTW := Lib.hid htw
      have hk1 := k1_new hb l[i] Ar cr
      have HLT := Lib.hid hlt
      have HBB := Lib.hid hb
      clear htw hls hb
      have hsl := slice_upto (some ad) l.length c i (by have := HCC.out; omega)
      generalize hx : l[i] = x at *
      have HX := Lib.hid hx
      clear hx
      unfold DC at hk1
      go_wp2_with fail
      generalize wr.alloc (.cells #[.int .i64 x.q.client, .int .i64 x.q.time, .int .i64 x.q.o.kind, .string ⟨x.q.o.topic.toArray⟩, .string ⟨x.q.o.group.toArray⟩, .int .i64 x.q.o.off, .slice Ar x.q.o.recs.length cr, .int .i64 x.s.1, .int .i64 x.s.2] 104) = w1 at *
      generalize wr.heap.size = g1 at *
      have HK := Lib.hid hk1
      clear hk1 a0 a1 a2 a3 a4 a5 a6 a7 a8
      have HM0 : Hid (hasM (l.take 0) x = false) := Lib.hid rfl
      go_loopw [18] (fun j wr => ∃ k : Nat, k ≤ i ∧ j = .int .i64 k ∧ hasM (l.take k) x = false ∧ K1 w g1 x Ar cr wr) (fun j _ => i - (intOf j).toNat)
      case atStart => exact ⟨0, Nat.zero_le _, rfl, HM0.out, HK.out⟩
      case round =>
        obtain ⟨k, hk, rfl, hm, hk1⟩ := hrel
        clear HM0 HK
        by_cases hlt2 : k < i
        · have hl2 : k < l.length := by omega
          obtain ⟨ad', Ar2, cr2, hA, ⟨a0, a1, a2, a3, a4, a5, a6, a7, a8⟩, hls⟩ := (HB.out.after hk1.below).at_ hl2
          obtain rfl : ad = ad' := Option.some.inj hA
          have hst := hasM_take (x := x) hl2
          have hof : (mom x == mom l[k]) = true → hasM (l.take i) x = true := fun e => hasM_of hlt2 hl2 e
          generalize hy : l[k] = y at *
          have HHM : Hid (hasM (l.take (k + 1)) x = (mom x == mom y)) := Lib.hid (by rw [hst, hm, Bool.false_or])
          have HOF := Lib.hid hof
          have hk2 : K2 w g1 wr.heap.size x y Ar Ar2 cr cr2 (wr.alloc (.cells (DC y Ar2 cr2) 104)) := ⟨hk1.later (op_below _ _), Blk.new wr _ _⟩
          clear hst hm hls hA hy hof hk1 hl2
          unfold DC at hk2
          go_wp2_with fail
          generalize wr.alloc (.cells #[.int .i64 y.q.client, .int .i64 y.q.time, .int .i64 y.q.o.kind, .string ⟨y.q.o.topic.toArray⟩, .string ⟨y.q.o.group.toArray⟩, .int .i64 y.q.o.off, .slice Ar2 y.q.o.recs.length cr2, .int .i64 y.s.1, .int .i64 y.s.2] 104) = w2 at *
          generalize wr.heap.size = g2 at *
          clear a0 a1 a2 a3 a4 a5 a6 a7 a8
          have HK2 := Lib.hid hk2
          have HMX := fun W : World => Lib.hid (moment_any x Ar cr W)
          have HMY := fun W : World => Lib.hid (moment_any y Ar2 cr2 W)
          unfold DV DC MV at HMX HMY
          clear hk2
          by_cases heq : (mom x == mom y) = true
          · rw [heq] at HHM HOF
            have hqq : ∀ W : World, (binOp .eql 201 (MV x) (MV y)).run Tryz.prog W = .ok (.bool true) W := fun W => by rw [hq, heq]
            unfold MV at hqq
            clear heq hq
            have tok1 : True := trivial
            go_region_held3 (fun w' => (w'.cell? ⟨g1, 0, none⟩ = some (.int .i64 x.q.client) ∧ w'.cell? ⟨g1, 1, none⟩ = some (.int .i64 x.q.time) ∧ w'.cell? ⟨g1, 2, none⟩ = some (.int .i64 x.q.o.kind) ∧ w'.cell? ⟨g1, 3, none⟩ = some (.string ⟨x.q.o.topic.toArray⟩) ∧ w'.cell? ⟨g1, 4, none⟩ = some (.string ⟨x.q.o.group.toArray⟩) ∧ w'.cell? ⟨g1, 5, none⟩ = some (.int .i64 x.q.o.off) ∧ w'.cell? ⟨g1, 6, none⟩ = some (.slice Ar x.q.o.recs.length cr) ∧ w'.cell? ⟨g1, 7, none⟩ = some (.int .i64 x.s.1) ∧ w'.cell? ⟨g1, 8, none⟩ = some (.int .i64 x.s.2)) ∧ (w'.cell? ⟨g2, 0, none⟩ = some (.int .i64 y.q.client) ∧ w'.cell? ⟨g2, 1, none⟩ = some (.int .i64 y.q.time) ∧ w'.cell? ⟨g2, 2, none⟩ = some (.int .i64 y.q.o.kind) ∧ w'.cell? ⟨g2, 3, none⟩ = some (.string ⟨y.q.o.topic.toArray⟩) ∧ w'.cell? ⟨g2, 4, none⟩ = some (.string ⟨y.q.o.group.toArray⟩) ∧ w'.cell? ⟨g2, 5, none⟩ = some (.int .i64 y.q.o.off) ∧ w'.cell? ⟨g2, 6, none⟩ = some (.slice Ar2 y.q.o.recs.length cr2) ∧ w'.cell? ⟨g2, 7, none⟩ = some (.int .i64 y.s.1) ∧ w'.cell? ⟨g2, 8, none⟩ = some (.int .i64 y.s.2))) (first | exact ⟨DK.cells HK2.out.one.one, DK.cells HK2.out.two⟩ | exact ⟨DK.cells HK3.out.one.one, DK.cells HK3.out.two⟩ | exact ⟨DK.cells HK4.out.one.one, DK.cells HK4.out.two⟩)
              (first
              | (go_at_call 127; have _t := tok1; clear tok1 _t; refine (HMX _).out.mono ?_; rintro e w3 ⟨rfl, hb3⟩; have HK3 := Lib.hid (HK2.out.drew.later hb3); clear hb3)
              | (go_at_call 127; refine (HMY _).out.mono ?_; rintro e w4 ⟨rfl, hb4⟩; have HK4 := Lib.hid (HK3.out.later hb4); clear hb4))
            all_goals
              go_wp2_with fail
              go_ret
              exact ⟨by rw [← HTW.out, HOF.out trivial]; rfl, HK4.out.one.below⟩
          · have heq := Bool.eq_false_iff.2 heq
            rw [heq] at HHM
            have hqq : ∀ W : World, (binOp .eql 201 (MV x) (MV y)).run Tryz.prog W = .ok (.bool false) W := fun W => by rw [hq, heq]
            unfold MV at hqq
            clear heq hq
            have tok1 : True := trivial
            go_region_held3 (fun w' => (w'.cell? ⟨g1, 0, none⟩ = some (.int .i64 x.q.client) ∧ w'.cell? ⟨g1, 1, none⟩ = some (.int .i64 x.q.time) ∧ w'.cell? ⟨g1, 2, none⟩ = some (.int .i64 x.q.o.kind) ∧ w'.cell? ⟨g1, 3, none⟩ = some (.string ⟨x.q.o.topic.toArray⟩) ∧ w'.cell? ⟨g1, 4, none⟩ = some (.string ⟨x.q.o.group.toArray⟩) ∧ w'.cell? ⟨g1, 5, none⟩ = some (.int .i64 x.q.o.off) ∧ w'.cell? ⟨g1, 6, none⟩ = some (.slice Ar x.q.o.recs.length cr) ∧ w'.cell? ⟨g1, 7, none⟩ = some (.int .i64 x.s.1) ∧ w'.cell? ⟨g1, 8, none⟩ = some (.int .i64 x.s.2)) ∧ (w'.cell? ⟨g2, 0, none⟩ = some (.int .i64 y.q.client) ∧ w'.cell? ⟨g2, 1, none⟩ = some (.int .i64 y.q.time) ∧ w'.cell? ⟨g2, 2, none⟩ = some (.int .i64 y.q.o.kind) ∧ w'.cell? ⟨g2, 3, none⟩ = some (.string ⟨y.q.o.topic.toArray⟩) ∧ w'.cell? ⟨g2, 4, none⟩ = some (.string ⟨y.q.o.group.toArray⟩) ∧ w'.cell? ⟨g2, 5, none⟩ = some (.int .i64 y.q.o.off) ∧ w'.cell? ⟨g2, 6, none⟩ = some (.slice Ar2 y.q.o.recs.length cr2) ∧ w'.cell? ⟨g2, 7, none⟩ = some (.int .i64 y.s.1) ∧ w'.cell? ⟨g2, 8, none⟩ = some (.int .i64 y.s.2))) (first | exact ⟨DK.cells HK2.out.one.one, DK.cells HK2.out.two⟩ | exact ⟨DK.cells HK3.out.one.one, DK.cells HK3.out.two⟩ | exact ⟨DK.cells HK4.out.one.one, DK.cells HK4.out.two⟩)
              (first
              | (go_at_call 127; have _t := tok1; clear tok1 _t; refine (HMX _).out.mono ?_; rintro e w3 ⟨rfl, hb3⟩; have HK3 := Lib.hid (HK2.out.drew.later hb3); clear hb3)
              | (go_at_call 127; refine (HMY _).out.mono ?_; rintro e w4 ⟨rfl, hb4⟩; have HK4 := Lib.hid (HK3.out.later hb4); clear hb4))
            all_goals
              go_wp2_with fail
              go_roundw
              case rel => exact ⟨k + 1, by omega, by go_num, HHM.out, HK4.out.one⟩
              case measure => simp [intOf]; omega
        · have hke : k = i := by omega
          subst hke
          have HN := Lib.hid hm
          have HK1 := Lib.hid hk1
          clear hm hk1
          go_wp2_with fail
          go_roundw
          case rel => exact ⟨k + 1, by omega, by go_num, by rw [← HTW.out, HN.out]; rfl, HK1.out.below⟩
          case measure => simp [intOf]; omega
    · have hz : l.drop i = [] := List.drop_eq_nil_iff.2 (by omega)
      rw [hz] at htw
      have HN : Hid (twice l = false) := Lib.hid htw.symm
      have HBB := Lib.hid hb
      clear htw hz hb
      go_wp2_with fail
      go_ret
      exact ⟨by rw [HN.out]; rfl, HBB.out⟩

set_option maxRecDepth 100000 in
set_option maxHeartbeats 4000000 in
theorem cbatch_any (w : World) (X : Nat → Prop) (v : Value) (l : List Sd) (h : BI w X v l) (hr : ∀ x ∈ l, x.q.o.recs.length ≤ 140737488355328) (hl63 : l.length ≤ 140737488355328) :
    Calls Tryz.prog 88 #[v] w fun e w' => e = .returned (.int .i64 (bcheck l)) ∧ Below w.heap.size w w' := by
  obtain ⟨A, c, rfl, -⟩ := h.shape
  by_cases h4 : 4 < l.length
  · have hd : decide (4 < (l.length : Int)) = true := decide_eq_true (by omega)
    have HN : Hid (bcheck l = 3) := Lib.hid (by rw [bcheck, if_pos h4])
    clear h
    go_enter Tryz.func88, Tryz.ntmps88
    go_wp2_with fail
    go_ret
    exact ⟨by rw [HN.out]; rfl, Below.refl _ w⟩
  · have hd : decide (4 < (l.length : Int)) = false := decide_eq_false (by omega)
    have h4' : l.length ≤ 4 := by omega
    have HB := Lib.hid h
    have HR := Lib.hid hr
    have HQ : Hid (bcheck l = if lcheck l ≠ 0 then lcheck l else if twice l then 5 else 0) := Lib.hid (by rw [bcheck, if_neg h4])
    clear h hr h4
    go_enter Tryz.func88, Tryz.ntmps88
    go_wp2_with fail
    go_loopw [11] (fun j wr => ∃ i : Nat, i ≤ l.length ∧ j = .int .i64 i ∧ lcheck (l.drop i) = lcheck l ∧ Below w.heap.size w wr) (fun j _ => l.length - (intOf j).toNat)
    case atStart => exact ⟨0, Nat.zero_le _, rfl, rfl, Below.refl _ w⟩
    case round =>
      obtain ⟨i, hi, rfl, hlc, hb⟩ := hrel
      by_cases hlt : i < l.length
      · rw [lcheck_drop hlt] at hlc
        obtain ⟨ad, Ar, cr, rfl, ⟨a0, a1, a2, a3, a4, a5, a6, a7, a8⟩, hls⟩ := (HB.out.after hb).at_ hlt
        have hrl := HR.out _ (List.getElem_mem hlt)
        generalize hx : l[i] = x at *
        have hk1 := k1_new hb x Ar cr
        have HC := Lib.hid (signed_any x Ar cr X _ (hls.after (op_below wr (.cells (DC x Ar cr) 104))) hrl)
        have HBB := Lib.hid hb
        have HLC := Lib.hid hlc
        clear hlc hls hb hx
        unfold DV at HC
        unfold DC at hk1 HC
        go_wp2_with fail
        generalize wr.alloc (.cells #[.int .i64 x.q.client, .int .i64 x.q.time, .int .i64 x.q.o.kind, .string ⟨x.q.o.topic.toArray⟩, .string ⟨x.q.o.group.toArray⟩, .int .i64 x.q.o.off, .slice Ar x.q.o.recs.length cr, .int .i64 x.s.1, .int .i64 x.s.2] 104) = w1 at *
        generalize wr.heap.size = g1 at *
        have HK := Lib.hid hk1
        clear hk1 a0 a1 a2 a3 a4 a5 a6 a7 a8
        refine HC.out.mono ?_
        rintro e w2 ⟨he, hb2⟩
        have HK2 := Lib.hid (HK.out.later hb2)
        clear hb2
        by_cases hd0 : dcheck x = 0
        · rw [hd0] at he
          subst he
          have HN := Lib.hid (show lcheck (l.drop (i + 1)) = lcheck l by rw [← HLC.out, if_neg (by rw [hd0]; simp)])
          clear hd0
          go_wp2_with fail
          go_roundw
          case rel => exact ⟨i + 1, by omega, by go_num, HN.out, HK2.out.below⟩
          case measure => simp [intOf]; omega
        · subst he
          have HN := Lib.hid (show bcheck l = dcheck x by
            have e : dcheck x = lcheck l := by have := HLC.out; rwa [if_pos hd0] at this
            rw [HQ.out, ← e, if_pos hd0])
          have hne : (dcheck x != 0) = true := by simpa using hd0
          have hne2 : (dcheck x == 0) = false := by simpa using hd0
          clear hd0
          go_wp2_with fail
          go_ret
          exact ⟨by rw [HN.out]; rfl, HK2.out.below⟩
      · have hz : l.drop i = [] := List.drop_eq_nil_iff.2 (by omega)
        rw [hz] at hlc
        have HN : Hid (bcheck l = if twice l then 5 else 0) := Lib.hid (by rw [HQ.out, ← hlc]; rfl)
        have HBB := Lib.hid hb
        have HTA := Lib.hid (twice_any wr X A c l (HB.out.after hb) h4')
        clear hlc hz hb
        go_wp2_with fail
        refine HTA.out.mono ?_
        rintro e w2 ⟨he, hb2⟩
        have HB2 := Lib.hid (HBB.out.trans (hb2.mono HBB.out.size))
        clear hb2
        by_cases ht : twice l = true
        · rw [ht] at he HN
          subst he
          clear ht
          go_wp2_with fail
          go_ret
          exact ⟨by rw [HN.out]; rfl, HB2.out⟩
        · have ht := Bool.eq_false_iff.2 ht
          rw [ht] at he HN
          subst he
          clear ht
          go_wp2_with fail
          go_ret
          exact ⟨by rw [HN.out]; rfl, HB2.out⟩
end Go.Proofs.YtobphijbhghgmaaGreat.Jc

/-
  Layer 8 (request): a batch's form; PutBatch; the document's CheckBatch and PutBatch.
-/
namespace Go.Proofs.YtobphijbhghgmaaGreat.Je
set_option linter.unusedSimpArgs false
open Go Go.RowKit Ck Kw Ca Cb Cd Ga Kf Pm Pe Pg Ph Pk Pn Pj Po Qb Lk Jm Ja Jb Jc Jd
attribute [local go_sem ↓] Go.wp_at_zero Go.wp_at_succ
set_option linter.unusedVariables false

/-- A batch's bytes, so far. -/
def bpre (l : List Sd) (i : Nat) : List UInt8 := Cm.enc l.length ++ (l.take i).flatMap dB
theorem bpre_len {l : List Sd} (h : bcheck l = 0) (i : Nat) : (bpre l i).length ≤ 4081 := by
  obtain ⟨h1, h2, _⟩ := bcheck_ok h
  have h3 := flat_dB (l := l.take i) (fun x hx => h2 x (List.mem_of_mem_take hx))
  have h4 := enc_1 (n := l.length) (by omega)
  have h5 : (l.take i).length ≤ l.length := by rw [List.length_take]; omega
  simp only [bpre, List.length_append]
  omega
theorem bpre_step {l : List Sd} {i : Nat} (hi : i < l.length) : bpre l (i + 1) = bpre l i ++ dB l[i] := by
  rw [bpre, bpre, List.take_succ_eq_append_getElem hi, List.flatMap_append, List.append_assoc]
  simp
theorem bpre_all (l : List Sd) : bpre l l.length = braw l := by rw [bpre, List.take_length, braw]
theorem bpre_zero (l : List Sd) : bpre l 0 = Cm.enc l.length := by simp [bpre]
theorem dB_app {x : Sd} (hq : qcheck x.q = 0) (hs : scheck x.s = 0) (b : List UInt8) : b ++ dB x = b ++ Cm.encB (qform x.q) ++ sform x.s := by
  rw [qform_eq hq, sform_eq hs, dB, List.append_assoc]

set_option maxRecDepth 100000 in
set_option maxHeartbeats 4000000 in
theorem lform_any (w : World) (X : Nat → Prop) (A : Option Addr) (c : Nat) (l : List Sd) (h : BI w X (.slice A l.length c) l) (hc : bcheck l = 0) (hr : ∀ x ∈ l, x.q.o.recs.length ≤ 140737488355328) :
    Calls Tryz.prog 109 #[.slice A l.length c] w fun e w' => Made w 5 (braw l) e w' := by
  have HB := Lib.hid h
  have HR := Lib.hid hr
  have HBL := fun i => Lib.hid (bpre_len hc i)
  obtain ⟨h4, hok, _⟩ := bcheck_ok hc
  have HOK := Lib.hid hok
  have hwl := wrap_u64' l.length (by omega)
  have HBA := Lib.hid (bpre_all l)
  have HBZ := Lib.hid (bpre_zero l)
  clear h hc hr hok
  go_enter Tryz.func109, Tryz.ntmps109
  go_wp2_with fail
  refine (putnum_any (fun _ => False) (.slice none 0 0) 0 [] l.length _ (Sl.nil _ _ _) (by omega) (by omega)).mono ?_
  rintro e w1 ⟨v1, rfl, hown1, hb1⟩
  have HO1 : Hid (w1.ownsRow w.heap.size 5 1 v1 (bpre l 0).length (BVs (bpre l 0))) := Lib.hid (by rw [HBZ.out]; exact hown1)
  have HB1 := Lib.hid hb1
  clear hown1 hb1
  go_wp2_with fail
  go_loopw [3, 14] (fun v j wr => ∃ i : Nat, i ≤ l.length ∧ j = .int .i64 i ∧ wr.ownsRow w.heap.size 5 1 v (bpre l i).length (BVs (bpre l i)) ∧ Below w.heap.size w wr) (fun _ j _ => l.length - (intOf j).toNat)
  case atStart => exact ⟨0, Nat.zero_le _, rfl, HO1.out, HB1.out⟩
  case round =>
    obtain ⟨i, hi, rfl, hown, hb⟩ := hrel
    clear HO1 HB1
    by_cases hlt : i < l.length
    · obtain ⟨ad, Ar, cr, rfl, ⟨a0, a1, a2, a3, a4, a5, a6, a7, a8⟩, hls⟩ := (HB.out.after hb).at_ hlt
      have hrl := HR.out _ (List.getElem_mem hlt)
      obtain ⟨ok1, ok2⟩ := HOK.out _ (List.getElem_mem hlt)
      have HST := Lib.hid (bpre_step hlt)
      generalize hx : l[i] = x at *
      have HQL := Lib.hid (qform_len x.q)
      have HSL := Lib.hid (sform_len x.s)
      have HDB := Lib.hid (dB_app ok1 ok2 (bpre l i))
      have HC := Lib.hid (qbytes_any x.q (QV x.q Ar cr) X _ ⟨Ar, cr, rfl, hls.after (op_below wr (.cells (DC x Ar cr) 104))⟩ hrl)
      have hk1 := k1_new hb x Ar cr
      have HOW : Hid ((wr.alloc (.cells (DC x Ar cr) 104)).ownsRow w.heap.size 5 1 _ (bpre l i).length (BVs (bpre l i))) := Lib.hid (hown.alloc _)
      have HBL1 := HBL i
      obtain ⟨Av, cv, rfl⟩ := own_shape hown
      unfold Byt at HC
      rw [ok1] at HC
      clear hls hb hx hown ok1 ok2
      unfold QV QC at HC
      unfold DC at hk1 HC HOW
      generalize bpre l i = bp at *
      go_wp2_with fail
      generalize wr.alloc (.cells #[.int .i64 x.q.client, .int .i64 x.q.time, .int .i64 x.q.o.kind, .string ⟨x.q.o.topic.toArray⟩, .string ⟨x.q.o.group.toArray⟩, .int .i64 x.q.o.off, .slice Ar x.q.o.recs.length cr, .int .i64 x.s.1, .int .i64 x.s.2] 104) = w1 at *
      generalize wr.heap.size = g1 at *
      have HK := Lib.hid hk1
      clear hk1 a0 a1 a2 a3 a4 a5 a6 a7 a8
      refine HC.out.mono ?_
      rintro e w2 ⟨v2, rfl, hsl2, hb2⟩
      obtain ⟨Ax, cx, rfl, -⟩ := id hsl2
      have HK2 := Lib.hid (HK.out.later hb2)
      have HOW2 := Lib.hid (own_below HOW.out hb2)
      have HX2 := Lib.hid hsl2
      clear hsl2 hb2
      go_wp2_with fail
      have HP1 := Lib.hid (putbytes_any (fun _ => False) _ _ _ _ bp (qform x.q) w2.drew (Sl.of_own HOW2.out.drew (fun _ _ _ h => h)) (HX2.out.drew.weaken (fun _ _ h => h.elim)) (by have := HBL1.out; omega) (by have := HBL1.out; have := HQL.out; omega))
      have HP2 : Hid (∀ W v, W.ownsRow w2.heap.size 5 1 v (bp ++ Cm.encB (qform x.q)).length (BVs (bp ++ Cm.encB (qform x.q))) → Calls Tryz.prog 131 #[v, .agg #[.int .i64 x.s.1, .int .i64 x.s.2]] W fun e w' => Made W 5 (bp ++ Cm.encB (qform x.q) ++ sform x.s) e w') := Lib.hid fun W v ho => putsign_any x.s (fun _ => False) v _ _ W (Sl.of_own ho (fun _ _ _ h => h)) (by
        have h1 := HBL1.out; have h2 := HQL.out; have h3 := (Cm.enc_len (qform x.q).length).1
        rw [List.length_append, Cm.encB_len]; omega)
      obtain ⟨-, -, -, -, -, -, -, j7, j8⟩ := HK2.out.one.cells
      have tok1 : True := trivial
      go_region_held3 (fun w' => w'.cell? ⟨g1, 7, none⟩ = some (.int .i64 x.s.1) ∧ w'.cell? ⟨g1, 8, none⟩ = some (.int .i64 x.s.2)) (first | exact ⟨j7, j8⟩ | exact ⟨k7, k8⟩ | exact ⟨q7, q8⟩)
        (first
        | (go_at_call 120; have _t := tok1; clear tok1 _t; refine HP1.out.mono ?_; rintro e w3 ⟨v3, rfl, hown3, hb3⟩; have HK3 := Lib.hid (HK2.out.later (Ga.below_of_drew hb3)); obtain ⟨-, -, -, -, -, -, -, k7, k8⟩ := HK3.out.one.cells; have HO3 : Hid (w3.ownsRow w2.heap.size 5 1 v3 _ _) := Lib.hid hown3; clear hown3 hb3)
        | (go_at_call 131; refine (HP2.out _ _ HO3.out).mono ?_; rintro e w4 ⟨v4, rfl, hown4, hb4⟩; have HK4 := Lib.hid (HK3.out.later hb4); obtain ⟨-, -, -, -, -, -, -, q7, q8⟩ := HK4.out.one.cells; have HO4 := Lib.hid (own_base hown4 HK3.out.below.size); clear hown4 hb4))
      all_goals
        go_wp2_with fail
        go_roundw
        case rel => exact ⟨i + 1, by omega, by go_num, by rw [HST.out, HDB.out]; exact HO4.out, HK4.out.below⟩
        case measure => simp [intOf]; omega
    · have hke : i = l.length := by omega
      subst hke
      have HN : Hid (Made w 5 (braw l) _ wr) := Lib.hid (Made.of_parts (by rw [← HBA.out]; exact hown) hb)
      clear hown hb
      go_wp2_with fail
      go_ret
      exact HN.out

set_option maxRecDepth 100000 in
set_option maxHeartbeats 1000000 in
theorem putbatch_any (l : List Sd) (vl : Value) (X Y : Nat → Prop) (vb : Value) (nb : Nat) (b : List UInt8) (w : World) (h : BI w X vl l) (hr : ∀ x ∈ l, x.q.o.recs.length ≤ 140737488355328) (hl63 : l.length ≤ 140737488355328) (hb : Sl w Y 1 vb nb (BVs b)) (hbl : b.length ≤ 140737488351232) :
    Calls Tryz.prog 90 #[vb, vl] w fun e w' => Made w 5 (b ++ bform l) e w' := by
  obtain ⟨A, c, rfl, -⟩ := h.shape
  have HCK := Lib.hid (cbatch_any w X _ l h hr hl63)
  have HP : Hid (∀ W : World, Below w.heap.size w W → Calls Tryz.prog 108 #[vb, .int .i64 (bcheck l), .func (.func 109) #[.slice A l.length c] #[]] W fun e w' => Made W 5 (b ++ bform l) e w') := Lib.hid fun W hW => by
    by_cases hs : bcheck l = 0
    · rw [hs, bform_eq hs]
      have := braw_len hs
      exact put_list _ _ (by omega) Y vb nb b W (hb.after hW) hbl (Lib.hid (lform_any W X A c l (h.after hW) hs hr))
    · have : bform l = [] := by rw [bform, if_pos hs]
      rw [this, List.append_nil]
      exact put_no _ hs _ Y vb nb b W (hb.after hW) hbl
  clear hb hbl h hr
  generalize bform l = f at *
  go_enter Tryz.func90, Tryz.ntmps90
  go_wp2_with fail
  refine HCK.out.mono ?_
  rintro e w1 ⟨rfl, hb1⟩
  have HB1 := Lib.hid hb1
  clear hb1
  go_wp2_with fail
  refine (HP.out _ HB1.out).mono ?_
  rintro e w2 ⟨v2, rfl, hown2, hb2⟩
  have HO2 := Lib.hid (own_base hown2 HB1.out.size)
  have HB2 := Lib.hid (HB1.out.trans (hb2.mono HB1.out.size))
  clear hown2 hb2
  go_wp2_with fail
  go_ret
  exact ⟨v2, rfl, HO2.out, HB2.out⟩

end Go.Proofs.YtobphijbhghgmaaGreat.Je

/-
  Contract of the program's ledger: Sign.
-/
namespace Go.Proofs.YtobphijbhghgmaaGreat.Lc
set_option linter.unusedSimpArgs false
set_option linter.unusedVariables false
set_option maxRecDepth 100000
open Go Go.RowKit Ck Im Kw Ik Ia Ib Ic Lk
attribute [local go_sem ↓] Go.wp_at_zero Go.wp_at_succ

/-- The world when Signed is asked: the result's cells, and the signature's. -/
def W1 (w : World) (x y : Int) : World := (w.alloc (.cells #[.int .i64 0, .int .i64 0] 102)).alloc (.cells #[.int .i64 x, .int .i64 y] 102)
end Go.Proofs.YtobphijbhghgmaaGreat.Lc

/-
  Layer 8 (request): a table beside its ledger; the contracts of madeTable, madeLedger, clone.
-/
namespace Go.Proofs.YtobphijbhghgmaaGreat.Jf
set_option linter.unusedSimpArgs false
open Go Go.RowKit Ck Kw Ga Kf Pm Pe Pg Pk Py Qb Qg Ik Lk Jm Ja Jb Jd
attribute [local go_sem ↓] Go.wp_at_zero Go.wp_at_succ
set_option linter.unusedVariables false
set_option maxRecDepth 100000

section
variable {w w' : World} {S T : Nat → Prop} {p g : Nat} {L L' : List (List UInt8)} {G G' : List Sg}
end

set_option maxHeartbeats 1000000 in
theorem madet_any (w : World) (S : Nat → Prop) (p : Nat) (L : List (List UInt8)) (h : Tb w S p L) :
    Calls Tryz.prog 89 #[.pointer (some ⟨p, 0, none⟩)] w fun e w' => e = .returned (.bool true) ∧ Below w.heap.size w w' := by
  have HL := Lib.hid (Ia.len_yes w S p L h)
  have HT := Lib.hid (Ig.tclone_any w S p L h)
  clear h
  generalize L.length = n at *
  by_cases h0 : 0 < n
  · have hd : decide (0 < (n : Int)) = true := decide_eq_true (by omega)
    have hd2 : decide (0 < n) = true := decide_eq_true h0
    clear h0
    go_enter Tryz.func89, Tryz.ntmps89
    go_wp2_with fail
    refine HL.out.mono ?_
    rintro e w1 ⟨rfl, rfl⟩
    go_wp2_with fail
    go_ret
    exact ⟨rfl, Below.refl _ _⟩
  · have hd : decide (0 < (n : Int)) = false := decide_eq_false (by omega)
    have hd2 : decide (0 < n) = false := decide_eq_false h0
    clear h0
    go_enter Tryz.func89, Tryz.ntmps89
    go_wp2_with fail
    refine HL.out.mono ?_
    rintro e w1 ⟨rfl, rfl⟩
    go_wp2_with fail
    refine HT.out.mono ?_
    rintro e w2 ⟨p', rfl, -, hb⟩
    have HB := Lib.hid hb
    clear hb
    go_wp2_with fail
    go_ret
    exact ⟨rfl, HB.out⟩
/-- The cells of no request, of no signed one. -/
def Z7 : Array Value := #[.int .i64 0, .int .i64 0, .int .i64 0, .string ⟨#[]⟩, .string ⟨#[]⟩, .int .i64 0, .slice none 0 0]
def Z9 : Array Value := #[.int .i64 0, .int .i64 0, .int .i64 0, .string ⟨#[]⟩, .string ⟨#[]⟩, .int .i64 0, .slice none 0 0, .int .i64 0, .int .i64 0]
/-- A request's clone. -/
def ClonedQ (w : World) (q : Q) (e : Ending) (w' : World) : Prop := ∃ A c, e = .returned (QV q A c) ∧ Ls w' (fun k => k < w.heap.size) (.slice A q.o.recs.length c) q.o.recs ∧ Below w.heap.size w w'
theorem fin {w w2 w3 : World} {q : Q} {A : Option Addr} {c : Nat} (h : Ls w2 (fun k => k < w.heap.size + 2) (.slice A q.o.recs.length c) q.o.recs) (b : Below w.heap.size w w2) (hc : Ch (fun k => w.heap.size ≤ k ∧ k < w.heap.size + 2) w2 w3) :
    ClonedQ w q (.returned (QV q A c)) w3 :=
  ⟨A, c, rfl, (h.ch hc (fun k _ hk => hk.2)).weaken (fun k _ hk => by omega), b.trans (hc.below (fun k hk h => by omega) b.size)⟩
end Go.Proofs.YtobphijbhghgmaaGreat.Jf

/-
  Layer 8 (request): the contracts of Seal and Valid.
-/
namespace Go.Proofs.YtobphijbhghgmaaGreat.Jg
set_option linter.unusedSimpArgs false
open Go Go.RowKit Ck Kw Ga Kf Pm Pe Pg Pk Py Qb Ik Lk Jm Ja Jb Jc Jd Jf
open Im (num isIn add sum)
attribute [local go_sem ↓] Go.wp_at_zero Go.wp_at_succ
set_option linter.unusedVariables false
set_option maxRecDepth 100000

/-- What Seal answers and leaves. -/
def sgOf (L : List (List UInt8)) (q : Q) : Sg := (key q.client, (sum L (qraw q) : Int))
def sealR (L : List (List UInt8)) (q : Q) : Sd × Int := if qcheck q ≠ 0 then (Sd.zero, qcheck q) else if code (sgOf L q) ≠ 0 then (Sd.zero, code (sgOf L q)) else (⟨q, sgOf L q⟩, 0)
def sealT (L : List (List UInt8)) (q : Q) : List (List UInt8) := if qcheck q ≠ 0 then L else add L (qraw q)
def sealG (L : List (List UInt8)) (G : List Sg) (q : Q) : List Sg := if qcheck q ≠ 0 then G else pay G (sgOf L q)
theorem sealR_bad {L : List (List UInt8)} {q : Q} (h : qcheck q ≠ 0) : sealR L q = (Sd.zero, qcheck q) := by rw [sealR, if_pos h]
theorem sealR_code {L : List (List UInt8)} {q : Q} (h : qcheck q = 0) (hc : code (sgOf L q) ≠ 0) : sealR L q = (Sd.zero, code (sgOf L q)) := by rw [sealR, if_neg (by omega), if_pos hc]
theorem sealR_ok {L : List (List UInt8)} {q : Q} (h : qcheck q = 0) (hc : code (sgOf L q) = 0) : sealR L q = (⟨q, sgOf L q⟩, 0) := by rw [sealR, if_neg (by omega), if_neg (by omega)]
theorem sealT_bad {L : List (List UInt8)} {q : Q} (h : qcheck q ≠ 0) : sealT L q = L := by rw [sealT, if_pos h]
theorem sealT_ok {L : List (List UInt8)} {q : Q} (h : qcheck q = 0) : sealT L q = add L (qraw q) := by rw [sealT, if_neg (by omega)]
theorem sealG_bad {L : List (List UInt8)} {G : List Sg} {q : Q} (h : qcheck q ≠ 0) : sealG L G q = G := by rw [sealG, if_pos h]
theorem sealG_ok {L : List (List UInt8)} {G : List Sg} {q : Q} (h : qcheck q = 0) : sealG L G q = pay G (sgOf L q) := by rw [sealG, if_neg (by omega)]
/-- Seal's own blocks. -/
structure SS (S : Nat → Prop) (w0 : World) (q : Q) (A : Option Addr) (c : Nat) (W : World) : Prop where
  ch : Ch S w0 W
  two : w0.heap.size + 2 ≤ W.heap.size
  req : QB W w0.heap.size q A c
  res : Blk W (w0.heap.size + 1) 104 Z9
theorem SS.step {S X : Nat → Prop} {w0 W W' : World} {q : Q} {A : Option Addr} {c : Nat} (h : SS S w0 q A c W) (k : Ch X W W') (hX : ∀ k, k < W.heap.size → X k → S k ∧ k < w0.heap.size) : SS S w0 q A c W' :=
  ⟨h.ch.trans k (fun i hi hx => (hX i (Nat.lt_of_lt_of_le hi h.ch.size) hx).1), Nat.le_trans h.two k.size, Blk.ch h.req k (fun hx => by have := (hX _ (Blk.lt h.req) hx).2; omega), Blk.ch h.res k (fun hx => by have := (hX _ (Blk.lt h.res) hx).2; omega)⟩
theorem SS.later {S : Nat → Prop} {w0 W W' : World} {q : Q} {A : Option Addr} {c : Nat} (h : SS S w0 q A c W) (b : Below W.heap.size W W') : SS S w0 q A c W' := h.step (Ch.of_below (S := fun _ => False) b (Nat.le_refl _)) (fun _ _ h => h.elim)
end Go.Proofs.YtobphijbhghgmaaGreat.Jg

/-
  Layer 8 (request): mathematics of what was sealed: who is valid, and the numbers of batches. No program is named here.
-/
namespace Go.Proofs.YtobphijbhghgmaaGreat.Jn
set_option linter.unusedSimpArgs false
open Im (num isIn add sum)
open Lk Jm Jg
set_option linter.unusedVariables false

theorem num_add {L : List (List UInt8)} {b s : List UInt8} (h : num L s ≠ 0) : num (add L b) s = num L s := by
  unfold Im.add
  split
  · rfl
  · split
    · rfl
    · exact Im.num_left L [b] s h
theorem sum_num {L : List (List UInt8)} {b : List UInt8} (h : sum L b ≠ 0) : num (add L b) b = sum L b ∧ num (add L b) b ≠ 0 := by
  unfold Im.sum at h ⊢
  unfold Im.add
  by_cases h1 : num L b ≠ 0
  · rw [if_pos h1, if_pos h1]; exact ⟨rfl, h1⟩
  · rw [if_neg h1] at h ⊢
    rw [if_neg h1]
    by_cases h2 : 1048576 ≤ L.length
    · rw [if_pos h2] at h; exact absurd rfl h
    · rw [if_neg h2] at h ⊢
      rw [if_neg h2]
      have := Im.num_snoc L b b
      rw [if_neg h1, if_pos rfl] at this
      rw [this]
      exact ⟨rfl, by omega⟩
theorem add_full {L : List (List UInt8)} {b : List UInt8} (h : sum L b = 0) : add L b = L := by
  unfold Im.sum at h
  unfold Im.add
  by_cases h1 : num L b ≠ 0
  · rw [if_pos h1]
  · rw [if_neg h1] at h ⊢
    by_cases h2 : 1048576 ≤ L.length
    · rw [if_pos h2]
    · rw [if_neg h2] at h; omega
theorem code_ok {L : List (List UInt8)} {q : Q} (h : qcheck q = 0) : code (sgOf L q) = 0 ↔ sum L (qraw q) ≠ 0 := by
  have h1 := (qcheck_ok h).1
  have h2 := Ja.key_pos ((isC_iff q.client).2 h1)
  unfold code sgOf
  simp only
  rw [h2, if_neg (by omega)]
  by_cases h0 : sum L (qraw q) = 0
  · rw [h0, if_pos (by simp)]; simp
  · rw [if_neg (by omega)]; simp [h0]
/-- These, and just these, were sealed. -/
structure Inv (L : List (List UInt8)) (G : List Sg) (R : List Sd) : Prop where
  good : ∀ d ∈ R, qcheck d.q = 0 ∧ d.s = (key d.q.client, (num L (qraw d.q) : Int)) ∧ num L (qraw d.q) ≠ 0 ∧ d.s ∈ G
  just : ∀ s ∈ G, ∃ d ∈ R, d.s = s
/-- What is sealed with q. -/
def sealS (L : List (List UInt8)) (q : Q) (R : List Sd) : List Sd := if (sealR L q).2 = 0 then R ++ [(sealR L q).1] else R
theorem Inv.step {L : List (List UInt8)} {G : List Sg} {R : List Sd} (h : Inv L G R) (q : Q) : Inv (sealT L q) (sealG L G q) (sealS L q R) := by
  by_cases hq : qcheck q = 0
  · rw [sealT_ok hq, sealG_ok hq]
    by_cases hc : code (sgOf L q) = 0
    · have hs := (code_ok hq).1 hc
      obtain ⟨n1, n2⟩ := sum_num hs
      have hR : sealS L q R = R ++ [⟨q, sgOf L q⟩] := by rw [sealS, sealR_ok hq hc]; rfl
      have hp : pay G (sgOf L q) = if sgOf L q ∈ G then G else G ++ [sgOf L q] := by rw [pay, if_pos hc]
      have hmem : ∀ s, s ∈ pay G (sgOf L q) ↔ s ∈ G ∨ s = sgOf L q := fun s => by
        rw [hp]
        split
        · rename_i hin
          exact ⟨.inl, fun h => h.elim id (fun e => by rw [e]; exact hin)⟩
        · simp
      rw [hR]
      refine ⟨fun d hd => ?_, fun s hs2 => ?_⟩
      · rcases List.mem_append.1 hd with hd | hd
        · obtain ⟨g1, g2, g3, g4⟩ := h.good d hd
          rw [num_add g3]
          exact ⟨g1, g2, g3, (hmem _).2 (.inl g4)⟩
        · obtain rfl : d = ⟨q, sgOf L q⟩ := by simpa using hd
          refine ⟨hq, ?_, n2, (hmem _).2 (.inr rfl)⟩
          simp only
          rw [n1]
          rfl
      · rcases (hmem s).1 hs2 with hs2 | rfl
        · obtain ⟨d, hd, e⟩ := h.just s hs2
          exact ⟨d, List.mem_append_left _ hd, e⟩
        · exact ⟨⟨q, sgOf L q⟩, List.mem_append_right _ (by simp), rfl⟩
    · have hs : sum L (qraw q) = 0 := by
        by_cases h0 : sum L (qraw q) = 0
        · exact h0
        · exact absurd ((code_ok hq).2 h0) hc
      have hR : sealS L q R = R := by rw [sealS, sealR_code hq hc, if_neg (by simpa using hc)]
      have hp : pay G (sgOf L q) = G := by rw [pay, if_neg hc]
      rw [add_full hs, hR, hp]
      exact h
  · have hR : sealS L q R = R := by rw [sealS, sealR_bad hq, if_neg (by simpa using hq)]
    rw [sealT_bad hq, sealG_bad hq, hR]
    exact h
/-- A batch's number. -/
def digR (L : List (List UInt8)) (l : List Sd) : Int × Int := if bcheck l ≠ 0 then (0, bcheck l) else if sum L (braw l) = 0 then (0, 6) else ((sum L (braw l) : Int), 0)
def digT (L : List (List UInt8)) (l : List Sd) : List (List UInt8) := if bcheck l ≠ 0 then L else add L (braw l)
theorem digR_bad {L : List (List UInt8)} {l : List Sd} (h : bcheck l ≠ 0) : digR L l = (0, bcheck l) := by rw [digR, if_pos h]
theorem digT_bad {L : List (List UInt8)} {l : List Sd} (h : bcheck l ≠ 0) : digT L l = L := by rw [digT, if_pos h]
theorem digR_full {L : List (List UInt8)} {l : List Sd} (h : bcheck l = 0) (h0 : sum L (braw l) = 0) : digR L l = (0, 6) := by rw [digR, if_neg (by omega), if_pos h0]
theorem digR_ok {L : List (List UInt8)} {l : List Sd} (h : bcheck l = 0) (h0 : sum L (braw l) ≠ 0) : digR L l = ((sum L (braw l) : Int), 0) := by rw [digR, if_neg (by omega), if_neg h0]
theorem digT_ok {L : List (List UInt8)} {l : List Sd} (h : bcheck l = 0) : digT L l = add L (braw l) := by rw [digT, if_neg (by omega)]
end Go.Proofs.YtobphijbhghgmaaGreat.Jn

/-
  Plain mathematics of layer 5 (merkle): splits, digests over leaves in a table of texts, proofs and what they come to; complete; sound; unlike lists, unlike digests. No program is named here.
-/
namespace Go.Proofs.YtobphijbhghgmaaGreat.Mm
set_option linter.unusedSimpArgs false
set_option linter.unusedVariables false
open Im

/-- How many of n leaves stand in the first part. -/
def split (n : Nat) : Nat := if n < 2 then 0 else 2 ^ Nat.log2 (n - 1)
theorem split_spec {n : Nat} (h : 2 ≤ n) : 1 ≤ split n ∧ split n < n ∧ n ≤ 2 * split n := by
  unfold split
  rw [if_neg (by omega)]
  have h1 := Nat.log2_self_le (n := n - 1) (by omega)
  have h2 := Nat.lt_log2_self (n := n - 1)
  have h3 : 2 ^ ((n - 1).log2 + 1) = 2 ^ (n - 1).log2 * 2 := Nat.pow_succ 2 _
  have h4 : 1 ≤ 2 ^ (n - 1).log2 := Nat.one_le_two_pow
  omega

def leafB (b : Tx) : Tx := 0 :: b
def nodeB (a b : Int) : Tx := 1 :: (Cm.enc a.toNat ++ Cm.enc b.toNat)
def noneB : Tx := [2]

/-- The digest over leaves, and the table behind it. -/
def rootF : Nat → List Tx → List Tx → Nat × List Tx
  | 0, L, _ => (0, L)
  | f + 1, L, l =>
    if l.length = 0 then (sum L noneB, add L noneB)
    else if l.length = 1 then (sum L (leafB (l.headD [])), add L (leafB (l.headD [])))
    else
      (sum (rootF f (rootF f L (l.take (split l.length))).2 (l.drop (split l.length))).2
          (nodeB (rootF f L (l.take (split l.length))).1 (rootF f (rootF f L (l.take (split l.length))).2 (l.drop (split l.length))).1),
        add (rootF f (rootF f L (l.take (split l.length))).2 (l.drop (split l.length))).2
          (nodeB (rootF f L (l.take (split l.length))).1 (rootF f (rootF f L (l.take (split l.length))).2 (l.drop (split l.length))).1))
def root (L l : List Tx) : Nat × List Tx := rootF (l.length + 1) L l

theorem rootF_eq : ∀ (f g : Nat) (L l : List Tx), l.length < f → l.length < g → rootF f L l = rootF g L l
  | 0, _, _, _, h, _ => by omega
  | _ + 1, 0, _, _, _, h => by omega
  | f + 1, g + 1, L, l, hf, hg => by
    by_cases h0 : l.length = 0
    · simp only [rootF, if_pos h0]
    · by_cases h1 : l.length = 1
      · simp only [rootF, if_neg h0, if_pos h1]
      · obtain ⟨s1, s2, s3⟩ := split_spec (n := l.length) (by omega)
        have e1 : ∀ K, rootF f K (l.take (split l.length)) = rootF g K (l.take (split l.length)) := fun K =>
          rootF_eq f g K _ (by rw [List.length_take]; omega) (by rw [List.length_take]; omega)
        have e2 : ∀ K, rootF f K (l.drop (split l.length)) = rootF g K (l.drop (split l.length)) := fun K =>
          rootF_eq f g K _ (by rw [List.length_drop]; omega) (by rw [List.length_drop]; omega)
        simp only [rootF, if_neg h0, if_neg h1, e1, e2]
theorem rootF_root {f : Nat} {L l : List Tx} (h : l.length < f) : rootF f L l = root L l := rootF_eq f _ L l h (by omega)
theorem root_nil (L : List Tx) : root L [] = (sum L noneB, add L noneB) := rfl
theorem root_one (L : List Tx) {l : List Tx} (h : l.length = 1) : root L l = (sum L (leafB (l.headD [])), add L (leafB (l.headD []))) := by
  unfold root rootF
  rw [if_neg (by omega), if_pos h]
/-- Of more: of the first part, of the other one, and of both. -/
theorem root_more (L : List Tx) {l : List Tx} (h : 2 ≤ l.length) : root L l =
    (sum (root (root L (l.take (split l.length))).2 (l.drop (split l.length))).2
        (nodeB (root L (l.take (split l.length))).1 (root (root L (l.take (split l.length))).2 (l.drop (split l.length))).1),
      add (root (root L (l.take (split l.length))).2 (l.drop (split l.length))).2
        (nodeB (root L (l.take (split l.length))).1 (root (root L (l.take (split l.length))).2 (l.drop (split l.length))).1)) := by
  obtain ⟨s1, s2, s3⟩ := split_spec h
  have e1 : ∀ K, rootF l.length K (l.take (split l.length)) = root K (l.take (split l.length)) := fun K => rootF_root (by rw [List.length_take]; omega)
  have e2 : ∀ K, rootF l.length K (l.drop (split l.length)) = root K (l.drop (split l.length)) := fun K => rootF_root (by rw [List.length_drop]; omega)
  conv => lhs; unfold root rootF
  rw [if_neg (by omega), if_neg (by omega)]
  simp only [e1, e2]

/-- How many digests a proof has. -/
def lenF : Nat → Nat → Nat → Nat
  | 0, _, _ => 0
  | f + 1, i, n => if n ≤ 1 then 0 else if i < split n then lenF f i (split n) + 1 else lenF f (i - split n) (n - split n) + 1
def len (i n : Nat) : Nat := lenF (n + 1) i n
/-- The number that a text has already. -/
def look (L : List Tx) (s : Tx) : Option Nat := if num L s = 0 then none else some (num L s)
theorem look_some {L : List Tx} {s : Tx} {d : Nat} : look L s = some d ↔ num L s = d ∧ d ≠ 0 := by
  unfold look
  split
  · rename_i h
    constructor
    · intro e; cases e
    · rintro ⟨rfl, h2⟩; exact absurd h h2
  · rename_i h
    constructor
    · intro e; injection e with e; subst e; exact ⟨rfl, h⟩
    · rintro ⟨rfl, h2⟩; rfl
/-- The table knows the digest over these leaves, and over all parts of them. -/
def hasF : Nat → List Tx → List Tx → Nat → Prop
  | 0, _, _, _ => False
  | f + 1, L, l, d =>
    if l.length = 0 then look L noneB = some d
    else if l.length = 1 then look L (leafB (l.headD [])) = some d
    else ∃ a b, hasF f L (l.take (split l.length)) a ∧ hasF f L (l.drop (split l.length)) b ∧ look L (nodeB (a : Nat) (b : Nat)) = some d
def Has (L l : List Tx) (d : Nat) : Prop := hasF (l.length + 1) L l d
theorem hasF_eq : ∀ (f g : Nat) (L l : List Tx) (d : Nat), l.length < f → l.length < g → (hasF f L l d ↔ hasF g L l d)
  | 0, _, _, _, _, h, _ => by omega
  | _ + 1, 0, _, _, _, _, h => by omega
  | f + 1, g + 1, L, l, d, hf, hg => by
    by_cases h0 : l.length = 0
    · simp only [hasF, if_pos h0]
    · by_cases h1 : l.length = 1
      · simp only [hasF, if_neg h0, if_pos h1]
      · obtain ⟨s1, s2, s3⟩ := split_spec (n := l.length) (by omega)
        have e1 : ∀ a, hasF f L (l.take (split l.length)) a ↔ hasF g L (l.take (split l.length)) a := fun a =>
          hasF_eq f g L _ a (by rw [List.length_take]; omega) (by rw [List.length_take]; omega)
        have e2 : ∀ a, hasF f L (l.drop (split l.length)) a ↔ hasF g L (l.drop (split l.length)) a := fun a =>
          hasF_eq f g L _ a (by rw [List.length_drop]; omega) (by rw [List.length_drop]; omega)
        simp only [hasF, if_neg h0, if_neg h1, e1, e2]
theorem has_nil {L : List Tx} {d : Nat} : Has L [] d ↔ look L noneB = some d := by simp [Has, hasF]
theorem has_one {L l : List Tx} {d : Nat} (h : l.length = 1) : Has L l d ↔ look L (leafB (l.headD [])) = some d := by
  unfold Has hasF
  rw [if_neg (by omega), if_pos h]
theorem has_more {L l : List Tx} {d : Nat} (h : 2 ≤ l.length) :
    Has L l d ↔ ∃ a b, Has L (l.take (split l.length)) a ∧ Has L (l.drop (split l.length)) b ∧ look L (nodeB (a : Nat) (b : Nat)) = some d := by
  obtain ⟨s1, s2, s3⟩ := split_spec h
  have e1 : ∀ a, hasF l.length L (l.take (split l.length)) a ↔ Has L (l.take (split l.length)) a := fun a => hasF_eq _ _ L _ a (by rw [List.length_take]; omega) (by omega)
  have e2 : ∀ a, hasF l.length L (l.drop (split l.length)) a ↔ Has L (l.drop (split l.length)) a := fun a => hasF_eq _ _ L _ a (by rw [List.length_drop]; omega) (by omega)
  conv => lhs; unfold Has hasF
  rw [if_neg (by omega), if_neg (by omega)]
  simp only [e1, e2]

theorem look_grown {L : List Tx} (K : List Tx) {s : Tx} {d : Nat} (h : look L s = some d) : look (L ++ K) s = some d := by
  rw [look_some] at h ⊢
  obtain ⟨rfl, h2⟩ := h
  exact ⟨num_left L K s h2, h2⟩
/-- What is known stays so. -/
theorem Has.grown {L : List Tx} (K : List Tx) : ∀ {l : List Tx} {d : Nat}, Has L l d → Has (L ++ K) l d
  | l, d, h => by
    by_cases h0 : l.length = 0
    · have : l = [] := List.eq_nil_of_length_eq_zero h0
      subst this
      rw [has_nil] at h ⊢
      exact look_grown K h
    · by_cases h1 : l.length = 1
      · rw [has_one h1] at h ⊢
        exact look_grown K h
      · obtain ⟨s1, s2, s3⟩ := split_spec (n := l.length) (by omega)
        rw [has_more (by omega)] at h ⊢
        obtain ⟨a, b, ha, hb, hd⟩ := h
        exact ⟨a, b, ha.grown K, hb.grown K, look_grown K hd⟩
  termination_by l => l.length
  decreasing_by all_goals simp only [List.length_take, List.length_drop]; omega

theorem look_inj {L : List Tx} {s t : Tx} {d : Nat} (h : look L s = some d) (k : look L t = some d) : s = t := by
  rw [look_some] at h k
  have h1 := num_get L s (by omega)
  have h2 := num_get L t (by omega)
  rw [h.1] at h1
  rw [k.1] at h2
  rw [h1] at h2
  injection h2
theorem enc_inj {a b : Nat} {r t : List UInt8} (ha : a < 18446744073709551616) (hb : b < 18446744073709551616) (h : Cm.enc a ++ r = Cm.enc b ++ t) : a = b ∧ r = t := by
  have h1 := Cm.pn_of_enc ha r
  rw [h, Cm.pn_of_enc hb t] at h1
  simp only [Prod.mk.injEq, and_true] at h1
  obtain ⟨h1, _⟩ := h1
  subst h1
  exact ⟨rfl, List.append_cancel_left h⟩
theorem node_inj {a b c d : Int} (ha : a.toNat < 18446744073709551616) (hb : b.toNat < 18446744073709551616) (hc : c.toNat < 18446744073709551616) (hd : d.toNat < 18446744073709551616) (h : nodeB a b = nodeB c d) : a.toNat = c.toNat ∧ b.toNat = d.toNat := by
  unfold nodeB at h
  injection h with _ h
  obtain ⟨h1, h2⟩ := enc_inj ha hc h
  refine ⟨h1, (enc_inj (r := []) (t := []) hb hd ?_).1⟩
  rw [List.append_nil, List.append_nil]
  exact h2
theorem leaf_node (x : Tx) (a b : Int) : leafB x ≠ nodeB a b := by
  intro h
  injection h with h _
  exact absurd h (by decide)
theorem none_node (a b : Int) : noneB ≠ nodeB a b := by
  intro h
  injection h with h _
  exact absurd h (by decide)
theorem none_leaf (x : Tx) : noneB ≠ leafB x := by
  intro h
  injection h with h _
  exact absurd h (by decide)
theorem has_le {L l : List Tx} {d : Nat} (h : Has L l d) : d ≤ L.length := by
  have key : ∀ s, look L s = some d → d ≤ L.length := fun s hs => by
    rw [look_some] at hs
    have := num_le L s
    omega
  by_cases h0 : l.length = 0
  · have : l = [] := List.eq_nil_of_length_eq_zero h0
    subst this
    rw [has_nil] at h
    exact key _ h
  · by_cases h1 : l.length = 1
    · rw [has_one h1] at h
      exact key _ h
    · rw [has_more (by omega)] at h
      obtain ⟨a, b, _, _, h⟩ := h
      exact key _ h
theorem one_of {l : List Tx} (h : l.length = 1) : l = [l.headD []] := by
  match l, h with
  | [x], _ => rfl

/-- Unlike lists, unlike digests. -/
theorem apart : ∀ {l m L : List Tx} {d : Nat}, L.length ≤ 1048576 → Has L l d → Has L m d → l = m
  | l, m, L, d, hL, h, k => by
    by_cases h0 : l.length = 0
    · have e : l = [] := List.eq_nil_of_length_eq_zero h0
      subst e
      rw [has_nil] at h
      by_cases k0 : m.length = 0
      · exact (List.eq_nil_of_length_eq_zero k0).symm
      · by_cases k1 : m.length = 1
        · rw [has_one k1] at k
          exact absurd (look_inj h k) (none_leaf _)
        · rw [has_more (by omega)] at k
          obtain ⟨a, b, _, _, k⟩ := k
          exact absurd (look_inj h k) (none_node _ _)
    · by_cases h1 : l.length = 1
      · rw [has_one h1] at h
        by_cases k0 : m.length = 0
        · have e : m = [] := List.eq_nil_of_length_eq_zero k0
          subst e
          rw [has_nil] at k
          exact absurd (look_inj k h) (none_leaf _)
        · by_cases k1 : m.length = 1
          · rw [has_one k1] at k
            have e := look_inj h k
            injection e with _ e
            rw [one_of h1, one_of k1, e]
          · rw [has_more (by omega)] at k
            obtain ⟨a, b, _, _, k⟩ := k
            exact absurd (look_inj h k) (leaf_node _ _ _)
      · obtain ⟨s1, s2, s3⟩ := split_spec (n := l.length) (by omega)
        rw [has_more (by omega)] at h
        obtain ⟨a, b, ha, hb, h⟩ := h
        by_cases k0 : m.length = 0
        · have e : m = [] := List.eq_nil_of_length_eq_zero k0
          subst e
          rw [has_nil] at k
          exact absurd (look_inj k h) (none_node _ _)
        · by_cases k1 : m.length = 1
          · rw [has_one k1] at k
            exact absurd (look_inj k h) (leaf_node _ _ _)
          · rw [has_more (by omega)] at k
            obtain ⟨a', b', ka, kb, k⟩ := k
            have la := has_le ha
            have lb := has_le hb
            have la' := has_le ka
            have lb' := has_le kb
            obtain ⟨e1, e2⟩ := node_inj (by omega) (by omega) (by omega) (by omega) (look_inj h k)
            have e1 : a = a' := by omega
            have e2 : b = b' := by omega
            subst e1; subst e2
            have f1 := apart hL ha ka
            have f2 := apart hL hb kb
            rw [← List.take_append_drop (split l.length) l, f1, f2, List.take_append_drop]
  termination_by l => l.length
  decreasing_by all_goals simp only [List.length_take, List.length_drop]; omega
end Go.Proofs.YtobphijbhghgmaaGreat.Mm

/-
  The plain mathematics of layer 9's execution: what a batch that is executed comes to. No program is named here.
-/
namespace Go.Proofs.YtobphijbhghgmaaGreat.Zg
set_option linter.unusedSimpArgs false
open Cm Pm Jm Jn Tm Tn Tq Za
open Im (num isIn add sum)
set_option linter.unusedVariables false

/-- The bytes of a record and its place. -/
def plB (x : Tx × Int × Tx) : Tx := encB x.1 ++ enc (max x.2.1 0).toNat ++ encB x.2.2
/-- One request more. -/
def appF (a : List (Tx × Int × Tx) × St) (d : Sd) : List (Tx × Int × Tx) × St := (a.1 ++ (appS a.2 d.q.client d.q.time d.q.o).2.1, (appS a.2 d.q.client d.q.time d.q.o).2.2.2)
/-- The requests of a batch: what was put, and the topics behind them. -/
def appL (s : St) (l : List Sd) : List (Tx × Int × Tx) × St := l.foldl appF ([], s)
theorem appL_nil (s : St) : appL s [] = ([], s) := rfl
def hdigR (L : List Tx) (h : H) : Int × Int := if hcheck h ≠ 0 then (0, hcheck h) else if sum L (hraw h) = 0 then (0, 6) else ((sum L (hraw h) : Int), 0)
def hdigT (L : List Tx) (h : H) : List Tx := if hcheck h ≠ 0 then L else add L (hraw h)
/-- What a header says of what came of its batch. -/
def endT (L : List Tx) (pl : List (Tx × Int × Tx)) (s : St) : List Tx := add (Mm.root L (pl.map plB)).2 (stB s)
def endR (L : List Tx) (h : H) (pl : List (Tx × Int × Tx)) (s : St) : H × Int :=
  if (Mm.root L (pl.map plB)).1 = 0 ∨ sum (Mm.root L (pl.map plB)).2 (stB s) = 0 then (H.zero, 6)
  else (⟨h.seq, h.prev, h.batch, ((Mm.root L (pl.map plB)).1 : Int), (sum (Mm.root L (pl.map plB)).2 (stB s) : Int)⟩, 0)
/-- What a header says of what is there ahead of its batch. -/
def beginR (L : List Tx) (last : H) (b : List Sd) : H × Int :=
  if hcheck last ≠ 0 then (H.zero, hcheck last)
  else if last.seq = 9007199254740992 then (H.zero, 6)
  else if (digR L b).2 ≠ 0 then (H.zero, (digR L b).2)
  else if (hdigR (digT L b) last).2 ≠ 0 then (H.zero, (hdigR (digT L b) last).2)
  else (⟨last.seq + 1, (hdigR (digT L b) last).1, (digR L b).1, 0, 0⟩, 0)
def beginT (L : List Tx) (last : H) (b : List Sd) : List Tx :=
  if hcheck last ≠ 0 then L
  else if last.seq = 9007199254740992 then L
  else if (digR L b).2 ≠ 0 then digT L b
  else hdigT (digT L b) last
/-- A batch that is executed: the header and the error, the table, the topics. -/
def execR (L : List Tx) (s : St) (last : H) (b : List Sd) : H × Int :=
  if (beginR L last b).2 ≠ 0 then (H.zero, (beginR L last b).2)
  else if (endR (beginT L last b) (beginR L last b).1 (appL s b).1 (appL s b).2).2 ≠ 0 then (H.zero, (endR (beginT L last b) (beginR L last b).1 (appL s b).1 (appL s b).2).2)
  else ((endR (beginT L last b) (beginR L last b).1 (appL s b).1 (appL s b).2).1, 0)
def execT (L : List Tx) (s : St) (last : H) (b : List Sd) : List Tx :=
  if (beginR L last b).2 ≠ 0 then beginT L last b else endT (beginT L last b) (appL s b).1 (appL s b).2
def execS (L : List Tx) (s : St) (last : H) (b : List Sd) : St :=
  if (beginR L last b).2 ≠ 0 then s else (appL s b).2
/-- Do headers stand on each other? -/
def stands (L : List Tx) (h ahead : H) : Bool := isIn L (hform ahead) && (h.prev == (num L (hform ahead) : Int)) && (h.seq == ahead.seq + 1)
/-- A header of a chain, and the one ahead of it. -/
def chk (L : List Tx) (l : List H) (i : Nat) : Bool := (hcheck (l.getD i H.zero) == 0) && (i == 0 || stands L (l.getD i H.zero) (l.getD (i - 1) H.zero))
def chainB (L : List Tx) (l : List H) : Bool := (List.range l.length).all (chk L l)
end Go.Proofs.YtobphijbhghgmaaGreat.Zg

/-
  Contracts of the program's table: Plain, From.
-/
namespace Go.Proofs.YtobphijbhghgmaaGreat.Ie
set_option linter.unusedSimpArgs false
set_option linter.unusedVariables false
set_option maxRecDepth 100000
open Go Go.RowKit Ck Im Kw Ik Ia Ib Ic Ig

/-- v is a new list of new bytes. -/
def Pl (w : World) (base : Nat) (v : Value) (L : List Tx) : Prop :=
  ∃ vals, w.ownsRow base 25 1 v L.length vals ∧ ∀ i (h : i < L.length), ∃ u, vals[i]? = some u ∧ Out w base u L[i]
theorem Pl.ls {w : World} {base : Nat} {v : Value} {L : List Tx} {X : Nat → Prop} (h : Pl w base v L) (hX : ∀ k, base ≤ k → k < w.heap.size → ¬ X k) : Ls w X v L := by
  obtain ⟨vals, ho, hx⟩ := h
  exact ⟨vals, Sl.of_own ho hX, fun i hi => by obtain ⟨u, hu, hout⟩ := hx i hi; exact ⟨u, hu, hout.sl hX⟩⟩

end Go.Proofs.YtobphijbhghgmaaGreat.Ie

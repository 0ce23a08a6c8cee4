/-
  Contract of the program's topic: all, the iterator over its records.
-/
import Derived.Test.YtkoedonllfmaaaaGreatVD16
import Derived.Test.YtkoedonllfmaaaaGreatVD04
import Derived.Shelf.Abstract
import Derived.Shelf.RegionOpen
import Derived.OwnWalkIn
import Derived.TacticsInMore
import Derived.LoopNIn
import Derived.LoopIn
import Derived.Outline
import Derived.Test.YtkoedonllfmaaaaGreatVD05
import Derived.Stop.RegionWithIn
import Derived.Shelf.SlMaps.Clone
import Derived.Deep.RegionLaw
namespace Go.Proofs.YtkoedonllfmaaaaGreat.Br
set_option linter.unusedSimpArgs false
open Go Go.RowKit Go.Shelf Ck Kw Ga Kf Km Pm Pz Tm Tn Tq Aa Kr
attribute [local go_sem ↓] Go.wp_at_zero Go.wp_at_succ
attribute [local go_sem] Oper.semAt_some
set_option linter.unusedVariables false

/-- Records with their offsets. -/
def offs : Int → List Tx → List (Int × Tx)
  | _, [] => []
  | o, x :: l => (o, x) :: offs (o + 1) l
theorem offs_len : ∀ (o : Int) (xs : List Tx), (offs o xs).length = xs.length
  | _, [] => rfl
  | o, x :: l => by simp [offs, offs_len]
theorem offs_get : ∀ (o : Int) (xs : List Tx) (k : Nat) (h : k < xs.length), (offs o xs)[k]'(by rw [offs_len]; exact h) = (o + (k : Int), xs[k])
  | o, x :: l, 0, h => by simp [offs]
  | o, x :: l, k + 1, h => by
    have := offs_get (o + 1) l k (by simpa using h)
    simp only [offs, List.getElem_cons_succ, this]
    congr 1
    omega
/-- An offset and its record, in memory: the record's bytes lie in R. -/
def Rt (R : Nat → Prop) (_ : Nat) (p : Int × Tx) (args : Array Value) (W : World) : Prop :=
  ∃ A c, args = #[.int .i64 p.1, .slice A p.2.length c] ∧ Sl W (fun k => ¬ R k) 1 (.slice A p.2.length c) p.2.length (BVs p.2)
theorem wide_some : Fence.wide.depth.isSome = true → False := fun h => by cases h

theorem all_ret (w : World) (g : Nat) : Calls Tryz.prog 95 #[.pointer (some ⟨g, 0, none⟩)] w fun e w' =>
    e = .returned (.func (.func 120) #[] #[.pointer (some ⟨w.heap.size, 0, none⟩)]) ∧ w' = w.alloc (.cells #[.pointer (some ⟨g, 0, none⟩)] 83) := by
  go_enter Tryz.func95, Tryz.ntmps95
  go_wp2
  go_ret
  exact ⟨rfl, rfl⟩

set_option maxRecDepth 100000 in
set_option maxHeartbeats 4000000 in
theorem recs_seq (n : Nat) (hn : 2 ≤ n) (S T R : Nat → Prop) (w : World) (Bc g mg : Nat) (t : Tp) (v : Value) (hB : Blk w Bc 83 #[.pointer (some ⟨g, 0, none⟩)]) (hBS : ¬ S Bc) (h : Tg w T R g t v mg)
    (hT : ∀ k, T k → ¬ S k) (hR : ∀ k, R k → ¬ S k) (hb0 : 0 ≤ t.base) (hb1 : t.next ≤ maxNum) (hfew : t.recs.length ≤ 64) :
    SeqR Fence.wide n Tryz.prog 120 #[.pointer (some ⟨Bc, 0, none⟩)] (Rt R) S (offs t.base t.recs) w := by
  intro l J Jx W hW hsz hJ hJx hY h0
  rw [offs_len]
  obtain ⟨vals, h1, h2⟩ := h.recs
  obtain ⟨A, c, rfl⟩ := own_shape h1
  have HBW : Hid (∀ wr, Ch S W wr → Blk wr Bc 83 #[.pointer (some ⟨g, 0, none⟩)] ∧ Blk wr g 102 #[.int .i64 t.base, .slice A t.recs.length c, .map (some mg)] ∧ wr.ownsRow 0 55 1 (.slice A t.recs.length c) t.recs.length vals ∧
      (∀ i (hi : i < t.recs.length), ∃ u, vals[i]? = some u ∧ Sl wr (fun k => ¬ R k) 1 u t.recs[i].length (BVs t.recs[i]))) := Lib.hid fun wr hc =>
    ⟨(hB.below hW hB.lt).ch hc hBS, (h.blk.below hW h.blk.lt).ch hc (hT _ h.tg), own_ch (own_below h1 hW) hc (fun k hk => hT k (h.tv k hk)), fun i hi => by
      obtain ⟨u, hu, hs⟩ := h2 i hi
      exact ⟨u, hu, (hs.after hW).ch hc (fun k _ hs hr => hR k hr hs)⟩⟩
  have HJ := Lib.hid hJ
  have HY := Lib.hid hY
  simp only [maxNum, Tp.next] at hb1
  clear hB h1 h2 hJ h hY
  obtain ⟨hbk, htk, -, -⟩ := HBW.out W (Ch.refl _ _)
  have cB : W.cell? ⟨Bc, 0, none⟩ = some (.pointer (some ⟨g, 0, none⟩)) := hbk.cell 0
  have c1 : W.cell? ⟨g, 1, none⟩ = some (.slice A t.recs.length c) := htk.cell 1
  clear hbk htk
  refine callsIn_of_wp Tryz.func120 rfl trivial ?_ rfl
  simp only [Tryz.ntmps120, List.size_toArray, List.length_cons, List.length_nil, Nat.reduceAdd, Nat.reduceSub, Array.replicate_succ, Array.replicate_zero, List.push_toArray, List.append_toArray, List.nil_append, List.cons_append]
  gi_wp2
  clear cB c1
  gi_loopw [10] (fun p wr => ∃ k : Nat, k ≤ t.recs.length ∧ p = .int .i64 (k : Int) ∧ J k wr ∧ Ch S W wr) (fun p _ => t.recs.length - (intOf p).toNat)
  case atStart => exact ⟨0, Nat.zero_le _, rfl, h0, Ch.refl _ _⟩
  case round =>
    obtain ⟨k, hk, rfl, hJs, hcs⟩ := hrel
    by_cases hlt : k < t.recs.length
    · obtain ⟨hbk, htk, ho, hel⟩ := HBW.out _ hcs
      have cB : wr.cell? ⟨Bc, 0, none⟩ = some (.pointer (some ⟨g, 0, none⟩)) := hbk.cell 0
      have c0 : wr.cell? ⟨g, 0, none⟩ = some (.int .i64 t.base) := htk.cell 0
      obtain ⟨u, hu, hs⟩ := hel k hlt
      obtain ⟨Au, cu, rfl, -⟩ := id hs
      obtain ⟨g', hA, hcell⟩ : ∃ g', A = some ⟨g', 0, none⟩ ∧ wr.cell? ⟨g', k, none⟩ = some (.slice Au t.recs[k].length cu) := by
        obtain ⟨g', c', hv, hb, hlt'⟩ := ho.form (by omega)
        obtain ⟨rfl, _, rfl⟩ := Value.slice.inj hv
        exact ⟨g', rfl, by rw [ho.cellAt k (by omega), hu]⟩
      subst hA
      have HR : Hid (Rt R W.heap.size ((offs t.base t.recs)[k]'(by rw [offs_len]; exact hlt)) #[.int .i64 (t.base + (k : Int)), .slice Au t.recs[k].length cu] wr) := Lib.hid (by
        rw [offs_get t.base t.recs k hlt]
        exact ⟨Au, cu, rfl, hs⟩)
      obtain ⟨fn, tmps, assign, body, hy, hRd⟩ := HY.out k (by rw [offs_len]; exact hlt) _ wr hJs hcs HR.out
      have HRD := Lib.hid hRd
      have HC := Lib.hid hcs
      have hw : IntKind.i64.wrap (t.base + (k : Int)) = t.base + (k : Int) := Ga.wrap64 (by omega) (by omega)
      have hw0 : IntKind.i64.wrap (k : Int) = (k : Int) := Ga.wrap64 (by omega) (by omega)
      have hltI : (k : Int) < (t.recs.length : Int) := by omega
      clear hbk htk ho hel hu hs hRd hcs hJs
      gi_wp2_with fail
      refine ⟨fun h => (wide_some h).elim, HRD.out.mono ?_⟩
      rintro e W3 (⟨rfl, hJ3, hc3⟩ | ⟨rfl, hJx3, hc3⟩)
      · have HC3 := Lib.hid (HC.out.trans hc3 (fun _ _ h => h))
        have HJ3 := Lib.hid hJ3
        clear hJ3 hc3 cB c0 hcell
        gi_wp2_with fail
        go_roundw
        case rel => exact ⟨k + 1, by omega, by go_num, HJ3.out, HC3.out⟩
        case measure => simp [intOf]; omega
      · have HC3 := Lib.hid (HC.out.trans hc3 (fun _ _ h => h))
        have HJ3 := Lib.hid hJx3
        clear hJx3 hc3 cB c0 hcell
        gi_wp2_with fail
        refine bodyPost_ret (results_none rfl _ _ _) rfl ?_
        exact ⟨⟨_, rfl⟩, HC3.out, .inr ⟨k + 1, by omega, HJ3.out⟩⟩
    · have hke : k = t.recs.length := by omega
      have HKE := Lib.hid hke
      have HC := Lib.hid hcs
      have HJ1 := Lib.hid hJs
      have hltI : ¬ (k : Int) < (t.recs.length : Int) := by omega
      have hltI2 : (t.recs.length : Int) ≤ (k : Int) := by omega
      clear hcs hJs hke
      gi_wp2_with fail
      refine bodyPost_end (results_none rfl _ _ _) rfl ?_
      have h1 := HJ1.out
      rw [HKE.out] at h1
      exact ⟨⟨_, rfl⟩, HC.out, .inl h1⟩
end Go.Proofs.YtkoedonllfmaaaaGreat.Br

/-
  Layer 7: the program's clone of a topic; All, and what it hands on.
-/
namespace Go.Proofs.YtkoedonllfmaaaaGreat.Xj
set_option linter.unusedSimpArgs false
open Go Go.RowKit Go.Shelf Ck Kw Ga Kf Km Pm Pz Tm Tn Tq Aa Ab Ac Kr Br Ks
attribute [local go_sem ↓] Go.wp_at_zero Go.wp_at_succ
attribute [local go_sem] Oper.semAt_some
set_option linter.unusedVariables false
set_option maxRecDepth 100000

theorem op_below (w : World) (x : Obj) : Below w.heap.size w (w.alloc x) := (Below.refl _ w).alloc (Nat.le_refl _) _
set_option maxHeartbeats 400000 in
theorem mclone_any (w : World) (b : Nat) (es : Array MapEntry) (clock : Nat) (hb : w.heap[b]? = some (.map es clock)) :
    Calls Tryz.prog 67 #[.map (some b)] w fun e w' => e = .returned (.map (some w.heap.size)) ∧ w.alloc (.map es clock) = w' := by
  have hq := fun W => run_eql_map_nil_sl (P := Tryz.prog) W 100 _ _ (some b) Tryz.underlying100
  have HB := Lib.hid hb
  clear hb
  go_enter Tryz.func67, Tryz.ntmps67
  go_wp2
  rw [run_callFunc_extern Tryz.func97 (by kernel_rfl) (by kernel_rfl) (by kernel_rfl) (e := Extern.MapsClone.clone) (by kernel_rfl), run_maps_clone_sl w 100 HB.out]
  simp only [Result.andThen]
  rw [Oper.upon_value]
  go_wp2
  rw [run_typeAssert_map_sl _ 100 20 _ _ _ Tryz.underlying100]
  simp only [Result.andThen]
  rw [Oper.upon_value]
  go_wp2
  go_ret
  exact ⟨rfl, rfl⟩
set_option maxHeartbeats 400000 in
theorem rowclone_any (X : Nat → Prop) (v : Value) (n : Nat) (xs : List Value) (w : World) (hv : Sl w X 1 v n xs) (h1 : ∀ u ∈ xs, u.oneCell' = true) (hn : n * 24 ≤ 140737488355328) :
    Calls Tryz.prog 66 #[v] w fun e w' => ∃ A c, e = .returned (.slice A n c) ∧ w'.ownsRow w.heap.size 55 1 (.slice A n c) n xs ∧ Below w.heap.size w w' := by
  obtain ⟨i0, hi0, hz0, hz1, hz2⟩ := info_parts info_rec
  have hv' := hv
  obtain ⟨A, c, rfl, hxl, -⟩ := hv'
  have heq := fun (W : World) => Lib.run_eql_slice_nil (P := Tryz.prog) W 36 55 A n c 0 0 Tryz.underlying36
  rcases A with _ | ad
  · obtain ⟨h0, rfl⟩ := hv.none_
    subst h0
    clear hv h1 hxl
    go_enter Tryz.func66, Tryz.ntmps66
    go_wp2
    go_ret
    exact ⟨_, _, rfl, World.ownsRow_nil _ _ _ _, Below.refl _ _⟩
  · have HX := Lib.hid hxl
    clear hxl
    go_enter Tryz.func66, Tryz.ntmps66
    go_wp2_with (at_builtin; refine wpList_append_sh _ rfl (.tmp 5) (.tmp 6) _ rfl w.heap.size 55 i0 _ 1 24 Tryz.underlying36 hi0 hz0 hz1 hz2 rfl (by omega) (.slice (some ⟨w.heap.size, 0, none⟩) 0 0) 0 [] rfl (World.ownsRow_made w #[] 0 (Nat.le_refl _) (by simp only [maxLen]; omega) rfl) X _ n xs rfl (hv.alloc _) h1 (by simp only [maxLen]; omega) (by omega) (by simp) ?_; intro A2 c2 w2 happ)
    go_ret
    obtain ⟨ho, hg, hr⟩ := happ
    rw [Nat.zero_add] at hr
    refine ⟨A2, c2, by simp, by simpa using ho, ?_⟩
    exact ((Below.refl _ _).alloc (Nat.le_refl _) _).grown hg (by simp) (by simp [Value.ownBlock])

theorem rows_one {w : World} {R : Nat → Prop} {vals : List Value} {rs : List Tx} (hl : vals.length = rs.length) (h : ∀ i (hi : i < rs.length), ∃ u, vals[i]? = some u ∧ Sl w R 1 u rs[i].length (BVs rs[i])) : ∀ u ∈ vals, u.oneCell' = true := by
  intro u hu
  obtain ⟨i, hi, rfl⟩ := List.getElem_of_mem hu
  obtain ⟨u', hu', h3⟩ := h i (by omega)
  obtain ⟨B, d, rfl, -⟩ := h3
  rw [List.getElem?_eq_getElem hi] at hu'
  rw [Option.some.inj hu']
  rfl
theorem clone_end {w W : World} {R : Nat → Prop} {t : Tp} {A3 : Option Addr} {c3 m4 : Nat} {vals : List Value} {D : DataW Unit} (hb : Below w.heap.size w W) (ho : W.ownsRow w.heap.size 55 1 (.slice A3 t.recs.length c3) t.recs.length vals)
    (hel : ∀ i (hi : i < t.recs.length), ∃ u, vals[i]? = some u ∧ Sl w (fun k => ¬ R k) 1 u t.recs[i].length (BVs t.recs[i])) (hm : W.ownsMap Tryz.prog 9 inElem m4 (Maps.size D) D) (hmn : w.heap.size ≤ m4 ∧ m4 < W.heap.size) (hT : TellsG D t.gs) :
    Tg (W.alloc (.cells #[.int .i64 t.base, .slice A3 t.recs.length c3, .map (some m4)] 102)) (New w (W.alloc (.cells #[.int .i64 t.base, .slice A3 t.recs.length c3, .map (some m4)] 102))) R W.heap.size t (.slice A3 t.recs.length c3) m4 ∧ Below w.heap.size w (W.alloc (.cells #[.int .i64 t.base, .slice A3 t.recs.length c3, .map (some m4)] 102)) := by
  have hs := hb.size
  have hb2 : Below w.heap.size w (W.alloc (.cells #[.int .i64 t.base, .slice A3 t.recs.length c3, .map (some m4)] 102)) := hb.trans ((op_below W _).mono hs)
  have hz : (W.alloc (.cells #[.int .i64 t.base, .slice A3 t.recs.length c3, .map (some m4)] 102)).heap.size = W.heap.size + 1 := by simp
  refine ⟨⟨Blk.new _ _ _, ⟨vals, own_base (ho.alloc _) (Nat.zero_le _), fun i hi => ?_⟩, ⟨D, map_ch hm (Ch.of_below (S := fun _ => False) (op_below W _) (Nat.le_refl _)) (fun h => h), hT⟩, ⟨hs, by omega⟩, fun k hk => ⟨(ho.lt k hk).1, by have := (ho.lt k hk).2; omega⟩, ⟨hmn.1, by omega⟩⟩, hb2⟩
  obtain ⟨u, hu, h3⟩ := hel i hi
  exact ⟨u, hu, h3.after hb2⟩
theorem below_drew0 (w : World) : Below w.heap.size w w.drew := below_drewN (Below.refl _ _) 1
set_option maxHeartbeats 2000000 in
theorem tclone_any (w : World) (T R : Nat → Prop) (g : Nat) (t : Tp) (v : Value) (mg : Nat) (h : Tg w T R g t v mg) (hfew : t.recs.length ≤ 64) :
    Calls Tryz.prog 30 #[.pointer (some ⟨g, 0, none⟩)] w fun e w' => ∃ g' v' mg', e = .returned (.pointer (some ⟨g', 0, none⟩)) ∧ Tg w' (New w w') R g' t v' mg' ∧ Below w.heap.size w w' := by
  have HT := Lib.hid h
  obtain ⟨vals, h1, h2⟩ := h.recs
  obtain ⟨D, hD, hTG⟩ := h.gs
  obtain ⟨es, clock, hb, F, hs, hDe⟩ := hD
  obtain ⟨A, c, rfl⟩ := own_shape h1
  have HEL := Lib.hid h2
  have HTG := Lib.hid hTG
  have a0 : w.cell? ⟨g, 0, none⟩ = some (.int .i64 t.base) := h.blk.cell 0
  have a1 : w.cell? ⟨g, 1, none⟩ = some (.slice A t.recs.length c) := h.blk.cell 1
  have a2 : w.cell? ⟨g, 2, none⟩ = some (.map (some mg)) := h.blk.cell 2
  have hone := rows_one (by have := h1.1; omega) h2
  have HRC : ∀ W, Below w.heap.size w W → Hid (Calls Tryz.prog 66 #[.slice A t.recs.length c] W fun e w' => ∃ A c, e = .returned (.slice A t.recs.length c) ∧ w'.ownsRow w.heap.size 55 1 (.slice A t.recs.length c) t.recs.length vals ∧ Below W.heap.size W w') := fun W hb => Lib.hid ((rowclone_any (fun _ => False) _ _ vals W ((Sl.of_own h1 (fun _ _ _ h => h)).below hb (fun k h1 h2 => by omega)) hone (by omega)).mono (fun e w' ⟨A', c', h1, h2, h3⟩ => ⟨A', c', h1, own_base h2 hb.size, h3⟩))
  have HMC : ∀ W, Below w.heap.size w W → Hid (Calls Tryz.prog 67 #[.map (some mg)] W fun e w' => ∃ m', e = .returned (.map (some m')) ∧ w'.ownsMap Tryz.prog 9 inElem m' (Maps.size D) D ∧ (w.heap.size ≤ m' ∧ m' < w'.heap.size) ∧ Below W.heap.size W w') := fun W hbw => Lib.hid ((mclone_any W mg es clock ((hbw.block mg (Array.getElem?_eq_some_iff.1 hb).1).trans hb)).mono (fun e w' ⟨he, hw⟩ => by
    subst hw
    exact ⟨W.heap.size, he, ⟨es, clock, World.alloc_heap_new W _, F, hs, hDe⟩, ⟨hbw.size, by simp⟩, op_below W _⟩))
  have hgl := h.blk.lt
  have KEEP : ∀ W, Below w.heap.size w W → W.cell? ⟨g, 0, none⟩ = some (.int .i64 t.base) ∧ W.cell? ⟨g, 1, none⟩ = some (.slice A t.recs.length c) ∧ W.cell? ⟨g, 2, none⟩ = some (.map (some mg)) := fun W hb => ⟨(hb.cell (p := ⟨g, 0, none⟩) hgl).trans a0, (hb.cell (p := ⟨g, 1, none⟩) hgl).trans a1, (hb.cell (p := ⟨g, 2, none⟩) hgl).trans a2⟩
  have KP := Lib.hid KEEP
  have hb0 := below_drew0 w
  clear h h1 h2 hb F hs hTG hDe KEEP hone
  go_enter Tryz.func30, Tryz.ntmps30
  go_wp2_with fail
  go_region_held3 (fun W => W.cell? ⟨g, 0, none⟩ = some (.int .i64 t.base) ∧ W.cell? ⟨g, 1, none⟩ = some (.slice A t.recs.length c) ∧ W.cell? ⟨g, 2, none⟩ = some (.map (some mg))) (first | exact ⟨a0, a1, a2⟩ | exact KP.out _ hb0 | exact KP.out _ hbS | exact KP.out _ hbM | exact KP.out _ (hbS.trans ((op_below _ _).mono hbS.size)) | exact KP.out _ (hbM.trans ((op_below _ _).mono hbM.size)))
    (first
      | (go_at_call 66; refine (HRC _ (by first | exact hbM | exact hb0)).out.mono ?_; rintro e w3 ⟨A3, c3, rfl, ho3, hb3⟩; have hbS : Below w.heap.size w w3 := (by first | exact hbM.trans (hb3.mono hbM.size) | exact hb0.trans (hb3.mono hb0.size)); (try (have hm4 := map_ch hm4 (Ch.of_below (S := fun _ => False) hb3 (Nat.le_refl _)) (fun h => h))); (try (have hm5 := And.intro hm5.1 (Nat.lt_of_lt_of_le hm5.2 hb3.size))))
      | (go_at_call 67; refine (HMC _ (by first | exact hbS | exact hb0)).out.mono ?_; rintro e w4 ⟨m4, rfl, hm4, hm5, hb4⟩; have hbM : Below w.heap.size w w4 := (by first | exact hbS.trans (hb4.mono hbS.size) | exact hb0.trans (hb4.mono hb0.size)); (try (have ho3 := own_below ho3 hb4))))
  all_goals
    go_wp2_with fail
    go_ret
    exact ⟨_, _, _, rfl, clone_end (by first | exact hbM | exact hbS) ho3 HEL.out hm4 hm5 HTG.out⟩
/-- The topic of that name; none: nothing is told of it. -/
def recT (L : List Tp) (x : Tx) : Tp := (findT L x).getD ⟨x, 0, [], []⟩
/-- What All leaves. -/
def AllOf (w : World) (R : Nat → Prop) (t : Tp) (e : Ending) (w' : World) : Prop :=
  ∃ Bn g v mg T, e = .returned (.func (.func 111) #[] #[.pointer (some ⟨Bn, 0, none⟩)]) ∧ Blk w' Bn 83 #[.pointer (some ⟨g, 0, none⟩)] ∧ Tg w' T R g t v mg ∧ w.heap.size ≤ Bn ∧ (∀ k, T k → w.heap.size ≤ k ∧ k < w'.heap.size ∧ k ≠ Bn) ∧ Below w.heap.size w w'
theorem allof_end {w W W' : World} {R : Nat → Prop} {t : Tp} {g : Nat} {v : Value} {mg : Nat} (hb : Below w.heap.size w W) (ht : Tg W' (New W W') R g t v mg) (hb2 : Below W.heap.size W W') :
    AllOf w R t (.returned (.func (.func 111) #[] #[.pointer (some ⟨W'.heap.size, 0, none⟩)])) (W'.alloc (.cells #[.pointer (some ⟨g, 0, none⟩)] 83)) := by
  have h1 := hb.size
  have h2 := hb2.size
  have hz : (W'.alloc (.cells #[.pointer (some ⟨g, 0, none⟩)] 83)).heap.size = W'.heap.size + 1 := by simp
  exact ⟨_, _, _, _, _, rfl, Blk.new _ _ _, ht.later (op_below _ _), by omega, fun k hk => ⟨by have := hk.1; omega, by have := hk.2; omega, by have := hk.2; omega⟩, (hb.trans (hb2.mono h1)).trans ((op_below W' _).mono (by omega))⟩
theorem allof_any (w : World) (S R : Nat → Prop) (p m : Nat) (s : St) (D : DataW Unit) (G : Tx → Nat) (V : Tx → Value) (M : Tx → Nat) (F : Tx → Nat → Prop) (x : Tx) (hx : x.length ≤ 140737488355328) (h : TP w S R p m s D G V M F) :
    Calls Tryz.prog 88 #[.pointer (some ⟨p, 0, none⟩), .string ⟨x.toArray⟩] w (AllOf w R (recT s.L x)) := by
  have HF := Lib.hid (find_on w S R p m s D G V M F x hx h)
  cases hf : findT s.L x with
  | some t =>
    rw [hf] at HF
    have ht := findT_some hf
    have HC := Lib.hid (tclone_any w _ R _ t _ _ (h.top t ht.1) (h.good.L.fit t ht.1).few)
    have hr : recT s.L x = t := by rw [recT, hf]; rfl
    rw [hr]
    unfold PV at HF
    simp only [Option.map_some, Option.isSome_some, if_true] at HF
    clear h hf ht hr hx
    go_enter Tryz.func88, Tryz.ntmps88
    go_wp2_with fail
    refine HF.out.mono ?_
    rintro e w1 ⟨rfl, rfl⟩
    go_wp2_with fail
    refine HC.out.mono ?_
    rintro e w2 ⟨g2, v2, mg2, rfl, ht2, hb2⟩
    have HT2 := Lib.hid ht2
    have HB2 := Lib.hid hb2
    clear ht2 hb2
    go_wp2_with fail
    go_ret
    exact allof_end (Below.refl _ _) HT2.out HB2.out
  | none =>
    rw [hf] at HF
    have hr : recT s.L x = ⟨x, 0, [], []⟩ := by rw [recT, hf]; rfl
    rw [hr]
    unfold PV at HF
    simp only [Option.map_none, Option.isSome_none] at HF
    clear h hf hr hx
    go_enter Tryz.func88, Tryz.ntmps88
    go_wp2_with fail
    refine HF.out.mono ?_
    rintro e w1 ⟨rfl, rfl⟩
    go_wp2_with fail
    refine (newtopic_any w).mono ?_
    rintro e w1 ⟨g, mg, rfl, hT, hb⟩
    have HB := Lib.hid hb
    have HC := Lib.hid (tclone_any w1 _ R g ⟨x, 0, [], []⟩ _ mg (hT x R) (by simp))
    clear hT hb
    go_wp2_with fail
    refine HC.out.mono ?_
    rintro e w2 ⟨g2, v2, mg2, rfl, ht2, hb2⟩
    have HT2 := Lib.hid ht2
    have HB2 := Lib.hid hb2
    clear ht2 hb2
    go_wp2_with fail
    go_ret
    exact allof_end HB.out HT2.out HB2.out
end Go.Proofs.YtkoedonllfmaaaaGreat.Xj

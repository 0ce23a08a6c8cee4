/-
  Contract of the program's topic: all, the iterator over its records.
-/
import Derived.Test.YtcmknopgoiabbaaKr
import Derived.Test.YtcmknopgoiabbaaAa
import Derived.Test.YtcmknopgoiabbaaGa
import Derived.Shelf.Abstract
import Derived.Shelf.RegionOpen
import Derived.OwnWalkIn
import Derived.TacticsInMore
import Derived.LoopNIn
import Derived.LoopIn
import Derived.Outline
namespace Go.Proofs.Ytcmknopgoiabbaa.Br
set_option linter.unusedSimpArgs false
open Go Go.RowKit Go.Shelf Ck Kw Ga Kf Km Pm Pz Tm Tn Tq Aa Kr
attribute [local go_sem ↓] Go.wp_at_zero Go.wp_at_succ
attribute [local go_sem] Oper.semAt_some
set_option linter.unusedVariables false

/-- Records with their offsets. -/
def offs : Int → List Tx → List (Int × Tx)
  | _, [] => []
  | o, x :: l => (o, x) :: offs (o + 1) l
theorem offs_len : ∀ (o : Int) (xs : List Tx), (offs o xs).length = xs.length
  | _, [] => rfl
  | o, x :: l => by simp [offs, offs_len]
theorem offs_get : ∀ (o : Int) (xs : List Tx) (k : Nat) (h : k < xs.length), (offs o xs)[k]'(by rw [offs_len]; exact h) = (o + (k : Int), xs[k])
  | o, x :: l, 0, h => by simp [offs]
  | o, x :: l, k + 1, h => by
    have := offs_get (o + 1) l k (by simpa using h)
    simp only [offs, List.getElem_cons_succ, this]
    congr 1
    omega
/-- An offset and its record, in memory: the record's bytes lie in R. -/
def Rt (R : Nat → Prop) (_ : Nat) (p : Int × Tx) (args : Array Value) (W : World) : Prop :=
  ∃ A c, args = #[.int .i64 p.1, .slice A p.2.length c] ∧ Sl W (fun k => ¬ R k) 1 (.slice A p.2.length c) p.2.length (BVs p.2)
theorem wide_some : Fence.wide.depth.isSome = true → False := fun h => by cases h

theorem all_ret (w : World) (g : Nat) : Calls Try.prog 32 #[.pointer (some ⟨g, 0, none⟩)] w fun e w' =>
    e = .returned (.func (.func 52) #[] #[.pointer (some ⟨w.heap.size, 0, none⟩)]) ∧ w' = w.alloc (.cells #[.pointer (some ⟨g, 0, none⟩)] 65) := by
  go_enter Try.func32, Try.ntmps32
  go_wp2
  go_ret
  exact ⟨rfl, rfl⟩

set_option maxRecDepth 100000 in
set_option maxHeartbeats 4000000 in
theorem recs_seq (n : Nat) (hn : 2 ≤ n) (S T R : Nat → Prop) (w : World) (Bc g mg : Nat) (t : Tp) (v : Value) (hB : Blk w Bc 65 #[.pointer (some ⟨g, 0, none⟩)]) (hBS : ¬ S Bc) (h : Tg w T R g t v mg)
    (hT : ∀ k, T k → ¬ S k) (hR : ∀ k, R k → ¬ S k) (hb0 : 0 ≤ t.base) (hb1 : t.next ≤ maxNum) (hfew : t.recs.length ≤ 64) :
    SeqR Fence.wide n Try.prog 52 #[.pointer (some ⟨Bc, 0, none⟩)] (Rt R) S (offs t.base t.recs) w := by
  intro l J Jx W hW hsz hJ hJx hY h0
  rw [offs_len]
  obtain ⟨vals, h1, h2⟩ := h.recs
  obtain ⟨A, c, rfl⟩ := own_shape h1
  have HBW : Hid (∀ wr, Ch S W wr → Blk wr Bc 65 #[.pointer (some ⟨g, 0, none⟩)] ∧ Blk wr g 71 #[.int .i64 t.base, .slice A t.recs.length c, .map (some mg)] ∧ wr.ownsRow 0 44 1 (.slice A t.recs.length c) t.recs.length vals ∧
      (∀ i (hi : i < t.recs.length), ∃ u, vals[i]? = some u ∧ Sl wr (fun k => ¬ R k) 1 u t.recs[i].length (BVs t.recs[i]))) := Lib.hid fun wr hc =>
    ⟨(hB.below hW hB.lt).ch hc hBS, (h.blk.below hW h.blk.lt).ch hc (hT _ h.tg), own_ch (own_below h1 hW) hc (fun k hk => hT k (h.tv k hk)), fun i hi => by
      obtain ⟨u, hu, hs⟩ := h2 i hi
      exact ⟨u, hu, (hs.after hW).ch hc (fun k _ hs hr => hR k hr hs)⟩⟩
  have HJ := Lib.hid hJ
  have HY := Lib.hid hY
  simp only [maxNum, Tp.next] at hb1
  clear hB h1 h2 hJ h hY
  obtain ⟨hbk, htk, -, -⟩ := HBW.out W (Ch.refl _ _)
  have cB : W.cell? ⟨Bc, 0, none⟩ = some (.pointer (some ⟨g, 0, none⟩)) := hbk.cell 0
  have c1 : W.cell? ⟨g, 1, none⟩ = some (.slice A t.recs.length c) := htk.cell 1
  clear hbk htk
  refine callsIn_of_wp Try.func52 rfl trivial ?_ rfl
  simp only [Try.ntmps52, List.size_toArray, List.length_cons, List.length_nil, Nat.reduceAdd, Nat.reduceSub, Array.replicate_succ, Array.replicate_zero, List.push_toArray, List.append_toArray, List.nil_append, List.cons_append]
  gi_wp2
  clear cB c1
  gi_loopw [10] (fun p wr => ∃ k : Nat, k ≤ t.recs.length ∧ p = .int .i64 (k : Int) ∧ J k wr ∧ Ch S W wr) (fun p _ => t.recs.length - (intOf p).toNat)
  case atStart => exact ⟨0, Nat.zero_le _, rfl, h0, Ch.refl _ _⟩
  case round =>
    obtain ⟨k, hk, rfl, hJs, hcs⟩ := hrel
    by_cases hlt : k < t.recs.length
    · obtain ⟨hbk, htk, ho, hel⟩ := HBW.out _ hcs
      have cB : wr.cell? ⟨Bc, 0, none⟩ = some (.pointer (some ⟨g, 0, none⟩)) := hbk.cell 0
      have c0 : wr.cell? ⟨g, 0, none⟩ = some (.int .i64 t.base) := htk.cell 0
      obtain ⟨u, hu, hs⟩ := hel k hlt
      obtain ⟨Au, cu, rfl, -⟩ := id hs
      obtain ⟨g', hA, hcell⟩ : ∃ g', A = some ⟨g', 0, none⟩ ∧ wr.cell? ⟨g', k, none⟩ = some (.slice Au t.recs[k].length cu) := by
        obtain ⟨g', c', hv, hb, hlt'⟩ := ho.form (by omega)
        obtain ⟨rfl, _, rfl⟩ := Value.slice.inj hv
        exact ⟨g', rfl, by rw [ho.cellAt k (by omega), hu]⟩
      subst hA
      have HR : Hid (Rt R W.heap.size ((offs t.base t.recs)[k]'(by rw [offs_len]; exact hlt)) #[.int .i64 (t.base + (k : Int)), .slice Au t.recs[k].length cu] wr) := Lib.hid (by
        rw [offs_get t.base t.recs k hlt]
        exact ⟨Au, cu, rfl, hs⟩)
      obtain ⟨fn, tmps, assign, body, hy, hRd⟩ := HY.out k (by rw [offs_len]; exact hlt) _ wr hJs hcs HR.out
      have HRD := Lib.hid hRd
      have HC := Lib.hid hcs
      have hw : IntKind.i64.wrap (t.base + (k : Int)) = t.base + (k : Int) := Ga.wrap64 (by omega) (by omega)
      have hw0 : IntKind.i64.wrap (k : Int) = (k : Int) := Ga.wrap64 (by omega) (by omega)
      have hltI : (k : Int) < (t.recs.length : Int) := by omega
      clear hbk htk ho hel hu hs hRd hcs hJs
      gi_wp2_with fail
      refine ⟨fun h => (wide_some h).elim, HRD.out.mono ?_⟩
      rintro e W3 (⟨rfl, hJ3, hc3⟩ | ⟨rfl, hJx3, hc3⟩)
      · have HC3 := Lib.hid (HC.out.trans hc3 (fun _ _ h => h))
        have HJ3 := Lib.hid hJ3
        clear hJ3 hc3 cB c0 hcell
        gi_wp2_with fail
        go_roundw
        case rel => exact ⟨k + 1, by omega, by go_num, HJ3.out, HC3.out⟩
        case measure => simp [intOf]; omega
      · have HC3 := Lib.hid (HC.out.trans hc3 (fun _ _ h => h))
        have HJ3 := Lib.hid hJx3
        clear hJx3 hc3 cB c0 hcell
        gi_wp2_with fail
        refine bodyPost_ret (results_none rfl _ _ _) rfl ?_
        exact ⟨⟨_, rfl⟩, HC3.out, .inr ⟨k + 1, by omega, HJ3.out⟩⟩
    · have hke : k = t.recs.length := by omega
      have HKE := Lib.hid hke
      have HC := Lib.hid hcs
      have HJ1 := Lib.hid hJs
      have hltI : ¬ (k : Int) < (t.recs.length : Int) := by omega
      have hltI2 : (t.recs.length : Int) ≤ (k : Int) := by omega
      clear hcs hJs hke
      gi_wp2_with fail
      refine bodyPost_end (results_none rfl _ _ _) rfl ?_
      have h1 := HJ1.out
      rw [HKE.out] at h1
      exact ⟨⟨_, rfl⟩, HC.out, .inl h1⟩
end Go.Proofs.Ytcmknopgoiabbaa.Br

/-
  Contract of the program's topics: places.
-/
import Derived.Test.YtcmknopgoiabbaaAg
namespace Go.Proofs.Ytcmknopgoiabbaa.Ah
set_option linter.unusedSimpArgs false
open Go Go.RowKit Ck Kw Ga Kf Km Kd Pm Pz Pe Pg Py Tm Tn Tq Aa Ab Ac Ad Ae Af Ag
attribute [local go_sem ↓] Go.wp_at_zero Go.wp_at_succ
set_option linter.unusedVariables false

theorem info_placed : (Try.prog.info? 46).map (fun i => (i.zero, i.size, i.bytes)) = some (some (.agg #[.string ⟨#[]⟩, .int .i64 0, .slice none 0 0]), 3, 48) := by kernel_rfl
/-- A record at its place, and the slice that holds it. -/
abbrev Pq := (Tx × Int × Tx) × Value
def PC (x : Pq) : List Value := [.string ⟨x.1.1.toArray⟩, .int .i64 x.1.2.1, x.2]
def PCs (l : List Pq) : List Value := l.flatMap PC
theorem PC_len (x : Pq) : (PC x).length = 3 := rfl
/-- The slice v reads as records at their places; all of it lies from block B on. -/
def Ps (w : World) (B : Nat) (v : Value) (ps : List (Tx × Int × Tx)) : Prop :=
  ∃ l : List Pq, l.map (·.1) = ps ∧ w.ownsRow B 46 3 v ps.length (PCs l) ∧ ∀ x ∈ l, w.ownsRow B 5 1 x.2 x.1.2.2.length (BVs x.1.2.2)
theorem Ps.nil (w : World) (B : Nat) : Ps w B (.slice none 0 0) [] := ⟨[], rfl, World.ownsRow_nil _ _ _ _, fun x hx => by cases hx⟩
theorem Ps.ch {w w' : World} {B : Nat} {v : Value} {ps : List (Tx × Int × Tx)} {S : Nat → Prop} (h : Ps w B v ps) (c : Ch S w w') (hs : ∀ k, S k → k < B) : Ps w' B v ps := by
  obtain ⟨l, h1, h2, h3⟩ := h
  exact ⟨l, h1, own_ch h2 c (fun g hg hs' => by have := (h2.lt g hg).1; have := hs g hs'; omega), fun x hx => own_ch (h3 x hx) c (fun g hg hs' => by have := ((h3 x hx).lt g hg).1; have := hs g hs'; omega)⟩
theorem Ps.later {w w' : World} {B : Nat} {v : Value} {ps : List (Tx × Int × Tx)} (h : Ps w B v ps) (b : Below w.heap.size w w') : Ps w' B v ps :=
  h.ch (Ch.of_below (S := fun _ => False) b (Nat.le_refl _)) (fun _ h => h.elim)
theorem Ps.base {w : World} {B B' : Nat} {v : Value} {ps : List (Tx × Int × Tx)} (h : Ps w B v ps) (hb : B' ≤ B) : Ps w B' v ps := by
  obtain ⟨l, h1, h2, h3⟩ := h
  exact ⟨l, h1, own_base h2 hb, fun x hx => own_base (h3 x hx) hb⟩
theorem placed_len (n : Tx) : ∀ (k : Int) (rs : List Tx), (placed n k rs).length = rs.length
  | _, [] => rfl
  | k, r :: rs => by simp [placed, placed_len n (k + 1) rs]
theorem placed_take (n : Tx) : ∀ (rs : List Tx) (k : Int) (i : Nat) (hi : i < rs.length), (placed n k rs).take (i + 1) = (placed n k rs).take i ++ [(n, k + (i : Int), rs[i])]
  | [], k, i, hi => absurd hi (by simp)
  | r :: rs, k, 0, hi => by simp [placed]
  | r :: rs, k, i + 1, hi => by
    have := placed_take n rs (k + 1) i (by simpa using hi)
    simp only [placed, List.take_succ_cons, this, List.getElem_cons_succ, List.cons_append]
    rw [show k + 1 + (i : Int) = k + ((i + 1 : Nat) : Int) by omega]
theorem one_pq {w : World} {x : Pq} {cs : Array Value} (X : Nat → Prop) (hc : cs = (PCs [x]).toArray) (hX : ¬ X w.heap.size) : Sl (w.alloc (.cells cs 46)) X 3 (.slice (some ⟨w.heap.size, 0, none⟩) 1 1) 1 (PCs [x]) := by
  subst hc
  refine ⟨_, _, rfl, rfl, Nat.le_refl _, by simp [maxLen], fun _ => ⟨_, rfl, by simp, hX, fun j u hu => ?_⟩⟩
  have ha : (⟨w.heap.size, 0, none⟩ : Addr).add j = ⟨w.heap.size, j, none⟩ := by unfold Addr.add; split <;> simp_all
  rw [ha, Blk.cell (Blk.new w 46 _) j]
  simpa using hu
theorem pcs_app (l k : List Pq) : PCs (l ++ k) = PCs l ++ PCs k := by simp [PCs]
/-- One place more. -/
theorem ps_step {W0 wr w4 w5 : World} {v v5 : Value} {l : List Pq} {n : Nat} {x : Pq} {cs : Array Value} (hs : W0.heap.size ≤ wr.heap.size) (hr : wr.ownsRow W0.heap.size 46 3 v n (PCs l)) (he : ∀ y ∈ l, wr.ownsRow W0.heap.size 5 1 y.2 y.1.2.2.length (BVs y.1.2.2))
    (hb : Below wr.heap.size wr w4) (ho : w4.ownsRow wr.heap.size 5 1 x.2 x.1.2.2.length (BVs x.1.2.2)) (happ : Appended (w4.alloc (.cells cs 46)) W0.heap.size 46 3 v (n + 1) (PCs l ++ PCs [x]) v5 w5) (hB : Below W0.heap.size W0 wr) :
    w5.ownsRow W0.heap.size 46 3 v5 (n + 1) (PCs (l ++ [x])) ∧ (∀ y ∈ l ++ [x], w5.ownsRow W0.heap.size 5 1 y.2 y.1.2.2.length (BVs y.1.2.2)) ∧ Below W0.heap.size W0 w5 := by
  obtain ⟨h1, h2, h3⟩ := happ
  have hrow : (w4.alloc (.cells cs 46)).ownsRow W0.heap.size 46 3 v n (PCs l) := (own_below hr hb).alloc _
  have key : ∀ {u : Value} {b : Tx}, (w4.alloc (.cells cs 46)).ownsRow W0.heap.size 5 1 u b.length (BVs b) → w5.ownsRow W0.heap.size 5 1 u b.length (BVs b) := fun {u b} hu =>
    own_ch hu (Ch.of_grown h2 (fun g hg _ => hg) : Ch (fun k => v.ownBlock = some k) _ w5) (fun g hg hv => by
      rcases hrow.2 with ⟨rfl, _⟩ | ⟨g1, _, _, rfl, _, r1, _⟩
      · simp [Value.ownBlock] at hv
      · rcases hu.2 with ⟨rfl, _⟩ | ⟨g2, _, _, rfl, _, r2, _⟩
        · simp [Value.ownBlock] at hg
        · simp only [Value.ownBlock, Option.some.injEq] at hv hg
          subst hv; subst hg
          rw [r1] at r2
          simp only [Option.some.injEq, Obj.cells.injEq] at r2
          exact absurd r2.2.1 (by decide))
  refine ⟨by rw [pcs_app]; exact h1, fun y hy => ?_, ?_⟩
  · rcases List.mem_append.1 hy with hy | hy
    · exact key ((own_below (he y hy) hb).alloc _)
    · rw [List.mem_singleton] at hy
      subst hy
      exact key (own_base (ho.alloc _) hs)
  · have hb4 : Below W0.heap.size W0 (w4.alloc (.cells cs 46)) := (hB.trans (hb.mono hs)).alloc (by have := hb.size; omega) _
    exact hb4.grown h2 hb4.size (fun g hg => (hrow.lt g hg).1)
set_option maxRecDepth 100000 in
set_option maxHeartbeats 1000000 in
theorem places_any (w : World) (o : O) (X : Nat → Prop) (A : Option Addr) (c : Nat) (first : Int) (hls : Ls w X (.slice A o.recs.length c) o.recs) (h4 : o.recs.length ≤ 64) (h64 : ∀ x ∈ o.recs, x.length ≤ 64) (h0 : 0 ≤ first) (h1 : first ≤ 9007199254740992) :
    Calls Try.prog 27 #[OV o A c, .int .i64 first] w fun e w' => ∃ v, e = .returned v ∧ Ps w' w.heap.size v (placed o.topic first o.recs) ∧ Below w.heap.size w w' := by
  have hal := op_below w (.cells (OC o A c) 29)
  have HAL := Lib.hid hal
  have hob := op_new w o A c
  have HOB := Lib.hid hob
  have HLS := Lib.hid (hls.after hal)
  have HX := Lib.hid h64
  have HTL := Lib.hid (placed_take o.topic o.recs first)
  have hz0 : (w.alloc (.cells (OC o A c) 29)).heap.size = w.heap.size + 1 := by simp
  clear hal hob hls h64
  unfold OV
  unfold OC at HAL HLS HOB hz0
  obtain ⟨a0, a1, a2, a3, a4⟩ := OB.cells HOB.out
  obtain ⟨i0, hi0, hy0, hy1, hy2⟩ := info_parts info_placed
  go_enter Try.func27, Try.ntmps27
  go_wp2_with fail
  generalize w.alloc (.cells #[.int .i64 o.kind, .string ⟨o.topic.toArray⟩, .string ⟨o.group.toArray⟩, .int .i64 o.off, .slice A o.recs.length c] 29) = W0 at *
  generalize hg0 : w.heap.size = g0 at *
  have HG0 := Lib.hid hg0
  clear hg0
  have HZ0 := Lib.hid hz0
  clear a0 a1 a2 a3 a4 hz0
  go_loopw [5, 11] (fun v i wr => ∃ (k : Nat) (l : List Pq), k ≤ o.recs.length ∧ i = .int .i64 k ∧ l.map (·.1) = (placed o.topic first o.recs).take k ∧ wr.ownsRow W0.heap.size 46 3 v k (PCs l) ∧ (∀ y ∈ l, wr.ownsRow W0.heap.size 5 1 y.2 y.1.2.2.length (BVs y.1.2.2)) ∧ Below W0.heap.size W0 wr) (fun _ i _ => o.recs.length - (intOf i).toNat)
  case atStart => exact ⟨0, [], Nat.zero_le _, rfl, by simp, World.ownsRow_nil _ _ _ _, (fun x hx => by cases hx), Below.refl _ _⟩
  case round =>
    obtain ⟨k, l, hk, rfl, hmap, hrow, hel, hB⟩ := hrel
    have HM := Lib.hid hmap
    have HR := Lib.hid hrow
    have HE := Lib.hid hel
    have HB := Lib.hid hB
    obtain ⟨Av, cv, rfl⟩ := own_shape hrow
    by_cases hlt : k < o.recs.length
    · obtain ⟨ad, Ab, cb, rfl, hcell, hsl⟩ := (HLS.out.after hB).at_ hlt
      have HSL := Lib.hid hsl.drew
      have q1 := (OB.cells (Blk.below HOB.out hB (Blk.lt HOB.out))).2.1
      have hr64 := HX.out _ (List.getElem_mem hlt)
      have HCL := Lib.hid (clone_sh X _ _ o.recs[k] wr.drew HSL.out (by omega))
      have HTK := Lib.hid (HTL.out k hlt)
      have hw : IntKind.i64.wrap (first + (k : Int)) = first + (k : Int) := Ga.wrap64 (by omega) (by omega)
      clear hmap hrow hel hB hsl
      go_wp2_with fail
      have hkc : (k : Int) ≤ 64 := by omega
      go_region_law (first
        | (go_simp; go_at_call 23; refine HCL.out.mono ?_; rintro e w4 ⟨A4, c4, rfl, ho4, hb4⟩; have hb4 : Below wr.heap.size wr w4 := below_of_drew hb4; have HO4 : Hid (w4.ownsRow wr.heap.size 5 1 (.slice A4 o.recs[k].length c4) o.recs[k].length (BVs o.recs[k])) := Lib.hid ho4; have HB4 := Lib.hid hb4; have q4 : w4.cell? ⟨g0, 1, none⟩ = some (.string ⟨o.topic.toArray⟩) := (hb4.cell (World.block_lt_of_cell? _ _ q1)).trans q1; clear ho4 hb4)
        | (refine step_append_sh (by rfl) (.tmp 16) (.tmp 25) _ (by rfl) W0.heap.size 46 i0 _ 3 48 Try.underlying35 hi0 hy0 hy1 hy2 rfl (by omega) (.slice Av k cv) k (PCs l) (by rfl) (show (w4.alloc (.cells #[.string ⟨o.topic.toArray⟩, .int .i64 (first + (k : Int)), .slice A4 o.recs[k].length c4] 46)).ownsRow W0.heap.size 46 3 (.slice Av k cv) k (PCs l) from (own_below HR.out HB4.out).alloc _) (fun _ => False) _ 1 (PCs [((o.topic, first + (k : Int), o.recs[k]), .slice A4 o.recs[k].length c4)]) (by rfl) (show Sl (w4.alloc (.cells #[.string ⟨o.topic.toArray⟩, .int .i64 (first + (k : Int)), .slice A4 o.recs[k].length c4] 46)) (fun _ => False) _ _ _ _ from one_pq (fun _ => False) rfl (fun h => h)) (by intro u hu; simp only [PCs, PC, List.flatMap_cons, List.flatMap_nil, List.append_nil, List.mem_cons, List.not_mem_nil, or_false] at hu; rcases hu with rfl | rfl | rfl <;> rfl) (by simp only [maxLen]; omega) (by omega) (by have h1 := HB.out.size; have h2 := HB4.out.size; simp; omega) ?_; intro A5 c5 w5 happ; have HAP := Lib.hid happ; clear happ))
      all_goals
        go_wp2
        have hs := ps_step (x := ((o.topic, first + (k : Int), o.recs[k]), .slice A4 o.recs[k].length c4)) HB.out.size HR.out HE.out HB4.out HO4.out HAP.out HB.out
        have HS := Lib.hid hs
        have hm1 : (l ++ [((o.topic, first + (k : Int), o.recs[k]), Value.slice A4 o.recs[k].length c4)]).map (·.1) = (placed o.topic first o.recs).take (k + 1) := by
          rw [HTK.out, List.map_append, HM.out]
          rfl
        have HM1 := Lib.hid hm1
        clear hs hm1
        go_roundw
        case rel => exact ⟨k + 1, _, by omega, by go_num, HM1.out, HS.out.1, HS.out.2.1, HS.out.2.2⟩
        case measure => simp [intOf]; omega
    · have hke : k = o.recs.length := by omega
      subst hke
      clear hmap hrow hel hB
      go_wp2_with fail
      go_ret
      have hl := placed_len o.topic first o.recs
      rw [HG0.out]
      refine ⟨_, rfl, ⟨l, ?_, ?_, fun x hx => own_base (HE.out x hx) (by have := HZ0.out; omega)⟩, HAL.out.trans (HB.out.mono (by have := HZ0.out; omega))⟩
      · rw [HM.out, ← hl, List.take_length]
      · rw [hl]
        exact own_base HR.out (by have := HZ0.out; omega)
end Go.Proofs.Ytcmknopgoiabbaa.Ah

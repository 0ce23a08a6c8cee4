/-
  Words for the walks of layer 7's laws: requests in memory; a map of records by names.
-/
import Derived.Test.YtkoedonllfmaaaaGreatVD15
import Derived.Test.YtkoedonllfmaaaaGreatVD03
import Derived.Test.YtkoedonllfmaaaaGreatBulk
import Derived.Test.YtkoedonllfmaaaaGreatVD02
import Derived.RangeFuncNested
import Derived.RangeFuncBound
import Derived.RangeFuncCalls
import Derived.RangeFuncLeaves
import Derived.RangeFuncWrites
namespace Go.Proofs.YtkoedonllfmaaaaGreat.Ao
set_option linter.unusedSimpArgs false
open Go Go.RowKit Ck Kw Ga Kf Km Kd Pm Pz Pe Pg Py Qb Qg Tm Tn Tq To Aa Ab Ac Ad Ae Af Ag Ah Ai Aj Al Am An
attribute [local go_sem ↓] Go.wp_at_zero Go.wp_at_succ
set_option linter.unusedVariables false

/-- A request. -/
structure Rq where
  client : Int
  time : Int
  o : O
/-- Requests in memory. -/
def Rqs (w : World) (A : Option Addr) (rs : List Rq) : Prop :=
  ∀ i (hi : i < rs.length), ∃ ad Ar cr, A = some ad ∧ (ad.add (i * 7)).block < w.heap.size ∧ w.cell? (ad.add (i * 7)) = some (.int .i64 rs[i].client) ∧ w.cell? ⟨(ad.add (i * 7)).block, (ad.add (i * 7)).off + 1, none⟩ = some (.int .i64 rs[i].time)
    ∧ w.cell? ⟨(ad.add (i * 7)).block, (ad.add (i * 7)).off + 2, none⟩ = some (.int .i64 rs[i].o.kind) ∧ w.cell? ⟨(ad.add (i * 7)).block, (ad.add (i * 7)).off + 3, none⟩ = some (.string ⟨rs[i].o.topic.toArray⟩)
    ∧ w.cell? ⟨(ad.add (i * 7)).block, (ad.add (i * 7)).off + 4, none⟩ = some (.string ⟨rs[i].o.group.toArray⟩) ∧ w.cell? ⟨(ad.add (i * 7)).block, (ad.add (i * 7)).off + 5, none⟩ = some (.int .i64 rs[i].o.off)
    ∧ w.cell? ⟨(ad.add (i * 7)).block, (ad.add (i * 7)).off + 6, none⟩ = some (.slice Ar rs[i].o.recs.length cr) ∧ Ls w (fun k => w.heap.size ≤ k) (.slice Ar rs[i].o.recs.length cr) rs[i].o.recs ∧ rs[i].o.topic.length ≤ 140737488355328 ∧ rs[i].o.recs.length ≤ 140737488355328
theorem Rqs.at_ {w w' : World} {A : Option Addr} {rs : List Rq} (h : Rqs w A rs) (b : Below w.heap.size w w') {i : Nat} (hi : i < rs.length) : ∃ ad Ar cr, A = some ad ∧ w'.cell? (ad.add (i * 7)) = some (.int .i64 rs[i].client) ∧ w'.cell? ⟨(ad.add (i * 7)).block, (ad.add (i * 7)).off + 1, none⟩ = some (.int .i64 rs[i].time)
    ∧ w'.cell? ⟨(ad.add (i * 7)).block, (ad.add (i * 7)).off + 2, none⟩ = some (.int .i64 rs[i].o.kind) ∧ w'.cell? ⟨(ad.add (i * 7)).block, (ad.add (i * 7)).off + 3, none⟩ = some (.string ⟨rs[i].o.topic.toArray⟩)
    ∧ w'.cell? ⟨(ad.add (i * 7)).block, (ad.add (i * 7)).off + 4, none⟩ = some (.string ⟨rs[i].o.group.toArray⟩) ∧ w'.cell? ⟨(ad.add (i * 7)).block, (ad.add (i * 7)).off + 5, none⟩ = some (.int .i64 rs[i].o.off)
    ∧ w'.cell? ⟨(ad.add (i * 7)).block, (ad.add (i * 7)).off + 6, none⟩ = some (.slice Ar rs[i].o.recs.length cr) ∧ Ls w' (fun k => w.heap.size ≤ k) (.slice Ar rs[i].o.recs.length cr) rs[i].o.recs ∧ rs[i].o.topic.length ≤ 140737488355328 ∧ rs[i].o.recs.length ≤ 140737488355328 := by
  obtain ⟨ad, Ar, cr, hA, hlt, a0, a1, a2, a3, a4, a5, a6, hl, h1, h2⟩ := h i hi
  have k : ∀ {a : Addr} {v : Value}, a.block = (ad.add (i * 7)).block → w.cell? a = some v → w'.cell? a = some v := fun {a v} ha hc => by rw [b.cell (by rw [ha]; exact hlt)]; exact hc
  exact ⟨ad, Ar, cr, hA, k rfl a0, k rfl a1, k rfl a2, k rfl a3, k rfl a4, k rfl a5, k rfl a6, hl.below b (fun k _ h => h), h1, h2⟩
/-- Records, in a row of one's own, all of it in K. -/
def RowOk (w : World) (K : Nat → Prop) (v : Value) (rs : List Tx) : Prop :=
  ∃ vals, w.ownsRow 0 55 1 v rs.length vals ∧ (∀ k, v.ownBlock = some k → K k) ∧ ∀ i (hi : i < rs.length), ∃ u, vals[i]? = some u ∧ w.ownsRow 0 5 1 u rs[i].length (BVs rs[i]) ∧ ∀ k, u.ownBlock = some k → K k
/-- A map of records by names: block m, all of it in K. -/
structure AtM (w : World) (K : Nat → Prop) (m n : Nat) (f : Log) (D : DataW Unit) (V : Tx → Value) : Prop where
  own : w.ownsMap Tryz.prog 9 slElem m n D
  km : K m
  nil : ∀ x, f x = [] → Maps.has D (.string x) = false ∧ V x = .slice none 0 0
  val : ∀ x, f x ≠ [] → ∃ z, slElem (V x) = some (z, []) ∧ ∀ zd, D.atKey (.string x) zd = z
  row : ∀ x, f x ≠ [] → RowOk w K (V x) (f x)
  apart : ∀ x y, x ≠ y → f x ≠ [] → f y ≠ [] → ∀ g, (V x).ownBlock = some g → (V y).ownBlock ≠ some g
section
variable {w w' : World} {K K' X : Nat → Prop} {m n : Nat} {f : Log} {D : DataW Unit} {V : Tx → Value} {v : Value} {rs : List Tx}
theorem RowOk.ch (h : RowOk w K v rs) (c : Ch X w w') (hx : ∀ k, K k → ¬ X k) : RowOk w' K v rs := by
  obtain ⟨vals, h1, h2, h3⟩ := h
  refine ⟨vals, own_ch h1 c (fun g hg => hx g (h2 g hg)), h2, fun i hi => ?_⟩
  obtain ⟨u, hu, h4, h5⟩ := h3 i hi
  exact ⟨u, hu, own_ch h4 c (fun g hg => hx g (h5 g hg)), h5⟩
theorem RowOk.more (h : RowOk w K v rs) (hk : ∀ k, K k → K' k) : RowOk w K' v rs := by
  obtain ⟨vals, h1, h2, h3⟩ := h
  refine ⟨vals, h1, fun k hkk => hk k (h2 k hkk), fun i hi => ?_⟩
  obtain ⟨u, hu, h4, h5⟩ := h3 i hi
  exact ⟨u, hu, h4, fun k hkk => hk k (h5 k hkk)⟩
theorem AtM.ch (h : AtM w K m n f D V) (c : Ch X w w') (hx : ∀ k, K k → ¬ X k) : AtM w' K m n f D V :=
  ⟨map_ch h.own c (hx m h.km), h.km, h.nil, h.val, fun x hf => (h.row x hf).ch c hx, h.apart⟩
theorem AtM.more (h : AtM w K m n f D V) (hk : ∀ k, K k → K' k) : AtM w K' m n f D V :=
  ⟨h.own, hk _ h.km, h.nil, h.val, fun x hf => (h.row x hf).more hk, h.apart⟩
theorem AtM.later (h : AtM w K m n f D V) (b : Below w.heap.size w w') : AtM w' K m n f D V := h.ch (Ch.of_below (S := fun _ => False) b (Nat.le_refl _)) (fun _ _ h => h)
/-- What is held of a name: its row. -/
theorem AtM.at_ (h : AtM w K m n f D V) (x : Tx) : RowOk w K (V x) (f x) := by
  by_cases hf : f x = []
  · rw [(h.nil x hf).2, hf]
    exact ⟨[], World.ownsRow_nil _ _ _ _, fun k hk => by simp [Value.ownBlock] at hk, fun i hi => absurd hi (by simp)⟩
  · exact h.row x hf
/-- One record more. -/
theorem AtM.put {w1 w2 w3 : World} {x : Tx × Int × Tx} {u v2 : Value} {z : DataW Unit} {vals : List Value} (h : AtM w K m n f D V) (b1 : Below w.heap.size w w1) (hK : ∀ k, K k → k < w.heap.size) (hr : w1.ownsRow 0 55 1 (V x.1) (f x.1).length vals)
    (he : ∀ i (hi : i < (f x.1).length), ∃ u, vals[i]? = some u ∧ w1.ownsRow 0 5 1 u (f x.1)[i].length (BVs (f x.1)[i]) ∧ ∀ k, u.ownBlock = some k → K k)
    (hu : w1.ownsRow 0 5 1 u x.2.2.length (BVs x.2.2)) (huk : ∀ k, u.ownBlock = some k → K k) {nn : Nat} (hnn : nn = (f x.1).length + 1) (happ : Appended w1 0 55 1 (V x.1) nn (vals ++ [u]) v2 w2) (hz : slElem v2 = some (z, []))
    {n' : Nat} (hm : w3.ownsMap Tryz.prog 9 slElem m n' (D.put (.string x.1) z)) (c3 : Ch (fun k => k = m) w2 w3) :
    AtM w3 (fun k => K k ∨ (w.heap.size ≤ k ∧ k < w3.heap.size)) m n' (note1 f x) (D.put (.string x.1) z) (fun y => if y = x.1 then v2 else V y) := by
  subst hnn
  obtain ⟨ho, hg, hv⟩ := happ
  have s1 := b1.size
  have s2 := hg.size
  have s3 := c3.size
  have hm1 : w1.ownsMap Tryz.prog 9 slElem m n D := map_ch h.own (Ch.of_below (S := fun _ => False) b1 (Nat.le_refl _)) (fun h => h)
  have hm2 : w2.ownsMap Tryz.prog 9 slElem m n D := map_ch hm1 (Ch.of_grown hg (fun g hg _ => hg) : Ch (fun k => (V x.1).ownBlock = some k) w1 w2) (fun e => map_row hm1 hr e)
  have c12 : Ch (fun k => (V x.1).ownBlock = some k) w1 w2 := Ch.of_grown hg (fun g hg _ => hg)
  have hbyte : ∀ {q : Value} {b : Tx}, w1.ownsRow 0 5 1 q b.length (BVs b) → w3.ownsRow 0 5 1 q b.length (BVs b) := fun {q b} hq => by
    have h2 : w2.ownsRow 0 5 1 q b.length (BVs b) := own_ch hq c12 (fun g hg hv => by
      rcases hr.2 with ⟨e, _⟩ | ⟨g1, _, _, e, _, r1, _⟩
      · rw [e] at hv; simp [Value.ownBlock] at hv
      · rcases hq.2 with ⟨rfl, _⟩ | ⟨g2, _, _, rfl, _, r2, _⟩
        · simp [Value.ownBlock] at hg
        · rw [e] at hv
          simp only [Value.ownBlock, Option.some.injEq] at hv hg
          subst hv; subst hg
          rw [r1] at r2
          simp only [Option.some.injEq, Obj.cells.injEq] at r2
          exact absurd r2.2.1 (by decide))
    exact own_ch h2 c3 (fun g hg e => map_row hm2 h2 (by rw [hg, e]))
  have hnew : note1 f x x.1 = f x.1 ++ [x.2.2] := by simp [note1]
  have hold : ∀ y, y ≠ x.1 → note1 f x y = f y := fun y hy => by simp [note1, hy]
  have hv2 : ∀ g, v2.ownBlock = some g → (V x.1).ownBlock = some g ∨ g = w1.heap.size := fun g hg => by
    rcases hv with hv | hv
    · exact .inl (by rw [← hv]; exact hg)
    · rw [hv] at hg; injection hg with hg; exact .inr hg.symm
  have hrow3 : w3.ownsRow 0 55 1 v2 ((f x.1).length + 1) (vals ++ [u]) := own_ch ho c3 (fun g hg e => map_row hm2 ho (by rw [hg, e]))
  have hvl : vals.length = (f x.1).length := by have := hr.1; omega
  have hkx : ∀ g, (V x.1).ownBlock = some g → K g := fun g hg => by
    obtain ⟨_, _, h2, _⟩ := h.at_ x.1
    exact h2 g hg
  refine ⟨hm, .inl h.km, fun y hy => ?_, fun y hy => ?_, fun y hy => ?_, fun y1 y2 hne h1 h2 g hg1 hg2 => ?_⟩
  · by_cases e : y = x.1
    · subst e; rw [hnew] at hy; simp at hy
    · rw [hold y e] at hy
      rw [if_neg e, has_put h.own.isMap]
      have : (x.1 == y) = false := by rw [beq_eq_false_iff_ne]; exact fun h => e h.symm
      rw [this, Bool.false_or]
      exact h.nil y hy
  · by_cases e : y = x.1
    · subst e
      rw [if_pos rfl]
      exact ⟨z, hz, fun zd => at_put_same h.own.isMap _ _ _⟩
    · rw [hold y e] at hy
      rw [if_neg e]
      obtain ⟨zz, h1, h2⟩ := h.val y hy
      exact ⟨zz, h1, fun zd => by rw [at_put_other e]; exact h2 zd⟩
  · by_cases e : y = x.1
    · subst e
      rw [if_pos rfl, hnew]
      refine ⟨vals ++ [u], by rw [List.length_append]; exact hrow3, fun k hk => ?_, fun i hi => ?_⟩
      · rcases hv2 k hk with h1 | h1
        · exact .inl (hkx k h1)
        · have := (ho.lt k hk).2; exact .inr ⟨by omega, by omega⟩
      · by_cases hlt : i < (f x.1).length
        · obtain ⟨q, hq, h4, h5⟩ := he i hlt
          refine ⟨q, by rw [List.getElem?_append_left (by omega)]; exact hq, ?_, fun k hk => .inl (h5 k hk)⟩
          have e : (f x.1 ++ [x.2.2])[i] = (f x.1)[i] := List.getElem_append_left hlt
          simp only [e]
          exact hbyte h4
        · have hi' : i = (f x.1).length := by simp only [List.length_append, List.length_singleton] at hi; omega
          subst hi'
          refine ⟨u, by rw [List.getElem?_append_right (by omega), hvl]; simp, ?_, fun k hk => .inl (huk k hk)⟩
          have e : (f x.1 ++ [x.2.2])[(f x.1).length] = x.2.2 := by simp
          simp only [e]
          exact hbyte hu
    · rw [hold y e] at hy ⊢
      rw [if_neg e]
      have hy' := (h.row y hy).ch (Ch.of_below (S := fun _ => False) b1 (Nat.le_refl _) : Ch _ w w1) (fun _ _ h => h)
      obtain ⟨ys, r1, r2, r3⟩ := hy'
      refine ⟨ys, ?_, fun k hk => .inl (r2 k hk), fun i hi => ?_⟩
      · have q2 : w2.ownsRow 0 55 1 (V y) (f y).length ys := own_ch r1 c12 (fun g hg hx => by
          by_cases hfx : f x.1 = []
          · rw [(h.nil x.1 hfx).2] at hx; simp [Value.ownBlock] at hx
          · exact h.apart y x.1 e hy hfx g hg hx)
        exact own_ch q2 c3 (fun g hg e => map_row hm2 q2 (by rw [hg, e]))
      · obtain ⟨q, hq, h4, h5⟩ := r3 i hi
        exact ⟨q, hq, hbyte h4, fun k hk => .inl (h5 k hk)⟩
  · have hkey : ∀ y, y ≠ x.1 → f y ≠ [] → ∀ g, (V y).ownBlock = some g → v2.ownBlock ≠ some g := fun y hy hfy g hg hg2 => by
      rcases hv2 g hg2 with h3 | h3
      · by_cases hfx : f x.1 = []
        · rw [(h.nil x.1 hfx).2] at h3; simp [Value.ownBlock] at h3
        · exact h.apart y x.1 hy hfy hfx g hg h3
      · obtain ⟨_, _, r2, _⟩ := h.row y hfy
        have := hK g (r2 g hg)
        omega
    by_cases e1 : y1 = x.1
    · by_cases e2 : y2 = x.1
      · exact hne (e1.trans e2.symm)
      · rw [if_pos e1] at hg1
        rw [if_neg e2] at hg2
        rw [hold y2 e2] at h2
        exact hkey y2 e2 h2 g hg2 hg1
    · rw [if_neg e1] at hg1
      rw [hold y1 e1] at h1
      by_cases e2 : y2 = x.1
      · rw [if_pos e2] at hg2
        exact hkey y1 e1 h1 g hg1 hg2
      · rw [if_neg e2] at hg2
        rw [hold y2 e2] at h2
        exact h.apart y1 y2 hne h1 h2 g hg1 hg2
end
end Go.Proofs.YtkoedonllfmaaaaGreat.Ao

/-
  Opening a list of requests under the form's own reach.
-/
namespace Go.Proofs.YtkoedonllfmaaaaGreat.Aq
set_option linter.unusedSimpArgs false
open Go Go.RowKit Go.ChangeShapes Go.WideShapes Go.ChangeAt Go.Deep Ck Kp Pm Pe Py Ao
set_option linter.unusedVariables false

section
variable {H : Type} {enc : TypeId × Value → H}
theorem cells_req : Tryz.prog.cellsOf 40 = 7 := by kernel_rfl
theorem bytes_req : Tryz.prog.bytesOf 40 = 88 := by kernel_rfl
set_option maxRecDepth 100000 in
theorem open_req {w : World} {base : Nat} {fuel : Nat} {cs : List Value} {x : DataW H × List MemPlace} (h : DataW.trod enc Tryz.prog w base (fun _ => true) true fuel 40 cs = some x) :
    ∃ (r : Rq) (A : Option Addr) (c : Nat), cs = [.int .i64 r.client, .int .i64 r.time, .int .i64 r.o.kind, .string ⟨r.o.topic.toArray⟩, .string ⟨r.o.group.toArray⟩, .int .i64 r.o.off, .slice A r.o.recs.length c] ∧ Ls w (fun k => w.heap.size ≤ k) (.slice A r.o.recs.length c) r.o.recs
      ∧ ∀ R, (∀ n ∈ x.1.weights Tryz.prog 40, n ≤ R) → far r.o R := by
  obtain ⟨xs, n', _, hx, hl, hxl, hf⟩ := DataW.trod_struct Tryz.underlying40 h
  rw [cells_req] at hl
  have hxl' : xs.length = 3 := hxl
  match cs, hl with
  | [v0, v1, v2, v3, v4, v5, v6], _ =>
    have f0 : DataW.trod enc Tryz.prog w base (fun _ => true) true n' 3 (([v0, v1, v2, v3, v4, v5, v6].drop 0).take (Tryz.prog.cellsOf 3)) = xs[0]? := hf 0 _ rfl
    have f1 : DataW.trod enc Tryz.prog w base (fun _ => true) true n' 2 (([v0, v1, v2, v3, v4, v5, v6].drop 1).take (Tryz.prog.cellsOf 2)) = xs[1]? := hf 1 _ rfl
    have f2 : DataW.trod enc Tryz.prog w base (fun _ => true) true n' 38 (([v0, v1, v2, v3, v4, v5, v6].drop 2).take (Tryz.prog.cellsOf 38)) = xs[2]? := hf 2 _ rfl
    rw [cells_int] at f0
    rw [cells_i64] at f1
    rw [cells_op] at f2
    simp only [List.drop_zero, List.drop_succ_cons, List.take_succ_cons, List.take_zero] at f0 f1 f2
    obtain ⟨z0, e0, w0⟩ := one_int Tryz.underlying3 (by omega) f0
    obtain ⟨z1, e1, w1⟩ := one_int Tryz.underlying2 (by omega) f1
    rw [List.getElem?_eq_getElem (by omega)] at f2
    obtain ⟨o, A, c, e2, hls, _, hfar⟩ := open_op f2
    simp only [List.cons.injEq, and_true] at e0 e1 e2
    obtain ⟨rfl, rfl, rfl, rfl, rfl⟩ := e2
    refine ⟨⟨z0, z1, o⟩, A, c, by rw [e0, e1], hls, fun R hR => hfar R fun n hn => ?_⟩
    refine hR n ?_
    rw [hx]
    simp only [DataW.weights, Tryz.underlying40]
    exact DataW.weights_mem_each (ts := [3, 2, 38]) (j := 2) (t := 38) rfl (by simp [List.getElem?_eq_getElem (show 2 < xs.length by omega)]) n hn
end
end Go.Proofs.YtkoedonllfmaaaaGreat.Aq

/-
  A range over a function whose parts lie in memory: what the iterator hands on is known in the world in which it is handed on. For any layer; nothing of a program is in it.
-/
namespace Go.Proofs.YtkoedonllfmaaaaGreat.Kr
set_option linter.unusedSimpArgs false
set_option linter.unusedVariables false
open Go Go.RowKit Ck Kw

/-- The loop's own two blocks, the first one at D. -/
def Bk (D k : Nat) : Prop := k = D ∨ k = D + 1

/-- What an iterator owes that hands on the parts bs, one behind the other: R says what its values are, all made since it was called; a round writes to blocks of S alone. -/
def SeqR {β : Type} (F : Fence) (n : Nat) (P : Program) (g : Nat) (lb : Array Value) (R : Nat → β → Array Value → World → Prop) (S : Nat → Prop) (bs : List β) (w : World) : Prop :=
  ∀ (l : Nat) (J Jx : Nat → World → Prop) (W : World), Below w.heap.size w W → w.heap.size + 2 ≤ W.heap.size → (∀ k A B, J k A → Below A.heap.size A B → J k B) → (∀ k A B, Jx k A → Below A.heap.size A B → Jx k B) →
    (∀ (k : Nat) (h : k < bs.length) (args : Array Value) (W1 : World), J k W1 → Ch S W W1 → R W.heap.size bs[k] args W1 → YieldAt F (n - 1) P l args W1 fun e W' =>
      (e = .returned (.bool true) ∧ J (k + 1) W' ∧ Ch S W1 W') ∨ (e = .returned (.bool false) ∧ Jx (k + 1) W' ∧ Ch S W1 W')) →
    J 0 W →
    CallsIn F n P g (#[.func (.yield l) #[] #[]] ++ lb) W fun e W' => (∃ v, e = .returned v) ∧ Ch S W W' ∧ (J bs.length W' ∨ ∃ k, k ≤ bs.length ∧ Jx k W')

/-- What a round's body owes. -/
def PostR (D : Nat) (S : Nat → Prop) (I : Nat → World → Prop) (Ix : Code → Nat → World → Prop) (k : Nat) (W : World) : Exit → Act → World → Prop
  | .normal, _, W' => Ch (fun j => S j ∧ ¬ Bk D j) W W' ∧ I k W'
  | .ret, _, W' => Ch (fun j => S j ∧ ¬ Bk D j) W W' ∧ Ix .ret k W'
  | .exit id, _, W' => Ch (fun j => S j ∧ ¬ Bk D j) W W' ∧ Ix (.exit id) k W'
  | .goto t, _, W' => Ch (fun j => S j ∧ ¬ Bk D j) W W' ∧ Ix (.goto t) k W'
  | .panic _, _, _ => False
  | .outgrown, _, _ => False

theorem putObj_size (W : World) (l : Nat) (o : Obj) : (W.putObj l o).heap.size = W.heap.size := by simp [World.putObj]
theorem ch_putObj (W : World) (l : Nat) (o : Obj) : Ch (fun k => k = l) W (W.putObj l o) :=
  Ch.of_grown (grownBy_putObj' W l o) (fun g e _ => by injection e with e; exact e.symm)

section
variable {F : Fence} {n : Nat} {P : Program}
theorem wpIn_rangeR {β : Type} {g : Operand} {ps : Array Tmp} {assign body : Code} {Q : Exit → Act → World → Prop} {a : Act} {w : World}
    (hro : F.round = none) (h1 : 1 ≤ n) {gf : Nat} {lb : Array Value} (hg : a.eval g = .func (.func gf) #[] lb) (hFg : F.fn gf) (eg : ∀ args w, (callFunc gf args).run P w = .ok (.enter gf args) w)
    {R : Nat → β → Array Value → World → Prop} {S : Nat → Prop} {bs : List β} (hseq : SeqR F (n - 1) P gf lb R S bs w) (hS : ∀ k, w.heap.size ≤ k → S k)
    (hps : ∀ B b args W, R B b args W → args.size = ps.size) (hR : ∀ b args W W', R (w.heap.size + 2) b args W → Ch (Bk w.heap.size) W W' → R (w.heap.size + 2) b args W')
    (I : Nat → World → Prop) (Ix : Code → Nat → World → Prop)
    (hI : ∀ k W W', I k W → w.heap.size ≤ W.heap.size → Ch (Bk w.heap.size) W W' → I k W') (hIx : ∀ c k W W', Ix c k W → w.heap.size ≤ W.heap.size → Ch (Bk w.heap.size) W W' → Ix c k W') (h0 : I 0 w) (a₁ : Array Value → Act)
    (hassign : ∀ (l : Nat) (args : Array Value) (W : World) (K : Act → World → Prop), args.size = ps.size → K (a₁ args) W →
      assign.wpIn (F.inRound l) (n - 1 - 1) P (Exit.then K (fun _ _ _ => False)) { tmps := (ps.zip args).foldl (fun t (p, v) => t.setIfInBounds p v) a.tmps, defers := [] } W)
    (hbody : ∀ (l k : Nat) (h : k < bs.length) (args : Array Value) (W : World), w.heap.size + 2 ≤ W.heap.size → Ch S w W → I k W → R (w.heap.size + 2) bs[k] args W → body.wpIn (F.inRound l) (n - 1 - 1) P (PostR w.heap.size S I Ix (k + 1) W) (a₁ args) W)
    (hdone : ∀ (W : World), Ch S w W → I bs.length W → W.heap[w.heap.size]? = some (.deferred (some [])) → Q .normal { a with defers := { target := .collected w.heap.size, args := #[] } :: a.defers } W)
    (hstop : ∀ (c : Code) (k : Nat) (W : World), k ≤ bs.length → Ch S w W → Ix c k W → W.heap[w.heap.size]? = some (.deferred (some [])) → c.wpIn F n P Q { a with defers := { target := .collected w.heap.size, args := #[] } :: a.defers } W) :
    (Code.rangeFunc g ps assign body).wpIn F n P Q a w := by
  refine wpIn_rangeFunc ?_
  intro fn hfn
  rw [hro]
  obtain ⟨D, hD⟩ : ∃ D, D = w.heap.size := ⟨_, rfl⟩
  obtain ⟨rec, hrec⟩ : ∃ rec : LoopState → Option Code → Loop, rec = fun st pe => { state := st, pending := pe, fn, tmps := a.tmps, params := ps, assign, body, defers := w.heap.size } := ⟨_, rfl⟩
  obtain ⟨W1, hW1⟩ : ∃ W1, (w.alloc (.deferred (some []))).alloc (.loop (rec .ready none)) = W1 := ⟨_, rfl⟩
  have hsz1 : W1.heap.size = D + 2 := by rw [← hW1, hD]; simp
  have hb1 : Below w.heap.size w W1 := by rw [← hW1]; exact ((Below.refl _ w).alloc (Nat.le_refl _) _).alloc (by simp) _
  have hL1 : W1.heap[D + 1]? = some (.loop (rec .ready none)) := by
    have := World.alloc_heap_new (w.alloc (.deferred (some []))) (.loop (rec .ready none))
    rw [World.size_alloc, hW1, ← hD] at this
    exact this
  have hK1 : W1.heap[D]? = some (.deferred (some [])) := by
    rw [← hW1, hD]; exact (Below.heap_alloc _ _ _ (by simp)).trans (World.alloc_heap_new w _)
  have hI1 : I 0 W1 := hI 0 w W1 h0 (Nat.le_refl _) (Ch.of_below (S := Bk w.heap.size) hb1 (Nat.le_refl _))
  have hpo : ∀ (W : World) (o : Obj), Ch (Bk w.heap.size) W (W.putObj (D + 1) o) := fun W o => (ch_putObj W (D + 1) o).mono (fun k _ e => .inr (by rw [e, hD]))
  have hbk : ∀ k, Bk w.heap.size k → S k := fun k h => hS k (by rcases h with h | h <;> omega)
  refine ⟨D + 1, [{ target := .collected D, args := #[] }], W1, { target := .fn (.func gf) lb, args := #[.func (.yield (D + 1)) #[] #[]] }, W1, gf, #[.func (.yield (D + 1)) #[] #[]] ++ lb, W1, ?_, ?_, ?_, ?_, fun _ => h1, ?_⟩
  · rw [← hW1, hrec, hD]; exact run_enterLoop_outer _ _ _ _ _
  · simp only [resolve, hg]
    simp [go_sem]
  · intro f' hf'
    simp [Target.leads] at hf'
    subst hf'
    exact hFg
  · simp [invoke, go_sem, eg]
  · have keep : ∀ {A B : World} {j : Nat} {o : Obj}, A.heap[j]? = some o → Below A.heap.size A B → B.heap[j]? = some o := fun ho hb => (hb.block _ (Array.getElem?_eq_some_iff.1 ho).1).trans ho
    have bch : ∀ {A B : World}, Below A.heap.size A B → Ch (Bk w.heap.size) A B := fun hb => Ch.of_below hb (Nat.le_refl _)
    refine (hseq (D + 1)
      (fun k W => I k W ∧ Ch S w W ∧ W.heap[D + 1]? = some (.loop (rec .ready none)) ∧ W.heap[D]? = some (.deferred (some [])))
      (fun k W => ∃ c, Ix c k W ∧ Ch S w W ∧ W.heap[D + 1]? = some (.loop (rec .done (some c))) ∧ W.heap[D]? = some (.deferred (some [])))
      W1 hb1 (by omega)
      (fun k A B hs hb => ⟨hI k A B hs.1 hs.2.1.size (bch hb), hs.2.1.trans (bch hb) (fun j _ h => hbk j h), keep hs.2.2.1 hb, keep hs.2.2.2 hb⟩)
      (fun k A B hs hb => by
        obtain ⟨c, h1, h2, h3, h4⟩ := hs
        exact ⟨c, hIx c k A B h1 h2.size (bch hb), h2.trans (bch hb) (fun j _ h => hbk j h), keep h3 hb, keep h4 hb⟩)
      ?_ ⟨hI1, Ch.of_below hb1 (Nat.le_refl _), hL1, hK1⟩).mono ?_
    · -- a round
      rintro k hk args W ⟨hi, hc, hl, hd⟩ hc1 hr
      rw [hsz1, hD] at hr
      have hsz : D + 2 ≤ W.heap.size := by have := hc1.size; omega
      have hy := run_yield (P := P) (args := args) hl (by rw [hrec]; exact hps _ _ _ _ hr)
      rw [hrec] at hy
      refine ⟨fn, _, assign, body, hy, roundIn_of_wpIn hfn (hassign (D + 1) args W _ (hps _ _ _ _ hr) ?_)⟩
      refine ⟨_, run_beginRound hl (by rw [hrec]), ?_⟩
      have hpo1 := hpo W (.loop { rec .ready none with state := .busy })
      have hl2 : (W.putObj (D + 1) (.loop { rec .ready none with state := .busy })).heap[D + 1]? = some (.loop { rec .ready none with state := .busy }) := World.putObj_heap_same (by omega)
      have hd2 : (W.putObj (D + 1) (.loop { rec .ready none with state := .busy })).heap[D]? = some (.deferred (some [])) := (World.putObj_heap_other (by omega)).trans hd
      refine wpIn_mono (hbody (D + 1) k hk args _ (by rw [putObj_size]; omega) (hc.trans hpo1 (fun j _ h => hbk j h)) (hI k _ _ hi hc.size hpo1) (hR _ _ _ _ hr hpo1)) ?_
      -- behind the round
      have fin : ∀ (jump : Option Code) (W3 : World), Ch (fun j => S j ∧ ¬ Bk w.heap.size j) (W.putObj (D + 1) (.loop { rec .ready none with state := .busy })) W3 →
          (Instr.endRound (D + 1) jump).run P W3 = .ok (.bool jump.isNone) (W3.putObj (D + 1) (.loop (rec (if jump.isNone then .ready else .done) jump))) ∧
          (W3.putObj (D + 1) (.loop (rec (if jump.isNone then .ready else .done) jump))).heap[D + 1]? = some (.loop (rec (if jump.isNone then .ready else .done) jump)) ∧
          (W3.putObj (D + 1) (.loop (rec (if jump.isNone then .ready else .done) jump))).heap[D]? = some (.deferred (some [])) ∧
          Ch S W (W3.putObj (D + 1) (.loop (rec (if jump.isNone then .ready else .done) jump))) := fun jump W3 c3 => by
        have e1 := c3.block (D + 1) (by have := hpo1.size; omega) (fun h => h.2 (.inr (by rw [hD])))
        have e0 := c3.block D (by have := hpo1.size; omega) (fun h => h.2 (.inl hD))
        have hl3 := e1.trans hl2
        have hend := run_endRound (P := P) jump hl3
        have hlt := (Array.getElem?_eq_some_iff.1 hl3).1
        rw [hrec] at hend ⊢
        refine ⟨hend, World.putObj_heap_same hlt, (World.putObj_heap_other (by omega)).trans (e0.trans hd2), ?_⟩
        exact ((hpo1.mono (fun j _ h => hbk j h)).trans (c3.mono (fun j _ h => h.1)) (fun j _ h => h)).trans (hpo W3 _) (fun j _ h => hbk j h)
      rintro e a3 W3 hp
      cases e with
      | normal =>
        obtain ⟨c3, hi3⟩ := hp
        obtain ⟨hr3, hl4, hd4, c4⟩ := fin none W3 c3
        exact ⟨_, _, hr3, .inl ⟨rfl, ⟨hI _ _ _ hi3 (by have h1 := c3.size; rw [putObj_size] at h1; omega) (hpo W3 _), hc.trans c4 (fun _ _ h => h), hl4, hd4⟩, c4⟩⟩
      | ret =>
        obtain ⟨c3, hi3⟩ := hp
        obtain ⟨hr3, hl4, hd4, c4⟩ := fin (some .ret) W3 c3
        exact ⟨_, _, hr3, .inr ⟨rfl, ⟨.ret, hIx _ _ _ _ hi3 (by have h1 := c3.size; rw [putObj_size] at h1; omega) (hpo W3 _), hc.trans c4 (fun _ _ h => h), hl4, hd4⟩, c4⟩⟩
      | exit id =>
        obtain ⟨c3, hi3⟩ := hp
        obtain ⟨hr3, hl4, hd4, c4⟩ := fin (some (.exit id)) W3 c3
        exact ⟨_, _, hr3, .inr ⟨rfl, ⟨.exit id, hIx _ _ _ _ hi3 (by have h1 := c3.size; rw [putObj_size] at h1; omega) (hpo W3 _), hc.trans c4 (fun _ _ h => h), hl4, hd4⟩, c4⟩⟩
      | goto t =>
        obtain ⟨c3, hi3⟩ := hp
        obtain ⟨hr3, hl4, hd4, c4⟩ := fin (some (.goto t)) W3 c3
        exact ⟨_, _, hr3, .inr ⟨rfl, ⟨.goto t, hIx _ _ _ _ hi3 (by have h1 := c3.size; rw [putObj_size] at h1; omega) (hpo W3 _), hc.trans c4 (fun _ _ h => h), hl4, hd4⟩, c4⟩⟩
      | panic ch => exact hp.elim
      | outgrown => exact hp.elim
    · -- behind the iterator
      rintro e W2 ⟨⟨v, rfl⟩, -, (⟨hi, hc, hl, hd⟩ | ⟨k, hk, c, hi, hc, hl, hd⟩)⟩
      · refine ⟨none, _, by have := run_endLoop (P := P) hl (by rw [hrec]; simp); rw [hrec] at this; exact this, ?_⟩
        have hp := hpo W2 (.loop { rec .ready none with state := .exhausted })
        rw [hrec] at hp
        have := hdone _ (hc.trans hp (fun j _ h => hbk j h)) (hI _ _ _ hi hc.size hp) ((World.putObj_heap_other (by omega)).trans (by rw [← hD]; exact hd))
        subst hD
        exact this
      · refine ⟨some c, _, by have := run_endLoop (P := P) hl (by rw [hrec]; simp); rw [hrec] at this; exact this, ?_⟩
        have hp := hpo W2 (.loop { rec .done (some c) with state := .exhausted })
        rw [hrec] at hp
        have := hstop c k _ hk (hc.trans hp (fun j _ h => hbk j h)) (hIx _ _ _ _ hi hc.size hp) ((World.putObj_heap_other (by omega)).trans (by rw [← hD]; exact hd))
        subst hD
        exact this

end

end Go.Proofs.YtkoedonllfmaaaaGreat.Kr

/-
  A range over a function that has blocks of its own, made as it begins: as Kr's, but what a round keeps must bear a change of those blocks. For any layer; nothing of a program is in it.
-/
namespace Go.Proofs.YtkoedonllfmaaaaGreat.Ks
set_option linter.unusedSimpArgs false
set_option linter.unusedVariables false
open Go Go.RowKit Ck Kw Kr

/-- The loop's own two blocks, the first one at D, and the m blocks of the iterator behind them. -/
def Bm (D m k : Nat) : Prop := D ≤ k ∧ k < D + 2 + m
/-- What an iterator owes that hands on the parts bs, one behind the other, and makes m blocks of its own first, which no round may write. -/
def SeqM {β : Type} (F : Fence) (n : Nat) (P : Program) (g : Nat) (lb : Array Value) (m : Nat) (R : Nat → β → Array Value → World → Prop) (S : Nat → Prop) (bs : List β) (w : World) : Prop :=
  ∀ (l : Nat) (J Jx : Nat → World → Prop) (W : World), Below w.heap.size w W → w.heap.size + 2 ≤ W.heap.size → (∀ q, W.heap.size ≤ q → q < W.heap.size + m → ¬ S q) →
    (∀ k A B, J k A → Ch (fun q => W.heap.size ≤ q ∧ q < W.heap.size + m) A B → J k B) → (∀ k A B, Jx k A → Ch (fun q => W.heap.size ≤ q ∧ q < W.heap.size + m) A B → Jx k B) →
    (∀ (k : Nat) (h : k < bs.length) (args : Array Value) (W1 : World), J k W1 → Ch S W W1 → W.heap.size + m ≤ W1.heap.size → R (W.heap.size + m) bs[k] args W1 → YieldAt F (n - 1) P l args W1 fun e W' =>
      (e = .returned (.bool true) ∧ J (k + 1) W' ∧ Ch S W1 W') ∨ (e = .returned (.bool false) ∧ Jx (k + 1) W' ∧ Ch S W1 W')) →
    J 0 W →
    CallsIn F n P g (#[.func (.yield l) #[] #[]] ++ lb) W fun e W' => (∃ v, e = .returned v) ∧ Ch S W W' ∧ (J bs.length W' ∨ ∃ k, k ≤ bs.length ∧ Jx k W')

section
variable {F : Fence} {n : Nat} {P : Program}
theorem wpIn_rangeM {β : Type} {g : Operand} {ps : Array Tmp} {assign body : Code} {Q : Exit → Act → World → Prop} {a : Act} {w : World}
    (hro : F.round = none) (h1 : 1 ≤ n) {gf : Nat} {lb : Array Value} (hg : a.eval g = .func (.func gf) #[] lb) (hFg : F.fn gf) (eg : ∀ args w, (callFunc gf args).run P w = .ok (.enter gf args) w)
    {R : Nat → β → Array Value → World → Prop} {S : Nat → Prop} {bs : List β} {m : Nat} (hseq : SeqM F (n - 1) P gf lb m R S bs w) (hS : ∀ k, w.heap.size ≤ k → (k < w.heap.size + 2 ∨ w.heap.size + 2 + m ≤ k) → S k) (hno : ∀ k, w.heap.size + 2 ≤ k → k < w.heap.size + 2 + m → ¬ S k)
    (hps : ∀ B b args W, R B b args W → args.size = ps.size) (hR : ∀ b args W W', R (w.heap.size + 2 + m) b args W → Ch (Bk w.heap.size) W W' → R (w.heap.size + 2 + m) b args W')
    (I : Nat → World → Prop) (Ix : Code → Nat → World → Prop)
    (hI : ∀ k W W', I k W → w.heap.size ≤ W.heap.size → Ch (Bm w.heap.size m) W W' → I k W') (hIx : ∀ c k W W', Ix c k W → w.heap.size ≤ W.heap.size → Ch (Bm w.heap.size m) W W' → Ix c k W') (h0 : I 0 w) (a₁ : Array Value → Act)
    (hassign : ∀ (l : Nat) (args : Array Value) (W : World) (K : Act → World → Prop), args.size = ps.size → K (a₁ args) W →
      assign.wpIn (F.inRound l) (n - 1 - 1) P (Exit.then K (fun _ _ _ => False)) { tmps := (ps.zip args).foldl (fun t (p, v) => t.setIfInBounds p v) a.tmps, defers := [] } W)
    (hbody : ∀ (l k : Nat) (h : k < bs.length) (args : Array Value) (W : World), w.heap.size + 2 + m ≤ W.heap.size → Ch S w W → I k W → R (w.heap.size + 2 + m) bs[k] args W → body.wpIn (F.inRound l) (n - 1 - 1) P (PostR w.heap.size S I Ix (k + 1) W) (a₁ args) W)
    (hdone : ∀ (W : World), Ch S w W → I bs.length W → W.heap[w.heap.size]? = some (.deferred (some [])) → Q .normal { a with defers := { target := .collected w.heap.size, args := #[] } :: a.defers } W)
    (hstop : ∀ (c : Code) (k : Nat) (W : World), k ≤ bs.length → Ch S w W → Ix c k W → W.heap[w.heap.size]? = some (.deferred (some [])) → c.wpIn F n P Q { a with defers := { target := .collected w.heap.size, args := #[] } :: a.defers } W) :
    (Code.rangeFunc g ps assign body).wpIn F n P Q a w := by
  refine wpIn_rangeFunc ?_
  intro fn hfn
  rw [hro]
  obtain ⟨D, hD⟩ : ∃ D, D = w.heap.size := ⟨_, rfl⟩
  obtain ⟨rec, hrec⟩ : ∃ rec : LoopState → Option Code → Loop, rec = fun st pe => { state := st, pending := pe, fn, tmps := a.tmps, params := ps, assign, body, defers := w.heap.size } := ⟨_, rfl⟩
  obtain ⟨W1, hW1⟩ : ∃ W1, (w.alloc (.deferred (some []))).alloc (.loop (rec .ready none)) = W1 := ⟨_, rfl⟩
  have hsz1 : W1.heap.size = D + 2 := by rw [← hW1, hD]; simp
  have hb1 : Below w.heap.size w W1 := by rw [← hW1]; exact ((Below.refl _ w).alloc (Nat.le_refl _) _).alloc (by simp) _
  have hL1 : W1.heap[D + 1]? = some (.loop (rec .ready none)) := by
    have := World.alloc_heap_new (w.alloc (.deferred (some []))) (.loop (rec .ready none))
    rw [World.size_alloc, hW1, ← hD] at this
    exact this
  have hK1 : W1.heap[D]? = some (.deferred (some [])) := by
    rw [← hW1, hD]; exact (Below.heap_alloc _ _ _ (by simp)).trans (World.alloc_heap_new w _)
  have hI1 : I 0 W1 := hI 0 w W1 h0 (Nat.le_refl _) (Ch.of_below (S := Bm w.heap.size m) hb1 (Nat.le_refl _))
  have hpo : ∀ (W : World) (o : Obj), Ch (Bk w.heap.size) W (W.putObj (D + 1) o) := fun W o => (ch_putObj W (D + 1) o).mono (fun k _ e => .inr (by rw [e, hD]))
  have hbk : ∀ k, Bk w.heap.size k → S k := fun k h => hS k (by rcases h with h | h <;> omega) (by rcases h with h | h <;> omega)
  have hbm : ∀ {A B : World}, Ch (Bk w.heap.size) A B → Ch (Bm w.heap.size m) A B := fun c => c.mono (fun k _ h => by rcases h with h | h <;> (show w.heap.size ≤ k ∧ k < w.heap.size + 2 + m; omega))
  refine ⟨D + 1, [{ target := .collected D, args := #[] }], W1, { target := .fn (.func gf) lb, args := #[.func (.yield (D + 1)) #[] #[]] }, W1, gf, #[.func (.yield (D + 1)) #[] #[]] ++ lb, W1, ?_, ?_, ?_, ?_, fun _ => h1, ?_⟩
  · rw [← hW1, hrec, hD]; exact run_enterLoop_outer _ _ _ _ _
  · simp only [resolve, hg]
    simp [go_sem]
  · intro f' hf'
    simp [Target.leads] at hf'
    subst hf'
    exact hFg
  · simp [invoke, go_sem, eg]
  · have keep : ∀ {A B : World} {j : Nat} {o : Obj}, A.heap[j]? = some o → Ch (fun q => W1.heap.size ≤ q ∧ q < W1.heap.size + m) A B → j < D + 2 → B.heap[j]? = some o := fun ho hb hj => (hb.block _ (Array.getElem?_eq_some_iff.1 ho).1 (fun h => by omega)).trans ho
    have bch : ∀ {A B : World}, Ch (fun q => W1.heap.size ≤ q ∧ q < W1.heap.size + m) A B → Ch (Bm w.heap.size m) A B := fun hb => hb.mono (fun k _ h => by show w.heap.size ≤ k ∧ k < w.heap.size + 2 + m; omega)
    refine (hseq (D + 1)
      (fun k W => I k W ∧ Ch S w W ∧ W.heap[D + 1]? = some (.loop (rec .ready none)) ∧ W.heap[D]? = some (.deferred (some [])))
      (fun k W => ∃ c, Ix c k W ∧ Ch S w W ∧ W.heap[D + 1]? = some (.loop (rec .done (some c))) ∧ W.heap[D]? = some (.deferred (some [])))
      W1 hb1 (by omega) (fun q h1 h2 => hno q (by omega) (by omega))
      (fun k A B hs hb => ⟨hI k A B hs.1 hs.2.1.size (bch hb), hs.2.1.trans hb (fun j hj h => by omega), keep hs.2.2.1 hb (by omega), keep hs.2.2.2 hb (by omega)⟩)
      (fun k A B hs hb => by
        obtain ⟨c, h1, h2, h3, h4⟩ := hs
        exact ⟨c, hIx c k A B h1 h2.size (bch hb), h2.trans hb (fun j hj h => by omega), keep h3 hb (by omega), keep h4 hb (by omega)⟩)
      ?_ ⟨hI1, Ch.of_below hb1 (Nat.le_refl _), hL1, hK1⟩).mono ?_
    · -- a round
      rintro k hk args W ⟨hi, hc, hl, hd⟩ hc1 hsm hr
      rw [hsz1, hD] at hr
      have hsz : D + 2 ≤ W.heap.size := by have := hc1.size; omega
      have hy := run_yield (P := P) (args := args) hl (by rw [hrec]; exact hps _ _ _ _ hr)
      rw [hrec] at hy
      refine ⟨fn, _, assign, body, hy, roundIn_of_wpIn hfn (hassign (D + 1) args W _ (hps _ _ _ _ hr) ?_)⟩
      refine ⟨_, run_beginRound hl (by rw [hrec]), ?_⟩
      have hpo1 := hpo W (.loop { rec .ready none with state := .busy })
      have hl2 : (W.putObj (D + 1) (.loop { rec .ready none with state := .busy })).heap[D + 1]? = some (.loop { rec .ready none with state := .busy }) := World.putObj_heap_same (by omega)
      have hd2 : (W.putObj (D + 1) (.loop { rec .ready none with state := .busy })).heap[D]? = some (.deferred (some [])) := (World.putObj_heap_other (by omega)).trans hd
      refine wpIn_mono (hbody (D + 1) k hk args _ (by rw [putObj_size]; omega) (hc.trans hpo1 (fun j _ h => hbk j h)) (hI k _ _ hi hc.size (hbm hpo1)) (hR _ _ _ _ hr hpo1)) ?_
      -- behind the round
      have fin : ∀ (jump : Option Code) (W3 : World), Ch (fun j => S j ∧ ¬ Bk w.heap.size j) (W.putObj (D + 1) (.loop { rec .ready none with state := .busy })) W3 →
          (Instr.endRound (D + 1) jump).run P W3 = .ok (.bool jump.isNone) (W3.putObj (D + 1) (.loop (rec (if jump.isNone then .ready else .done) jump))) ∧
          (W3.putObj (D + 1) (.loop (rec (if jump.isNone then .ready else .done) jump))).heap[D + 1]? = some (.loop (rec (if jump.isNone then .ready else .done) jump)) ∧
          (W3.putObj (D + 1) (.loop (rec (if jump.isNone then .ready else .done) jump))).heap[D]? = some (.deferred (some [])) ∧
          Ch S W (W3.putObj (D + 1) (.loop (rec (if jump.isNone then .ready else .done) jump))) := fun jump W3 c3 => by
        have e1 := c3.block (D + 1) (by have := hpo1.size; omega) (fun h => h.2 (.inr (by rw [hD])))
        have e0 := c3.block D (by have := hpo1.size; omega) (fun h => h.2 (.inl hD))
        have hl3 := e1.trans hl2
        have hend := run_endRound (P := P) jump hl3
        have hlt := (Array.getElem?_eq_some_iff.1 hl3).1
        rw [hrec] at hend ⊢
        refine ⟨hend, World.putObj_heap_same hlt, (World.putObj_heap_other (by omega)).trans (e0.trans hd2), ?_⟩
        exact ((hpo1.mono (fun j _ h => hbk j h)).trans (c3.mono (fun j _ h => h.1)) (fun j _ h => h)).trans (hpo W3 _) (fun j _ h => hbk j h)
      rintro e a3 W3 hp
      cases e with
      | normal =>
        obtain ⟨c3, hi3⟩ := hp
        obtain ⟨hr3, hl4, hd4, c4⟩ := fin none W3 c3
        exact ⟨_, _, hr3, .inl ⟨rfl, ⟨hI _ _ _ hi3 (by have h1 := c3.size; rw [putObj_size] at h1; omega) (hbm (hpo W3 _)), hc.trans c4 (fun _ _ h => h), hl4, hd4⟩, c4⟩⟩
      | ret =>
        obtain ⟨c3, hi3⟩ := hp
        obtain ⟨hr3, hl4, hd4, c4⟩ := fin (some .ret) W3 c3
        exact ⟨_, _, hr3, .inr ⟨rfl, ⟨.ret, hIx _ _ _ _ hi3 (by have h1 := c3.size; rw [putObj_size] at h1; omega) (hbm (hpo W3 _)), hc.trans c4 (fun _ _ h => h), hl4, hd4⟩, c4⟩⟩
      | exit id =>
        obtain ⟨c3, hi3⟩ := hp
        obtain ⟨hr3, hl4, hd4, c4⟩ := fin (some (.exit id)) W3 c3
        exact ⟨_, _, hr3, .inr ⟨rfl, ⟨.exit id, hIx _ _ _ _ hi3 (by have h1 := c3.size; rw [putObj_size] at h1; omega) (hbm (hpo W3 _)), hc.trans c4 (fun _ _ h => h), hl4, hd4⟩, c4⟩⟩
      | goto t =>
        obtain ⟨c3, hi3⟩ := hp
        obtain ⟨hr3, hl4, hd4, c4⟩ := fin (some (.goto t)) W3 c3
        exact ⟨_, _, hr3, .inr ⟨rfl, ⟨.goto t, hIx _ _ _ _ hi3 (by have h1 := c3.size; rw [putObj_size] at h1; omega) (hbm (hpo W3 _)), hc.trans c4 (fun _ _ h => h), hl4, hd4⟩, c4⟩⟩
      | panic ch => exact hp.elim
      | outgrown => exact hp.elim
    · -- behind the iterator
      rintro e W2 ⟨⟨v, rfl⟩, -, (⟨hi, hc, hl, hd⟩ | ⟨k, hk, c, hi, hc, hl, hd⟩)⟩
      · refine ⟨none, _, by have := run_endLoop (P := P) hl (by rw [hrec]; simp); rw [hrec] at this; exact this, ?_⟩
        have hp := hpo W2 (.loop { rec .ready none with state := .exhausted })
        rw [hrec] at hp
        have := hdone _ (hc.trans hp (fun j _ h => hbk j h)) (hI _ _ _ hi hc.size (hbm hp)) ((World.putObj_heap_other (by omega)).trans (by rw [← hD]; exact hd))
        subst hD
        exact this
      · refine ⟨some c, _, by have := run_endLoop (P := P) hl (by rw [hrec]; simp); rw [hrec] at this; exact this, ?_⟩
        have hp := hpo W2 (.loop { rec .done (some c) with state := .exhausted })
        rw [hrec] at hp
        have := hstop c k _ hk (hc.trans hp (fun j _ h => hbk j h)) (hIx _ _ _ _ hi hc.size (hbm hp)) ((World.putObj_heap_other (by omega)).trans (by rw [← hD]; exact hd))
        subst hD
        exact this

end

end Go.Proofs.YtkoedonllfmaaaaGreat.Ks

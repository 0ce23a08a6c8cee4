/-
  Words for the walks of layer 7's laws: requests in memory; a map of records by names.
-/
import Derived.Test.YtcmknopgoiabbaaAn
namespace Go.Proofs.Ytcmknopgoiabbaa.Ao
set_option linter.unusedSimpArgs false
open Go Go.RowKit Ck Kw Ga Kf Km Kd Pm Pz Pe Pg Py Qb Qg Tm Tn Tq To Aa Ab Ac Ad Ae Af Ag Ah Ai Aj Al Am An
attribute [local go_sem ↓] Go.wp_at_zero Go.wp_at_succ
set_option linter.unusedVariables false

/-- A request. -/
structure Rq where
  client : Int
  time : Int
  o : O
/-- Requests in memory. -/
def Rqs (w : World) (A : Option Addr) (rs : List Rq) : Prop :=
  ∀ i (hi : i < rs.length), ∃ ad Ar cr, A = some ad ∧ (ad.add (i * 7)).block < w.heap.size ∧ w.cell? (ad.add (i * 7)) = some (.int .i64 rs[i].client) ∧ w.cell? ⟨(ad.add (i * 7)).block, (ad.add (i * 7)).off + 1, none⟩ = some (.int .i64 rs[i].time)
    ∧ w.cell? ⟨(ad.add (i * 7)).block, (ad.add (i * 7)).off + 2, none⟩ = some (.int .i64 rs[i].o.kind) ∧ w.cell? ⟨(ad.add (i * 7)).block, (ad.add (i * 7)).off + 3, none⟩ = some (.string ⟨rs[i].o.topic.toArray⟩)
    ∧ w.cell? ⟨(ad.add (i * 7)).block, (ad.add (i * 7)).off + 4, none⟩ = some (.string ⟨rs[i].o.group.toArray⟩) ∧ w.cell? ⟨(ad.add (i * 7)).block, (ad.add (i * 7)).off + 5, none⟩ = some (.int .i64 rs[i].o.off)
    ∧ w.cell? ⟨(ad.add (i * 7)).block, (ad.add (i * 7)).off + 6, none⟩ = some (.slice Ar rs[i].o.recs.length cr) ∧ Ls w (fun k => w.heap.size ≤ k) (.slice Ar rs[i].o.recs.length cr) rs[i].o.recs ∧ rs[i].o.topic.length ≤ 140737488355328 ∧ rs[i].o.recs.length ≤ 140737488355328
theorem Rqs.at_ {w w' : World} {A : Option Addr} {rs : List Rq} (h : Rqs w A rs) (b : Below w.heap.size w w') {i : Nat} (hi : i < rs.length) : ∃ ad Ar cr, A = some ad ∧ w'.cell? (ad.add (i * 7)) = some (.int .i64 rs[i].client) ∧ w'.cell? ⟨(ad.add (i * 7)).block, (ad.add (i * 7)).off + 1, none⟩ = some (.int .i64 rs[i].time)
    ∧ w'.cell? ⟨(ad.add (i * 7)).block, (ad.add (i * 7)).off + 2, none⟩ = some (.int .i64 rs[i].o.kind) ∧ w'.cell? ⟨(ad.add (i * 7)).block, (ad.add (i * 7)).off + 3, none⟩ = some (.string ⟨rs[i].o.topic.toArray⟩)
    ∧ w'.cell? ⟨(ad.add (i * 7)).block, (ad.add (i * 7)).off + 4, none⟩ = some (.string ⟨rs[i].o.group.toArray⟩) ∧ w'.cell? ⟨(ad.add (i * 7)).block, (ad.add (i * 7)).off + 5, none⟩ = some (.int .i64 rs[i].o.off)
    ∧ w'.cell? ⟨(ad.add (i * 7)).block, (ad.add (i * 7)).off + 6, none⟩ = some (.slice Ar rs[i].o.recs.length cr) ∧ Ls w' (fun k => w.heap.size ≤ k) (.slice Ar rs[i].o.recs.length cr) rs[i].o.recs ∧ rs[i].o.topic.length ≤ 140737488355328 ∧ rs[i].o.recs.length ≤ 140737488355328 := by
  obtain ⟨ad, Ar, cr, hA, hlt, a0, a1, a2, a3, a4, a5, a6, hl, h1, h2⟩ := h i hi
  have k : ∀ {a : Addr} {v : Value}, a.block = (ad.add (i * 7)).block → w.cell? a = some v → w'.cell? a = some v := fun {a v} ha hc => by rw [b.cell (by rw [ha]; exact hlt)]; exact hc
  exact ⟨ad, Ar, cr, hA, k rfl a0, k rfl a1, k rfl a2, k rfl a3, k rfl a4, k rfl a5, k rfl a6, hl.below b (fun k _ h => h), h1, h2⟩
/-- Records, in a row of one's own, all of it in K. -/
def RowOk (w : World) (K : Nat → Prop) (v : Value) (rs : List Tx) : Prop :=
  ∃ vals, w.ownsRow 0 44 1 v rs.length vals ∧ (∀ k, v.ownBlock = some k → K k) ∧ ∀ i (hi : i < rs.length), ∃ u, vals[i]? = some u ∧ w.ownsRow 0 5 1 u rs[i].length (BVs rs[i]) ∧ ∀ k, u.ownBlock = some k → K k
/-- A map of records by names: block m, all of it in K. -/
structure AtM (w : World) (K : Nat → Prop) (m n : Nat) (f : Log) (D : DataW Unit) (V : Tx → Value) : Prop where
  own : w.ownsMap Try.prog 9 slElem m n D
  km : K m
  nil : ∀ x, f x = [] → Maps.has D (.string x) = false ∧ V x = .slice none 0 0
  val : ∀ x, f x ≠ [] → ∃ z, slElem (V x) = some (z, []) ∧ ∀ zd, D.atKey (.string x) zd = z
  row : ∀ x, f x ≠ [] → RowOk w K (V x) (f x)
  apart : ∀ x y, x ≠ y → f x ≠ [] → f y ≠ [] → ∀ g, (V x).ownBlock = some g → (V y).ownBlock ≠ some g
section
variable {w w' : World} {K K' X : Nat → Prop} {m n : Nat} {f : Log} {D : DataW Unit} {V : Tx → Value} {v : Value} {rs : List Tx}
theorem RowOk.ch (h : RowOk w K v rs) (c : Ch X w w') (hx : ∀ k, K k → ¬ X k) : RowOk w' K v rs := by
  obtain ⟨vals, h1, h2, h3⟩ := h
  refine ⟨vals, own_ch h1 c (fun g hg => hx g (h2 g hg)), h2, fun i hi => ?_⟩
  obtain ⟨u, hu, h4, h5⟩ := h3 i hi
  exact ⟨u, hu, own_ch h4 c (fun g hg => hx g (h5 g hg)), h5⟩
theorem RowOk.more (h : RowOk w K v rs) (hk : ∀ k, K k → K' k) : RowOk w K' v rs := by
  obtain ⟨vals, h1, h2, h3⟩ := h
  refine ⟨vals, h1, fun k hkk => hk k (h2 k hkk), fun i hi => ?_⟩
  obtain ⟨u, hu, h4, h5⟩ := h3 i hi
  exact ⟨u, hu, h4, fun k hkk => hk k (h5 k hkk)⟩
theorem AtM.ch (h : AtM w K m n f D V) (c : Ch X w w') (hx : ∀ k, K k → ¬ X k) : AtM w' K m n f D V :=
  ⟨map_ch h.own c (hx m h.km), h.km, h.nil, h.val, fun x hf => (h.row x hf).ch c hx, h.apart⟩
theorem AtM.more (h : AtM w K m n f D V) (hk : ∀ k, K k → K' k) : AtM w K' m n f D V :=
  ⟨h.own, hk _ h.km, h.nil, h.val, fun x hf => (h.row x hf).more hk, h.apart⟩
theorem AtM.later (h : AtM w K m n f D V) (b : Below w.heap.size w w') : AtM w' K m n f D V := h.ch (Ch.of_below (S := fun _ => False) b (Nat.le_refl _)) (fun _ _ h => h)
theorem zero_recs (w : World) : (zeroValue 27).run Try.prog w = .ok (.slice none 0 0) w := by kernel_rfl
theorem AtM.look (h : AtM w K m n f D V) (x : Tx) (hx : x.length ≤ 140737488355328) : (Instr.lookup 43 (.map (some m)) (.string ⟨x.toArray⟩) false).run Try.prog w = .ok (V x) w := by
  obtain ⟨v', ps, hrun, hv'⟩ := h.own.lookup law_str Try.underlying43 (zero_recs w) (zd := .agg [.nil, .lit (.int .i64 0), .lit (.int .i64 0)]) (zp := []) rfl (key_str x (by simp only [maxLen]; omega))
  by_cases hf : f x = []
  · obtain ⟨h1, h2⟩ := h.nil x hf
    rw [has_atKey h1] at hv'
    rw [hrun, h2, slElem_inj hv' (rfl : slElem (.slice none 0 0) = _)]
  · obtain ⟨z, h1, h2⟩ := h.val x hf
    rw [h2] at hv'
    rw [hrun, slElem_inj hv' h1]
/-- What is held of a name: its row. -/
theorem AtM.at_ (h : AtM w K m n f D V) (x : Tx) : RowOk w K (V x) (f x) := by
  by_cases hf : f x = []
  · rw [(h.nil x hf).2, hf]
    exact ⟨[], World.ownsRow_nil _ _ _ _, fun k hk => by simp [Value.ownBlock] at hk, fun i hi => absurd hi (by simp)⟩
  · exact h.row x hf
/-- One record more. -/
theorem AtM.put {w1 w2 w3 : World} {x : Tx × Int × Tx} {u v2 : Value} {z : DataW Unit} {vals : List Value} (h : AtM w K m n f D V) (b1 : Below w.heap.size w w1) (hK : ∀ k, K k → k < w.heap.size) (hr : w1.ownsRow 0 44 1 (V x.1) (f x.1).length vals)
    (he : ∀ i (hi : i < (f x.1).length), ∃ u, vals[i]? = some u ∧ w1.ownsRow 0 5 1 u (f x.1)[i].length (BVs (f x.1)[i]) ∧ ∀ k, u.ownBlock = some k → K k)
    (hu : w1.ownsRow 0 5 1 u x.2.2.length (BVs x.2.2)) (huk : ∀ k, u.ownBlock = some k → K k) {nn : Nat} (hnn : nn = (f x.1).length + 1) (happ : Appended w1 0 44 1 (V x.1) nn (vals ++ [u]) v2 w2) (hz : slElem v2 = some (z, []))
    {n' : Nat} (hm : w3.ownsMap Try.prog 9 slElem m n' (D.put (.string x.1) z)) (c3 : Ch (fun k => k = m) w2 w3) :
    AtM w3 (fun k => K k ∨ (w.heap.size ≤ k ∧ k < w3.heap.size)) m n' (note1 f x) (D.put (.string x.1) z) (fun y => if y = x.1 then v2 else V y) := by
  subst hnn
  obtain ⟨ho, hg, hv⟩ := happ
  have s1 := b1.size
  have s2 := hg.size
  have s3 := c3.size
  have hm1 : w1.ownsMap Try.prog 9 slElem m n D := map_ch h.own (Ch.of_below (S := fun _ => False) b1 (Nat.le_refl _)) (fun h => h)
  have hm2 : w2.ownsMap Try.prog 9 slElem m n D := map_ch hm1 (Ch.of_grown hg (fun g hg _ => hg) : Ch (fun k => (V x.1).ownBlock = some k) w1 w2) (fun e => map_row hm1 hr e)
  have c12 : Ch (fun k => (V x.1).ownBlock = some k) w1 w2 := Ch.of_grown hg (fun g hg _ => hg)
  have hbyte : ∀ {q : Value} {b : Tx}, w1.ownsRow 0 5 1 q b.length (BVs b) → w3.ownsRow 0 5 1 q b.length (BVs b) := fun {q b} hq => by
    have h2 : w2.ownsRow 0 5 1 q b.length (BVs b) := own_ch hq c12 (fun g hg hv => by
      rcases hr.2 with ⟨e, _⟩ | ⟨g1, _, _, e, _, r1, _⟩
      · rw [e] at hv; simp [Value.ownBlock] at hv
      · rcases hq.2 with ⟨rfl, _⟩ | ⟨g2, _, _, rfl, _, r2, _⟩
        · simp [Value.ownBlock] at hg
        · rw [e] at hv
          simp only [Value.ownBlock, Option.some.injEq] at hv hg
          subst hv; subst hg
          rw [r1] at r2
          simp only [Option.some.injEq, Obj.cells.injEq] at r2
          exact absurd r2.2.1 (by decide))
    exact own_ch h2 c3 (fun g hg e => map_row hm2 h2 (by rw [hg, e]))
  have hnew : note1 f x x.1 = f x.1 ++ [x.2.2] := by simp [note1]
  have hold : ∀ y, y ≠ x.1 → note1 f x y = f y := fun y hy => by simp [note1, hy]
  have hv2 : ∀ g, v2.ownBlock = some g → (V x.1).ownBlock = some g ∨ g = w1.heap.size := fun g hg => by
    rcases hv with hv | hv
    · exact .inl (by rw [← hv]; exact hg)
    · rw [hv] at hg; injection hg with hg; exact .inr hg.symm
  have hrow3 : w3.ownsRow 0 44 1 v2 ((f x.1).length + 1) (vals ++ [u]) := own_ch ho c3 (fun g hg e => map_row hm2 ho (by rw [hg, e]))
  have hvl : vals.length = (f x.1).length := by have := hr.1; omega
  have hkx : ∀ g, (V x.1).ownBlock = some g → K g := fun g hg => by
    obtain ⟨_, _, h2, _⟩ := h.at_ x.1
    exact h2 g hg
  refine ⟨hm, .inl h.km, fun y hy => ?_, fun y hy => ?_, fun y hy => ?_, fun y1 y2 hne h1 h2 g hg1 hg2 => ?_⟩
  · by_cases e : y = x.1
    · subst e; rw [hnew] at hy; simp at hy
    · rw [hold y e] at hy
      rw [if_neg e, has_put h.own.isMap]
      have : (x.1 == y) = false := by rw [beq_eq_false_iff_ne]; exact fun h => e h.symm
      rw [this, Bool.false_or]
      exact h.nil y hy
  · by_cases e : y = x.1
    · subst e
      rw [if_pos rfl]
      exact ⟨z, hz, fun zd => at_put_same h.own.isMap _ _ _⟩
    · rw [hold y e] at hy
      rw [if_neg e]
      obtain ⟨zz, h1, h2⟩ := h.val y hy
      exact ⟨zz, h1, fun zd => by rw [at_put_other e]; exact h2 zd⟩
  · by_cases e : y = x.1
    · subst e
      rw [if_pos rfl, hnew]
      refine ⟨vals ++ [u], by rw [List.length_append]; exact hrow3, fun k hk => ?_, fun i hi => ?_⟩
      · rcases hv2 k hk with h1 | h1
        · exact .inl (hkx k h1)
        · have := (ho.lt k hk).2; exact .inr ⟨by omega, by omega⟩
      · by_cases hlt : i < (f x.1).length
        · obtain ⟨q, hq, h4, h5⟩ := he i hlt
          refine ⟨q, by rw [List.getElem?_append_left (by omega)]; exact hq, ?_, fun k hk => .inl (h5 k hk)⟩
          have e : (f x.1 ++ [x.2.2])[i] = (f x.1)[i] := List.getElem_append_left hlt
          simp only [e]
          exact hbyte h4
        · have hi' : i = (f x.1).length := by simp only [List.length_append, List.length_singleton] at hi; omega
          subst hi'
          refine ⟨u, by rw [List.getElem?_append_right (by omega), hvl]; simp, ?_, fun k hk => .inl (huk k hk)⟩
          have e : (f x.1 ++ [x.2.2])[(f x.1).length] = x.2.2 := by simp
          simp only [e]
          exact hbyte hu
    · rw [hold y e] at hy ⊢
      rw [if_neg e]
      have hy' := (h.row y hy).ch (Ch.of_below (S := fun _ => False) b1 (Nat.le_refl _) : Ch _ w w1) (fun _ _ h => h)
      obtain ⟨ys, r1, r2, r3⟩ := hy'
      refine ⟨ys, ?_, fun k hk => .inl (r2 k hk), fun i hi => ?_⟩
      · have q2 : w2.ownsRow 0 44 1 (V y) (f y).length ys := own_ch r1 c12 (fun g hg hx => by
          by_cases hfx : f x.1 = []
          · rw [(h.nil x.1 hfx).2] at hx; simp [Value.ownBlock] at hx
          · exact h.apart y x.1 e hy hfx g hg hx)
        exact own_ch q2 c3 (fun g hg e => map_row hm2 q2 (by rw [hg, e]))
      · obtain ⟨q, hq, h4, h5⟩ := r3 i hi
        exact ⟨q, hq, hbyte h4, fun k hk => .inl (h5 k hk)⟩
  · have hkey : ∀ y, y ≠ x.1 → f y ≠ [] → ∀ g, (V y).ownBlock = some g → v2.ownBlock ≠ some g := fun y hy hfy g hg hg2 => by
      rcases hv2 g hg2 with h3 | h3
      · by_cases hfx : f x.1 = []
        · rw [(h.nil x.1 hfx).2] at h3; simp [Value.ownBlock] at h3
        · exact h.apart y x.1 hy hfy hfx g hg h3
      · obtain ⟨_, _, r2, _⟩ := h.row y hfy
        have := hK g (r2 g hg)
        omega
    by_cases e1 : y1 = x.1
    · by_cases e2 : y2 = x.1
      · exact hne (e1.trans e2.symm)
      · rw [if_pos e1] at hg1
        rw [if_neg e2] at hg2
        rw [hold y2 e2] at h2
        exact hkey y2 e2 h2 g hg2 hg1
    · rw [if_neg e1] at hg1
      rw [hold y1 e1] at h1
      by_cases e2 : y2 = x.1
      · rw [if_pos e2] at hg2
        exact hkey y1 e1 h1 g hg1 hg2
      · rw [if_neg e2] at hg2
        rw [hold y2 e2] at h2
        exact h.apart y1 y2 hne h1 h2 g hg1 hg2
end
end Go.Proofs.Ytcmknopgoiabbaa.Ao

/-
  Layer 15 (prepared): the law's made: one certificate, out of what stands on the stage.
-/
import Derived.Test.YtfdhaodgnenhcaaQ06
import Derived.Test.YtfdhaodgnenhcaaQ02
import Derived.BigQuiet
import Derived.Deep.RegionHeld3
import Derived.Deep.RegionHeldLaw
import Derived.Deep.DeepCutAuto
import Derived.Test.YtfdhaodgnenhcaaQ04
import Derived.Deep.RegionWith
import Derived.Deep.DrawnRows
import Derived.Deep.RegionLaw
import Derived.Maps.OwnSet
import Derived.Maps.Views
import Derived.Maps.RangeWalk
import Derived.Test.YtfdhaodgnenhcaaQ01
import Derived.Deep.Quiet
import Derived.Deep.QuietTactic
import Derived.Test.YtfdhaodgnenhcaaQ05
namespace Go.Proofs.Ytfdhaodgnenhcaa.Psv
set_option linter.unusedSimpArgs false
open Go Go.RowKit Ck Kw Ga Kf Pm Pe Pg Qb Ik Lk Jm Ja Jb Jf Jl Jn Pra Prb Pre Prv Prw Prx Pry Prz Psa Psr
attribute [local go_sem ↓] Go.wp_at_zero Go.wp_at_succ
set_option linter.unusedVariables false
set_option maxRecDepth 100000

/-- What made leaves. -/
def Made (B : Nat) (W : World) (p : Pd) (e : Ending) (w' : World) : Prop := ∃ r, e = .returned (.agg (PC p r)) ∧ Below W.heap.size W w' ∧ PI w' (fun k => B ≤ k ∧ k < W.heap.size) p r
/-- Where made stands: its certificate grows. -/
structure MD (W0 : World) (go : Nat) (s : Sp) (bv : Value) (dg : Int) (f : Sg) (vs : Value) (l : List Sg) (W : World) : Prop where
  b : Below W0.heap.size W0 W
  ho : W0.heap.size ≤ go
  blk : Blk W go 43 #[.int .i64 s.view, .int .i64 s.seq, .int .i64 dg, .int .i64 f.1, .int .i64 f.2, vs, bv]
  row : W.ownsRow W0.heap.size 39 2 vs l.length (GVs l)
  ap : vs.ownBlock ≠ some go
theorem ch_under {B : Nat} {S : Nat → Prop} {W0 W W' : World} (hb : Below B W0 W) (cc : Ch S W W') (hs : ∀ k, k < B → S k → False) (hB : B ≤ W0.heap.size) : Below B W0 W' :=
  hb.trans (cc.below (fun k hk h => hs k hk h) (Nat.le_trans hB hb.size))
theorem MD.later {W0 W W' : World} {go : Nat} {s : Sp} {bv : Value} {dg : Int} {f : Sg} {vs : Value} {l : List Sg} (h : MD W0 go s bv dg f vs l W) (b : Below W.heap.size W W') : MD W0 go s bv dg f vs l W' :=
  ⟨h.b.trans (b.mono h.b.size), h.ho, h.blk.below b h.blk.lt, own_ch h.row (Ch.of_below (S := fun _ => False) b (Nat.le_refl _)) (fun _ _ h => h), h.ap⟩
theorem MD.dig {W0 W : World} {go : Nat} {s : Sp} {bv : Value} {dg dz : Int} {f : Sg} {vs : Value} {l : List Sg} (h : MD W0 go s bv dg f vs l W) : MD W0 go s bv dz f vs l (W.setCell ⟨go, 2, none⟩ (.int .i64 dz)) := by
  have cc : Ch (fun k => k = go) W (W.setCell ⟨go, 2, none⟩ (.int .i64 dz)) := (Ch.refl (fun k => k = go) W).setCell (p := ⟨go, 2, none⟩) (fun _ => rfl) _
  refine ⟨ch_under h.b cc (fun k hk hx => by have := h.ho; omega) (Nat.le_refl _), h.ho, ?_, own_ch h.row cc (fun k hk hx => h.ap (by rw [hk, hx])), h.ap⟩
  have := h.blk.set_ 2 (.int .i64 dz)
  simpa using this
end Go.Proofs.Ytfdhaodgnenhcaa.Psv

/-
  Layer 15 (prepared): plain mathematics of the law's begun: no text and no signature stands twice in what it makes, so that both are filled again as they are.
-/
namespace Go.Proofs.Ytfdhaodgnenhcaa.Pss
set_option linter.unusedSimpArgs false
open Go Lk Jm Jg Jn Prv Prw Prz
open Im (num isIn add sum num_zero add_len sum_le)
set_option linter.unusedVariables false

/-- No text, no signature twice; each could be signed. -/
structure Tidy (L : List (List UInt8)) (G : List Sg) : Prop where
  nd : L.Nodup
  len : L.length ≤ 1048576
  gd : G.Nodup
  ok : ∀ s ∈ G, code s = 0 ∧ s.2 ≤ 1048576
theorem Tidy.nil : Tidy [] [] := ⟨List.nodup_nil, by simp, List.nodup_nil, fun s h => by simp at h⟩
theorem snoc_nodup {α : Type} {l : List α} {a : α} (h : l.Nodup) (ha : a ∉ l) : (l ++ [a]).Nodup := by
  rw [List.nodup_append]
  refine ⟨h, by simp, ?_⟩
  intro x hx b hb
  rw [List.mem_singleton.1 hb]
  intro e
  subst e
  exact ha hx
theorem Tidy.add {L : List (List UInt8)} {G : List Sg} (h : Tidy L G) (b : List UInt8) : Tidy (add L b) G := by
  refine ⟨?_, add_len h.len, h.gd, h.ok⟩
  unfold Im.add
  split
  · exact h.nd
  · rename_i h0
    split
    · exact h.nd
    · exact snoc_nodup h.nd ((num_zero _ _).1 (by omega))
theorem Tidy.pay {L : List (List UInt8)} {G : List Sg} (h : Tidy L G) (s : Sg) (hs : s.2 ≤ 1048576) : Tidy L (pay G s) := by
  unfold Lk.pay
  split
  · split
    · exact h
    · refine ⟨h.nd, h.len, snoc_nodup h.gd (by assumption), fun t ht => ?_⟩
      rcases List.mem_append.1 ht with ht | ht
      · exact h.ok t ht
      · rw [List.mem_singleton.1 ht]
        exact ⟨by assumption, hs⟩
  · exact h
theorem Tidy.seal {L : List (List UInt8)} {G : List Sg} (h : Tidy L G) (q : Q) : Tidy (sealT L q) (sealG L G q) := by
  unfold sealT sealG
  split
  · exact h
  · exact (h.add _).pay _ (by have := sum_le (s := qraw q) h.len; simp only [sgOf]; omega)
theorem Tidy.seals {qs : List Q} : ∀ {y : List (List UInt8) × List Sg × List Sd}, Tidy y.1 y.2.1 → Tidy (qs.foldl stepQ y).1 (qs.foldl stepQ y).2.1 := by
  induction qs with
  | nil => exact fun h => h
  | cons q qs ih => exact fun h => ih (h.seal q)
theorem Tidy.dig {L : List (List UInt8)} {G : List Sg} (h : Tidy L G) (l : List Sd) : Tidy (digT L l) G := by
  unfold digT
  split
  · exact h
  · exact h.add _
theorem Tidy.step {z : Bz} (h : Tidy z.L z.G) (qs : List Q) : Tidy (stepB z qs).L (stepB z qs).G :=
  (Tidy.seals (y := (z.L, z.G, [])) h).dig _
theorem get_not_mem {α : Type} {l : List α} {k : Nat} (hn : l.Nodup) (hk : k < l.length) : l[k] ∉ l.take k := by
  have h1 : (l.take (k + 1)).Nodup := hn.sublist (List.take_sublist _ _)
  rw [List.take_succ_eq_append_getElem hk, List.nodup_append] at h1
  exact fun hm => h1.2.2 _ hm _ (by simp) rfl
theorem Tidy.sign {L : List (List UInt8)} {G : List Sg} (h : Tidy L G) {k : Nat} (hk : k < G.length) : Lk.pay (G.take k) G[k] = G.take (k + 1) ∧ wfS G[k] := by
  obtain ⟨h1, h2⟩ := h.ok _ (List.getElem_mem hk)
  rw [List.take_succ_eq_append_getElem hk]
  refine ⟨?_, ?_⟩
  · unfold Lk.pay
    rw [if_pos h1, if_neg (get_not_mem h.gd hk)]
  · unfold code at h1
    split at h1
    · simp at h1
    · split at h1
      · simp at h1
      · refine ⟨by omega, by omega, by omega, by omega⟩
end Go.Proofs.Ytfdhaodgnenhcaa.Pss

/-
  Layer 15 (prepared): words for the laws' walks: specs in memory, a row of certificates of one's own, sizes of what begun makes.
-/
namespace Go.Proofs.Ytfdhaodgnenhcaa.Pta
set_option linter.unusedSimpArgs false
open Go Go.RowKit Ck Kw Ga Kf Pm Pe Pg Ik Lk Jm Ja Jb Jf Jg Jl Jn Pra Prb Pre Prr Prv Prw Prx Pry Prz Psa Psr Psv
set_option linter.unusedVariables false

/-- A spec, its signs as bytes. -/
structure SpD where
  view : Int
  seq : Int
  batch : Nat
  dig : Int
  first : Nat
  ks : List UInt8
def SpD.sp (d : SpD) : Sp := ⟨d.view, d.seq, d.batch, d.dig, d.first, d.ks.map (·.toNat)⟩
def SpV (d : SpD) (r : Option Addr × Nat) : List Value := [.int .i64 d.view, .int .i64 d.seq, .int .u8 (d.batch : Int), .int .i64 d.dig, .int .u8 (d.first : Int), .slice r.1 d.ks.length r.2]
theorem SpV_len (x : SpD × (Option Addr × Nat)) : (SpV x.1 x.2).length = 6 := rfl
def flatS (l : List SpD) (rs : List (Option Addr × Nat)) : List Value := (l.zip rs).flatMap fun x => SpV x.1 x.2
/-- The value v is these specs; all of it lies in no block of X. -/
def SPs (w : World) (X : Nat → Prop) (v : Value) (l : List SpD) : Prop := ∃ rs, (rs.length = l.length ∧ ∀ i (h : i < l.length), ∃ r, rs[i]? = some r ∧ Sl w X 1 (.slice r.1 l[i].ks.length r.2) l[i].ks.length (BVs l[i].ks)) ∧ Sl w X 6 v l.length (flatS l rs)
section
variable {w w' : World} {X : Nat → Prop} {v : Value} {l : List SpD}
theorem SPs.after (h : SPs w X v l) (b : Below w.heap.size w w') : SPs w' X v l := by
  obtain ⟨rs, ⟨h1, h2⟩, h3⟩ := h
  exact ⟨rs, ⟨h1, fun i hi => by obtain ⟨r, h4, h5⟩ := h2 i hi; exact ⟨r, h4, h5.after b⟩⟩, h3.after b⟩
theorem SPs.shape (h : SPs w X v l) : ∃ A c, v = .slice A l.length c := by
  obtain ⟨rs, h1, ⟨A, c, rfl, _⟩⟩ := h
  exact ⟨A, c, rfl⟩
theorem SPs.at_ {A : Option Addr} {n c i : Nat} (h : SPs w X (.slice A n c) l) (hi : i < l.length) : ∃ (ad : Addr) (r : Option Addr × Nat), A = some ad ∧ w.cell? (ad.add (i * 6)) = some (.int .i64 l[i].view) ∧ w.cell? ⟨(ad.add (i * 6)).block, (ad.add (i * 6)).off + 1, none⟩ = some (.int .i64 l[i].seq) ∧ w.cell? ⟨(ad.add (i * 6)).block, (ad.add (i * 6)).off + 2, none⟩ = some (.int .u8 (l[i].batch : Int)) ∧ w.cell? ⟨(ad.add (i * 6)).block, (ad.add (i * 6)).off + 3, none⟩ = some (.int .i64 l[i].dig) ∧ w.cell? ⟨(ad.add (i * 6)).block, (ad.add (i * 6)).off + 4, none⟩ = some (.int .u8 (l[i].first : Int)) ∧ w.cell? ⟨(ad.add (i * 6)).block, (ad.add (i * 6)).off + 5, none⟩ = some (.slice r.1 l[i].ks.length r.2)
    ∧ Sl w X 1 (.slice r.1 l[i].ks.length r.2) l[i].ks.length (BVs l[i].ks) := by
  obtain ⟨rs, ⟨h1, h3⟩, ⟨A', c', hv, hl, hc, hm, hx⟩⟩ := h
  injection hv with e1 e2 e3
  subst e1
  obtain ⟨r, h4, h5⟩ := h3 i hi
  obtain ⟨ad, hA, hb, hX, hcell⟩ := hx (by omega)
  have hz : i < (l.zip rs).length := by rw [List.length_zip]; omega
  have hr : i < rs.length := by omega
  have he : (l.zip rs)[i] = (l[i], r) := by
    rw [List.getElem_zip]
    have : rs[i] = r := by have := List.getElem?_eq_getElem hr; rw [this] at h4; exact Option.some.inj h4
    rw [this]
  have hof : ∀ j u, j < 6 → (SpV l[i] r)[j]? = some u → w.cell? ((ad.add (i * 6)).add j) = some u := fun j u hj hu => by
    rw [add_add]
    refine hcell _ _ ?_
    rw [flatS, flat_get SpV_len _ _ hz j hj, he]
    exact hu
  refine ⟨ad, r, hA, ?_⟩
  generalize ad.add (i * 6) = a at hof ⊢
  have ha : ∀ j, 0 < j → a.add j = ⟨a.block, a.off + j, none⟩ := fun j hj => by unfold Addr.add; rw [if_neg (by omega)]
  have h0 : a.add 0 = a := by unfold Addr.add; rw [if_pos rfl]
  refine ⟨?_, ?_, ?_, ?_, ?_, ?_, h5⟩
  · have := hof 0 _ (by omega) rfl; rwa [h0] at this
  · have := hof 1 _ (by omega) rfl; rwa [ha _ (by omega)] at this
  · have := hof 2 _ (by omega) rfl; rwa [ha _ (by omega)] at this
  · have := hof 3 _ (by omega) rfl; rwa [ha _ (by omega)] at this
  · have := hof 4 _ (by omega) rfl; rwa [ha _ (by omega)] at this
  · have := hof 5 _ (by omega) rfl; rwa [ha _ (by omega)] at this
end
/-- Certificates in a row of one's own. -/
structure VS (B : Nat) (v : Value) (l : List Pd) (rs : List Pl2) (W : World) : Prop where
  row : W.ownsRow B 43 7 v l.length (flatP l rs)
  pts : Pts W (fun k => v.ownBlock = some k) l rs
theorem VS.nil (B : Nat) (W : World) : VS B (.slice none 0 0) [] [] W := ⟨World.ownsRow_nil _ _ _ _, Pts.nil⟩
section
variable {B : Nat} {v v' : Value} {l : List Pd} {rs : List Pl2} {W W' : World}
theorem VS.later (h : VS B v l rs W) (b : Below W.heap.size W W') : VS B v l rs W' :=
  ⟨own_ch h.row (Ch.of_below (S := fun _ => False) b (Nat.le_refl _)) (fun _ _ h => h), h.pts.after b⟩
end
end Go.Proofs.Ytfdhaodgnenhcaa.Pta

/-
  Layer 15 (prepared): the document's From and Clone.
-/
namespace Go.Proofs.Ytfdhaodgnenhcaa.Psg
set_option linter.unusedSimpArgs false
open Go Go.RowKit Cm Ck Kw Ga Kf Pm Pe Pg Ph Qb Lk Ld Jm Ja Jb Jk Pra Prb Prc Prd Pre Prf
attribute [local go_sem ↓] Go.wp_at_zero Go.wp_at_succ
set_option linter.unusedVariables false
set_option maxRecDepth 100000

theorem Pts.old {w : World} {X : Nat → Prop} {l : List Pd} {rs : List Pl2} (h : Pts w X l rs) {B : Nat} (hB : w.heap.size ≤ B) : Pts w (fun k => X k ∨ B ≤ k) l rs :=
  ⟨h.1, fun i hi => by obtain ⟨r, h1, h2⟩ := h.2 i hi; exact ⟨r, h1, Sl.old h2.signs hB, Prx.batch_old h2.batch hB⟩⟩
end Go.Proofs.Ytfdhaodgnenhcaa.Psg

/-
  Layer 15 (prepared): the document's Put.
-/
namespace Go.Proofs.Ytfdhaodgnenhcaa.Psh
set_option linter.unusedSimpArgs false
open Go Go.RowKit Cm Ck Kw Ga Kf Pm Pe Pg Ph Qb Lk Ld Jm Ja Jb Jk Pra Prb Prc Prd Pre Prf Psg
attribute [local go_sem ↓] Go.wp_at_zero Go.wp_at_succ
set_option linter.unusedVariables false
set_option maxRecDepth 100000

theorem put_new {l : List Pd} {x z : Pd} (h : okN x.seq = true) (hz : l[kOf l x.seq]? = some z) (hs : ¬ z.seq = x.seq) : putP l x = (l.take (kOf l x.seq) ++ x :: l.drop (kOf l x.seq), true) := by
  rw [putP, if_pos h]
  have : hadP l x.seq = none := by unfold hadP; rw [hz]; simp [hs]
  rw [this]
end Go.Proofs.Ytfdhaodgnenhcaa.Psh

/-
  Layer 15 (prepared): what the laws' walks ask of the program's Held; PreparedFrom's walk.
-/
namespace Go.Proofs.Ytfdhaodgnenhcaa.Ptd
set_option linter.unusedSimpArgs false
open Go Go.RowKit Ck Kw Ga Kf Pm Pe Pg Ik Lk Jm Ja Jb Jf Jg Jl Jn Pra Prb Prc Prd Pre Prf Prr Psg Psh Pta
attribute [local go_sem ↓] Go.wp_at_zero Go.wp_at_succ
set_option linter.unusedVariables false
set_option maxRecDepth 100000

/-- Two certificates in boxes, and what else there is. -/
structure FX (Z : World → Prop) (w : World) (ga gb : Nat) (a b : Pd) (ra rb : Pl2) (W : World) : Prop where
  ka : Blk W ga 43 (PC a ra)
  kb : Blk W gb 43 (PC b rb)
  pa : PI W (fun _ => False) a ra
  pb : PI W (fun _ => False) b rb
  hb : Below w.heap.size w W
  z : Z W
theorem FX.later {Z : World → Prop} {w : World} {ga gb : Nat} {a b : Pd} {ra rb : Pl2} {W W' : World} (h : FX Z w ga gb a b ra rb W) (b' : Below W.heap.size W W') (hz : Z W') : FX Z w ga gb a b ra rb W' :=
  ⟨h.ka.below b' h.ka.lt, h.kb.below b' h.kb.lt, h.pa.after b', h.pb.after b', h.hb.trans (b'.mono h.hb.size), hz⟩
end Go.Proofs.Ytfdhaodgnenhcaa.Ptd

/-
  Layer 15 (prepared): words for the walks over the program's Held beside the document's: where both stand; PreparedHolds' input.
-/
namespace Go.Proofs.Ytfdhaodgnenhcaa.Pte
set_option linter.unusedSimpArgs false
open Go Go.RowKit Ck Kw Ga Kf Pm Pe Pg Ik Lk Jm Ja Jb Jf Jg Jl Jn Pra Prb Prc Prd Pre Prf Prr Prx Psg Psh Pta Ptd
set_option linter.unusedVariables false

/-- A certificate of a size that a caller can hold: so that it can be cloned. -/
def okV (x : Pd) : Prop := okP x ∧ x.signs.length * 16 ≤ 140737488351232 ∧ x.batch.length * 104 ≤ 140737488351232 ∧ ∀ y ∈ x.batch, Py.far y.q.o 140737488351232
/-- A certificate that is kept is of a size that a machine may have. -/
structure OkL (m : List Pd) (n : Nat) : Prop where
  rise : Rise m
  len : m.length ≤ n
  ok : ∀ p ∈ m, okV p
theorem OkL.nil (n : Nat) : OkL [] n := ⟨rise_nil, by simp, fun p h => by simp at h⟩
theorem put_len (m : List Pd) (x : Pd) : (putP m x).1.length ≤ m.length + 1 := by
  have hk := kOf_le m x.seq
  unfold putP
  split
  · split
    · split
      · simp
      · simp only [List.length_append, List.length_take, List.length_cons, List.length_drop]
        omega
    · simp only [List.length_append, List.length_take, List.length_cons, List.length_drop]
      omega
  · simp
theorem put_mem {m : List Pd} {x p : Pd} (h : p ∈ (putP m x).1) : p ∈ m ∨ p = x := by
  unfold putP at h
  split at h
  · split at h
    · split at h
      · exact .inl h
      · rcases List.mem_append.1 h with h | h
        · exact .inl (List.mem_of_mem_take h)
        · rcases List.mem_cons.1 h with h | h
          · exact .inr h
          · exact .inl (List.mem_of_mem_drop h)
    · rcases List.mem_append.1 h with h | h
      · exact .inl (List.mem_of_mem_take h)
      · rcases List.mem_cons.1 h with h | h
        · exact .inr h
        · exact .inl (List.mem_of_mem_drop h)
  · exact .inl h
theorem OkL.put {m : List Pd} {n : Nat} {x : Pd} (h : OkL m n) (hx : okV x) : OkL (putP m x).1 (n + 1) :=
  ⟨rise_put h.rise x, by have := put_len m x; have := h.len; omega, fun p hp => by
    rcases put_mem hp with hp | rfl
    · exact h.ok p hp
    · exact hx⟩
theorem OkL.slide {m : List Pd} {n : Nat} {low : Int} (h : OkL m n) : OkL (slideP m low) n :=
  ⟨rise_slide h.rise low, Nat.le_trans (List.length_filter_le _ _) h.len, fun p hp => h.ok p (List.mem_filter.1 hp).1⟩
theorem OkL.mono {m : List Pd} {n n' : Nat} (h : OkL m n) (hn : n ≤ n') : OkL m n' := ⟨h.rise, Nat.le_trans h.len hn, h.ok⟩
section
variable {H : World → (Nat → Prop) → Nat → List Pd → Prop} {ok : List Pd → Pd → Prop} {okl : List Pd → Prop} {w W W' : World} {gr gh : Nat} {K : List (Nat × TypeId × Array Value)} {S : Nat → Prop} {mh mr mh' mr' : List Pd}
end
/-- What is done with a Held. -/
structure PuD where
  p : Pd
  slide : Bool
  low : Int
  clone : Bool
def PuV (d : PuD) (r : Pl2) : List Value := (PC d.p r).toList ++ [.bool d.slide, .int .i64 d.low, .bool d.clone]
theorem PuV_len (x : PuD × Pl2) : (PuV x.1 x.2).length = 10 := rfl
def flatU (l : List PuD) (rs : List Pl2) : List Value := (l.zip rs).flatMap fun x => PuV x.1 x.2
def PUs (w : World) (X : Nat → Prop) (v : Value) (l : List PuD) : Prop := ∃ rs, (rs.length = l.length ∧ ∀ i (h : i < l.length), ∃ r, rs[i]? = some r ∧ PI w X l[i].p r) ∧ Sl w X 10 v l.length (flatU l rs)
theorem PUs.after {w w' : World} {X : Nat → Prop} {v : Value} {l : List PuD} (h : PUs w X v l) (b : Below w.heap.size w w') : PUs w' X v l := by
  obtain ⟨rs, ⟨h1, h2⟩, h3⟩ := h
  exact ⟨rs, ⟨h1, fun i hi => by obtain ⟨r, h4, h5⟩ := h2 i hi; exact ⟨r, h4, h5.after b⟩⟩, h3.after b⟩
theorem PUs.shape {w : World} {X : Nat → Prop} {v : Value} {l : List PuD} (h : PUs w X v l) : ∃ A c, v = .slice A l.length c := by
  obtain ⟨rs, h1, ⟨A, c, rfl, _⟩⟩ := h
  exact ⟨A, c, rfl⟩
theorem PUs.at_ {w : World} {X : Nat → Prop} {l : List PuD} {A : Option Addr} {n c i : Nat} (h : PUs w X (.slice A n c) l) (hi : i < l.length) : ∃ (ad : Addr) (r : Pl2), A = some ad ∧ At7 w (ad.add (i * 10)) l[i].p r ∧ w.cell? ⟨(ad.add (i * 10)).block, (ad.add (i * 10)).off + 7, none⟩ = some (.bool l[i].slide) ∧ w.cell? ⟨(ad.add (i * 10)).block, (ad.add (i * 10)).off + 8, none⟩ = some (.int .i64 l[i].low) ∧ w.cell? ⟨(ad.add (i * 10)).block, (ad.add (i * 10)).off + 9, none⟩ = some (.bool l[i].clone) ∧ PI w X l[i].p r := by
  obtain ⟨rs, ⟨h1, h3⟩, ⟨A', c', hv, hl, hc, hm, hx⟩⟩ := h
  injection hv with e1 e2 e3
  subst e1
  obtain ⟨r, h4, h5⟩ := h3 i hi
  obtain ⟨ad, hA, hb, hX, hcell⟩ := hx (by omega)
  have hz : i < (l.zip rs).length := by rw [List.length_zip]; omega
  have hr : i < rs.length := by omega
  have he : (l.zip rs)[i] = (l[i], r) := by
    rw [List.getElem_zip]
    have : rs[i] = r := by have := List.getElem?_eq_getElem hr; rw [this] at h4; exact Option.some.inj h4
    rw [this]
  have hof : ∀ j u, j < 10 → (PuV l[i] r)[j]? = some u → w.cell? ((ad.add (i * 10)).add j) = some u := fun j u hj hu => by
    rw [add_add]
    refine hcell _ _ ?_
    rw [flatU, flat_get PuV_len _ _ hz j hj, he]
    exact hu
  refine ⟨ad, r, hA, ?_⟩
  generalize ad.add (i * 10) = a at hof ⊢
  have ha : ∀ j, 0 < j → a.add j = ⟨a.block, a.off + j, none⟩ := fun j hj => by unfold Addr.add; rw [if_neg (by omega)]
  have h0 : a.add 0 = a := by unfold Addr.add; rw [if_pos rfl]
  refine ⟨⟨?_, ?_, ?_, ?_, ?_, ?_, ?_⟩, ?_, ?_, ?_, h5⟩
  · have := hof 0 _ (by omega) rfl; rwa [h0] at this
  · have := hof 1 _ (by omega) rfl; rwa [ha _ (by omega)] at this
  · have := hof 2 _ (by omega) rfl; rwa [ha _ (by omega)] at this
  · have := hof 3 _ (by omega) rfl; rwa [ha _ (by omega)] at this
  · have := hof 4 _ (by omega) rfl; rwa [ha _ (by omega)] at this
  · have := hof 5 _ (by omega) rfl; rwa [ha _ (by omega)] at this
  · have := hof 6 _ (by omega) rfl; rwa [ha _ (by omega)] at this
  · have := hof 7 _ (by omega) rfl; rwa [ha _ (by omega)] at this
  · have := hof 8 _ (by omega) rfl; rwa [ha _ (by omega)] at this
  · have := hof 9 _ (by omega) rfl; rwa [ha _ (by omega)] at this
end Go.Proofs.Ytfdhaodgnenhcaa.Pte

/-
  Layer 15 (prepared): words for PreparedLatest's walk: a map of views by numbers beside the program's Held.
-/
namespace Go.Proofs.Ytfdhaodgnenhcaa.Pth
set_option linter.unusedSimpArgs false
open Go Go.RowKit Ck Kw Ga Kf Pm Pe Pg Ik Lk Jm Ja Jb Jf Jg Jl Jn Pra Prb Prc Prd Pre Prf Prr Prx Psg Psh Pta Ptd Pte
set_option linter.unusedVariables false
set_option maxRecDepth 100000

theorem law_i64 : Maps.Keyed Try.prog 2 := Maps.int_keyed Try.underlying2
theorem key_i64 {n : Int} (h : -9223372036854775808 ≤ n) (h' : n ≤ 9223372036854775807) : keyOf Try.prog 2 (.int .i64 n) = some (.int .i64 n) := by
  refine Maps.keyOf_int_mk Try.underlying2 ?_
  simp only [Lit.wf]
  rw [Bool.and_eq_true, decide_eq_true_eq, decide_eq_true_eq]
  have h1 : IntKind.i64.min = -9223372036854775808 := by decide
  have h2 : IntKind.i64.max = 9223372036854775807 := by decide
  omega
def viewOf (o : Option Pd) : Int := (o.map (·.view)).getD 0
/-- The map's datum tells each number's view. -/
structure NumV (D : DataW Unit) (m : List Pd) : Prop where
  at_ : ∀ n : Int, Maps.has D (.int .i64 n) = (getP m n).isSome ∧ D.atKey (.int .i64 n) (.lit (.int .i64 0)) = .lit (.int .i64 (viewOf (getP m n)))
  size : Maps.size D = m.length
theorem NumV.empty : NumV (.map []) [] := ⟨fun _ => ⟨rfl, rfl⟩, rfl⟩
theorem put_new {m : List Pd} {p : Pd} (h : Rise m) (hp : okN p.seq = true) (hg : getP m p.seq = none) : (putP m p).1.length = m.length + 1 := by
  have hk := kOf_le m p.seq
  rw [get_had h] at hg
  unfold putP
  rw [if_pos hp, hg]
  simp only [List.length_append, List.length_take, List.length_cons, List.length_drop]
  omega
theorem put_old {m : List Pd} {p q : Pd} (h : Rise m) (hp : okN p.seq = true) (hg : getP m p.seq = some q) : (putP m p).1.length = m.length := by
  rw [get_had h] at hg
  obtain ⟨q1, q2⟩ := had_some hg
  have hk := (List.getElem?_eq_some_iff.1 q1).1
  unfold putP
  rw [if_pos hp, hg]
  simp only
  split
  · rfl
  · simp only [List.length_append, List.length_take, List.length_cons, List.length_drop]
    omega
theorem NumV.put {D : DataW Unit} {m : List Pd} {p : Pd} (h : NumV D m) (hr : Rise m) (ht : Maps.Tidy D) (hD : Maps.IsMap D) (hp : okN p.seq = true) (hg : ∀ q, getP m p.seq = some q → q.view < p.view) : NumV (D.put (.int .i64 p.seq) (.lit (.int .i64 p.view))) (putP m p).1 := by
  have hget : ∀ n, getP (putP m p).1 n = if n = p.seq then some p else getP m n := fun n => by
    rw [get_put hr]
    by_cases hn : n = p.seq
    · subst hn
      rw [if_pos ⟨rfl, hp⟩, if_pos rfl]
      cases hh : getP m p.seq with
      | none => rfl
      | some q =>
        have := hg q hh
        simp only
        rw [if_neg (by omega)]
    · rw [if_neg (fun hx => hn hx.1), if_neg hn]
  refine ⟨fun n => ?_, ?_⟩
  · rw [hget]
    by_cases hn : n = p.seq
    · subst hn
      have hr2 := okN_iff.1 hp
      have hk : WideAt.IsKeyLit (.int .i64 p.seq) := law_i64.key (key_i64 (n := p.seq) (by omega) (by omega))
      rw [if_pos rfl, Maps.has_put_same hD hk, Maps.atKey_put_same hD hk]
      exact ⟨rfl, rfl⟩
    · have hne : (Lit.int .i64 n) ≠ Lit.int .i64 p.seq := fun e => hn (by injection e)
      rw [if_neg hn, Maps.has_put_other hne, Maps.atKey_put_other hne]
      exact h.at_ n
  · rw [Maps.size_put ht, (h.at_ p.seq).1, h.size]
    cases hh : getP m p.seq with
    | none => rw [put_new hr hp hh]; rfl
    | some q => rw [put_old hr hp hh]; rfl
section
variable {H : World → (Nat → Prop) → Nat → List Pd → Prop} {ok : List Pd → Pd → Prop} {w W W' : World} {gh mm : Nat} {S : Nat → Prop} {m m' : List Pd} {k : Nat} {D D' : DataW Unit}
end
end Go.Proofs.Ytfdhaodgnenhcaa.Pth

/-
  Layer 15 (prepared): words for the program's Held: a map of certificates by their numbers.
-/
namespace Go.Proofs.Ytfdhaodgnenhcaa.Pua
set_option linter.unusedSimpArgs false
open Go Go.RowKit Ck Kw Ga Kf Pm Pe Pg Ik Lk Jm Ja Jb Jf Jg Jl Jn Pra Prb Prc Prd Pre Prf Prr Prx Psg Psh Pta Ptd Pte Pth
set_option linter.unusedVariables false
set_option maxRecDepth 100000

/-- A map's element reads as itself. -/
abbrev RV (v : Value) : Option (DataW Value × List MemPlace) := some (.held v, [])
/-- The datum D tells the list l: the certificate of a number is where the map's element says, in no block of X. -/
structure DL (w : World) (X : Nat → Prop) (D : DataW Value) (l : List Pd) : Prop where
  has : ∀ n : Int, Maps.has D (.int .i64 n) = (getP l n).isSome
  at_ : ∀ (n : Int) (p : Pd), getP l n = some p → ∃ r, (∀ zd, D.atKey (.int .i64 n) zd = .held (.agg (PC p r))) ∧ PI w X p r
  size : Maps.size D = l.length
section
variable {w w' : World} {X Y S T : Nat → Prop} {D : DataW Value} {l : List Pd} {m n g : Nat}
theorem DL.empty : DL w X (.map []) [] := ⟨fun _ => rfl, fun n p h => by simp [getP] at h, rfl⟩
theorem DL.after (h : DL w X D l) (b : Below w.heap.size w w') : DL w' X D l := ⟨h.has, fun n p hp => by obtain ⟨r, h1, h2⟩ := h.at_ n p hp; exact ⟨r, h1, h2.after b⟩, h.size⟩
theorem DL.ch (h : DL w X D l) (c : Ch S w w') (hd : ∀ k, k < w.heap.size → S k → X k) : DL w' X D l := ⟨h.has, fun n p hp => by obtain ⟨r, h1, h2⟩ := h.at_ n p hp; exact ⟨r, h1, h2.ch c hd⟩, h.size⟩
theorem DL.weaken (h : DL w X D l) (hk : ∀ b, b < w.heap.size → Y b → X b) : DL w Y D l := ⟨h.has, fun n p hp => by obtain ⟨r, h1, h2⟩ := h.at_ n p hp; exact ⟨r, h1, h2.weaken hk⟩, h.size⟩
theorem get_putx {p : Pd} (hr : Rise l) (hp : okN p.seq = true) (hg : ∀ q, getP l p.seq = some q → q.view < p.view) (n : Int) : getP (putP l p).1 n = if n = p.seq then some p else getP l n := by
  rw [get_put hr]
  by_cases hn : n = p.seq
  · subst hn
    rw [if_pos ⟨rfl, hp⟩, if_pos rfl]
    cases hh : getP l p.seq with
    | none => rfl
    | some q =>
      have := hg q hh
      simp only
      rw [if_neg (by omega)]
  · rw [if_neg (fun hx => hn hx.1), if_neg hn]
theorem key_ok {n : Int} (h : okN n = true) : keyOf Try.prog 2 (.int .i64 n) = some (.int .i64 n) := by
  have := okN_iff.1 h
  exact key_i64 (by omega) (by omega)
theorem key_lit {n : Int} (h : okN n = true) : WideAt.IsKeyLit (.int .i64 n) := law_i64.key (key_ok h)
theorem DL.put {p : Pd} {r : Pl2} (h : DL w X D l) (hr : Rise l) (ht : Maps.Tidy D) (hp : okN p.seq = true) (hg : ∀ q, getP l p.seq = some q → q.view < p.view) (hi : PI w X p r) : DL w X (D.put (.int .i64 p.seq) (.held (.agg (PC p r)))) (putP l p).1 := by
  have hD : Maps.IsMap D := ht.isMap
  have hk := key_lit hp
  refine ⟨fun n => ?_, fun n q hq => ?_, ?_⟩
  · rw [get_putx hr hp hg]
    by_cases hn : n = p.seq
    · subst hn
      rw [if_pos rfl, Maps.has_put_same hD hk]
      rfl
    · have hne : (Lit.int .i64 n) ≠ Lit.int .i64 p.seq := fun e => hn (by injection e)
      rw [if_neg hn, Maps.has_put_other hne]
      exact h.has n
  · rw [get_putx hr hp hg] at hq
    by_cases hn : n = p.seq
    · subst hn
      rw [if_pos rfl] at hq
      obtain rfl := Option.some.inj hq
      exact ⟨r, fun zd => Maps.atKey_put_same hD hk _ _, hi⟩
    · have hne : (Lit.int .i64 n) ≠ Lit.int .i64 p.seq := fun e => hn (by injection e)
      rw [if_neg hn] at hq
      obtain ⟨r', h1, h2⟩ := h.at_ n q hq
      exact ⟨r', fun zd => by rw [Maps.atKey_put_other hne]; exact h1 zd, h2⟩
  · rw [Maps.size_put ht, h.has, h.size]
    cases hh : getP l p.seq with
    | none => rw [put_new hr hp hh]; rfl
    | some q => rw [put_old hr hp hh]; rfl
end
section
variable {w w' : World} {X Y S T : Nat → Prop} {D : DataW Value} {l : List Pd} {m n g : Nat}
end
theorem zero_prep (W : World) : (zeroValue 43).run Try.prog W = .ok (.agg #[.int .i64 0, .int .i64 0, .int .i64 0, .int .i64 0, .int .i64 0, .slice none 0 0, .slice none 0 0]) W := by kernel_rfl
end Go.Proofs.Ytfdhaodgnenhcaa.Pua

/-
  A region that draws its order, whose first three operations are quiet and whose fourth waits for them and is waited for by all others: the three in any order, the fourth, and behind it one walk of quiet operations.
-/
namespace Go.Proofs.Ytfdhaodgnenhcaa.Kz
set_option linter.unusedSimpArgs false
set_option linter.unusedVariables false
open Go Go.RowKit

section
variable {P : Program} {ops : Array Oper} {Q : Exit → Act → World → Prop}

/-- The operation yields v here, in the very world. -/
def Y (P : Program) (ops : Array Oper) (o : Oper) (v : Value) (w : World) (b : Act) : Prop := Region.wanted o (yielded ops b.tmps) = true ∧ (execOp b.eval o).run P w = .ok (.value v) w

end

end Go.Proofs.Ytfdhaodgnenhcaa.Kz

/-
  Layer 8 (request): the contracts of takeSigned and TakeBatch.
-/
namespace Go.Proofs.Ytfdhaodgnenhcaa.Jr
set_option linter.unusedSimpArgs false
open Go Go.RowKit Ck Kw Ca Cb Ci Ga Kf Pm Pe Pp Qb Lk Jm Ja Jb Jc Jd Jf
attribute [local go_sem ↓] Go.wp_at_zero Go.wp_at_succ
set_option linter.unusedVariables false
set_option maxRecDepth 100000

section
variable {w0 W W' : World} {X : Nat → Prop} {g : Nat} {s s' : Cm.RS}
end
theorem info_sd : (Try.prog.info? 71).map (fun i => (i.zero, i.size, i.bytes)) = some (some (.agg Z9), 9, 104) := by kernel_rfl
theorem info_parts9 {o : Option TypeInfo} {z : Value} {a b : Nat} (h : o.map (fun i => (i.zero, i.size, i.bytes)) = some (some z, a, b)) : ∃ i, o = some i ∧ i.zero = some z ∧ i.size = a ∧ i.bytes = b := by
  cases o with
  | none => simp at h
  | some i =>
    simp only [Option.map_some, Option.some.injEq, Prod.mk.injEq] at h
    exact ⟨i, rfl, h.1, h.2.1, h.2.2⟩
theorem dc_one {d : Sd} {A : Option Addr} {c : Nat} : ∀ u ∈ (DC d A c).toList, u.oneCell' = true := by
  intro u hu
  simp only [DC, List.mem_cons, List.not_mem_nil, or_false] at hu
  rcases hu with rfl | rfl | rfl | rfl | rfl | rfl | rfl | rfl | rfl <;> rfl
theorem ls_old {w : World} {X : Nat → Prop} {v : Value} {ls : List (List UInt8)} (h : Ls w X v ls) {B : Nat} (hB : w.heap.size ≤ B) : Ls w (fun k => X k ∨ B ≤ k) v ls := by
  obtain ⟨vals, a, b⟩ := h
  exact ⟨vals, a.old hB, fun i hi => by obtain ⟨u, hu, h⟩ := b i hi; exact ⟨u, hu, h.old hB⟩⟩
end Go.Proofs.Ytfdhaodgnenhcaa.Jr

/-
  Layer 8: the program's Clone of batches, and what is one's own of it.
-/
namespace Go.Proofs.Ytfdhaodgnenhcaa.Jt
set_option linter.unusedSimpArgs false
open Go Go.RowKit Ck Kf Kw Ga Pm Pe Ph Py Qb Qs Qg Lk Ld Jm Ja Jb Jc Jf Jk
attribute [local go_sem ↓] Go.wp_at_zero Go.wp_at_succ
set_option linter.unusedVariables false
set_option maxRecDepth 100000

/-- Records of one's own: their row, and the bytes of each. -/
structure OR (B : Nat) (A : Option Addr) (c : Nat) (recs : List Tx) (vals : List Value) (W : World) : Prop where
  row : W.ownsRow B 86 1 (.slice A recs.length c) recs.length vals
  each : ∀ i (hi : i < recs.length), ∃ u, vals[i]? = some u ∧ W.ownsRow B 5 1 u recs[i].length (BVs recs[i])
section
variable {B : Nat} {A : Option Addr} {c : Nat} {recs : List Tx} {vals : List Value} {W W' : World}
theorem OR.later (h : OR B A c recs vals W) (b : Below W.heap.size W W') : OR B A c recs vals W' := ⟨own_below h.row b, fun i hi => by
  obtain ⟨u, hu, ho⟩ := h.each i hi
  exact ⟨u, hu, own_below ho b⟩⟩
theorem OR.base {B' : Nat} (h : OR B A c recs vals W) (hb : B' ≤ B) : OR B' A c recs vals W := ⟨own_base h.row hb, fun i hi => by
  obtain ⟨u, hu, ho⟩ := h.each i hi
  exact ⟨u, hu, own_base ho hb⟩⟩
theorem OR.ch {S : Nat → Prop} (h : OR B A c recs vals W) (k : Ch S W W') (hS : ∀ q, B ≤ q → ¬ S q) : OR B A c recs vals W' := ⟨own_ch h.row k (fun g hg => hS g (h.row.lt g hg).1), fun i hi => by
  obtain ⟨u, hu, ho⟩ := h.each i hi
  exact ⟨u, hu, own_ch ho k (fun g hg => hS g (ho.lt g hg).1)⟩⟩
/-- A store into a block of another type. -/
theorem OR.put {g j : Nat} {u : Value} {t : TypeId} {n m cc : Nat} {xs : List Value} (h : OR B A c recs vals W) (hr : W.ownsRow B t m (.slice (some ⟨g, 0, none⟩) n cc) n xs) (h1 : t ≠ 86) (h2 : t ≠ 5) : OR B A c recs vals (W.setCell ⟨g, j, none⟩ u) := by
  have cg := (hr.stored j u).2
  have ne : ∀ {t' : TypeId} {v : Value} {k s : Nat} {ys : List Value}, W.ownsRow B t' s v k ys → t ≠ t' → v.ownBlock = none ∨ v.ownBlock ≠ some g := fun {t' v k s ys} ho ht => by
    rcases ho.2 with ⟨rfl, _⟩ | ⟨g2, cap, cur, rfl, _, hg2, _⟩
    · exact .inl rfl
    · right
      simp only [Value.ownBlock, ne_eq, Option.some.injEq]
      rintro rfl
      rcases hr.2 with ⟨hn, _⟩ | ⟨g3, cap3, cur3, hv, _, hg3, _⟩
      · simp at hn
      · simp only [Value.slice.injEq, Option.some.injEq, Addr.mk.injEq, and_true] at hv
        obtain ⟨rfl, _⟩ := hv
        rw [hg3] at hg2
        simp only [Option.some.injEq, Obj.cells.injEq] at hg2
        exact ht hg2.2.1
  exact ⟨h.row.kept cg (ne h.row h1), fun i hi => by
    obtain ⟨w1, hu, ho⟩ := h.each i hi
    exact ⟨w1, hu, ho.kept cg (ne ho h2)⟩⟩
theorem OR.ls (h : OR B A c recs vals W) : Ls W (fun q => q < B) (.slice A recs.length c) recs :=
  ⟨vals, Sl.of_own h.row (fun q h1 _ h2 => by omega), fun i hi => by
    obtain ⟨u, hu, ho⟩ := h.each i hi
    exact ⟨u, hu, Sl.of_own ho (fun q h1 _ h2 => by omega)⟩⟩
end

/-- A request's clone, with its records one's own. -/
def OwnQ (w : World) (q : Q) (e : Ending) (w' : World) : Prop := ∃ A c vals, e = .returned (QV q A c) ∧ OR w.heap.size A c q.o.recs vals w' ∧ Below w.heap.size w w'
theorem fin2 {w w2 w3 : World} {q : Q} {A : Option Addr} {c : Nat} {vals : List Value} (h : OR (w.heap.size + 2) A c q.o.recs vals w2) (b : Below w.heap.size w w2) (hc : Ch (fun k => w.heap.size ≤ k ∧ k < w.heap.size + 2) w2 w3) :
    OwnQ w q (.returned (QV q A c)) w3 :=
  ⟨A, c, vals, rfl, (h.ch hc (fun q hq hk => by omega)).base (by omega), b.trans (hc.below (fun k hk h => by omega) b.size)⟩
set_option maxHeartbeats 2000000 in
theorem qown_any (w : World) (q : Q) (X : Nat → Prop) (A : Option Addr) (c : Nat) (hls : Ls w X (.slice A q.o.recs.length c) q.o.recs) (hlo : far q.o 140737488351232) :
    Calls Try.prog 41 #[QV q A c] w (OwnQ w q) := by
  have b1 := op_below w (.cells (QC q A c) 69)
  have b2 : Below w.heap.size w ((w.alloc (.cells (QC q A c) 69)).alloc (.cells Z7 69)) := b1.alloc b1.size _
  have k0 : QB ((w.alloc (.cells (QC q A c) 69)).alloc (.cells Z7 69)) w.heap.size q A c := Blk.alloc (Blk.new w _ _) _
  have k1 : Blk ((w.alloc (.cells (QC q A c) 69)).alloc (.cells Z7 69)) (w.heap.size + 1) 69 Z7 := Blk.new_at (by simp) rfl
  have hz : ((w.alloc (.cells (QC q A c) 69)).alloc (.cells Z7 69)).heap.size = w.heap.size + 2 := by simp
  have HZ := Lib.hid hz
  have HC := Lib.hid (Qg.clone_any _ q.o X A c (hls.after b2) hlo)
  obtain ⟨a0, a1, a2, a3, a4, a5, a6⟩ := k0.cells
  have HB := Lib.hid b2
  have HK0 := Lib.hid k0
  have HK1 := Lib.hid k1
  clear b1 b2 k0 k1 hls hlo hz
  unfold QV
  unfold OV at HC
  unfold QC Z7 at HC HB HK0 HK1 HZ a0 a1 a2 a3 a4 a5 a6
  unfold QC
  go_enter Try.func41, Try.ntmps41
  go_wp2_with fail
  refine HC.out.mono ?_
  rintro e w2 ⟨A2, c2, vals, rfl, hcl⟩
  have HOR : Hid (OR (w.heap.size + 2) A2 c2 q.o.recs vals w2) := Lib.hid (by
    rw [← HZ.out]
    exact ⟨hcl.row, fun i hi => hcl.mine i hi hi⟩)
  have hb2 := hcl.below
  have HB2 := Lib.hid (HB.out.trans (hb2.mono HB.out.size))
  have hq2 : Blk w2 w.heap.size 69 _ := Blk.below HK0.out hb2 (Blk.lt HK0.out)
  have hr2 : Blk w2 (w.heap.size + 1) 69 _ := Blk.below HK1.out hb2 (Blk.lt HK1.out)
  clear hcl hb2 a0 a1 a2 a3 a4 a5 a6
  obtain ⟨⟨a0, a1, a2, a3, a4, a5, a6⟩, ⟨f0, f1, f2, f3, f4, f5, f6⟩⟩ := Blk.cells7 hq2
  obtain ⟨⟨z0, z1, z2, z3, z4, z5, z6⟩, ⟨y0, y1, y2, y3, y4, y5, y6⟩⟩ := Blk.cells7 hr2
  have HQ2 := Lib.hid hq2
  have HR2 := Lib.hid hr2
  clear hq2 hr2
  unfold OV
  go_wp2_with fail
  refine bodyPost_ret (results_row1 rfl _ _ (w.heap.size + 1) 69 #[.int .i64 q.client, .int .i64 q.time, .int .i64 q.o.kind, .string ⟨q.o.topic.toArray⟩, .string ⟨q.o.group.toArray⟩, .int .i64 q.o.off, .slice A2 q.o.recs.length c2] (0, 0) _ rfl (blk7 (Blk.ch HR2.out (ch5 (Ch.refl _ _)) (by omega))) Try.underlying69 rfl size_req) rfl ?_
  exact fin2 HOR.out HB2.out (((ch5 (g := w.heap.size) (Ch.refl _ w2)).mono (fun k _ hk => by omega)).trans (ch7 (g := w.heap.size + 1) (Ch.refl _ _)) (fun k _ hk => by omega))

theorem flat_one {l : List Sd} {rs : List (Option Addr × Nat)} : ∀ u ∈ flat l rs, u.oneCell' = true := by
  intro u hu
  unfold flat at hu
  obtain ⟨p, _, hp⟩ := List.mem_flatMap.1 hu
  exact Jr.dc_one u hp
set_option maxHeartbeats 400000 in
theorem clone_sds (X : Nat → Prop) (v : Value) (n : Nat) (xs : List Value) (w : World) (hv : Sl w X 9 v n xs) (h1 : ∀ u ∈ xs, u.oneCell' = true) (hn : n * 104 ≤ 140737488355328) :
    Calls Try.prog 40 #[v] w fun e w' => ∃ A c, e = .returned (.slice A n c) ∧ w'.ownsRow w.heap.size 71 9 (.slice A n c) n xs ∧ Below w.heap.size w w' := by
  obtain ⟨i0, hi0, hz0, hz1, hz2⟩ := Jr.info_parts9 Jr.info_sd
  have hv' := hv
  obtain ⟨A, c, rfl, hxl, -⟩ := hv'
  have heq := fun (W : World) => Lib.run_eql_slice_nil (P := Try.prog) W 41 71 A n c 0 0 Try.underlying41
  rcases A with _ | ad
  · obtain ⟨h0, rfl⟩ := hv.none_
    subst h0
    clear hv h1 hxl
    go_enter Try.func40, Try.ntmps40
    go_wp2
    go_ret
    exact ⟨_, _, rfl, World.ownsRow_nil _ _ _ _, Below.refl _ _⟩
  · have HX := Lib.hid hxl
    clear hxl
    go_enter Try.func40, Try.ntmps40
    go_wp2_with (at_builtin; refine wpList_append_sh _ rfl (.tmp 5) (.tmp 6) _ rfl w.heap.size 71 i0 _ 9 104 Try.underlying41 hi0 hz0 hz1 hz2 rfl (by omega) (.slice (some ⟨w.heap.size, 0, none⟩) 0 0) 0 [] rfl (World.ownsRow_made w #[] 0 (Nat.le_refl _) (by simp only [maxLen]; omega) rfl) X _ n xs rfl (hv.alloc _) h1 (by simp only [maxLen]; omega) (by omega) (by simp) ?_; intro A2 c2 w2 happ)
    go_ret
    obtain ⟨ho, hg, hr⟩ := happ
    rw [Nat.zero_add] at hr
    refine ⟨A2, c2, by simp, by simpa using ho, ?_⟩
    exact ((Below.refl _ _).alloc (Nat.le_refl _) _).grown hg (by simp) (by simp [Value.ownBlock])

/-- A batch of one's own: the first k with records of one's own. -/
structure CLB (w0 : World) (X : Nat → Prop) (v : Value) (l : List Sd) (rs : List (Option Addr × Nat)) (k : Nat) (W : World) : Prop where
  below : Below w0.heap.size w0 W
  len : rs.length = l.length
  row : W.ownsRow w0.heap.size 71 9 v l.length (flat l rs)
  mine : ∀ i (hi : i < l.length), i < k → ∃ r vals, rs[i]? = some r ∧ OR w0.heap.size r.1 r.2 l[i].q.o.recs vals W
  rest : ∀ i (hi : i < l.length), k ≤ i → ∃ r, rs[i]? = some r ∧ Ls W (fun q => w0.heap.size ≤ q) (.slice r.1 l[i].q.o.recs.length r.2) l[i].q.o.recs
section
variable {w0 W W' : World} {X : Nat → Prop} {v : Value} {l : List Sd} {rs : List (Option Addr × Nat)} {k : Nat}
theorem CLB.later (h : CLB w0 X v l rs k W) (hb : Below W.heap.size W W') : CLB w0 X v l rs k W' :=
  ⟨h.below.trans (hb.mono h.below.size), h.len, own_below h.row hb, fun i hi hk => by
    obtain ⟨r, vals, hr, ho⟩ := h.mine i hi hk
    exact ⟨r, vals, hr, ho.later hb⟩, fun i hi hk => by
    obtain ⟨r, hr, ho⟩ := h.rest i hi hk
    exact ⟨r, hr, ho.after hb⟩⟩
theorem flat_at {l : List Sd} {rs : List (Option Addr × Nat)} (h : rs.length = l.length) {i : Nat} (hi : i < l.length) {r : Option Addr × Nat} (hr : rs[i]? = some r) (j : Nat) (hj : j < 9) : (flat l rs)[i * 9 + j]? = ((DC l[i] r.1 r.2).toList)[j]? := by
  have hz : i < (l.zip rs).length := by rw [zip_len h]; exact hi
  have hr2 : i < rs.length := by omega
  have he : (l.zip rs)[i] = (l[i], r) := by
    rw [List.getElem_zip]
    have : rs[i] = r := by have := List.getElem?_eq_getElem hr2; rw [this] at hr; exact Option.some.inj hr
    rw [this]
  rw [flat, flat_get DC_len _ _ hz j hj, he]
/-- The row's value, and the request at k. -/
theorem CLB.at_ (h : CLB w0 X v l rs k W) (hk : k < l.length) :
    ∃ g c r, v = .slice (some ⟨g, 0, none⟩) l.length c ∧ rs[k]? = some r ∧ (∀ j, j < 9 → W.cell? ⟨g, k * 9 + j, none⟩ = ((DC l[k] r.1 r.2).toList)[j]?) ∧ (∀ j, W.frozen? ⟨g, k * 9 + j, none⟩ = false) ∧ Ls W (fun q => w0.heap.size ≤ q) (.slice r.1 l[k].q.o.recs.length r.2) l[k].q.o.recs := by
  obtain ⟨g, c, rfl, hb, hlt⟩ := h.row.form (by omega)
  obtain ⟨r, hr, hs⟩ := h.rest k hk (Nat.le_refl _)
  refine ⟨g, c, r, rfl, hr, fun j hj => ?_, fun j => h.row.frozenAt _, hs⟩
  rw [h.row.cellAt _ (by omega), flat_at h.len hk hr j hj]
theorem set_same {xs : List Value} {i : Nat} {u : Value} (h : xs[i]? = some u) : xs.set i u = xs := by
  apply List.ext_getElem?
  intro j
  by_cases hj : i = j
  · subst hj
    rw [List.getElem?_set_self (by
      by_cases hl : i < xs.length
      · exact hl
      · rw [List.getElem?_eq_none (by omega)] at h; exact absurd h (by simp)), h]
  · rw [List.getElem?_set_ne hj]
theorem zip_set : ∀ (l : List Sd) (rs : List (Option Addr × Nat)) (k : Nat) (hk : k < l.length) (r : Option Addr × Nat), l.zip (rs.set k r) = (l.zip rs).set k (l[k], r)
  | [], _, _, hk, _ => absurd hk (by simp)
  | y :: l, [], k, hk, r => by simp
  | y :: l, a :: rs, 0, hk, r => rfl
  | y :: l, a :: rs, k + 1, hk, r => by
    have hk' : k < l.length := by simpa using hk
    have := zip_set l rs k hk' r
    simp only [List.set_cons_succ, List.zip_cons_cons, this, List.getElem_cons_succ]
theorem own_un {B : Nat} {g n cc m n' s : Nat} {xs ys : List Value} {t t' : TypeId} {v : Value} (hr : W.ownsRow B t m (.slice (some ⟨g, 0, none⟩) n cc) n xs) (ho : W.ownsRow B t' s v n' ys) (ht : t ≠ t') : v.ownBlock ≠ some g := by
  rcases ho.2 with ⟨rfl, _⟩ | ⟨g2, cap, cur, rfl, _, hg2, _⟩
  · simp [Value.ownBlock]
  · simp only [Value.ownBlock, ne_eq, Option.some.injEq]
    rintro rfl
    rcases hr.2 with ⟨hn, _⟩ | ⟨g3, cap3, cur3, hv, _, hg3, _⟩
    · simp at hn
    · simp only [Value.slice.injEq, Option.some.injEq, Addr.mk.injEq, and_true] at hv
      obtain ⟨rfl, _⟩ := hv
      rw [hg3] at hg2
      simp only [Option.some.injEq, Obj.cells.injEq] at hg2
      exact ht hg2.2.1
theorem OR.chT {B : Nat} {A : Option Addr} {c : Nat} {recs : List Tx} {vals : List Value} {g n cc m : Nat} {xs : List Value} {t : TypeId} (h : OR B A c recs vals W) (kc : Ch (fun q => q = g) W W') (hr : W.ownsRow B t m (.slice (some ⟨g, 0, none⟩) n cc) n xs) (h1 : t ≠ 86) (h2 : t ≠ 5) : OR B A c recs vals W' :=
  ⟨own_ch h.row kc (fun q hq e => own_un hr h.row h1 (by rw [hq, e])), fun i hi => by
    obtain ⟨u, hu, ho⟩ := h.each i hi
    exact ⟨u, hu, own_ch ho kc (fun q hq e => own_un hr ho h2 (by rw [hq, e]))⟩⟩
theorem ch7at {a w : World} {g o : Nat} {x0 x1 x2 x3 x4 x5 x6 : Value} (h : Ch (fun k => k = g) a w) :
    Ch (fun k => k = g) a (((((((w.setCell ⟨g, o, none⟩ x0).setCell ⟨g, o + 1, none⟩ x1).setCell ⟨g, o + 2, none⟩ x2).setCell ⟨g, o + 3, none⟩ x3).setCell ⟨g, o + 4, none⟩ x4).setCell ⟨g, o + 5, none⟩ x5).setCell ⟨g, o + 6, none⟩ x6) :=
  ((((((h.setCell (fun _ => rfl) _).setCell (fun _ => rfl) _).setCell (fun _ => rfl) _).setCell (fun _ => rfl) _).setCell (fun _ => rfl) _).setCell (fun _ => rfl) _).setCell (fun _ => rfl) _
theorem CLB.step {g c c2 : Nat} {A2 : Option Addr} {vals : List Value} (h : CLB w0 X (.slice (some ⟨g, 0, none⟩) l.length c) l rs k W) (hk : k < l.length) (ho : OR w0.heap.size A2 c2 l[k].q.o.recs vals W) :
    CLB w0 X (.slice (some ⟨g, 0, none⟩) l.length c) l (rs.set k (A2, c2)) (k + 1) (((((((W.setCell ⟨g, k * 9, none⟩ (.int .i64 l[k].q.client)).setCell ⟨g, k * 9 + 1, none⟩ (.int .i64 l[k].q.time)).setCell ⟨g, k * 9 + 2, none⟩ (.int .i64 l[k].q.o.kind)).setCell ⟨g, k * 9 + 3, none⟩ (.string ⟨l[k].q.o.topic.toArray⟩)).setCell ⟨g, k * 9 + 4, none⟩ (.string ⟨l[k].q.o.group.toArray⟩)).setCell ⟨g, k * 9 + 5, none⟩ (.int .i64 l[k].q.o.off)).setCell ⟨g, k * 9 + 6, none⟩ (.slice A2 l[k].q.o.recs.length c2)) := by
  obtain ⟨r, hr, -⟩ := h.rest k hk (Nat.le_refl _)
  have f := fun j hj => flat_at h.len hk hr j hj
  have f0 := f 0 (by omega)
  rw [Nat.add_zero] at f0
  have s0 := (h.row.stored (k * 9) (.int .i64 l[k].q.client)).1
  rw [set_same f0] at s0
  have s1 := (s0.stored (k * 9 + 1) (.int .i64 l[k].q.time)).1
  rw [set_same (f 1 (by omega))] at s1
  have s2 := (s1.stored (k * 9 + 2) (.int .i64 l[k].q.o.kind)).1
  rw [set_same (f 2 (by omega))] at s2
  have s3 := (s2.stored (k * 9 + 3) (.string ⟨l[k].q.o.topic.toArray⟩)).1
  rw [set_same (f 3 (by omega))] at s3
  have s4 := (s3.stored (k * 9 + 4) (.string ⟨l[k].q.o.group.toArray⟩)).1
  rw [set_same (f 4 (by omega))] at s4
  have s5 := (s4.stored (k * 9 + 5) (.int .i64 l[k].q.o.off)).1
  rw [set_same (f 5 (by omega))] at s5
  have s6 := (s5.stored (k * 9 + 6) (.slice A2 l[k].q.o.recs.length c2)).1
  have hzl : k < (l.zip rs).length := by rw [zip_len h.len]; exact hk
  have hrk : rs[k]'(by have := h.len; omega) = r := by have := List.getElem?_eq_getElem (show k < rs.length by have := h.len; omega); rw [this] at hr; exact Option.some.inj hr
  have he : (flat l rs).set (k * 9 + 6) (.slice A2 l[k].q.o.recs.length c2) = flat l (rs.set k (A2, c2)) := by
    unfold flat
    rw [zip_set l rs k hk (A2, c2)]
    exact flat_set DC_len _ k hzl (l[k], (A2, c2)) 6 (by omega) _ (by rw [List.getElem_zip, hrk]; rfl)
  rw [he] at s6
  have kc : Ch (fun q => q = g) W _ := ch7at (o := k * 9) (x0 := .int .i64 l[k].q.client) (x1 := .int .i64 l[k].q.time) (x2 := .int .i64 l[k].q.o.kind) (x3 := .string ⟨l[k].q.o.topic.toArray⟩) (x4 := .string ⟨l[k].q.o.group.toArray⟩) (x5 := .int .i64 l[k].q.o.off) (x6 := .slice A2 l[k].q.o.recs.length c2) (Ch.refl _ W)
  have hgb : w0.heap.size ≤ g := by
    obtain ⟨g', c', hv, hb, _⟩ := h.row.form (by omega)
    simp only [Value.slice.injEq, Option.some.injEq, Addr.mk.injEq, and_true] at hv
    omega
  refine ⟨h.below.trans (kc.below (fun q hq e => by omega) h.below.size), by simpa using h.len, s6, fun i hi hik => ?_, fun i hi hik => ?_⟩
  · by_cases he : i = k
    · subst he
      exact ⟨_, vals, List.getElem?_set_self (by have := h.len; omega), ho.chT kc h.row (by decide) (by decide)⟩
    · obtain ⟨r', vs, hr', ho'⟩ := h.mine i hi (by omega)
      exact ⟨r', vs, by rw [List.getElem?_set_ne (fun q => he q.symm)]; exact hr', ho'.chT kc h.row (by decide) (by decide)⟩
  · obtain ⟨r', hr', hl'⟩ := h.rest i hi (by omega)
    exact ⟨r', by rw [List.getElem?_set_ne (by omega)]; exact hr', hl'.ch kc (fun q _ e => by show w0.heap.size ≤ q; omega)⟩
end

set_option maxHeartbeats 4000000 in
theorem cloneb_any (w : World) (X : Nat → Prop) (A : Option Addr) (c : Nat) (l : List Sd) (h : BI w X (.slice A l.length c) l) (hf : ∀ y ∈ l, far y.q.o 140737488351232) (hl : l.length * 104 ≤ 140737488355328) :
    Calls Try.prog 35 #[.slice A l.length c] w fun e w' => ∃ A' c' rs, e = .returned (.slice A' l.length c') ∧ CLB w X (.slice A' l.length c') l rs l.length w' := by
  obtain ⟨rs, hrl, hsl, heach⟩ := h
  have HSC := Lib.hid (clone_sds X _ _ _ w hsl flat_one hl)
  have HEA := Lib.hid heach
  have HRL := Lib.hid hrl
  have HF := Lib.hid hf
  have hln : l.length ≤ 140737488355328 := by omega
  clear hsl heach hrl hf hl
  go_enter Try.func35, Try.ntmps35
  go_wp2_with fail
  refine HSC.out.mono ?_
  rintro e w1 ⟨A1, c1, rfl, ho1, hb1⟩
  have HC1 : Hid (CLB w X (.slice A1 l.length c1) l rs 0 w1) := Lib.hid ⟨hb1, HRL.out, ho1, fun i hi hk => absurd hk (by omega), fun i hi _ => by
    obtain ⟨r, hr, hls⟩ := HEA.out i hi
    exact ⟨r, hr, (hls.old' (Nat.le_refl _)).after hb1⟩⟩
  clear ho1 hb1 HSC
  go_wp2_with fail
  go_loopw [8] (fun i wr => ∃ (k : Nat) (rs : List (Option Addr × Nat)), k ≤ l.length ∧ i = .int .i64 k ∧ CLB w X (.slice A1 l.length c1) l rs k wr) (fun i _ => l.length - (intOf i).toNat)
  case atStart => exact ⟨0, rs, Nat.zero_le _, rfl, HC1.out⟩
  case round =>
    obtain ⟨k, rs2, hk, rfl, hcl⟩ := hrel
    clear HC1
    by_cases hlt : k < l.length
    · have HCL := Lib.hid hcl
      obtain ⟨g, cc, r, hv, hr, hcell, hfz, hls⟩ := hcl.at_ hlt
      simp only [Value.slice.injEq, true_and] at hv
      obtain ⟨rfl, rfl⟩ := hv
      obtain ⟨Ar, cr⟩ := r
      have hfar := HF.out _ (List.getElem_mem hlt)
      have a0 := hcell 0 (by omega)
      have a1 := hcell 1 (by omega)
      have a2 := hcell 2 (by omega)
      have a3 := hcell 3 (by omega)
      have a4 := hcell 4 (by omega)
      have a5 := hcell 5 (by omega)
      have a6 := hcell 6 (by omega)
      rw [Nat.add_zero] at a0
      unfold DC at a0 a1 a2 a3 a4 a5 a6
      simp only [List.getElem?_toArray, List.getElem?_cons_zero, List.getElem?_cons_succ] at a0 a1 a2 a3 a4 a5 a6
      have HCQ := Lib.hid (qown_any wr l[k].q _ Ar cr hls hfar)
      have HR := Lib.hid hr
      have HFZ := Lib.hid hfz
      have hkp : (0 : Int) ≤ (k : Int) := by omega
      have hkl : (k : Int) < (l.length : Int) := by omega
      clear hcl hr hcell hfz hls hfar
      unfold QV QC at HCQ
      go_wp2_with fail
      refine HCQ.out.mono ?_
      rintro e w2 ⟨A2, c2, vals, rfl, hor, hb2⟩
      have HC2 := Lib.hid (HCL.out.later hb2)
      have HN := Lib.hid (HC2.out.step hlt (hor.base HCL.out.below.size))
      obtain ⟨g', c', r', hv, hr, hcell, hfz, -⟩ := HC2.out.at_ hlt
      simp only [Value.slice.injEq, Option.some.injEq, Addr.mk.injEq, and_true, true_and] at hv
      obtain ⟨rfl, rfl⟩ := hv
      clear a0 a1 a2 a3 a4 a5 a6 hor hb2 HCQ
      have a0 := hcell 0 (by omega)
      have a1 := hcell 1 (by omega)
      have a2 := hcell 2 (by omega)
      have a3 := hcell 3 (by omega)
      have a4 := hcell 4 (by omega)
      have a5 := hcell 5 (by omega)
      have a6 := hcell 6 (by omega)
      have f0 := hfz 0
      have f1 := hfz 1
      have f2 := hfz 2
      have f3 := hfz 3
      have f4 := hfz 4
      have f5 := hfz 5
      have f6 := hfz 6
      rw [Nat.add_zero] at a0 f0
      unfold DC at a0 a1 a2 a3 a4 a5 a6
      simp only [List.getElem?_toArray, List.getElem?_cons_zero, List.getElem?_cons_succ] at a0 a1 a2 a3 a4 a5 a6
      clear hr hcell hfz
      unfold QV QC
      go_wp2_with fail
      go_roundw
      case rel => exact ⟨k + 1, _, by omega, by go_num, HN.out⟩
      case measure => simp [intOf]; omega
    · have hke : k = l.length := by omega
      subst hke
      have HCL := Lib.hid hcl
      clear hcl
      go_wp2_with fail
      go_ret
      exact ⟨_, _, rs2, rfl, HCL.out⟩
end Go.Proofs.Ytfdhaodgnenhcaa.Jt

/-
  Layer 15 (prepared): the program's clone of a certificate; isSeq; made.
-/
namespace Go.Proofs.Ytfdhaodgnenhcaa.Pub
set_option linter.unusedSimpArgs false
open Go Go.RowKit Ck Kw Ga Kf Pm Pe Pg Ik Lk Jm Ja Jb Jf Jg Jl Jn Pra Prb Prc Prd Pre Prf Prr Prx Psg Psh Pta Ptd Pte Pth Pua Ic Qb Jt
attribute [local go_sem ↓] Go.wp_at_zero Go.wp_at_succ
set_option linter.unusedVariables false
set_option maxRecDepth 100000

theorem clb_bi {w0 W : World} {X : Nat → Prop} {v : Value} {a : List Sd} {rs : List (Option Addr × Nat)} (h : CLB w0 X v a rs a.length W) : BI W (fun q => q < w0.heap.size) v a :=
  ⟨rs, h.len, Sl.of_own h.row (fun q h1 _ h2 => by omega), fun i hi => by
    obtain ⟨r, vals, hr, ho⟩ := h.mine i hi hi
    exact ⟨r, hr, ho.ls⟩⟩
/-- A certificate's rows are one's own. -/
structure OwnP (w : World) (p : Pd) (r : Pl2) (w' : World) : Prop where
  sg : w'.ownsRow w.heap.size 39 2 (.slice r.1.1 p.signs.length r.1.2) p.signs.length (p.signs.flatMap SC)
  bi : BI w' (fun k => k < w.heap.size) (.slice r.2.1 p.batch.length r.2.2) p.batch
  below : Below w.heap.size w w'
theorem OwnP.frozen {w w' : World} {p : Pd} {r : Pl2} (h : OwnP w p r w') (ad : Addr) (ha : r.1.1 = some ad) : w'.frozen? ad = false := by
  have hs := h.sg
  rw [ha] at hs
  rcases hs.2 with ⟨hn, _⟩ | ⟨g, cap, cur, hv, _⟩
  · cases hn
  · have e : ad = ⟨g, 0, none⟩ := by simp only [Value.slice.injEq, Option.some.injEq] at hv; exact hv.1
    rw [e] at hs ⊢
    exact hs.frozenAt 0
theorem OwnP.later {w w' w'' : World} {p : Pd} {r : Pl2} (h : OwnP w p r w') (b : Below w'.heap.size w' w'') : OwnP w p r w'' :=
  ⟨own_below h.sg b, h.bi.after b, h.below.trans (b.mono h.below.size)⟩
theorem OwnP.base {w w1 w' : World} {p : Pd} {r : Pl2} (h : OwnP w1 p r w') (b : Below w.heap.size w w1) : OwnP w p r w' :=
  ⟨own_base h.sg b.size, h.bi.weaken (fun k _ hk => by show k < w1.heap.size; have := b.size; have hk' : k < w.heap.size := hk; omega), b.trans (h.below.mono b.size)⟩
/-- Behind a change of blocks that are new, but not its own. -/
theorem OwnP.turn {w w1 w' w'' : World} {T : Nat → Prop} {p : Pd} {r : Pl2} (h : OwnP w1 p r w') (b : Below w.heap.size w w1) (c : Ch T w' w'') (h1 : ∀ k, T k → k < w1.heap.size) (h2 : ∀ k, T k → w.heap.size ≤ k) : OwnP w p r w'' :=
  ⟨own_base (own_ch h.sg c (fun m hm e => by have := (h.sg.lt m hm).1; have := h1 m e; omega)) b.size, (h.bi.ch c (fun k _ hk => h1 k hk)).weaken (fun k _ hk => by show k < w1.heap.size; have := b.size; have hk' : k < w.heap.size := hk; omega), (b.trans (h.below.mono b.size)).trans (c.below (fun k hk e => by have := h2 k e; omega) (b.trans (h.below.mono b.size)).size)⟩
theorem sc_one {l : List (Int × Int)} : ∀ u ∈ l.flatMap SC, u.oneCell' = true := by
  intro u hu
  obtain ⟨x, -, hx⟩ := List.mem_flatMap.1 hu
  simp only [SC, List.mem_cons, List.not_mem_nil, or_false] at hx
  rcases hx with rfl | rfl <;> rfl
end Go.Proofs.Ytfdhaodgnenhcaa.Pub

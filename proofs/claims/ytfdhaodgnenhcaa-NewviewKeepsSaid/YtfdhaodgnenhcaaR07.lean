/-
  Layer 15 (prepared): the document's sets of brokers (layer 12): List, Many.
-/
import Derived.Test.YtfdhaodgnenhcaaR06
import Derived.Test.YtfdhaodgnenhcaaR02
import Derived.BigQuiet
import Derived.Deep.RegionHeld3
import Derived.Deep.RegionHeldLaw
import Derived.Deep.DeepCutAuto
import Derived.Test.YtfdhaodgnenhcaaR04
import Derived.Deep.RegionWith
import Derived.Deep.DrawnRows
import Derived.Deep.RegionLaw
import Derived.Maps.OwnSet
import Derived.Maps.Views
import Derived.Maps.RangeWalk
import Derived.Test.YtfdhaodgnenhcaaR01
import Derived.Deep.Quiet
import Derived.Deep.QuietTactic
namespace Go.Proofs.Ytfdhaodgnenhcaa.Psj
set_option linter.unusedSimpArgs false
open Go Go.RowKit Cm Ck Kw Ga Kf Pm Pe Pg Ph Qb Lk Ld Jm Ja Jb Jk Pra Prb Prc Prd Pre Prf Prh Psi
attribute [local go_sem ↓] Go.wp_at_zero Go.wp_at_succ
set_option linter.unusedVariables false
set_option maxRecDepth 100000

theorem info_int : (Try.prog.info? 3).map (fun i => (i.zero, i.size, i.bytes)) = some (some (.int .i64 0), 1, 8) := by kernel_rfl
theorem one_valI (w : World) (X : Nat → Prop) (t : TypeId) (u : Value) (hX : ¬ X w.heap.size) : Sl (w.alloc (.cells #[u] t)) X 1 (.slice (some ⟨w.heap.size, 0, none⟩) 1 1) 1 [u] := by
  refine ⟨_, _, rfl, rfl, Nat.le_refl _, by simp only [maxLen]; omega, fun _ => ⟨_, rfl, by simp, hX, fun j u hu => ?_⟩⟩
  have hj : j = 0 := by have := (List.getElem?_eq_some_iff.1 hu).1; simp at this; omega
  subst hj
  show World.cell? _ ⟨w.heap.size, 0, none⟩ = _
  rw [Blk.cell (Blk.new w t _) 0]
  simpa using hu
/-- The first so many brokers that a set holds. -/
def listTo (P : Int → Bool) (k : Nat) : List Int := ((List.range k).filter fun i : Nat => P (i : Int)).map fun i : Nat => (i : Int)
def IVs (l : List Int) : List Value := l.map (Value.int .i64)
theorem listTo_len (P : Int → Bool) (k : Nat) : (listTo P k).length ≤ k := by
  unfold listTo
  rw [List.length_map]
  exact Nat.le_trans (List.length_filter_le _ _) (by simp)
theorem listTo_snoc (P : Int → Bool) (k : Nat) : listTo P (k + 1) = if P (k : Int) = true then listTo P k ++ [(k : Int)] else listTo P k := by
  unfold listTo
  rw [List.range_succ, List.filter_append, List.map_append]
  by_cases h : P (k : Int) = true
  · rw [if_pos h, List.filter_cons_of_pos (by simpa using h)]
    rfl
  · rw [if_neg h, List.filter_cons_of_neg (by simpa using h)]
    simp
theorem IVs_app (l : List Int) (x : Int) : IVs (l ++ [x]) = IVs l ++ [.int .i64 x] := by simp [IVs]
def listS (s : Int) : List Int := listTo (hasS s) 13
set_option maxHeartbeats 4000000 in
theorem rlist_any (w : World) (s : Int) (h0 : 0 ≤ s) (h1 : s < 65536) : Calls Try.prog 28 #[.int .u16 s] w fun e w' => ∃ A c, e = .returned (.slice A (listS s).length c) ∧ w'.ownsRow w.heap.size 3 1 (.slice A (listS s).length c) (listS s).length (IVs (listS s)) ∧ Below w.heap.size w w' := by
  have HS := Lib.hid (And.intro h0 h1)
  obtain ⟨i0, hi0, hz0, hz1, hz2⟩ := info_parts info_int
  clear h0 h1
  go_enter Try.func28, Try.ntmps28
  go_wp2_with fail
  go_loopw [3, 4] (fun v i wr => ∃ k : Nat, k ≤ 13 ∧ i = .int .i64 k ∧ wr.ownsRow w.heap.size 3 1 v (listTo (hasS s) k).length (IVs (listTo (hasS s) k)) ∧ Below w.heap.size w wr) (fun _ i _ => 13 - (intOf i).toNat)
  case atStart => exact ⟨0, Nat.zero_le _, rfl, World.ownsRow_nil _ _ _ _, Below.refl _ _⟩
  case round =>
    obtain ⟨k, hk, rfl, hrow, hb⟩ := hrel
    obtain ⟨Al, cl, rfl⟩ := own_shape hrow
    have HB := Lib.hid hb
    have HRW := Lib.hid hrow
    by_cases hlt : k < 13
    · have hki : (k : Int) < 13 := by omega
      have hlen := listTo_len (hasS s) k
      have HSN := Lib.hid (listTo_snoc (hasS s) k)
      clear hb hrow
      go_wp2_with fail
      refine (rhas_any wr s (k : Int) HS.out.1 HS.out.2).mono ?_
      rintro e w2 ⟨rfl, rfl⟩
      by_cases hx : hasS s (k : Int) = true
      · rw [if_pos hx] at HSN
        rw [hx]
        generalize hL : listTo (hasS s) k = L at *
        generalize hL2 : listTo (hasS s) (k + 1) = L2 at *
        go_wp2_with (at_builtin; refine wpList_append_sh _ rfl (.tmp 12) (.tmp 14) _ rfl w.heap.size 3 i0 _ 1 8 Try.underlying73 hi0 hz0 hz1 hz2 rfl (by omega) (.slice Al L.length cl) L.length (IVs L) rfl (HRW.out.alloc _) (fun _ => False) _ 1 [.int .i64 (k : Int)] rfl (one_valI _ _ _ _ (fun h => h)) (by simp [Value.oneCell']) (by simp only [maxLen]; omega) (by omega) (by have := HB.out.size; simp; omega) ?_; intro A3 c3 w3 happ)
        have HAP := Lib.hid happ
        clear happ
        go_roundw
        case rel => exact ⟨k + 1, by omega, by go_num, by rw [hL2, HSN.out, List.length_append, IVs_app]; exact HAP.out.1, ((HB.out.alloc (by have := HB.out.size; omega) _).grown HAP.out.2.1 (by have := HB.out.size; simp; omega) (fun g hg => (HRW.out.lt g hg).1))⟩
        case measure => simp [intOf]; omega
      · rw [if_neg hx] at HSN
        have hx' : hasS s (k : Int) = false := by simpa using hx
        rw [hx']
        generalize hL : listTo (hasS s) k = L at *
        generalize hL2 : listTo (hasS s) (k + 1) = L2 at *
        go_wp2_with fail
        go_roundw
        case rel => exact ⟨k + 1, by omega, by go_num, by rw [hL2, HSN.out]; exact HRW.out, HB.out⟩
        case measure => simp [intOf]; omega
    · have hke : k = 13 := by omega
      subst hke
      clear hb hrow
      have HL := Lib.hid (show listS s = listTo (hasS s) 13 from rfl)
      generalize listTo (hasS s) 13 = L at *
      go_wp2_with fail
      go_ret
      rw [HL.out]
      exact ⟨_, _, rfl, HRW.out, HB.out⟩
set_option maxHeartbeats 4000000 in
theorem rmany_any (w : World) (s : Int) (h0 : 0 ≤ s) (h1 : s < 65536) : Calls Try.prog 12 #[.int .u16 s] w fun e w' => e = .returned (.int .i64 (listS s).length) ∧ Below w.heap.size w w' := by
  go_enter Try.func12, Try.ntmps12
  go_wp2_with fail
  refine (rlist_any w s h0 h1).mono ?_
  rintro e w2 ⟨A, c, rfl, ho, hb⟩
  have HB := Lib.hid hb
  clear ho hb
  go_wp2_with fail
  go_ret
  exact ⟨rfl, HB.out⟩
end Go.Proofs.Ytfdhaodgnenhcaa.Psj

/-
  Layer 15 (prepared): plain mathematics of PreparedOne: who stands behind a valid certificate.
-/
namespace Go.Proofs.Ytfdhaodgnenhcaa.Psn
set_option linter.unusedSimpArgs false
open Go Lk Jm Jn Pra Prh Pri Prj Prk Prl
open Im (num isIn)
set_option linter.unusedVariables false

/-- A broker's vote, of the one kind or of the other, stands in the ledger. -/
def Stands (L : List (List UInt8)) (G : List Sg) (x v q d : Int) : Prop := ∃ (s : Sg) (k : Int), (k = 2 ∨ k = 3) ∧ validVoteB L G s x k v q d = true
/-- What stands in the ledger is a signature of the broker's own key on the vote's bytes. -/
theorem Stands.out {L : List (List UInt8)} {G : List Sg} {x v q d : Int} (h : Stands L G x v q d) : ∃ k : Int, (k = 2 ∨ k = 3) ∧ num L (voteB k.toNat v.toNat q.toNat d.toNat) ≠ 0 ∧ (x, (num L (voteB k.toNat v.toNat q.toNat d.toNat) : Int)) ∈ G := by
  obtain ⟨s, k, hk, hv⟩ := h
  simp only [validVoteB, signedB, isIn, Lk.isS, Bool.and_eq_true, decide_eq_true_eq] at hv
  obtain ⟨-, ⟨⟨h1, h2⟩, h3⟩, h4⟩ := hv
  refine ⟨k, hk, h1, ?_⟩
  have : s = (x, (num L (voteB k.toNat v.toNat q.toNat d.toNat) : Int)) := Prod.ext h2 h3
  rw [← this]
  exact h4
end Go.Proofs.Ytfdhaodgnenhcaa.Psn

/-
  Layer 15 (prepared): plain mathematics of PreparedOne: one batch a view, one digest.
-/
namespace Go.Proofs.Ytfdhaodgnenhcaa.Pso
set_option linter.unusedSimpArgs false
open Go Lk Jm Jn Pra Prh Pri Prj Prk Prl Psn
open Im (num isIn)
set_option linter.unusedVariables false

/-- A vote of the law's: the batch as the digest's place. -/
structure Vt where
  key : Int
  kind : Int
  view : Int
  seq : Int
  batch : Nat
end Go.Proofs.Ytfdhaodgnenhcaa.Pso

/-
  Layer 15 (prepared): plain mathematics of the law's begun: whose signatures its ledger holds.
-/
namespace Go.Proofs.Ytfdhaodgnenhcaa.Psq
set_option linter.unusedSimpArgs false
open Go Lk Jm Jg Jn Pra Prh Pri Prj Prv Prw Prz
open Im (num isIn add sum)
set_option linter.unusedVariables false

theorem mem_pay {G : List Sg} {s t : Sg} (h : s ∈ pay G t) : s ∈ G ∨ s = t := by
  unfold pay at h
  split at h
  · split at h
    · exact .inl h
    · rcases List.mem_append.1 h with h | h
      · exact .inl h
      · exact .inr (List.mem_singleton.1 h)
  · exact .inl h
/-- What a broker's key has signed is one of the votes. -/
def VI (ds : List Int) (L : List (List UInt8)) (G : List Sg) (vs : List (Vt × Nat)) : Prop :=
  ∀ s ∈ G, s.1 < 13 → ∃ u ∈ vs, u.1.key = s.1 ∧ vMay u.1 (vDig ds u) = true ∧ s.2 = (num L (vB u.1 (vDig ds u)) : Int) ∧ num L (vB u.1 (vDig ds u)) ≠ 0
theorem VI.step {ds : List Int} {z : Vz} {vs : List (Vt × Nat)} (h : VI ds z.L z.G vs) (v : Vt × Nat) : VI ds (stepV ds z v).L (stepV ds z v).G (vs ++ [v]) := by
  simp only [stepV]
  unfold vT vG
  by_cases hm : vMay v.1 (vDig ds v) = true
  · rw [if_pos hm, if_pos hm]
    have hold : ∀ s ∈ z.G, s.1 < 13 → ∃ u ∈ vs ++ [v], u.1.key = s.1 ∧ vMay u.1 (vDig ds u) = true ∧ s.2 = (num (add z.L (vB v.1 (vDig ds v))) (vB u.1 (vDig ds u)) : Int) ∧ num (add z.L (vB v.1 (vDig ds v))) (vB u.1 (vDig ds u)) ≠ 0 := by
      intro s hs hk
      obtain ⟨u, hu, a1, a2, a3, a4⟩ := h s hs hk
      have e := num_add (b := vB v.1 (vDig ds v)) a4
      exact ⟨u, List.mem_append.2 (.inl hu), a1, a2, by rw [e]; exact a3, by rw [e]; exact a4⟩
    intro s hs hk
    unfold vsG at hs
    split at hs
    · exact hold s hs hk
    · rename_i hne
      rcases mem_pay hs with hs | rfl
      · exact hold s hs hk
      · obtain ⟨e1, e2⟩ := sum_num hne
        exact ⟨v, List.mem_append.2 (.inr (List.mem_singleton.2 rfl)), rfl, hm, by rw [e1]; rfl, e2⟩
  · rw [if_neg hm, if_neg hm]
    intro s hs hk
    obtain ⟨u, hu, a⟩ := h s hs hk
    exact ⟨u, List.mem_append.2 (.inl hu), a⟩
end Go.Proofs.Ytfdhaodgnenhcaa.Psq

/-
  Layer 15 (prepared): plain mathematics of the law's live: its one case.
-/
namespace Go.Proofs.Ytfdhaodgnenhcaa.Psr
set_option linter.unusedSimpArgs false
open Go Lk Jm Jg Jn Pra Prh Pri Prj Prv Prw Prz
open Im (num isIn add sum)
set_option linter.unusedVariables false

/-- How a certificate is put together. -/
structure Sp where
  view : Int
  seq : Int
  batch : Nat
  dig : Int
  first : Nat
  signs : List Nat
end Go.Proofs.Ytfdhaodgnenhcaa.Psr

/-
  Layer 15 (prepared): the law's made: one certificate, out of what stands on the stage.
-/
namespace Go.Proofs.Ytfdhaodgnenhcaa.Psv
set_option linter.unusedSimpArgs false
open Go Go.RowKit Ck Kw Ga Kf Pm Pe Pg Qb Ik Lk Jm Ja Jb Jf Jl Jn Pra Prb Pre Prv Prw Prx Pry Prz Psa Psr
attribute [local go_sem ↓] Go.wp_at_zero Go.wp_at_succ
set_option linter.unusedVariables false
set_option maxRecDepth 100000

/-- What made leaves. -/
def Made (B : Nat) (W : World) (p : Pd) (e : Ending) (w' : World) : Prop := ∃ r, e = .returned (.agg (PC p r)) ∧ Below W.heap.size W w' ∧ PI w' (fun k => B ≤ k ∧ k < W.heap.size) p r
/-- Where made stands: its certificate grows. -/
structure MD (W0 : World) (go : Nat) (s : Sp) (bv : Value) (dg : Int) (f : Sg) (vs : Value) (l : List Sg) (W : World) : Prop where
  b : Below W0.heap.size W0 W
  ho : W0.heap.size ≤ go
  blk : Blk W go 43 #[.int .i64 s.view, .int .i64 s.seq, .int .i64 dg, .int .i64 f.1, .int .i64 f.2, vs, bv]
  row : W.ownsRow W0.heap.size 39 2 vs l.length (GVs l)
  ap : vs.ownBlock ≠ some go
theorem ch_under {B : Nat} {S : Nat → Prop} {W0 W W' : World} (hb : Below B W0 W) (cc : Ch S W W') (hs : ∀ k, k < B → S k → False) (hB : B ≤ W0.heap.size) : Below B W0 W' :=
  hb.trans (cc.below (fun k hk h => hs k hk h) (Nat.le_trans hB hb.size))
theorem MD.later {W0 W W' : World} {go : Nat} {s : Sp} {bv : Value} {dg : Int} {f : Sg} {vs : Value} {l : List Sg} (h : MD W0 go s bv dg f vs l W) (b : Below W.heap.size W W') : MD W0 go s bv dg f vs l W' :=
  ⟨h.b.trans (b.mono h.b.size), h.ho, h.blk.below b h.blk.lt, own_ch h.row (Ch.of_below (S := fun _ => False) b (Nat.le_refl _)) (fun _ _ h => h), h.ap⟩
theorem MD.dig {W0 W : World} {go : Nat} {s : Sp} {bv : Value} {dg dz : Int} {f : Sg} {vs : Value} {l : List Sg} (h : MD W0 go s bv dg f vs l W) : MD W0 go s bv dz f vs l (W.setCell ⟨go, 2, none⟩ (.int .i64 dz)) := by
  have cc : Ch (fun k => k = go) W (W.setCell ⟨go, 2, none⟩ (.int .i64 dz)) := (Ch.refl (fun k => k = go) W).setCell (p := ⟨go, 2, none⟩) (fun _ => rfl) _
  refine ⟨ch_under h.b cc (fun k hk hx => by have := h.ho; omega) (Nat.le_refl _), h.ho, ?_, own_ch h.row cc (fun k hk hx => h.ap (by rw [hk, hx])), h.ap⟩
  have := h.blk.set_ 2 (.int .i64 dz)
  simpa using this
end Go.Proofs.Ytfdhaodgnenhcaa.Psv

/-
  Layer 15 (prepared): plain mathematics of the law's begun: no text and no signature stands twice in what it makes, so that both are filled again as they are.
-/
namespace Go.Proofs.Ytfdhaodgnenhcaa.Pss
set_option linter.unusedSimpArgs false
open Go Lk Jm Jg Jn Prv Prw Prz
open Im (num isIn add sum num_zero add_len sum_le)
set_option linter.unusedVariables false

/-- No text, no signature twice; each could be signed. -/
structure Tidy (L : List (List UInt8)) (G : List Sg) : Prop where
  nd : L.Nodup
  len : L.length ≤ 1048576
  gd : G.Nodup
  ok : ∀ s ∈ G, code s = 0 ∧ s.2 ≤ 1048576
theorem Tidy.nil : Tidy [] [] := ⟨List.nodup_nil, by simp, List.nodup_nil, fun s h => by simp at h⟩
theorem snoc_nodup {α : Type} {l : List α} {a : α} (h : l.Nodup) (ha : a ∉ l) : (l ++ [a]).Nodup := by
  rw [List.nodup_append]
  refine ⟨h, by simp, ?_⟩
  intro x hx b hb
  rw [List.mem_singleton.1 hb]
  intro e
  subst e
  exact ha hx
theorem Tidy.add {L : List (List UInt8)} {G : List Sg} (h : Tidy L G) (b : List UInt8) : Tidy (add L b) G := by
  refine ⟨?_, add_len h.len, h.gd, h.ok⟩
  unfold Im.add
  split
  · exact h.nd
  · rename_i h0
    split
    · exact h.nd
    · exact snoc_nodup h.nd ((num_zero _ _).1 (by omega))
theorem Tidy.pay {L : List (List UInt8)} {G : List Sg} (h : Tidy L G) (s : Sg) (hs : s.2 ≤ 1048576) : Tidy L (pay G s) := by
  unfold Lk.pay
  split
  · split
    · exact h
    · refine ⟨h.nd, h.len, snoc_nodup h.gd (by assumption), fun t ht => ?_⟩
      rcases List.mem_append.1 ht with ht | ht
      · exact h.ok t ht
      · rw [List.mem_singleton.1 ht]
        exact ⟨by assumption, hs⟩
  · exact h
theorem Tidy.seal {L : List (List UInt8)} {G : List Sg} (h : Tidy L G) (q : Q) : Tidy (sealT L q) (sealG L G q) := by
  unfold sealT sealG
  split
  · exact h
  · exact (h.add _).pay _ (by have := sum_le (s := qraw q) h.len; simp only [sgOf]; omega)
theorem Tidy.seals {qs : List Q} : ∀ {y : List (List UInt8) × List Sg × List Sd}, Tidy y.1 y.2.1 → Tidy (qs.foldl stepQ y).1 (qs.foldl stepQ y).2.1 := by
  induction qs with
  | nil => exact fun h => h
  | cons q qs ih => exact fun h => ih (h.seal q)
theorem Tidy.dig {L : List (List UInt8)} {G : List Sg} (h : Tidy L G) (l : List Sd) : Tidy (digT L l) G := by
  unfold digT
  split
  · exact h
  · exact h.add _
theorem Tidy.step {z : Bz} (h : Tidy z.L z.G) (qs : List Q) : Tidy (stepB z qs).L (stepB z qs).G :=
  (Tidy.seals (y := (z.L, z.G, [])) h).dig _
theorem get_not_mem {α : Type} {l : List α} {k : Nat} (hn : l.Nodup) (hk : k < l.length) : l[k] ∉ l.take k := by
  have h1 : (l.take (k + 1)).Nodup := hn.sublist (List.take_sublist _ _)
  rw [List.take_succ_eq_append_getElem hk, List.nodup_append] at h1
  exact fun hm => h1.2.2 _ hm _ (by simp) rfl
theorem Tidy.sign {L : List (List UInt8)} {G : List Sg} (h : Tidy L G) {k : Nat} (hk : k < G.length) : Lk.pay (G.take k) G[k] = G.take (k + 1) ∧ wfS G[k] := by
  obtain ⟨h1, h2⟩ := h.ok _ (List.getElem_mem hk)
  rw [List.take_succ_eq_append_getElem hk]
  refine ⟨?_, ?_⟩
  · unfold Lk.pay
    rw [if_pos h1, if_neg (get_not_mem h.gd hk)]
  · unfold code at h1
    split at h1
    · simp at h1
    · split at h1
      · simp at h1
      · refine ⟨by omega, by omega, by omega, by omega⟩
end Go.Proofs.Ytfdhaodgnenhcaa.Pss

/-
  Layer 15 (prepared): words for the laws' walks: specs in memory, a row of certificates of one's own, sizes of what begun makes.
-/
namespace Go.Proofs.Ytfdhaodgnenhcaa.Pta
set_option linter.unusedSimpArgs false
open Go Go.RowKit Ck Kw Ga Kf Pm Pe Pg Ik Lk Jm Ja Jb Jf Jg Jl Jn Pra Prb Pre Prr Prv Prw Prx Pry Prz Psa Psr Psv
set_option linter.unusedVariables false

/-- A spec, its signs as bytes. -/
structure SpD where
  view : Int
  seq : Int
  batch : Nat
  dig : Int
  first : Nat
  ks : List UInt8
def SpD.sp (d : SpD) : Sp := ⟨d.view, d.seq, d.batch, d.dig, d.first, d.ks.map (·.toNat)⟩
def SpV (d : SpD) (r : Option Addr × Nat) : List Value := [.int .i64 d.view, .int .i64 d.seq, .int .u8 (d.batch : Int), .int .i64 d.dig, .int .u8 (d.first : Int), .slice r.1 d.ks.length r.2]
theorem SpV_len (x : SpD × (Option Addr × Nat)) : (SpV x.1 x.2).length = 6 := rfl
def flatS (l : List SpD) (rs : List (Option Addr × Nat)) : List Value := (l.zip rs).flatMap fun x => SpV x.1 x.2
/-- The value v is these specs; all of it lies in no block of X. -/
def SPs (w : World) (X : Nat → Prop) (v : Value) (l : List SpD) : Prop := ∃ rs, (rs.length = l.length ∧ ∀ i (h : i < l.length), ∃ r, rs[i]? = some r ∧ Sl w X 1 (.slice r.1 l[i].ks.length r.2) l[i].ks.length (BVs l[i].ks)) ∧ Sl w X 6 v l.length (flatS l rs)
section
variable {w w' : World} {X : Nat → Prop} {v : Value} {l : List SpD}
theorem SPs.after (h : SPs w X v l) (b : Below w.heap.size w w') : SPs w' X v l := by
  obtain ⟨rs, ⟨h1, h2⟩, h3⟩ := h
  exact ⟨rs, ⟨h1, fun i hi => by obtain ⟨r, h4, h5⟩ := h2 i hi; exact ⟨r, h4, h5.after b⟩⟩, h3.after b⟩
theorem SPs.shape (h : SPs w X v l) : ∃ A c, v = .slice A l.length c := by
  obtain ⟨rs, h1, ⟨A, c, rfl, _⟩⟩ := h
  exact ⟨A, c, rfl⟩
theorem SPs.at_ {A : Option Addr} {n c i : Nat} (h : SPs w X (.slice A n c) l) (hi : i < l.length) : ∃ (ad : Addr) (r : Option Addr × Nat), A = some ad ∧ w.cell? (ad.add (i * 6)) = some (.int .i64 l[i].view) ∧ w.cell? ⟨(ad.add (i * 6)).block, (ad.add (i * 6)).off + 1, none⟩ = some (.int .i64 l[i].seq) ∧ w.cell? ⟨(ad.add (i * 6)).block, (ad.add (i * 6)).off + 2, none⟩ = some (.int .u8 (l[i].batch : Int)) ∧ w.cell? ⟨(ad.add (i * 6)).block, (ad.add (i * 6)).off + 3, none⟩ = some (.int .i64 l[i].dig) ∧ w.cell? ⟨(ad.add (i * 6)).block, (ad.add (i * 6)).off + 4, none⟩ = some (.int .u8 (l[i].first : Int)) ∧ w.cell? ⟨(ad.add (i * 6)).block, (ad.add (i * 6)).off + 5, none⟩ = some (.slice r.1 l[i].ks.length r.2)
    ∧ Sl w X 1 (.slice r.1 l[i].ks.length r.2) l[i].ks.length (BVs l[i].ks) := by
  obtain ⟨rs, ⟨h1, h3⟩, ⟨A', c', hv, hl, hc, hm, hx⟩⟩ := h
  injection hv with e1 e2 e3
  subst e1
  obtain ⟨r, h4, h5⟩ := h3 i hi
  obtain ⟨ad, hA, hb, hX, hcell⟩ := hx (by omega)
  have hz : i < (l.zip rs).length := by rw [List.length_zip]; omega
  have hr : i < rs.length := by omega
  have he : (l.zip rs)[i] = (l[i], r) := by
    rw [List.getElem_zip]
    have : rs[i] = r := by have := List.getElem?_eq_getElem hr; rw [this] at h4; exact Option.some.inj h4
    rw [this]
  have hof : ∀ j u, j < 6 → (SpV l[i] r)[j]? = some u → w.cell? ((ad.add (i * 6)).add j) = some u := fun j u hj hu => by
    rw [add_add]
    refine hcell _ _ ?_
    rw [flatS, flat_get SpV_len _ _ hz j hj, he]
    exact hu
  refine ⟨ad, r, hA, ?_⟩
  generalize ad.add (i * 6) = a at hof ⊢
  have ha : ∀ j, 0 < j → a.add j = ⟨a.block, a.off + j, none⟩ := fun j hj => by unfold Addr.add; rw [if_neg (by omega)]
  have h0 : a.add 0 = a := by unfold Addr.add; rw [if_pos rfl]
  refine ⟨?_, ?_, ?_, ?_, ?_, ?_, h5⟩
  · have := hof 0 _ (by omega) rfl; rwa [h0] at this
  · have := hof 1 _ (by omega) rfl; rwa [ha _ (by omega)] at this
  · have := hof 2 _ (by omega) rfl; rwa [ha _ (by omega)] at this
  · have := hof 3 _ (by omega) rfl; rwa [ha _ (by omega)] at this
  · have := hof 4 _ (by omega) rfl; rwa [ha _ (by omega)] at this
  · have := hof 5 _ (by omega) rfl; rwa [ha _ (by omega)] at this
end
/-- Certificates in a row of one's own. -/
structure VS (B : Nat) (v : Value) (l : List Pd) (rs : List Pl2) (W : World) : Prop where
  row : W.ownsRow B 43 7 v l.length (flatP l rs)
  pts : Pts W (fun k => v.ownBlock = some k) l rs
theorem VS.nil (B : Nat) (W : World) : VS B (.slice none 0 0) [] [] W := ⟨World.ownsRow_nil _ _ _ _, Pts.nil⟩
section
variable {B : Nat} {v v' : Value} {l : List Pd} {rs : List Pl2} {W W' : World}
theorem VS.later (h : VS B v l rs W) (b : Below W.heap.size W W') : VS B v l rs W' :=
  ⟨own_ch h.row (Ch.of_below (S := fun _ => False) b (Nat.le_refl _)) (fun _ _ h => h), h.pts.after b⟩
end
end Go.Proofs.Ytfdhaodgnenhcaa.Pta

/-
  Layer 15 (prepared): the document's From and Clone.
-/
namespace Go.Proofs.Ytfdhaodgnenhcaa.Psg
set_option linter.unusedSimpArgs false
open Go Go.RowKit Cm Ck Kw Ga Kf Pm Pe Pg Ph Qb Lk Ld Jm Ja Jb Jk Pra Prb Prc Prd Pre Prf
attribute [local go_sem ↓] Go.wp_at_zero Go.wp_at_succ
set_option linter.unusedVariables false
set_option maxRecDepth 100000

theorem Pts.old {w : World} {X : Nat → Prop} {l : List Pd} {rs : List Pl2} (h : Pts w X l rs) {B : Nat} (hB : w.heap.size ≤ B) : Pts w (fun k => X k ∨ B ≤ k) l rs :=
  ⟨h.1, fun i hi => by obtain ⟨r, h1, h2⟩ := h.2 i hi; exact ⟨r, h1, Sl.old h2.signs hB, Prx.batch_old h2.batch hB⟩⟩
end Go.Proofs.Ytfdhaodgnenhcaa.Psg

/-
  Layer 15 (prepared): the document's Put.
-/
namespace Go.Proofs.Ytfdhaodgnenhcaa.Psh
set_option linter.unusedSimpArgs false
open Go Go.RowKit Cm Ck Kw Ga Kf Pm Pe Pg Ph Qb Lk Ld Jm Ja Jb Jk Pra Prb Prc Prd Pre Prf Psg
attribute [local go_sem ↓] Go.wp_at_zero Go.wp_at_succ
set_option linter.unusedVariables false
set_option maxRecDepth 100000

theorem put_new {l : List Pd} {x z : Pd} (h : okN x.seq = true) (hz : l[kOf l x.seq]? = some z) (hs : ¬ z.seq = x.seq) : putP l x = (l.take (kOf l x.seq) ++ x :: l.drop (kOf l x.seq), true) := by
  rw [putP, if_pos h]
  have : hadP l x.seq = none := by unfold hadP; rw [hz]; simp [hs]
  rw [this]
end Go.Proofs.Ytfdhaodgnenhcaa.Psh

/-
  Layer 15 (prepared): what the laws' walks ask of the program's Held; PreparedFrom's walk.
-/
namespace Go.Proofs.Ytfdhaodgnenhcaa.Ptd
set_option linter.unusedSimpArgs false
open Go Go.RowKit Ck Kw Ga Kf Pm Pe Pg Ik Lk Jm Ja Jb Jf Jg Jl Jn Pra Prb Prc Prd Pre Prf Prr Psg Psh Pta
attribute [local go_sem ↓] Go.wp_at_zero Go.wp_at_succ
set_option linter.unusedVariables false
set_option maxRecDepth 100000

/-- Two certificates in boxes, and what else there is. -/
structure FX (Z : World → Prop) (w : World) (ga gb : Nat) (a b : Pd) (ra rb : Pl2) (W : World) : Prop where
  ka : Blk W ga 43 (PC a ra)
  kb : Blk W gb 43 (PC b rb)
  pa : PI W (fun _ => False) a ra
  pb : PI W (fun _ => False) b rb
  hb : Below w.heap.size w W
  z : Z W
theorem FX.later {Z : World → Prop} {w : World} {ga gb : Nat} {a b : Pd} {ra rb : Pl2} {W W' : World} (h : FX Z w ga gb a b ra rb W) (b' : Below W.heap.size W W') (hz : Z W') : FX Z w ga gb a b ra rb W' :=
  ⟨h.ka.below b' h.ka.lt, h.kb.below b' h.kb.lt, h.pa.after b', h.pb.after b', h.hb.trans (b'.mono h.hb.size), hz⟩
end Go.Proofs.Ytfdhaodgnenhcaa.Ptd

/-
  Layer 15 (prepared): words for the walks over the program's Held beside the document's: where both stand; PreparedHolds' input.
-/
namespace Go.Proofs.Ytfdhaodgnenhcaa.Pte
set_option linter.unusedSimpArgs false
open Go Go.RowKit Ck Kw Ga Kf Pm Pe Pg Ik Lk Jm Ja Jb Jf Jg Jl Jn Pra Prb Prc Prd Pre Prf Prr Prx Psg Psh Pta Ptd
set_option linter.unusedVariables false

/-- A certificate of a size that a caller can hold: so that it can be cloned. -/
def okV (x : Pd) : Prop := okP x ∧ x.signs.length * 16 ≤ 140737488351232 ∧ x.batch.length * 104 ≤ 140737488351232 ∧ ∀ y ∈ x.batch, Py.far y.q.o 140737488351232
/-- A certificate that is kept is of a size that a machine may have. -/
structure OkL (m : List Pd) (n : Nat) : Prop where
  rise : Rise m
  len : m.length ≤ n
  ok : ∀ p ∈ m, okV p
theorem OkL.nil (n : Nat) : OkL [] n := ⟨rise_nil, by simp, fun p h => by simp at h⟩
theorem put_len (m : List Pd) (x : Pd) : (putP m x).1.length ≤ m.length + 1 := by
  have hk := kOf_le m x.seq
  unfold putP
  split
  · split
    · split
      · simp
      · simp only [List.length_append, List.length_take, List.length_cons, List.length_drop]
        omega
    · simp only [List.length_append, List.length_take, List.length_cons, List.length_drop]
      omega
  · simp
theorem put_mem {m : List Pd} {x p : Pd} (h : p ∈ (putP m x).1) : p ∈ m ∨ p = x := by
  unfold putP at h
  split at h
  · split at h
    · split at h
      · exact .inl h
      · rcases List.mem_append.1 h with h | h
        · exact .inl (List.mem_of_mem_take h)
        · rcases List.mem_cons.1 h with h | h
          · exact .inr h
          · exact .inl (List.mem_of_mem_drop h)
    · rcases List.mem_append.1 h with h | h
      · exact .inl (List.mem_of_mem_take h)
      · rcases List.mem_cons.1 h with h | h
        · exact .inr h
        · exact .inl (List.mem_of_mem_drop h)
  · exact .inl h
theorem OkL.put {m : List Pd} {n : Nat} {x : Pd} (h : OkL m n) (hx : okV x) : OkL (putP m x).1 (n + 1) :=
  ⟨rise_put h.rise x, by have := put_len m x; have := h.len; omega, fun p hp => by
    rcases put_mem hp with hp | rfl
    · exact h.ok p hp
    · exact hx⟩
theorem OkL.slide {m : List Pd} {n : Nat} {low : Int} (h : OkL m n) : OkL (slideP m low) n :=
  ⟨rise_slide h.rise low, Nat.le_trans (List.length_filter_le _ _) h.len, fun p hp => h.ok p (List.mem_filter.1 hp).1⟩
theorem OkL.mono {m : List Pd} {n n' : Nat} (h : OkL m n) (hn : n ≤ n') : OkL m n' := ⟨h.rise, Nat.le_trans h.len hn, h.ok⟩
section
variable {H : World → (Nat → Prop) → Nat → List Pd → Prop} {ok : List Pd → Pd → Prop} {okl : List Pd → Prop} {w W W' : World} {gr gh : Nat} {K : List (Nat × TypeId × Array Value)} {S : Nat → Prop} {mh mr mh' mr' : List Pd}
end
/-- What is done with a Held. -/
structure PuD where
  p : Pd
  slide : Bool
  low : Int
  clone : Bool
def PuV (d : PuD) (r : Pl2) : List Value := (PC d.p r).toList ++ [.bool d.slide, .int .i64 d.low, .bool d.clone]
theorem PuV_len (x : PuD × Pl2) : (PuV x.1 x.2).length = 10 := rfl
def flatU (l : List PuD) (rs : List Pl2) : List Value := (l.zip rs).flatMap fun x => PuV x.1 x.2
def PUs (w : World) (X : Nat → Prop) (v : Value) (l : List PuD) : Prop := ∃ rs, (rs.length = l.length ∧ ∀ i (h : i < l.length), ∃ r, rs[i]? = some r ∧ PI w X l[i].p r) ∧ Sl w X 10 v l.length (flatU l rs)
theorem PUs.after {w w' : World} {X : Nat → Prop} {v : Value} {l : List PuD} (h : PUs w X v l) (b : Below w.heap.size w w') : PUs w' X v l := by
  obtain ⟨rs, ⟨h1, h2⟩, h3⟩ := h
  exact ⟨rs, ⟨h1, fun i hi => by obtain ⟨r, h4, h5⟩ := h2 i hi; exact ⟨r, h4, h5.after b⟩⟩, h3.after b⟩
theorem PUs.shape {w : World} {X : Nat → Prop} {v : Value} {l : List PuD} (h : PUs w X v l) : ∃ A c, v = .slice A l.length c := by
  obtain ⟨rs, h1, ⟨A, c, rfl, _⟩⟩ := h
  exact ⟨A, c, rfl⟩
theorem PUs.at_ {w : World} {X : Nat → Prop} {l : List PuD} {A : Option Addr} {n c i : Nat} (h : PUs w X (.slice A n c) l) (hi : i < l.length) : ∃ (ad : Addr) (r : Pl2), A = some ad ∧ At7 w (ad.add (i * 10)) l[i].p r ∧ w.cell? ⟨(ad.add (i * 10)).block, (ad.add (i * 10)).off + 7, none⟩ = some (.bool l[i].slide) ∧ w.cell? ⟨(ad.add (i * 10)).block, (ad.add (i * 10)).off + 8, none⟩ = some (.int .i64 l[i].low) ∧ w.cell? ⟨(ad.add (i * 10)).block, (ad.add (i * 10)).off + 9, none⟩ = some (.bool l[i].clone) ∧ PI w X l[i].p r := by
  obtain ⟨rs, ⟨h1, h3⟩, ⟨A', c', hv, hl, hc, hm, hx⟩⟩ := h
  injection hv with e1 e2 e3
  subst e1
  obtain ⟨r, h4, h5⟩ := h3 i hi
  obtain ⟨ad, hA, hb, hX, hcell⟩ := hx (by omega)
  have hz : i < (l.zip rs).length := by rw [List.length_zip]; omega
  have hr : i < rs.length := by omega
  have he : (l.zip rs)[i] = (l[i], r) := by
    rw [List.getElem_zip]
    have : rs[i] = r := by have := List.getElem?_eq_getElem hr; rw [this] at h4; exact Option.some.inj h4
    rw [this]
  have hof : ∀ j u, j < 10 → (PuV l[i] r)[j]? = some u → w.cell? ((ad.add (i * 10)).add j) = some u := fun j u hj hu => by
    rw [add_add]
    refine hcell _ _ ?_
    rw [flatU, flat_get PuV_len _ _ hz j hj, he]
    exact hu
  refine ⟨ad, r, hA, ?_⟩
  generalize ad.add (i * 10) = a at hof ⊢
  have ha : ∀ j, 0 < j → a.add j = ⟨a.block, a.off + j, none⟩ := fun j hj => by unfold Addr.add; rw [if_neg (by omega)]
  have h0 : a.add 0 = a := by unfold Addr.add; rw [if_pos rfl]
  refine ⟨⟨?_, ?_, ?_, ?_, ?_, ?_, ?_⟩, ?_, ?_, ?_, h5⟩
  · have := hof 0 _ (by omega) rfl; rwa [h0] at this
  · have := hof 1 _ (by omega) rfl; rwa [ha _ (by omega)] at this
  · have := hof 2 _ (by omega) rfl; rwa [ha _ (by omega)] at this
  · have := hof 3 _ (by omega) rfl; rwa [ha _ (by omega)] at this
  · have := hof 4 _ (by omega) rfl; rwa [ha _ (by omega)] at this
  · have := hof 5 _ (by omega) rfl; rwa [ha _ (by omega)] at this
  · have := hof 6 _ (by omega) rfl; rwa [ha _ (by omega)] at this
  · have := hof 7 _ (by omega) rfl; rwa [ha _ (by omega)] at this
  · have := hof 8 _ (by omega) rfl; rwa [ha _ (by omega)] at this
  · have := hof 9 _ (by omega) rfl; rwa [ha _ (by omega)] at this
end Go.Proofs.Ytfdhaodgnenhcaa.Pte

/-
  Layer 15 (prepared): words for PreparedLatest's walk: a map of views by numbers beside the program's Held.
-/
namespace Go.Proofs.Ytfdhaodgnenhcaa.Pth
set_option linter.unusedSimpArgs false
open Go Go.RowKit Ck Kw Ga Kf Pm Pe Pg Ik Lk Jm Ja Jb Jf Jg Jl Jn Pra Prb Prc Prd Pre Prf Prr Prx Psg Psh Pta Ptd Pte
set_option linter.unusedVariables false
set_option maxRecDepth 100000

theorem law_i64 : Maps.Keyed Try.prog 2 := Maps.int_keyed Try.underlying2
theorem key_i64 {n : Int} (h : -9223372036854775808 ≤ n) (h' : n ≤ 9223372036854775807) : keyOf Try.prog 2 (.int .i64 n) = some (.int .i64 n) := by
  refine Maps.keyOf_int_mk Try.underlying2 ?_
  simp only [Lit.wf]
  rw [Bool.and_eq_true, decide_eq_true_eq, decide_eq_true_eq]
  have h1 : IntKind.i64.min = -9223372036854775808 := by decide
  have h2 : IntKind.i64.max = 9223372036854775807 := by decide
  omega
def viewOf (o : Option Pd) : Int := (o.map (·.view)).getD 0
/-- The map's datum tells each number's view. -/
structure NumV (D : DataW Unit) (m : List Pd) : Prop where
  at_ : ∀ n : Int, Maps.has D (.int .i64 n) = (getP m n).isSome ∧ D.atKey (.int .i64 n) (.lit (.int .i64 0)) = .lit (.int .i64 (viewOf (getP m n)))
  size : Maps.size D = m.length
theorem NumV.empty : NumV (.map []) [] := ⟨fun _ => ⟨rfl, rfl⟩, rfl⟩
theorem put_new {m : List Pd} {p : Pd} (h : Rise m) (hp : okN p.seq = true) (hg : getP m p.seq = none) : (putP m p).1.length = m.length + 1 := by
  have hk := kOf_le m p.seq
  rw [get_had h] at hg
  unfold putP
  rw [if_pos hp, hg]
  simp only [List.length_append, List.length_take, List.length_cons, List.length_drop]
  omega
theorem put_old {m : List Pd} {p q : Pd} (h : Rise m) (hp : okN p.seq = true) (hg : getP m p.seq = some q) : (putP m p).1.length = m.length := by
  rw [get_had h] at hg
  obtain ⟨q1, q2⟩ := had_some hg
  have hk := (List.getElem?_eq_some_iff.1 q1).1
  unfold putP
  rw [if_pos hp, hg]
  simp only
  split
  · rfl
  · simp only [List.length_append, List.length_take, List.length_cons, List.length_drop]
    omega
theorem NumV.put {D : DataW Unit} {m : List Pd} {p : Pd} (h : NumV D m) (hr : Rise m) (ht : Maps.Tidy D) (hD : Maps.IsMap D) (hp : okN p.seq = true) (hg : ∀ q, getP m p.seq = some q → q.view < p.view) : NumV (D.put (.int .i64 p.seq) (.lit (.int .i64 p.view))) (putP m p).1 := by
  have hget : ∀ n, getP (putP m p).1 n = if n = p.seq then some p else getP m n := fun n => by
    rw [get_put hr]
    by_cases hn : n = p.seq
    · subst hn
      rw [if_pos ⟨rfl, hp⟩, if_pos rfl]
      cases hh : getP m p.seq with
      | none => rfl
      | some q =>
        have := hg q hh
        simp only
        rw [if_neg (by omega)]
    · rw [if_neg (fun hx => hn hx.1), if_neg hn]
  refine ⟨fun n => ?_, ?_⟩
  · rw [hget]
    by_cases hn : n = p.seq
    · subst hn
      have hr2 := okN_iff.1 hp
      have hk : WideAt.IsKeyLit (.int .i64 p.seq) := law_i64.key (key_i64 (n := p.seq) (by omega) (by omega))
      rw [if_pos rfl, Maps.has_put_same hD hk, Maps.atKey_put_same hD hk]
      exact ⟨rfl, rfl⟩
    · have hne : (Lit.int .i64 n) ≠ Lit.int .i64 p.seq := fun e => hn (by injection e)
      rw [if_neg hn, Maps.has_put_other hne, Maps.atKey_put_other hne]
      exact h.at_ n
  · rw [Maps.size_put ht, (h.at_ p.seq).1, h.size]
    cases hh : getP m p.seq with
    | none => rw [put_new hr hp hh]; rfl
    | some q => rw [put_old hr hp hh]; rfl
section
variable {H : World → (Nat → Prop) → Nat → List Pd → Prop} {ok : List Pd → Pd → Prop} {w W W' : World} {gh mm : Nat} {S : Nat → Prop} {m m' : List Pd} {k : Nat} {D D' : DataW Unit}
end
end Go.Proofs.Ytfdhaodgnenhcaa.Pth

/-
  Layer 15 (prepared): words for the program's Held: a map of certificates by their numbers.
-/
namespace Go.Proofs.Ytfdhaodgnenhcaa.Pua
set_option linter.unusedSimpArgs false
open Go Go.RowKit Ck Kw Ga Kf Pm Pe Pg Ik Lk Jm Ja Jb Jf Jg Jl Jn Pra Prb Prc Prd Pre Prf Prr Prx Psg Psh Pta Ptd Pte Pth
set_option linter.unusedVariables false
set_option maxRecDepth 100000

/-- A map's element reads as itself. -/
abbrev RV (v : Value) : Option (DataW Value × List MemPlace) := some (.held v, [])
/-- The datum D tells the list l: the certificate of a number is where the map's element says, in no block of X. -/
structure DL (w : World) (X : Nat → Prop) (D : DataW Value) (l : List Pd) : Prop where
  has : ∀ n : Int, Maps.has D (.int .i64 n) = (getP l n).isSome
  at_ : ∀ (n : Int) (p : Pd), getP l n = some p → ∃ r, (∀ zd, D.atKey (.int .i64 n) zd = .held (.agg (PC p r))) ∧ PI w X p r
  size : Maps.size D = l.length
section
variable {w w' : World} {X Y S T : Nat → Prop} {D : DataW Value} {l : List Pd} {m n g : Nat}
theorem DL.empty : DL w X (.map []) [] := ⟨fun _ => rfl, fun n p h => by simp [getP] at h, rfl⟩
theorem DL.after (h : DL w X D l) (b : Below w.heap.size w w') : DL w' X D l := ⟨h.has, fun n p hp => by obtain ⟨r, h1, h2⟩ := h.at_ n p hp; exact ⟨r, h1, h2.after b⟩, h.size⟩
theorem DL.ch (h : DL w X D l) (c : Ch S w w') (hd : ∀ k, k < w.heap.size → S k → X k) : DL w' X D l := ⟨h.has, fun n p hp => by obtain ⟨r, h1, h2⟩ := h.at_ n p hp; exact ⟨r, h1, h2.ch c hd⟩, h.size⟩
theorem DL.weaken (h : DL w X D l) (hk : ∀ b, b < w.heap.size → Y b → X b) : DL w Y D l := ⟨h.has, fun n p hp => by obtain ⟨r, h1, h2⟩ := h.at_ n p hp; exact ⟨r, h1, h2.weaken hk⟩, h.size⟩
theorem get_putx {p : Pd} (hr : Rise l) (hp : okN p.seq = true) (hg : ∀ q, getP l p.seq = some q → q.view < p.view) (n : Int) : getP (putP l p).1 n = if n = p.seq then some p else getP l n := by
  rw [get_put hr]
  by_cases hn : n = p.seq
  · subst hn
    rw [if_pos ⟨rfl, hp⟩, if_pos rfl]
    cases hh : getP l p.seq with
    | none => rfl
    | some q =>
      have := hg q hh
      simp only
      rw [if_neg (by omega)]
  · rw [if_neg (fun hx => hn hx.1), if_neg hn]
theorem key_ok {n : Int} (h : okN n = true) : keyOf Try.prog 2 (.int .i64 n) = some (.int .i64 n) := by
  have := okN_iff.1 h
  exact key_i64 (by omega) (by omega)
theorem key_lit {n : Int} (h : okN n = true) : WideAt.IsKeyLit (.int .i64 n) := law_i64.key (key_ok h)
theorem DL.put {p : Pd} {r : Pl2} (h : DL w X D l) (hr : Rise l) (ht : Maps.Tidy D) (hp : okN p.seq = true) (hg : ∀ q, getP l p.seq = some q → q.view < p.view) (hi : PI w X p r) : DL w X (D.put (.int .i64 p.seq) (.held (.agg (PC p r)))) (putP l p).1 := by
  have hD : Maps.IsMap D := ht.isMap
  have hk := key_lit hp
  refine ⟨fun n => ?_, fun n q hq => ?_, ?_⟩
  · rw [get_putx hr hp hg]
    by_cases hn : n = p.seq
    · subst hn
      rw [if_pos rfl, Maps.has_put_same hD hk]
      rfl
    · have hne : (Lit.int .i64 n) ≠ Lit.int .i64 p.seq := fun e => hn (by injection e)
      rw [if_neg hn, Maps.has_put_other hne]
      exact h.has n
  · rw [get_putx hr hp hg] at hq
    by_cases hn : n = p.seq
    · subst hn
      rw [if_pos rfl] at hq
      obtain rfl := Option.some.inj hq
      exact ⟨r, fun zd => Maps.atKey_put_same hD hk _ _, hi⟩
    · have hne : (Lit.int .i64 n) ≠ Lit.int .i64 p.seq := fun e => hn (by injection e)
      rw [if_neg hn] at hq
      obtain ⟨r', h1, h2⟩ := h.at_ n q hq
      exact ⟨r', fun zd => by rw [Maps.atKey_put_other hne]; exact h1 zd, h2⟩
  · rw [Maps.size_put ht, h.has, h.size]
    cases hh : getP l p.seq with
    | none => rw [put_new hr hp hh]; rfl
    | some q => rw [put_old hr hp hh]; rfl
end
section
variable {w w' : World} {X Y S T : Nat → Prop} {D : DataW Value} {l : List Pd} {m n g : Nat}
end
theorem zero_prep (W : World) : (zeroValue 43).run Try.prog W = .ok (.agg #[.int .i64 0, .int .i64 0, .int .i64 0, .int .i64 0, .int .i64 0, .slice none 0 0, .slice none 0 0]) W := by kernel_rfl
end Go.Proofs.Ytfdhaodgnenhcaa.Pua

/-
  A region that draws its order, whose first three operations are quiet and whose fourth waits for them and is waited for by all others: the three in any order, the fourth, and behind it one walk of quiet operations.
-/
namespace Go.Proofs.Ytfdhaodgnenhcaa.Kz
set_option linter.unusedSimpArgs false
set_option linter.unusedVariables false
open Go Go.RowKit

section
variable {P : Program} {ops : Array Oper} {Q : Exit → Act → World → Prop}

/-- The operation yields v here, in the very world. -/
def Y (P : Program) (ops : Array Oper) (o : Oper) (v : Value) (w : World) (b : Act) : Prop := Region.wanted o (yielded ops b.tmps) = true ∧ (execOp b.eval o).run P w = .ok (.value v) w

end

end Go.Proofs.Ytfdhaodgnenhcaa.Kz

/-
  Layer 8 (request): the contracts of takeSigned and TakeBatch.
-/
namespace Go.Proofs.Ytfdhaodgnenhcaa.Jr
set_option linter.unusedSimpArgs false
open Go Go.RowKit Ck Kw Ca Cb Ci Ga Kf Pm Pe Pp Qb Lk Jm Ja Jb Jc Jd Jf
attribute [local go_sem ↓] Go.wp_at_zero Go.wp_at_succ
set_option linter.unusedVariables false
set_option maxRecDepth 100000

section
variable {w0 W W' : World} {X : Nat → Prop} {g : Nat} {s s' : Cm.RS}
end
theorem info_sd : (Try.prog.info? 71).map (fun i => (i.zero, i.size, i.bytes)) = some (some (.agg Z9), 9, 104) := by kernel_rfl
theorem info_parts9 {o : Option TypeInfo} {z : Value} {a b : Nat} (h : o.map (fun i => (i.zero, i.size, i.bytes)) = some (some z, a, b)) : ∃ i, o = some i ∧ i.zero = some z ∧ i.size = a ∧ i.bytes = b := by
  cases o with
  | none => simp at h
  | some i =>
    simp only [Option.map_some, Option.some.injEq, Prod.mk.injEq] at h
    exact ⟨i, rfl, h.1, h.2.1, h.2.2⟩
theorem dc_one {d : Sd} {A : Option Addr} {c : Nat} : ∀ u ∈ (DC d A c).toList, u.oneCell' = true := by
  intro u hu
  simp only [DC, List.mem_cons, List.not_mem_nil, or_false] at hu
  rcases hu with rfl | rfl | rfl | rfl | rfl | rfl | rfl | rfl | rfl <;> rfl
theorem ls_old {w : World} {X : Nat → Prop} {v : Value} {ls : List (List UInt8)} (h : Ls w X v ls) {B : Nat} (hB : w.heap.size ≤ B) : Ls w (fun k => X k ∨ B ≤ k) v ls := by
  obtain ⟨vals, a, b⟩ := h
  exact ⟨vals, a.old hB, fun i hi => by obtain ⟨u, hu, h⟩ := b i hi; exact ⟨u, hu, h.old hB⟩⟩
end Go.Proofs.Ytfdhaodgnenhcaa.Jr

import Derived.BigQuiet
import Derived.Deep.RegionHeld3
import Derived.Deep.RegionHeldLaw
import Derived.Test.YtmhmnkpaijoaaaaGreatSPsv
namespace Go.Proofs.YtmhmnkpaijoaaaaGreat.Psx
set_option linter.unusedSimpArgs false
open Go Go.RowKit Ck Cf Kw Ga Kf Pm Pe Pg Ik Lk Jm Ja Jb Jf Jl Jn Kc Kj Pra Prb Pre Prn Prr Prv Prw Prx Pry Prz Psa Psb Psr Psu Psv
attribute [local go_sem ↓] Go.wp_at_zero Go.wp_at_succ
set_option linter.unusedVariables false
set_option maxRecDepth 100000
def BegunAt (wi : World) (z : Bz) (x : Vz) (e : Ending) (w' : World) : Prop := Below wi.heap.size wi w' /\ ∃ q p g p' g' vb vd vs, e = .returned (.pointer (some ⟨q, 0, none⟩)) /\ AtS w' w'.heap.size q p g p' g' z x vb vd vs
def BegunC : Prop := ∀ (wi : World) (f view low : Int) (vb vv vs : Value) (qss : List (List Q)) (vts : List (Vt × Nat)), CI wi f vb vv vs view low qss vts ->
    Calls Tryz.prog 10 #[.agg #[.int .i64 f, vb, vv, vs, .int .i64 view, .int .i64 low]] wi (BegunAt wi (madeB ([] :: qss)) (votesV (madeB ([] :: qss)) vts))
def ValidC : Prop := ∀ (w : World) (S X : Nat -> Prop) (p g : Nat) (L : List (List UInt8)) (G : List Sg) (f : Int) (x : Pd) (r : Pl2), TL w S p g L G -> PI w X x r -> okP x -> G.length <= 140737488355328 ->
    Calls Tryz.prog 12 #[.pointer (some ⟨p, 0, none⟩), .pointer (some ⟨g, 0, none⟩), .int .i64 f, .agg (PC x r)] w fun e w' => e = .returned (.bool (validP L G f x)) /\ Below w.heap.size w w'
def AboveC : Prop := ∀ (w : World) (S X : Nat -> Prop) (p g : Nat) (L : List (List UInt8)) (G : List Sg) (f view low : Int) (v : Value) (l : List Pd), TL w S p g L G -> PL w X v l -> (∀ x ∈ l, okP x) -> l.length <= 140737488355328 -> G.length <= 140737488355328 ->
    Calls Tryz.prog 14 #[.pointer (some ⟨p, 0, none⟩), .pointer (some ⟨g, 0, none⟩), .int .i64 f, .int .i64 view, .int .i64 low, v] w fun e w' => e = .returned (.bool (aboveB L G f view low low l)) /\ Below w.heap.size w w'
structure HeldC (H : World -> (Nat -> Prop) -> Nat -> List Pd -> Prop) (ok : List Pd -> Pd -> Prop) : Prop where
  ch : ∀ {w w' : World} {S X : Nat -> Prop} {g : Nat} {l : List Pd}, H w S g l -> Ch X w w' -> (∀ k, S k -> X k -> False) -> H w' S g l
  weaken : ∀ {w : World} {S T : Nat -> Prop} {g : Nat} {l : List Pd}, H w S g l -> (∀ k, k < w.heap.size -> S k -> T k) -> H w T g l
  new : ∀ (w : World), Calls Tryz.prog 18 #[] w fun e w' => ∃ g, e = .returned (.pointer (some ⟨g, 0, none⟩)) /\ H w' (fun k => w.heap.size <= k /\ k < w'.heap.size) g [] /\ Below w.heap.size w w'
  put : ∀ (w : World) (S X : Nat -> Prop) (g : Nat) (l : List Pd) (x : Pd) (r : Pl2), H w S g l -> PI w X x r -> ok l x ->
    Calls Tryz.prog 21 #[.pointer (some ⟨g, 0, none⟩), .agg (PC x r)] w fun e w' => e = .returned (.bool (putP l x).2) /\ H w' (Nw S w.heap.size w'.heap.size) g (putP l x).1 /\ Ch S w w'
  len : ∀ (w : World) (S : Nat -> Prop) (g : Nat) (l : List Pd), H w S g l ->
    Calls Tryz.prog 28 #[.pointer (some ⟨g, 0, none⟩)] w fun e w' => e = .returned (.int .i64 l.length) /\ Below w.heap.size w w'
theorem begunC_of {wi w w' : World} {z : Bz} {x : Vz} {q p g p' g' : Nat} {vb vd vs v vq : Value} {vals lq : List Value} {c : Nat -> Nat} (hb : Below wi.heap.size wi w) (h : BG 0 w q p g p' g' x.L x.G x.L x.G z.bs z.ds x.ss vb vd vs v [] vals [] (SB p g p' g' vb vd vs) vq lq c w') :
    BegunAt wi z x (.returned (.pointer (some ⟨q, 0, none⟩))) w' :=
  ⟨hb.trans (h.below.mono hb.size), q, p, g, p', g', vb, vd, vs, rfl, AtS.of h⟩
theorem blk_sl {W : World} {X : Nat -> Prop} {g n size : Nat} {t : TypeId} {cs : Array Value} (h : Blk W g t cs) (hX : ¬ X g) (hn : cs.size = n * size) (hm : n <= maxLen) : Sl W X size (.slice (some ⟨g, 0, none⟩) n n) n cs.toList :=
  ⟨_, _, rfl, by simpa using hn, Nat.le_refl _, hm, fun _ => ⟨_, rfl, h.lt, hX, fun j x hx => by
    have ha : (⟨g, 0, none⟩ : Addr).add j = ⟨g, j, none⟩ := by unfold Addr.add; split <;> simp_all
    rw [ha, h.cell j]
    simpa using hx⟩⟩
theorem pi_far {W : World} {B n : Nat} {x : Pd} {r : Pl2} (h : PI W (fun k => B <= k /\ k < n) x r) : PI W (fun k => W.heap.size <= k) x r := by
  obtain ⟨h1, h2⟩ := h
  exact ⟨(Psu.sl_under h1), Psu.bi_under h2⟩
structure LV (n0 B q p g p' g' : Nat) (vb vd vs : Value) (b1 b2 : Nat) (r1 r2 : Pl2) (W : World) : Prop where
  hs : AtS W B q p g p' g' liveB liveV vb vd vs
  k1 : Blk W b1 41 (PC liveGood r1)
  k2 : Blk W b2 41 (PC liveBad r2)
  p1 : PI W (fun k => n0 <= k) liveGood r1
  p2 : PI W (fun k => n0 <= k) liveBad r2
  l1 : b1 < n0
  l2 : b2 < n0
  hB : B <= n0
theorem LV.ch {n0 B q p g p' g' : Nat} {vb vd vs : Value} {b1 b2 : Nat} {r1 r2 : Pl2} {W W' : World} (h : LV n0 B q p g p' g' vb vd vs b1 b2 r1 r2 W) (cc : Ch (fun k => n0 <= k) W W') : LV n0 B q p g p' g' vb vd vs b1 b2 r1 r2 W' :=
  ⟨h.hs.ch (cc.mono (fun k _ hk => Nat.le_trans h.hB hk)), h.k1.ch cc (fun hx => by have := h.l1; omega), h.k2.ch cc (fun hx => by have := h.l2; omega), h.p1.ch cc (fun _ _ h => h), h.p2.ch cc (fun _ _ h => h), h.l1, h.l2, h.hB⟩
theorem LV.later {n0 B q p g p' g' : Nat} {vb vd vs : Value} {b1 b2 : Nat} {r1 r2 : Pl2} {W W' : World} (h : LV n0 B q p g p' g' vb vd vs b1 b2 r1 r2 W) (b : Below W.heap.size W W') : LV n0 B q p g p' g' vb vd vs b1 b2 r1 r2 W' :=
  h.ch ((Ch.of_below (S := fun _ => False) b (Nat.le_refl _)).mono (fun _ _ h => h.elim))
theorem LV.cells {n0 B q p g p' g' : Nat} {vb vd vs : Value} {b1 b2 : Nat} {r1 r2 : Pl2} {W : World} (h : LV n0 B q p g p' g' vb vd vs b1 b2 r1 r2 W) : (W.cell? ⟨q, 0, none⟩ = some (.pointer (some ⟨p, 0, none⟩)) /\ W.cell? ⟨q, 1, none⟩ = some (.pointer (some ⟨g, 0, none⟩)))
    /\ (W.cell? ⟨b1, 0, none⟩ = some (.int .i64 0) /\ W.cell? ⟨b1, 1, none⟩ = some (.int .i64 1) /\ W.cell? ⟨b1, 2, none⟩ = some (.int .i64 1) /\ W.cell? ⟨b1, 3, none⟩ = some (.int .i64 0) /\ W.cell? ⟨b1, 4, none⟩ = some (.int .i64 2) /\ W.cell? ⟨b1, 5, none⟩ = some (.slice r1.1.1 2 r1.1.2) /\ W.cell? ⟨b1, 6, none⟩ = some (.slice r1.2.1 0 r1.2.2))
    /\ (W.cell? ⟨b2, 0, none⟩ = some (.int .i64 0) /\ W.cell? ⟨b2, 1, none⟩ = some (.int .i64 1) /\ W.cell? ⟨b2, 2, none⟩ = some (.int .i64 1) /\ W.cell? ⟨b2, 3, none⟩ = some (.int .i64 0) /\ W.cell? ⟨b2, 4, none⟩ = some (.int .i64 2) /\ W.cell? ⟨b2, 5, none⟩ = some (.slice r2.1.1 1 r2.1.2) /\ W.cell? ⟨b2, 6, none⟩ = some (.slice r2.2.1 0 r2.2.2)) :=
  ⟨⟨h.hs.st.cell 0, h.hs.st.cell 1⟩, ⟨h.k1.cell 0, h.k1.cell 1, h.k1.cell 2, h.k1.cell 3, h.k1.cell 4, h.k1.cell 5, h.k1.cell 6⟩, ⟨h.k2.cell 0, h.k2.cell 1, h.k2.cell 2, h.k2.cell 3, h.k2.cell 4, h.k2.cell 5, h.k2.cell 6⟩⟩
def LiveC : Prop := ∀ (w : World), Calls Tryz.prog 9 #[] w fun e w' => e = .returned (.bool true) /\ Below w.heap.size w w'
end Go.Proofs.YtmhmnkpaijoaaaaGreat.Psx
namespace Go.Proofs.YtmhmnkpaijoaaaaGreat.Pss
set_option linter.unusedSimpArgs false
open Go Lk Jm Jg Jn Prv Prw Prz
open Im (num isIn add sum num_zero add_len sum_le)
set_option linter.unusedVariables false
structure Tidy (L : List (List UInt8)) (G : List Sg) : Prop where
  nd : L.Nodup
  len : L.length <= 1048576
  gd : G.Nodup
  ok : ∀ s ∈ G, code s = 0 /\ s.2 <= 1048576
theorem Tidy.nil : Tidy [] [] := ⟨List.nodup_nil, by simp, List.nodup_nil, fun s h => by simp at h⟩
theorem snoc_nodup {α : Type} {l : List α} {a : α} (h : l.Nodup) (ha : a ∉ l) : (l ++ [a]).Nodup := by
  rw [List.nodup_append]
  refine ⟨h, by simp, ?_⟩
  intro x hx b hb
  rw [List.mem_singleton.1 hb]
  intro e
  subst e
  exact ha hx
theorem Tidy.add {L : List (List UInt8)} {G : List Sg} (h : Tidy L G) (b : List UInt8) : Tidy (add L b) G := by
  refine ⟨?_, add_len h.len, h.gd, h.ok⟩
  unfold Im.add
  split
  . exact h.nd
  . rename_i h0
    split
    . exact h.nd
    . exact snoc_nodup h.nd ((num_zero _ _).1 (by omega))
theorem Tidy.pay {L : List (List UInt8)} {G : List Sg} (h : Tidy L G) (s : Sg) (hs : s.2 <= 1048576) : Tidy L (pay G s) := by
  unfold Lk.pay
  split
  . split
    . exact h
    . refine ⟨h.nd, h.len, snoc_nodup h.gd (by assumption), fun t ht => ?_⟩
      rcases List.mem_append.1 ht with ht | ht
      . exact h.ok t ht
      . rw [List.mem_singleton.1 ht]
        exact ⟨by assumption, hs⟩
  . exact h
theorem Tidy.seal {L : List (List UInt8)} {G : List Sg} (h : Tidy L G) (q : Q) : Tidy (sealT L q) (sealG L G q) := by
  unfold sealT sealG
  split
  . exact h
  . exact (h.add _).pay _ (by have := sum_le (s := qraw q) h.len; simp only [sgOf]; omega)
theorem Tidy.seals {qs : List Q} : ∀ {y : List (List UInt8) × List Sg × List Sd}, Tidy y.1 y.2.1 -> Tidy (qs.foldl stepQ y).1 (qs.foldl stepQ y).2.1 := by
  induction qs with
  | nil => exact fun h => h
  | cons q qs ih => exact fun h => ih (h.seal q)
theorem Tidy.dig {L : List (List UInt8)} {G : List Sg} (h : Tidy L G) (l : List Sd) : Tidy (digT L l) G := by
  unfold digT
  split
  . exact h
  . exact h.add _
theorem Tidy.step {z : Bz} (h : Tidy z.L z.G) (qs : List Q) : Tidy (stepB z qs).L (stepB z qs).G :=
  (Tidy.seals (y := (z.L, z.G, [])) h).dig _
theorem Tidy.steps {qss : List (List Q)} : ∀ {z : Bz}, Tidy z.L z.G -> Tidy (qss.foldl stepB z).L (qss.foldl stepB z).G := by
  induction qss with
  | nil => exact fun h => h
  | cons q qs ih => exact fun h => ih (h.step q)
theorem madeB_tidy (qss : List (List Q)) : Tidy (madeB qss).L (madeB qss).G := Tidy.steps (z := ⟨[], [], [], []⟩) Tidy.nil
theorem Tidy.vote {L : List (List UInt8)} {G : List Sg} (h : Tidy L G) (x : Vt) (d : Int) : Tidy (vT L x d) (vG L G x d) := by
  unfold vT vG
  split
  . unfold vsG
    split
    . exact h.add _
    . exact (h.add _).pay _ (by have := sum_le (s := vB x d) h.len; simp only [voteS]; omega)
  . exact h
theorem Tidy.votes {ds : List Int} {vs : List (Vt × Nat)} : ∀ {z : Vz}, Tidy z.L z.G -> Tidy (vs.foldl (stepV ds) z).L (vs.foldl (stepV ds) z).G := by
  induction vs with
  | nil => exact fun h => h
  | cons v vs ih => exact fun h => ih (h.vote v.1 _)
theorem votesV_tidy (qss : List (List Q)) (vs : List (Vt × Nat)) : Tidy (votesV (madeB qss) vs).L (votesV (madeB qss) vs).G :=
  Tidy.votes (z := ⟨(madeB qss).L, (madeB qss).G, [(0, 0)]⟩) (madeB_tidy qss)
theorem add_new {L : List (List UInt8)} {b : List UInt8} (hb : b ∉ L) (hl : L.length < 1048576) : Im.add L b = L ++ [b] := (Im.add_new ((num_zero _ _).2 hb) (by omega)).1
theorem get_not_mem {α : Type} {l : List α} {k : Nat} (hn : l.Nodup) (hk : k < l.length) : l[k] ∉ l.take k := by
  have h1 : (l.take (k + 1)).Nodup := hn.sublist (List.take_sublist _ _)
  rw [List.take_succ_eq_append_getElem hk, List.nodup_append] at h1
  exact fun hm => h1.2.2 _ hm _ (by simp) rfl
theorem Tidy.fill {L : List (List UInt8)} {G : List Sg} (h : Tidy L G) {k : Nat} (hk : k < L.length) : Im.add (L.take k) L[k] = L.take (k + 1) := by
  rw [List.take_succ_eq_append_getElem hk]
  refine add_new (get_not_mem h.nd hk) ?_
  have := h.len
  rw [List.length_take]
  omega
theorem Tidy.sign {L : List (List UInt8)} {G : List Sg} (h : Tidy L G) {k : Nat} (hk : k < G.length) : Lk.pay (G.take k) G[k] = G.take (k + 1) /\ wfS G[k] := by
  obtain ⟨h1, h2⟩ := h.ok _ (List.getElem_mem hk)
  rw [List.take_succ_eq_append_getElem hk]
  refine ⟨?_, ?_⟩
  . unfold Lk.pay
    rw [if_pos h1, if_neg (get_not_mem h.gd hk)]
  . unfold code at h1
    split at h1
    . simp at h1
    . split at h1
      . simp at h1
      . refine ⟨by omega, by omega, by omega, by omega⟩
end Go.Proofs.YtmhmnkpaijoaaaaGreat.Pss
namespace Go.Proofs.YtmhmnkpaijoaaaaGreat.Pta
set_option linter.unusedSimpArgs false
open Go Go.RowKit Ck Cf Kw Ga Kf Pm Pe Pg Ik Lk Jm Ja Jb Jf Jg Jl Jn Kc Kj Pra Prb Pre Prn Prr Prv Prw Prx Pry Prz Psa Psb Psr Psu Psv Psx
set_option linter.unusedVariables false
structure SpD where
  view : Int
  seq : Int
  batch : Nat
  dig : Int
  first : Nat
  ks : List UInt8
def SpD.sp (d : SpD) : Sp := ⟨d.view, d.seq, d.batch, d.dig, d.first, d.ks.map (·.toNat)⟩
def SpV (d : SpD) (r : Option Addr × Nat) : List Value := [.int .i64 d.view, .int .i64 d.seq, .int .u8 (d.batch : Int), .int .i64 d.dig, .int .u8 (d.first : Int), .slice r.1 d.ks.length r.2]
theorem SpV_len (x : SpD × (Option Addr × Nat)) : (SpV x.1 x.2).length = 6 := rfl
def flatS (l : List SpD) (rs : List (Option Addr × Nat)) : List Value := (l.zip rs).flatMap fun x => SpV x.1 x.2
def SPs (w : World) (X : Nat -> Prop) (v : Value) (l : List SpD) : Prop := ∃ rs, (rs.length = l.length /\ ∀ i (h : i < l.length), ∃ r, rs[i]? = some r /\ Sl w X 1 (.slice r.1 l[i].ks.length r.2) l[i].ks.length (BVs l[i].ks)) /\ Sl w X 6 v l.length (flatS l rs)
section
variable {w w' : World} {X : Nat -> Prop} {v : Value} {l : List SpD}
theorem SPs.after (h : SPs w X v l) (b : Below w.heap.size w w') : SPs w' X v l := by
  obtain ⟨rs, ⟨h1, h2⟩, h3⟩ := h
  exact ⟨rs, ⟨h1, fun i hi => by obtain ⟨r, h4, h5⟩ := h2 i hi; exact ⟨r, h4, h5.after b⟩⟩, h3.after b⟩
theorem SPs.shape (h : SPs w X v l) : ∃ A c, v = .slice A l.length c := by
  obtain ⟨rs, h1, ⟨A, c, rfl, _⟩⟩ := h
  exact ⟨A, c, rfl⟩
theorem SPs.at_ {A : Option Addr} {n c i : Nat} (h : SPs w X (.slice A n c) l) (hi : i < l.length) : ∃ (ad : Addr) (r : Option Addr × Nat), A = some ad /\ w.cell? (ad.add (i * 6)) = some (.int .i64 l[i].view) /\ w.cell? ⟨(ad.add (i * 6)).block, (ad.add (i * 6)).off + 1, none⟩ = some (.int .i64 l[i].seq) /\ w.cell? ⟨(ad.add (i * 6)).block, (ad.add (i * 6)).off + 2, none⟩ = some (.int .u8 (l[i].batch : Int)) /\ w.cell? ⟨(ad.add (i * 6)).block, (ad.add (i * 6)).off + 3, none⟩ = some (.int .i64 l[i].dig) /\ w.cell? ⟨(ad.add (i * 6)).block, (ad.add (i * 6)).off + 4, none⟩ = some (.int .u8 (l[i].first : Int)) /\ w.cell? ⟨(ad.add (i * 6)).block, (ad.add (i * 6)).off + 5, none⟩ = some (.slice r.1 l[i].ks.length r.2)
    /\ Sl w X 1 (.slice r.1 l[i].ks.length r.2) l[i].ks.length (BVs l[i].ks) := by
  obtain ⟨rs, ⟨h1, h3⟩, ⟨A', c', hv, hl, hc, hm, hx⟩⟩ := h
  injection hv with e1 e2 e3
  subst e1
  obtain ⟨r, h4, h5⟩ := h3 i hi
  obtain ⟨ad, hA, hb, hX, hcell⟩ := hx (by omega)
  have hz : i < (l.zip rs).length := by rw [List.length_zip]; omega
  have hr : i < rs.length := by omega
  have he : (l.zip rs)[i] = (l[i], r) := by
    rw [List.getElem_zip]
    have : rs[i] = r := by have := List.getElem?_eq_getElem hr; rw [this] at h4; exact Option.some.inj h4
    rw [this]
  have hof : ∀ j u, j < 6 -> (SpV l[i] r)[j]? = some u -> w.cell? ((ad.add (i * 6)).add j) = some u := fun j u hj hu => by
    rw [add_add]
    refine hcell _ _ ?_
    rw [flatS, flat_get SpV_len _ _ hz j hj, he]
    exact hu
  refine ⟨ad, r, hA, ?_⟩
  generalize ad.add (i * 6) = a at hof ⊢
  have ha : ∀ j, 0 < j -> a.add j = ⟨a.block, a.off + j, none⟩ := fun j hj => by unfold Addr.add; rw [if_neg (by omega)]
  have h0 : a.add 0 = a := by unfold Addr.add; rw [if_pos rfl]
  refine ⟨?_, ?_, ?_, ?_, ?_, ?_, h5⟩
  . have := hof 0 _ (by omega) rfl; rwa [h0] at this
  . have := hof 1 _ (by omega) rfl; rwa [ha _ (by omega)] at this
  . have := hof 2 _ (by omega) rfl; rwa [ha _ (by omega)] at this
  . have := hof 3 _ (by omega) rfl; rwa [ha _ (by omega)] at this
  . have := hof 4 _ (by omega) rfl; rwa [ha _ (by omega)] at this
  . have := hof 5 _ (by omega) rfl; rwa [ha _ (by omega)] at this
end
theorem pi_old {w : World} {X : Nat -> Prop} {p : Pd} {r : Pl2} (h : PI w X p r) {B : Nat} (hB : w.heap.size <= B) : PI w (fun k => X k \/ B <= k) p r := ⟨Sl.old h.signs hB, batch_old h.batch hB⟩
structure VS (B : Nat) (v : Value) (l : List Pd) (rs : List Pl2) (W : World) : Prop where
  row : W.ownsRow B 41 7 v l.length (flatP l rs)
  pts : Pts W (fun k => v.ownBlock = some k) l rs
theorem VS.nil (B : Nat) (W : World) : VS B (.slice none 0 0) [] [] W := ⟨World.ownsRow_nil _ _ _ _, Pts.nil⟩
section
variable {B : Nat} {v v' : Value} {l : List Pd} {rs : List Pl2} {W W' : World}
theorem VS.later (h : VS B v l rs W) (b : Below W.heap.size W W') : VS B v l rs W' :=
  ⟨own_ch h.row (Ch.of_below (S := fun _ => False) b (Nat.le_refl _)) (fun _ _ h => h), h.pts.after b⟩
theorem VS.push {p : Pd} {r : Pl2} (h : VS B v l rs W) (hp : PI W (fun k => v.ownBlock = some k) p r) (ha : Appended W B 41 7 v (l.length + 1) (flatP l rs ++ (PC p r).toList) v' W') : VS B v' (l ++ [p]) (rs ++ [r]) W' /\ Ch (fun k => v.ownBlock = some k) W W' := by
  have cc : Ch (fun k => v.ownBlock = some k) W W' := Ch.of_grown ha.2.1 (fun k hk _ => hk)
  refine ⟨⟨?_, ?_⟩, cc⟩
  . rw [flatP_app h.pts.1, flatP_single, List.length_append]
    exact ha.1
  . have h1 : Pts W (fun k => v.ownBlock = some k \/ W.heap.size <= k) (l ++ [p]) (rs ++ [r]) := by
      refine Pts.app ⟨h.pts.1, fun i hi => ?_⟩ (Pts.one (pi_old hp (Nat.le_refl _)))
      obtain ⟨q, h2, h3⟩ := h.pts.2 i hi
      exact ⟨q, h2, pi_old h3 (Nat.le_refl _)⟩
    refine (h1.ch cc (fun k _ hk => .inl hk)).weaken (fun k hk hx => ?_)
    rcases ha.2.2 with q | q
    . exact .inl (q ▸ hx)
    . rw [q] at hx
      injection hx with hx
      exact .inr (by omega)
theorem VS.pl (h : VS B v l rs W) : PL W (fun _ => False) v l :=
  ⟨rs, h.pts.weaken (fun _ _ h => h.elim), Sl.of_own' h.row (fun _ _ h => h)⟩
end
end Go.Proofs.YtmhmnkpaijoaaaaGreat.Pta
namespace Go.Proofs.YtmhmnkpaijoaaaaGreat.Psg
set_option linter.unusedSimpArgs false
open Go Go.RowKit Cm Ck Kw Ga Kf Pm Pe Pg Ph Qb Lk Ld Jm Ja Jb Jk Pra Prb Prc Prd Pre Prf
attribute [local go_sem ↓] Go.wp_at_zero Go.wp_at_succ
set_option linter.unusedVariables false
set_option maxRecDepth 100000
def lastQ (l : List Pd) : Int := (l.getLast?.map (·.seq)).getD 0
theorem from_app : ∀ (l : List Pd) (last : Int) (m : List Pd), fromP last (l ++ m) = (fromP last l && fromP ((l.getLast?.map (·.seq)).getD last) m)
  | [], last, m => by simp [fromP]
  | p :: l, last, m => by
    have e : ((p :: l).getLast?.map (·.seq)).getD last = (l.getLast?.map (·.seq)).getD p.seq := by
      rw [List.getLast?_cons]
      cases l.getLast? <;> rfl
    rw [List.cons_append, fromP, fromP, from_app l p.seq m, e]
    simp only [Bool.and_assoc]
theorem from_step {l : List Pd} {k : Nat} (hk : k < l.length) (h : fromP 0 (l.take k) = true) :
    ((okN l[k].seq && decide (lastQ (l.take k) < l[k].seq)) = false -> fromP 0 l = false) /\ ((okN l[k].seq && decide (lastQ (l.take k) < l[k].seq)) = true -> fromP 0 (l.take (k + 1)) = true) := by
  have e : l = l.take k ++ (l[k] :: l.drop (k + 1)) := by rw [<- List.drop_eq_getElem_cons hk, List.take_append_drop]
  constructor
  . intro hb
    rw [e, from_app, fromP]
    unfold lastQ at hb
    rw [hb]
    simp
  . intro hb
    rw [List.take_succ_eq_append_getElem hk, from_app, h, fromP, fromP]
    unfold lastQ at hb
    rw [hb]
    rfl
theorem okN_lo {n : Int} (h : n < 1) : okN n = false := by simp [okN, h]
theorem okN_hi {n : Int} (h : 9007199254740992 < n) : okN n = false := by simp [okN, h]
theorem Pts.old {w : World} {X : Nat -> Prop} {l : List Pd} {rs : List Pl2} (h : Pts w X l rs) {B : Nat} (hB : w.heap.size <= B) : Pts w (fun k => X k \/ B <= k) l rs :=
  ⟨h.1, fun i hi => by obtain ⟨r, h1, h2⟩ := h.2 i hi; exact ⟨r, h1, Sl.old h2.signs hB, Prx.batch_old h2.batch hB⟩⟩
end Go.Proofs.YtmhmnkpaijoaaaaGreat.Psg

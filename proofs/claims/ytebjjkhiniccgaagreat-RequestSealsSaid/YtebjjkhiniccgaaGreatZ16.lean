/-
  Layer 8 (request): lists of requests in memory, opened; the contract of Digest.
-/
import Derived.Test.YtebjjkhiniccgaaGreatZ15
import Derived.Test.YtebjjkhiniccgaaGreatZ14
import Derived.Test.YtebjjkhiniccgaaGreatZ08
import Derived.Deep.DeepAppendWide
import Derived.Test.YtebjjkhiniccgaaGreatZ09
import Derived.Test.YtebjjkhiniccgaaGreatZ10
import Derived.Test.YtebjjkhiniccgaaGreatZ13
import Derived.BigQuiet
namespace Go.Proofs.YtebjjkhiniccgaaGreat.Jl
set_option linter.unusedSimpArgs false
open Go Go.RowKit Go.ChangeShapes Go.WideShapes Go.ChangeAt Go.Deep Ck Kf Kw Ga Kp Pm Pe Pk Py Qb Ik Lk Ld Jm Ja Jb Jc Jd Je Jf Jg Jh Jn Jo
open Im (num isIn add sum)
attribute [local go_sem ↓] Go.wp_at_zero Go.wp_at_succ
set_option linter.unusedVariables false
set_option maxRecDepth 100000

theorem QC_len (p : Q × (Option Addr × Nat)) : ((QC p.1 p.2.1 p.2.2).toList).length = 7 := rfl
def flatQ (l : List Q) (rs : List (Option Addr × Nat)) : List Value := (l.zip rs).flatMap fun p => (QC p.1 p.2.1 p.2.2).toList
theorem zipQ_len {l : List Q} {rs : List (Option Addr × Nat)} (h : rs.length = l.length) : (l.zip rs).length = l.length := by rw [List.length_zip]; omega
theorem flatQ_length {l : List Q} {rs : List (Option Addr × Nat)} (h : rs.length = l.length) : (flatQ l rs).length = l.length * 7 := by rw [flatQ, flat_len QC_len, zipQ_len h]
/-- The value v is the requests l; all of it lies in no block of X. -/
def RI (w : World) (X : Nat → Prop) (v : Value) (l : List Q) : Prop :=
  ∃ rs, rs.length = l.length ∧ Sl w X 7 v l.length (flatQ l rs) ∧ ∀ i (h : i < l.length), ∃ r, rs[i]? = some r ∧ Ls w X (.slice r.1 l[i].o.recs.length r.2) l[i].o.recs
section
variable {w w' : World} {X Y S : Nat → Prop} {v : Value} {l : List Q}
theorem RI.after (h : RI w X v l) (hb : Below w.heap.size w w') : RI w' X v l := by
  obtain ⟨rs, h1, h2, h3⟩ := h
  exact ⟨rs, h1, h2.after hb, fun i hi => by obtain ⟨r, h4, h5⟩ := h3 i hi; exact ⟨r, h4, h5.after hb⟩⟩
theorem RI.ch (h : RI w X v l) (c : Ch S w w') (hd : ∀ k, k < w.heap.size → S k → X k) : RI w' X v l := by
  obtain ⟨rs, h1, h2, h3⟩ := h
  exact ⟨rs, h1, h2.ch c hd, fun i hi => by obtain ⟨r, h4, h5⟩ := h3 i hi; exact ⟨r, h4, h5.ch c hd⟩⟩
theorem RI.shape (h : RI w X v l) : ∃ A c, v = .slice A l.length c ∧ l.length ≤ c := by
  obtain ⟨rs, h1, ⟨A, c, rfl, _, hc, _⟩, h3⟩ := h
  exact ⟨A, c, rfl, hc⟩
def At7 (w : World) (ad : Addr) (q : Q) (Ar : Option Addr) (cr : Nat) : Prop :=
  w.cell? ad = some (.int .i64 q.client) ∧ w.cell? ⟨ad.block, ad.off + 1, none⟩ = some (.int .i64 q.time) ∧ w.cell? ⟨ad.block, ad.off + 2, none⟩ = some (.int .i64 q.o.kind) ∧ w.cell? ⟨ad.block, ad.off + 3, none⟩ = some (.string ⟨q.o.topic.toArray⟩)
    ∧ w.cell? ⟨ad.block, ad.off + 4, none⟩ = some (.string ⟨q.o.group.toArray⟩) ∧ w.cell? ⟨ad.block, ad.off + 5, none⟩ = some (.int .i64 q.o.off) ∧ w.cell? ⟨ad.block, ad.off + 6, none⟩ = some (.slice Ar q.o.recs.length cr)
theorem RI.at_ {A : Option Addr} {n c i : Nat} (h : RI w X (.slice A n c) l) (hi : i < l.length) :
    ∃ ad Ar cr, A = some ad ∧ At7 w (ad.add (i * 7)) l[i] Ar cr ∧ Ls w X (.slice Ar l[i].o.recs.length cr) l[i].o.recs := by
  obtain ⟨rs, h1, ⟨A', c', hv, hl, hc, hm, hx⟩, h3⟩ := h
  injection hv with e1 e2 e3
  subst e1
  obtain ⟨⟨Ar, cr⟩, h4, h5⟩ := h3 i hi
  obtain ⟨ad, hA, hb, hX, hcell⟩ := hx (by omega)
  refine ⟨ad, Ar, cr, hA, ?_, h5⟩
  have hz : i < (l.zip rs).length := by rw [zipQ_len h1]; exact hi
  have hr : i < rs.length := by omega
  have he : (l.zip rs)[i] = (l[i], (Ar, cr)) := by
    rw [List.getElem_zip]
    have : rs[i] = (Ar, cr) := by have := List.getElem?_eq_getElem hr; rw [this] at h4; exact Option.some.inj h4
    rw [this]
  have hg : ∀ j, j < 7 → (flatQ l rs)[i * 7 + j]? = ((QC l[i] Ar cr).toList)[j]? := fun j hj => by
    rw [flatQ, flat_get QC_len _ _ hz j hj, he]
  have hof : ∀ j u, j < 7 → ((QC l[i] Ar cr).toList)[j]? = some u → w.cell? ((ad.add (i * 7)).add j) = some u := fun j u hj hu => by
    rw [Ck.add_add]
    exact hcell _ _ (by rw [hg j hj]; exact hu)
  generalize ad.add (i * 7) = a at hof ⊢
  have ha : ∀ j, 0 < j → a.add j = ⟨a.block, a.off + j, none⟩ := fun j hj => by unfold Addr.add; rw [if_neg (by omega)]
  have h0 : a.add 0 = a := by unfold Addr.add; rw [if_pos rfl]
  refine ⟨?_, ?_, ?_, ?_, ?_, ?_, ?_⟩
  · have := hof 0 _ (by omega) rfl; rwa [h0] at this
  · have := hof 1 _ (by omega) rfl; rwa [ha _ (by omega)] at this
  · have := hof 2 _ (by omega) rfl; rwa [ha _ (by omega)] at this
  · have := hof 3 _ (by omega) rfl; rwa [ha _ (by omega)] at this
  · have := hof 4 _ (by omega) rfl; rwa [ha _ (by omega)] at this
  · have := hof 5 _ (by omega) rfl; rwa [ha _ (by omega)] at this
  · have := hof 6 _ (by omega) rfl; rwa [ha _ (by omega)] at this
end
section
variable {H : Type} {enc : TypeId × Value → H}
theorem open_qs {w : World} {fuel : Nat} {base : Nat} {v : Value} {x : DataW H × List MemPlace} (h : DataW.trod enc Tryz.prog w base (fun _ => true) true fuel 51 [v] = some x) (hR : ∀ n ∈ x.1.weights Tryz.prog 51, n ≤ 140737488351232) :
    ∃ (l : List Q), RI w (fun k => w.heap.size ≤ k) v l ∧ l.length * 88 ≤ 140737488351232 ∧ ∀ y ∈ l, far y.o 140737488351232 := by
  rcases open_slice Tryz.underlying51 h with ⟨hcs, rfl⟩ | ⟨a, len, cap, m, n, D, Pl, hcs, _, hl, hm, hmm, rfl, hx⟩
  · obtain rfl : v = .slice none 0 0 := by simpa using hcs
    exact ⟨[], ⟨[], rfl, Sl.nil _ _ _, fun i hi => absurd hi (by simp)⟩, by simp, fun y hy => absurd hy (by simp)⟩
  · obtain rfl : v = .slice (some a) len cap := by simpa using hcs
    simp only [if_true] at hmm
    have each : ∀ i, ∃ r : Q × (Option Addr × Nat), i < len → (∀ j u, (QC r.1 r.2.1 r.2.2).toList[j]? = some u → w.cell? (a.add (i * 7 + j)) = some u) ∧ Ls w (fun k => w.heap.size ≤ k) (.slice r.2.1 r.1.o.recs.length r.2.2) r.1.o.recs ∧ far r.1.o 140737488351232 := by
      intro i
      by_cases hi : i < len
      · obtain ⟨cs', hc, ht⟩ := hx i (by omega)
        obtain ⟨d, Ar, cr, rfl, hb, _, hr⟩ := open_q ht
        rw [cells_req] at hc
        obtain ⟨_, _, hcell⟩ := World.cells?_some hc
        have hw := hr 140737488351232 (fun n hn => hR n (by
          simp only [DataW.weights, Tryz.underlying51, List.mem_cons, List.mem_append]
          exact .inr (.inl (all_mem hn (List.mem_map.2 ⟨i, by simpa using hi, rfl⟩)))))
        refine ⟨(d, (Ar, cr)), fun _ => ⟨fun j u hu => ?_, hb, hw⟩⟩
        have hj : j < 7 := (List.getElem?_eq_some_iff.1 hu).1
        have h1 := hcell j hj
        rw [Ck.add_add] at h1
        rw [h1, ← hu, List.getElem?_eq_getElem (show j < (QC d Ar cr).toList.length from hj)]
      · exact ⟨(Q.zero, (none, 0)), fun h => absurd h hi⟩
    obtain ⟨f, hf⟩ := Classical.axiomOfChoice each
    have hlen : ((List.range len).map fun i => (f i).1).length = len := by simp
    have hrl : ((List.range len).map fun i => (f i).2).length = ((List.range len).map fun i => (f i).1).length := by simp
    refine ⟨(List.range len).map fun i => (f i).1, ⟨(List.range len).map fun i => (f i).2, hrl, ?_, fun i hi => ?_⟩, ?_, fun y hy => ?_⟩
    · refine ⟨some a, cap, by rw [hlen], by rw [flatQ_length hrl], by rw [hlen]; exact hl, hm, fun hn => ?_⟩
      rw [hlen] at hn
      have h0 := (hf 0 hn).1 0 _ rfl
      refine ⟨a, rfl, by have := World.block_lt_of_cell? w _ h0; rw [Ck.add_block] at this; exact this, by have := World.block_lt_of_cell? w _ h0; rw [Ck.add_block] at this; omega, fun j u hu => ?_⟩
      have hj : j < len * 7 := by
        have := (List.getElem?_eq_some_iff.1 hu).1
        rw [flatQ_length hrl, hlen] at this
        exact this
      have hi : j / 7 < len := by omega
      have hz : j / 7 < (((List.range len).map fun i => (f i).1).zip ((List.range len).map fun i => (f i).2)).length := by rw [zipQ_len hrl, hlen]; exact hi
      have hg := flat_get QC_len (((List.range len).map fun i => (f i).1).zip ((List.range len).map fun i => (f i).2)) (j / 7) hz (j % 7) (by omega)
      rw [show j / 7 * 7 + j % 7 = j by omega] at hg
      rw [flatQ, hg] at hu
      have := (hf (j / 7) hi).1 (j % 7) u (by
        rw [← hu]
        congr 1
        simp)
      rwa [show j / 7 * 7 + j % 7 = j by omega] at this
    · have hi' : i < len := by simpa using hi
      refine ⟨(f i).2, by simp [hi'], ?_⟩
      have := (hf i hi').2.1
      simpa using this
    · have := hR _ (by simp only [DataW.weights, Tryz.underlying51]; exact List.mem_cons_self)
      rw [bytes_req] at this
      simp only [List.length_map, List.length_range] at this ⊢
      omega
    · obtain ⟨i, hi, rfl⟩ := List.mem_map.1 hy
      have hi' : i < len := by simpa using hi
      exact (hf i hi').2.2
end

/-- What Digest leaves. -/
def Digested (S : Nat → Prop) (p g : Nat) (L : List (List UInt8)) (G : List Sg) (l : List Sd) (w : World) (e : Ending) (w' : World) : Prop :=
  e = .returned (.tuple #[.int .i64 (digR L l).1, .int .i64 (digR L l).2]) ∧ TL w' (Nw S w.heap.size w'.heap.size) p g (digT L l) G ∧ Ch S w w'
theorem nw_refl {w w' : World} {S : Nat → Prop} {p g : Nat} {L : List (List UInt8)} {G : List Sg} (h : TL w' S p g L G) : TL w' (Nw S w.heap.size w'.heap.size) p g L G := h.weaken (fun k _ h => .inl h)
set_option maxHeartbeats 4000000 in
theorem digest_any (w : World) (S X : Nat → Prop) (p g : Nat) (L : List (List UInt8)) (G : List Sg) (l : List Sd) (vl : Value) (h : TL w S p g L G) (hb : BI w X vl l) (hr : ∀ x ∈ l, x.q.o.recs.length ≤ 140737488355328) (hl63 : l.length ≤ 140737488355328) :
    Calls Tryz.prog 25 #[.pointer (some ⟨p, 0, none⟩), vl] w (Digested S p g L G l w) := by
  obtain ⟨A, c, rfl, -⟩ := hb.shape
  have HC := Lib.hid (cbatch_any w X _ l hb hr hl63)
  have HT := Lib.hid h
  have HB := Lib.hid hb
  have HR := Lib.hid hr
  have HL := Lib.hid hl63
  clear h hb hr hl63
  by_cases hc : bcheck l = 0
  · rw [hc] at HC
    have HBL := Lib.hid (braw_len hc)
    have HBF := Lib.hid (bform_eq hc)
    have HDT := Lib.hid (digT_ok (L := L) hc)
    have HDO := Lib.hid fun h => digR_ok (L := L) hc h
    have HDF := Lib.hid fun h => digR_full (L := L) hc h
    clear hc
    go_enter Tryz.func25, Tryz.ntmps25
    go_wp2_with fail
    refine HC.out.mono ?_
    rintro e w1 ⟨rfl, hb1⟩
    have HB1 := Lib.hid hb1
    have HT1 := Lib.hid (HT.out.later hb1)
    have HI1 := Lib.hid (HB.out.after hb1)
    obtain ⟨S1, S2, tb1, -⟩ := id HT1.out
    have HM := Lib.hid (madet_any w1 S1 p L tb1)
    clear hb1 tb1
    go_wp2_with fail
    refine HM.out.mono ?_
    rintro e w2 ⟨rfl, hb2⟩
    have HB2 := Lib.hid (HB1.out.trans (hb2.mono HB1.out.size))
    have HT2 := Lib.hid (HT1.out.later hb2)
    have HP := Lib.hid (putbatch_any l _ X (fun _ => False) (.slice none 0 0) 0 [] w2 (HI1.out.after hb2) HR.out HL.out (Sl.nil _ _ _) (by simp))
    rw [HBF.out, List.nil_append] at HP
    clear hb2 HM
    go_wp2_with fail
    refine HP.out.mono ?_
    rintro e w3 ⟨v3, rfl, ho3, hb3⟩
    obtain ⟨A3, c3, rfl⟩ := own_shape ho3
    have HB3 := Lib.hid (HB2.out.trans (hb3.mono HB2.out.size))
    have HT3 := Lib.hid (HT2.out.later hb3)
    have HO3 := Lib.hid (Sl.of_own (X := fun _ => False) ho3 (fun _ _ _ h => h))
    clear ho3 hb3 HP
    have HS : Hid (Calls Tryz.prog 48 #[.pointer (some ⟨p, 0, none⟩), .slice A3 (braw l).length c3] w3 fun e w' => e = .returned (.int .i64 (sum L (braw l) : Int)) ∧ TL w' (Nw S w3.heap.size w'.heap.size) p g (add L (braw l)) G ∧ Ch S w3 w') := Lib.hid (by
      obtain ⟨T1, T2, t1, t2, t3, t4, t5⟩ := HT3.out
      refine (Ib.sum_yes w3 T1 _ p L A3 c3 (braw l) t1 HO3.out (by have := HBL.out; omega)).mono ?_
      rintro e w' ⟨he, h1, h2⟩
      refine ⟨he, ?_⟩
      have hs := h2.size
      refine ⟨⟨Up T1 w3 w', T2, h1, t2.ch h2 (fun k hk hx => t3 k hx hk), ?_, ?_, ?_⟩, h2.mono (fun k _ hk => (t4 k hk).1)⟩
      · rintro k (hk | hk) hk2
        · exact t3 k hk hk2
        · have := (t5 k hk2).2; omega
      · rintro k (hk | hk)
        · exact ⟨.inl (t4 k hk).1, by have := (t4 k hk).2; omega⟩
        · exact ⟨.inr hk, hk.2⟩
      · intro k hk
        exact ⟨.inl (t5 k hk).1, by have := (t5 k hk).2; omega⟩)
    go_wp2_with fail
    refine HS.out.mono ?_
    rintro e w4 ⟨rfl, ht4, hc4⟩
    have HT4 : Hid (TL w4 (Nw S w.heap.size w4.heap.size) p g (digT L l) G) := Lib.hid (by rw [HDT.out]; exact ht4.weaken (fun k _ h => h.imp id (fun h => ⟨by have := HB3.out.size; omega, h.2⟩)))
    have HC4 : Hid (Ch S w w4) := Lib.hid ((Ch.of_below (S := S) HB3.out (Nat.le_refl _)).trans hc4 (fun _ _ h => h))
    clear ht4 hc4 HS
    by_cases h0 : sum L (braw l) = 0
    · have HD := Lib.hid (HDF.out h0)
      have hd : ((sum L (braw l) : Int) == 0) = true := by rw [h0]; rfl
      clear h0
      generalize (sum L (braw l) : Int) = z at *
      go_wp2_with fail
      go_ret2
      exact ⟨by rw [HD.out]; rfl, HT4.out, HC4.out⟩
    · have HD := Lib.hid (HDO.out h0)
      have hd : ((sum L (braw l) : Int) == 0) = false := by rw [beq_eq_false_iff_ne]; omega
      clear h0 HDO HDF
      generalize (sum L (braw l) : Int) = z at *
      go_wp2_with fail
      go_ret2
      exact ⟨by rw [HD.out]; rfl, HT4.out, HC4.out⟩
  · have hd : (bcheck l != 0) = true := by simpa using hc
    have hd2 : (bcheck l == 0) = false := by simpa using hc
    have HD := Lib.hid (And.intro (digR_bad (L := L) hc) (digT_bad (L := L) hc))
    clear hc
    go_enter Tryz.func25, Tryz.ntmps25
    go_wp2_with fail
    refine HC.out.mono ?_
    rintro e w1 ⟨rfl, hb1⟩
    have HT1 := Lib.hid (HT.out.later hb1)
    have HB1 := Lib.hid hb1
    clear hb1
    go_wp2_with fail
    go_ret2
    exact ⟨by rw [HD.out.1]; rfl, by rw [HD.out.2]; exact nw_refl HT1.out, Ch.of_below (S := S) HB1.out (Nat.le_refl _)⟩
end Go.Proofs.YtebjjkhiniccgaaGreat.Jl

/-
  Layer 8 (request): the contract of the document's Digest.
-/
namespace Go.Proofs.YtebjjkhiniccgaaGreat.Kh
set_option linter.unusedSimpArgs false
open Go Go.RowKit Ck Kw Ga Kf Pm Pe Pg Pk Pn Py Qb Qg Ik Lk La Lb Lc Ld Jm Ja Jb Jc Jd Je Jf Jg Jh Jn Kc Ke Kg
open Im (num isIn add sum)
attribute [local go_sem ↓] Go.wp_at_zero Go.wp_at_succ
set_option linter.unusedVariables false
set_option maxRecDepth 100000

/-- What the document's Digest leaves. -/
def RDigested (S : Nat → Prop) (l : List Sd) (L : List (List UInt8)) (w : World) (e : Ending) (w' : World) : Prop :=
  e = .returned (.tuple #[.int .i64 (digR L l).1, .int .i64 (digR L l).2]) ∧ Ch S w w'
set_option maxHeartbeats 4000000 in
theorem rdigest_any (w : World) (S X : Nat → Prop) (p g : Nat) (L : List (List UInt8)) (G : List Sg) (l : List Sd) (vl : Value) (h : RT w S p g L G) (hb : BI w X vl l) (hr : ∀ x ∈ l, x.q.o.recs.length ≤ 140737488355328) (hl63 : l.length ≤ 140737488355328) :
    Calls Tryz.prog 26 #[.pointer (some ⟨p, 0, none⟩), vl] w (RDigested S l L w) := by
  obtain ⟨A, c, rfl, -⟩ := hb.shape
  have HC := Lib.hid (rcbatch_any w X _ l hb hr hl63)
  have HT := Lib.hid h
  have HB := Lib.hid hb
  have HR := Lib.hid hr
  have HL := Lib.hid hl63
  clear h hb hr hl63
  by_cases hc : bcheck l = 0
  · rw [hc] at HC
    have HBL := Lib.hid (braw_len hc)
    have HBF := Lib.hid (bform_eq hc)
    have HDO := Lib.hid fun h => digR_ok (L := L) hc h
    have HDF := Lib.hid fun h => digR_full (L := L) hc h
    clear hc
    go_enter Tryz.func26, Tryz.ntmps26
    go_wp2_with fail
    refine HC.out.mono ?_
    rintro e w1 ⟨rfl, hb1⟩
    have HB1 := Lib.hid hb1
    have HT1 := Lib.hid (HT.out.later hb1)
    have HI1 := Lib.hid (HB.out.after hb1)
    have HP := Lib.hid (rputbatch_any l _ X (fun _ => False) (.slice none 0 0) 0 [] w1 (HI1.out) HR.out HL.out (Sl.nil _ _ _) (by simp))
    rw [HBF.out, List.nil_append] at HP
    clear hb1
    go_wp2_with fail
    refine HP.out.mono ?_
    rintro e w3 ⟨v3, rfl, ho3, hb3⟩
    obtain ⟨A3, c3, rfl, -⟩ := id ho3
    have HB3 := Lib.hid (HB1.out.trans (hb3.mono HB1.out.size))
    have HT3 := Lib.hid (HT1.out.later hb3)
    have HO3 := Lib.hid ho3
    clear ho3 hb3 HP
    have HS := Lib.hid (HT3.out.callT (P := Tryz.prog) (f := 53) (args := #[.pointer (some ⟨p, 0, none⟩), .slice A3 (braw l).length c3]) (r := .returned (.int .i64 (sum L (braw l) : Int))) (L' := add L (braw l)) (fun S1 h1 => Ij.rsum_any w3 S1 _ p L A3 c3 (braw l) h1 HO3.out (by have := HBL.out; omega)))
    go_wp2_with fail
    refine HS.out.mono ?_
    rintro e w4 ⟨rfl, -, hc4⟩
    have HC4 : Hid (Ch S w w4) := Lib.hid ((Ch.of_below (S := S) HB3.out (Nat.le_refl _)).trans hc4 (fun _ _ h => h))
    clear hc4 HS
    by_cases h0 : sum L (braw l) = 0
    · have HD := Lib.hid (HDF.out h0)
      have hd : ((sum L (braw l) : Int) == 0) = true := by rw [h0]; rfl
      clear h0
      generalize (sum L (braw l) : Int) = z at *
      go_wp2_with fail
      go_ret2
      exact ⟨by rw [HD.out]; rfl, HC4.out⟩
    · have HD := Lib.hid (HDO.out h0)
      have hd : ((sum L (braw l) : Int) == 0) = false := by rw [beq_eq_false_iff_ne]; omega
      clear h0 HDO HDF
      generalize (sum L (braw l) : Int) = z at *
      go_wp2_with fail
      go_ret2
      exact ⟨by rw [HD.out]; rfl, HC4.out⟩
  · have hd : (bcheck l != 0) = true := by simpa using hc
    have hd2 : (bcheck l == 0) = false := by simpa using hc
    have HD := Lib.hid (digR_bad (L := L) hc)
    clear hc
    go_enter Tryz.func26, Tryz.ntmps26
    go_wp2_with fail
    refine HC.out.mono ?_
    rintro e w1 ⟨rfl, hb1⟩
    have HB1 := Lib.hid hb1
    clear hb1
    go_wp2_with fail
    go_ret2
    exact ⟨by rw [HD.out]; rfl, Ch.of_below (S := S) HB1.out (Nat.le_refl _)⟩
end Go.Proofs.YtebjjkhiniccgaaGreat.Kh

/-
  Layer 8 (request): a wide append; the program's table and ledger, the document's, and a batch that is built, apart.
-/
namespace Go.Proofs.YtebjjkhiniccgaaGreat.Kj
set_option linter.unusedSimpArgs false
open Go Go.RowKit Ck Kw Ga Kf Pm Pe Pg Pk Pn Py Qb Qg Ik Lk La Lb Lc Ld Jm Ja Jb Jc Jd Je Jf Jg Jh Jl Jn Kc Ke Kg Kh
open Im (num isIn add sum)
set_option linter.unusedVariables false
set_option maxRecDepth 100000

section
variable {P : Program} (w : World)
/-- One more is put behind a row, under growslice's own test. -/
theorem run_append_one (base : Nat) (t ty e : TypeId) (i : TypeInfo) (z : Value) (size bytes : Nat) (ht : P.underlying t = some (.slice e)) (hi : P.info? e = some i) (hz : i.zero = some z)
    (hsize : i.size = size) (hby : i.bytes = bytes) (hzs : z.cells.size = size) (hsz : 0 < size)
    (v : Value) (n : Nat) (xs : List Value) (hown : w.ownsRow base e size v n xs)
    (a : Addr) (c : Nat) (news : List Value) (hl : news.length = 1 * size) (hnews : ∀ j u, news[j]? = some u → w.cell? (a.add j) = some u) (h1 : ∀ u ∈ news, u.oneCell' = true)
    (h63 : n + 1 ≤ maxLen) (hb : ((n + 1) + (n + 1) / 4 + 192) * bytes ≤ 281474976710656) (hbase : base ≤ w.heap.size) :
    ∃ v' w', (Builtin.append_ #[t, t] ty #[v, .slice (some a) 1 c]).run P w = .ok v' w' ∧ Appended w base e size v (n + 1) (xs ++ news) v' w' := by
  obtain ⟨v', w', hr, h2, h3, -⟩ := run_append_own_wide (P := P) w base t ty e i z size bytes ht hi hz hsize hby hzs hsz v n xs hown a 1 c news hl hnews h1 h63 hb hbase
  refine ⟨v', w', hr, h2, h3, ?_⟩
  subst hsize
  subst hby
  have h63' : ((n + 1 : Nat) : Int) ≤ 9223372036854775807 := by simp only [maxLen] at h63; omega
  have hone : (n + 1) * i.bytes ≤ ((n + 1) + (n + 1) / 4 + 192) * i.bytes := Nat.mul_le_mul_right _ (by omega)
  rcases hown.2 with ⟨rfl, rfl⟩ | ⟨g, cap, cur, rfl, hbg, hg, hnc, hcm, hcs, htake⟩
  · have hr2 := run_append_nil (P := P) w t ty e i z ht hi hz a 1 c news hl hnews (by omega) (by omega) (by simp only [Nat.zero_add] at hone hb; omega)
    have := hr.symm.trans hr2
    injection this with e1 _
    exact .inr (by rw [e1]; rfl)
  · by_cases hroom : n + 1 ≤ cap
    · have hfit : n * i.size + news.length ≤ cur.size := by rw [hl, hcs, ← Nat.add_mul]; exact Nat.mul_le_mul_right _ hroom
      have hr2 := run_append_room (P := P) w t ty e i ht hi g n cap cur hg a 1 c news hl hnews h1 hroom hfit
      have := hr.symm.trans hr2
      injection this with e1 _
      exact .inl (by rw [e1]; rfl)
    · have holds : ∀ j u, xs[j]? = some u → w.cell? ((⟨g, 0, none⟩ : Addr).add j) = some u := hown.cells (g := g) rfl
      have hr2 := run_append_grow (P := P) w t ty e i z ht hi hz ⟨g, 0, none⟩ n cap xs hown.1 holds a 1 c news hl hnews (by omega) h63' (growslice_fits_wide (by omega) hb)
      have := hr.symm.trans hr2
      injection this with e1 _
      exact .inr (by rw [e1]; rfl)
theorem wpList_append_one {ops : Array Oper} {rest : List Oper} {o : Oper} {a : Act} {Q : Exit → Act → World → Prop} (hgd : o.guard = none) (s x : Operand) (t : TypeId)
    (ho : o.op = .call { callee := .builtin .append, args := #[s, x], argTypes := #[t, t] })
    (base : Nat) (e : TypeId) (i : TypeInfo) (z : Value) (size bytes : Nat) (ht : P.underlying t = some (.slice e)) (hi : P.info? e = some i) (hz : i.zero = some z)
    (hsize : i.size = size) (hby : i.bytes = bytes) (hzs : z.cells.size = size) (hsz : 0 < size)
    (v : Value) (n : Nat) (xs : List Value) (hs : a.eval s = v) (hown : w.ownsRow base e size v n xs)
    (ad : Addr) (c : Nat) (news : List Value) (hx : a.eval x = .slice (some ad) 1 c) (hl : news.length = 1 * size) (hnews : ∀ j u, news[j]? = some u → w.cell? (ad.add j) = some u) (h1 : ∀ u ∈ news, u.oneCell' = true)
    (h63 : n + 1 ≤ maxLen) (hb : ((n + 1) + (n + 1) / 4 + 192) * bytes ≤ 281474976710656) (hbase : base ≤ w.heap.size)
    (h : ∀ A c w', Appended w base e size v (n + 1) (xs ++ news) (.slice A (n + 1) c) w' → wpList P ops Q rest (a.put o.dst (.slice A (n + 1) c)) w') : wpList P ops Q (o :: rest) a w := by
  refine wpList_plain hgd fun K hK => ?_
  obtain ⟨v', w', hrun, h2⟩ := run_append_one (P := P) w base t o.type e i z size bytes ht hi hz hsize hby hzs hsz v n xs hown ad c news hl hnews h1 h63 hb hbase
  obtain ⟨A, c', rfl⟩ := own_shape h2.1
  unfold Oper.wp execOp
  simp only [ho, resolve, invoke, builtin, Sem.run_bind, Sem.run_pure, Result.andThen_ok, List.map_toArray, List.map_cons, List.map_nil, hs, hx, hrun]
  exact hK _ _ (h A c' w' h2)
end

theorem snoc_flat {l : List Sd} {rs : List (Option Addr × Nat)} (h : rs.length = l.length) (d : Sd) (A : Option Addr) (c : Nat) : flat (l ++ [d]) (rs ++ [(A, c)]) = flat l rs ++ (DC d A c).toList := by
  unfold flat
  rw [List.zip_append h.symm, List.flatMap_append]
  simp
theorem dc_ones {d : Sd} {A : Option Addr} {c : Nat} : ∀ u ∈ (DC d A c).toList, u.oneCell' = true := by
  intro u hu
  simp only [DC, List.mem_cons, List.not_mem_nil, or_false] at hu
  rcases hu with rfl | rfl | rfl | rfl | rfl | rfl | rfl | rfl | rfl <;> rfl
theorem dc_cells (w : World) (d : Sd) (A : Option Addr) (c : Nat) : ∀ j u, (DC d A c).toList[j]? = some u → (w.alloc (.cells (DC d A c) 53)).cell? ((⟨w.heap.size, 0, none⟩ : Addr).add j) = some u := by
  intro j u hu
  have h2 : (⟨w.heap.size, 0, none⟩ : Addr).add j = ⟨w.heap.size, j, none⟩ := by unfold Addr.add; split <;> simp_all
  rw [h2, Blk.cell (Blk.new w 53 _) j]
  simpa using hu
theorem old_ls {w : World} {X : Nat → Prop} {v : Value} {ls : List (List UInt8)} (h : Ls w X v ls) {B : Nat} (hB : w.heap.size ≤ B) : Ls w (fun k => X k ∨ B ≤ k) v ls := by
  obtain ⟨vals, a, b⟩ := h
  exact ⟨vals, a.old hB, fun i hi => by obtain ⟨u, hu, h⟩ := b i hi; exact ⟨u, hu, h.old hB⟩⟩
theorem bi_take {w : World} {X : Nat → Prop} {A : Option Addr} {c : Nat} {l : List Sd} (h : BI w X (.slice A l.length c) l) {k : Nat} (hk : k ≤ l.length) : BI w X (.slice A k c) (l.take k) := by
  obtain ⟨rs, h1, h2, h3⟩ := h
  have hl : (l.take k).length = k := by simp; omega
  refine ⟨rs.take k, by simp [h1], ?_, fun i hi => ?_⟩
  · have h4 := Sl.upto h2 hk
    have h5 : flat (l.take k) (rs.take k) = (flat l rs).take (k * 9) := by
      unfold flat
      rw [← Kf.flat_take DC_len, List.zip_eq_zipWith, List.zip_eq_zipWith, List.take_zipWith]
    rw [h5, hl]
    exact h4
  · obtain ⟨r, h4, h5⟩ := h3 i (by omega)
    refine ⟨r, by rw [List.getElem?_take]; simp [show i < k by omega, h4], ?_⟩
    rw [List.getElem_take]
    exact h5

/-- The program's and the document's, and the batch, apart. -/
structure QO (w0 : World) (p g p' g' : Nat) (L : List (List UInt8)) (G : List Sg) (L' : List (List UInt8)) (G' : List Sg) (v : Value) (R : List Sd) (P : List (Sd × (Option Addr × Nat))) (rs : List (Option Addr × Nat)) (S S' : Nat → Prop) (W : World) : Prop where
  two : w0.heap.size + 1 ≤ W.heap.size
  tl : TL W S p g L G
  rt : RT W S' p' g' L' G'
  s1 : ∀ k, S k → w0.heap.size + 1 ≤ k ∧ k < W.heap.size
  s2 : ∀ k, S' k → w0.heap.size + 1 ≤ k ∧ k < W.heap.size
  ap : ∀ k, S k → S' k → False
  row : W.ownsRow (w0.heap.size + 1) 53 9 v R.length (flat R rs)
  rap : ∀ k, v.ownBlock = some k → ¬ S k ∧ ¬ S' k
  len : rs.length = R.length
  els : ∀ i (h : i < R.length), ∃ r, rs[i]? = some r ∧ Ls W (fun k => (S k ∨ S' k) ∨ v.ownBlock = some k) (.slice r.1 R[i].q.o.recs.length r.2) R[i].q.o.recs
  pend : ∀ x ∈ P, Ls W (fun k => (S k ∨ S' k) ∨ v.ownBlock = some k) (.slice x.2.1 x.1.q.o.recs.length x.2.2) x.1.q.o.recs
section
variable {w0 W W' : World} {p g p' g' : Nat} {L L2 L' L3 : List (List UInt8)} {G G2 G' G3 : List Sg} {v v' : Value} {R : List Sd} {P : List (Sd × (Option Addr × Nat))} {rs : List (Option Addr × Nat)} {S S' T T' X : Nat → Prop}
theorem QO.turn (h : QO w0 p g p' g' L G L' G' v R P rs S S' W) (c : Ch X W W') (hx : ∀ k, k < W.heap.size → X k → S k ∨ S' k) (t1 : TL W' T p g L2 G2) (t2 : RT W' T' p' g' L3 G3) (ha : ∀ k, T k → (S k ∨ W.heap.size ≤ k) ∧ k < W'.heap.size) (hb : ∀ k, T' k → (S' k ∨ W.heap.size ≤ k) ∧ k < W'.heap.size) (hab : ∀ k, T k → T' k → False) : QO w0 p g p' g' L2 G2 L3 G3 v R P rs T T' W' := by
  have hsz := c.size
  have h2 := h.two
  have hlt := h.row.lt
  have hr : ∀ k, v.ownBlock = some k → k < W.heap.size ∧ ¬ S k ∧ ¬ S' k := fun k hk => ⟨(hlt k hk).2, h.rap k hk⟩
  have mv : ∀ {u : Value} {ls : List (List UInt8)}, Ls W (fun k => (S k ∨ S' k) ∨ v.ownBlock = some k) u ls → Ls W' (fun k => (T k ∨ T' k) ∨ v.ownBlock = some k) u ls := fun {u ls} hl => by
    refine ((old_ls hl (Nat.le_refl _)).ch c (fun k hk hX => .inl (.inl (hx k hk hX)))).weaken (fun k _ hk => ?_)
    rcases hk with (hk | hk) | hk
    · rcases (ha k hk).1 with q | q
      · exact .inl (.inl (.inl q))
      · exact .inr q
    · rcases (hb k hk).1 with q | q
      · exact .inl (.inl (.inr q))
      · exact .inr q
    · exact .inl (.inr hk)
  refine ⟨by omega, t1, t2, fun k hk => ?_, fun k hk => ?_, hab, own_ch h.row c (fun k hk hX => ?_), fun k hk => ⟨fun ht => ?_, fun ht => ?_⟩, h.len, fun i hi => ?_, fun x hx => mv (h.pend x hx)⟩
  · have h4 := ha k hk
    rcases h4.1 with q | q
    · exact ⟨(h.s1 k q).1, h4.2⟩
    · exact ⟨by omega, h4.2⟩
  · have h4 := hb k hk
    rcases h4.1 with q | q
    · exact ⟨(h.s2 k q).1, h4.2⟩
    · exact ⟨by omega, h4.2⟩
  · have h4 := hr k hk
    rcases hx k h4.1 hX with q | q
    · exact h4.2.1 q
    · exact h4.2.2 q
  · have h4 := hr k hk
    rcases (ha k ht).1 with q | q
    · exact h4.2.1 q
    · omega
  · have h4 := hr k hk
    rcases (hb k ht).1 with q | q
    · exact h4.2.2 q
    · omega
  · obtain ⟨r, h4, h5⟩ := h.els i hi
    exact ⟨r, h4, mv h5⟩
theorem QO.later (h : QO w0 p g p' g' L G L' G' v R P rs S S' W) (b : Below W.heap.size W W') : QO w0 p g p' g' L G L' G' v R P rs S S' W' :=
  h.turn (X := fun _ => False) (Ch.of_below b (Nat.le_refl _)) (fun _ _ h => h.elim) (h.tl.later b) (h.rt.later b) (fun k hk => ⟨.inl hk, Nat.lt_of_lt_of_le (h.s1 k hk).2 b.size⟩) (fun k hk => ⟨.inl hk, Nat.lt_of_lt_of_le (h.s2 k hk).2 b.size⟩) h.ap
/-- The program turned its own. -/
theorem QO.one {B : Nat} (h : QO w0 p g p' g' L G L' G' v R P rs S S' W) (t : TL W' (Nw S W.heap.size B) p g L2 G2) (c : Ch S W W') (hB2 : B ≤ W'.heap.size) : QO w0 p g p' g' L2 G2 L' G' v R P rs (Nw S W.heap.size B) S' W' := by
  have hsz := c.size
  refine h.turn c (fun k _ hk => .inl hk) t (h.rt.ch c (fun k hk hx => h.ap k hx hk)) (fun k hk => ?_) (fun k hk => ⟨.inl hk, by have := (h.s2 k hk).2; omega⟩) (fun k hk hk2 => ?_)
  · rcases hk with hk | hk
    · exact ⟨.inl hk, by have := (h.s1 k hk).2; omega⟩
    · exact ⟨.inr hk.1, by omega⟩
  · rcases hk with hk | hk
    · exact h.ap k hk hk2
    · have := (h.s2 k hk2).2; omega
/-- The document turned its own. -/
theorem QO.other (h : QO w0 p g p' g' L G L' G' v R P rs S S' W) (t : RT W' (Nw S' W.heap.size W'.heap.size) p' g' L3 G3) (c : Ch S' W W') : QO w0 p g p' g' L G L3 G3 v R P rs S (Nw S' W.heap.size W'.heap.size) W' := by
  have hsz := c.size
  refine h.turn c (fun k _ hk => .inr hk) (h.tl.ch c (fun k hk hx => h.ap k hk hx)) t (fun k hk => ⟨.inl hk, by have := (h.s1 k hk).2; omega⟩) (fun k hk => ?_) (fun k hk2 hk => ?_)
  · rcases hk with hk | hk
    · exact ⟨.inl hk, by have := (h.s2 k hk).2; omega⟩
    · exact ⟨.inr hk.1, by omega⟩
  · rcases hk with hk | hk
    · exact h.ap k hk2 hk
    · have := (h.s1 k hk2).2; omega
/-- What was sealed is kept. -/
theorem QO.keep {B : Nat} {y : Sd} {A : Option Addr} {c : Nat} (h : QO w0 p g p' g' L G L' G' v R P rs S S' W) (hs : ∀ k, S k → k < B) (hs2 : ∀ k, S' k → k < B) (hr : ∀ k, v.ownBlock = some k → k < B) (hl : Ls W (fun k => k < B) (.slice A y.q.o.recs.length c) y.q.o.recs) : QO w0 p g p' g' L G L' G' v R [(y, (A, c))] rs S S' W :=
  ⟨h.two, h.tl, h.rt, h.s1, h.s2, h.ap, h.row, h.rap, h.len, h.els, fun x hx => by
    rw [List.mem_singleton.1 hx]
    refine hl.weaken (fun k _ hk => ?_)
    rcases hk with (hk | hk) | hk
    · exact hs k hk
    · exact hs2 k hk
    · exact hr k hk⟩
theorem QO.drop (h : QO w0 p g p' g' L G L' G' v R P rs S S' W) : QO w0 p g p' g' L G L' G' v R [] rs S S' W :=
  ⟨h.two, h.tl, h.rt, h.s1, h.s2, h.ap, h.row, h.rap, h.len, h.els, fun x hx => absurd hx (by simp)⟩
/-- It is put behind the others. -/
theorem QO.put {y : Sd} {A : Option Addr} {c : Nat} (h : QO w0 p g p' g' L G L' G' v R [(y, (A, c))] rs S S' W) (happ : Appended (W.alloc (.cells (DC y A c) 53)) (w0.heap.size + 1) 53 9 v (R.length + 1) (flat R rs ++ (DC y A c).toList) v' W') : QO w0 p g p' g' L G L' G' v' (R ++ [y]) [] (rs ++ [(A, c)]) S S' W' := by
  have hb : Below W.heap.size W (W.alloc (.cells (DC y A c) 53)) := op_below W _
  have h1 := h.later hb
  have hz : (W.alloc (.cells (DC y A c) 53)).heap.size = W.heap.size + 1 := by simp
  have ch : Ch (fun k => v.ownBlock = some k) (W.alloc (.cells (DC y A c) 53)) W' := Ch.of_grown happ.2.1 (fun k hk _ => hk)
  have hsz := ch.size
  have h2 := h.two
  have mv : ∀ {u : Value} {ls : List (List UInt8)}, Ls (W.alloc (.cells (DC y A c) 53)) (fun k => (S k ∨ S' k) ∨ v.ownBlock = some k) u ls → Ls W' (fun k => (S k ∨ S' k) ∨ v'.ownBlock = some k) u ls := fun {u ls} hl => by
    refine ((old_ls hl (Nat.le_refl _)).ch ch (fun k hk hX => .inl (.inr hX))).weaken (fun k _ hk => ?_)
    rcases hk with hk | hk
    · exact .inl (.inl hk)
    · rcases happ.2.2 with q | q
      · exact .inl (.inr (by rw [← q]; exact hk))
      · rw [q] at hk; injection hk with hk; exact .inr (by omega)
  refine ⟨by omega, h1.tl.ch ch (fun k hk hx => (h.rap k hx).1 hk), h1.rt.ch ch (fun k hk hx => (h.rap k hx).2 hk), fun k hk => ⟨(h.s1 k hk).1, by have := (h.s1 k hk).2; omega⟩, fun k hk => ⟨(h.s2 k hk).1, by have := (h.s2 k hk).2; omega⟩, h.ap, ?_, fun k hk => ?_, by simp [h.len], fun i hi => ?_, fun x hx => absurd hx (by simp)⟩
  · rw [List.length_append, snoc_flat h.len]; exact happ.1
  · rcases happ.2.2 with q | q
    · rw [q] at hk; exact h.rap k hk
    · rw [q] at hk; injection hk with hk
      exact ⟨fun hs => by have := (h.s1 k hs).2; omega, fun hs => by have := (h.s2 k hs).2; omega⟩
  · rw [List.length_append, List.length_singleton] at hi
    by_cases hl : i < R.length
    · obtain ⟨r, hr, h3⟩ := h1.els i hl
      refine ⟨r, by rw [List.getElem?_append_left (by rw [h.len]; exact hl)]; exact hr, ?_⟩
      have e : (R ++ [y])[i] = R[i] := List.getElem_append_left hl
      rw [e]
      exact mv h3
    · have he : i = R.length := by omega
      subst he
      refine ⟨(A, c), by rw [List.getElem?_append_right (by rw [h.len]; omega), h.len]; simp, ?_⟩
      have e : (R ++ [y])[R.length] = y := by simp
      rw [e]
      exact mv (h1.pend (y, (A, c)) (by simp))
theorem QO.bi (h : QO w0 p g p' g' L G L' G' v R P rs S S' W) : BI W (fun k => S k ∨ S' k) v R :=
  ⟨rs, h.len, Sl.of_own' h.row (fun k hk hs => hs.elim (h.rap k hk).1 (h.rap k hk).2), fun i hi => by
    obtain ⟨r, h4, h5⟩ := h.els i hi
    exact ⟨r, h4, h5.weaken (fun k _ hk => .inl hk)⟩⟩
end

/-- What stands there all the while. -/
structure QS (w0 : World) (s : Sd) (A : Option Addr) (c : Nat) (p g p' g' : Nat) (L : List (List UInt8)) (G : List Sg) (v : Value) (R : List Sd) (W : World) : Prop where
  below : Below w0.heap.size w0 W
  box : DK W w0.heap.size s A c
  own : ∃ S S' rs, QO w0 p g p' g' L G L G v R [] rs S S' W
theorem QS.later {w0 W W' : World} {s : Sd} {A : Option Addr} {c p g p' g' : Nat} {L : List (List UInt8)} {G : List Sg} {v : Value} {R : List Sd} (h : QS w0 s A c p g p' g' L G v R W) (b : Below W.heap.size W W') : QS w0 s A c p g p' g' L G v R W' := by
  obtain ⟨S, S', rs, ho⟩ := h.own
  exact ⟨h.below.trans (b.mono h.below.size), Blk.below h.box b (Blk.lt h.box), S, S', rs, ho.later b⟩
/-- The document's two, new. -/
theorem rt_new (w : World) : RT ((w.alloc (.cells #[.slice none 0 0] 61)).alloc (.cells #[.slice none 0 0] 65)) (fun k => w.heap.size ≤ k ∧ k < w.heap.size + 2) w.heap.size (w.heap.size + 1) [] [] := by
  have b1 : Below (w.heap.size + 1) (w.alloc (.cells #[.slice none 0 0] 61)) ((w.alloc (.cells #[.slice none 0 0] 61)).alloc (.cells #[.slice none 0 0] 65)) := by
    have := op_below (w.alloc (.cells #[.slice none 0 0] 61)) (.cells #[.slice none 0 0] 65)
    simpa using this
  have k1 : Blk (w.alloc (.cells #[.slice none 0 0] 61)) w.heap.size 61 #[.slice none 0 0] := Blk.new _ _ _
  have k2 : Blk ((w.alloc (.cells #[.slice none 0 0] 61)).alloc (.cells #[.slice none 0 0] 65)) (w.heap.size + 1) 65 #[.slice none 0 0] := by
    have := Blk.new (w.alloc (.cells #[.slice none 0 0] 61)) 65 #[.slice none 0 0]
    simpa using this
  refine ⟨fun k => k = w.heap.size, fun k => k = w.heap.size + 1, ⟨_, k1.below b1 (by omega), rfl, ⟨[], Sl.nil _ _ _, fun i hi => absurd hi (by simp)⟩, by simp, by simp⟩, ⟨_, k2, rfl, Sl.nil _ _ _⟩, fun k h1 h2 => by omega, fun k hk => ?_, fun k hk => ?_⟩
  · subst hk; simp; omega
  · subst hk; simp
end Go.Proofs.YtebjjkhiniccgaaGreat.Kj

/-
  Layer 8 (request): the contracts of the document's SameRequest and Same.
-/
namespace Go.Proofs.YtebjjkhiniccgaaGreat.Jk
set_option linter.unusedSimpArgs false
open Go Go.RowKit Ck Kw Ga Kf Pm Pe Pg Pk Qb Qs Lk Ld Jm Ja Jb Jc
attribute [local go_sem ↓] Go.wp_at_zero Go.wp_at_succ
set_option linter.unusedVariables false
set_option maxRecDepth 100000

theorem sameO_dec (a b : O) : sameO a b = decide (a = b) := rfl
theorem Q_ext {x y : Q} (h1 : x.client = y.client) (h2 : x.time = y.time) (h3 : x.o = y.o) : x = y := by cases x; cases y; simp_all
theorem Sd_ext {x y : Sd} (h1 : x.q = y.q) (h2 : x.s = y.s) : x = y := by cases x; cases y; simp_all

set_option maxHeartbeats 4000000 in
theorem sameq_any (x y : Q) (A B : Option Addr) (c d : Nat) (X Y : Nat → Prop) (w : World) (ha : Ls w X (.slice A x.o.recs.length c) x.o.recs) (hb : Ls w Y (.slice B y.o.recs.length d) y.o.recs) (hl : x.o.recs.length ≤ 140737488355328) :
    Calls Tryz.prog 8 #[QV x A c, QV y B d] w fun e w' => e = .returned (.bool (decide (x = y))) ∧ Below w.heap.size w w' := by
  have b2 : Below w.heap.size w ((w.alloc (.cells (QC x A c) 27)).alloc (.cells (QC y B d) 27)) := (op_below w _).trans ((op_below _ _).mono (by simp))
  have k1 : QB ((w.alloc (.cells (QC x A c) 27)).alloc (.cells (QC y B d) 27)) w.heap.size x A c := Blk.alloc (Blk.new w _ _) _
  have k2 : QB ((w.alloc (.cells (QC x A c) 27)).alloc (.cells (QC y B d) 27)) (w.heap.size + 1) y B d := Blk.new_at (by simp) rfl
  have HS := Lib.hid (rsame_any x.o y.o (OV x.o A c) (OV y.o B d) X Y _ ⟨A, c, rfl, ha.after b2⟩ ⟨B, d, rfl, hb.after b2⟩ hl)
  obtain ⟨a0, a1, a2, a3, a4, a5, a6⟩ := k1.cells
  obtain ⟨b0, b1, b2', b3, b4, b5, b6⟩ := k2.cells
  have HB := Lib.hid b2
  clear b2 k1 k2 ha hb
  unfold OV at HS
  unfold QV
  unfold QC at *
  by_cases h1 : x.client = y.client
  · have e1 : (x.client == y.client) = true := by rw [h1]; exact beq_self_eq_true _
    by_cases h2 : x.time = y.time
    · have e2 : (x.time == y.time) = true := by rw [h2]; exact beq_self_eq_true _
      have HR : Hid (decide (x = y) = sameO x.o y.o) := Lib.hid (by rw [sameO_dec, decide_eq_decide]; exact ⟨fun h => by rw [h], fun h => Q_ext h1 h2 h⟩)
      clear h1 h2
      go_enter Tryz.func8, Tryz.ntmps8
      go_wp2_with fail
      refine HS.out.mono ?_
      rintro e w3 ⟨rfl, hb3⟩
      have HB3 := Lib.hid (HB.out.trans (hb3.mono HB.out.size))
      clear hb3
      go_wp2_with fail
      go_ret
      exact ⟨by rw [HR.out]; rfl, HB3.out⟩
    · have e2 : (x.time == y.time) = false := beq_eq_false_iff_ne.2 h2
      have HR : Hid (decide (x = y) = false) := Lib.hid (decide_eq_false (fun h => h2 (by rw [h])))
      clear h1 h2
      go_enter Tryz.func8, Tryz.ntmps8
      go_wp2_with fail
      go_ret
      exact ⟨by rw [HR.out]; rfl, HB.out⟩
  · have e1 : (x.client == y.client) = false := beq_eq_false_iff_ne.2 h1
    have HR : Hid (decide (x = y) = false) := Lib.hid (decide_eq_false (fun h => h1 (by rw [h])))
    clear h1
    go_enter Tryz.func8, Tryz.ntmps8
    go_wp2_with fail
    go_ret
    exact ⟨by rw [HR.out]; rfl, HB.out⟩

theorem at9_later {w w' : World} {ad : Addr} {d : Sd} {A : Option Addr} {c : Nat} (h : At9 w ad d A c) (b : Below w.heap.size w w') : At9 w' ad d A c := by
  have k : ∀ {a : Addr} {v : Value}, w.cell? a = some v → w'.cell? a = some v := fun {a v} hc => by rw [b.cell (World.block_lt_of_cell? w _ hc)]; exact hc
  obtain ⟨a0, a1, a2, a3, a4, a5, a6, a7, a8⟩ := h
  exact ⟨k a0, k a1, k a2, k a3, k a4, k a5, k a6, k a7, k a8⟩
/-- Two batches stand there. -/
structure S2 (w0 : World) (X Y : Nat → Prop) (va vb : Value) (l m : List Sd) (W : World) : Prop where
  below : Below w0.heap.size w0 W
  one : BI W X va l
  two : BI W Y vb m
theorem S2.later {w0 W W' : World} {X Y : Nat → Prop} {va vb : Value} {l m : List Sd} (h : S2 w0 X Y va vb l m W) (b : Below W.heap.size W W') : S2 w0 X Y va vb l m W' := ⟨h.below.trans (b.mono h.below.size), h.one.after b, h.two.after b⟩

set_option maxHeartbeats 8000000 in
theorem rsameb_any (w : World) (X Y : Nat → Prop) (va vb : Value) (l m : List Sd) (ha : BI w X va l) (hb : BI w Y vb m) (hr : ∀ x ∈ l, x.q.o.recs.length ≤ 140737488355328) (hl63 : l.length ≤ 140737488355328) :
    Calls Tryz.prog 11 #[va, vb] w fun e w' => e = .returned (.bool (decide (l = m))) ∧ Below w.heap.size w w' := by
  obtain ⟨A, c, rfl, -⟩ := ha.shape
  obtain ⟨B, d, rfl, -⟩ := hb.shape
  have HA := Lib.hid (show S2 w X Y _ _ l m w from ⟨Below.refl _ w, ha, hb⟩)
  have HR := Lib.hid hr
  clear ha hb hr
  by_cases hlen : l.length = m.length
  · have hn : ((l.length : Int) != (m.length : Int)) = false := by simp [hlen]
    have HLEN := Lib.hid hlen
    have hge := guard_sign
    have hqe := run_neq_sign
    clear hlen
    go_enter Tryz.func11, Tryz.ntmps11
    go_wp2_with fail
    go_loopw [5] (fun j wr => ∃ k : Nat, k ≤ l.length ∧ j = .int .i64 k ∧ l.take k = m.take k ∧ S2 w X Y (.slice A l.length c) (.slice B m.length d) l m wr) (fun j _ => l.length - (intOf j).toNat)
    case atStart => exact ⟨0, Nat.zero_le _, rfl, rfl, HA.out⟩
    case round =>
      obtain ⟨k, hk, rfl, htk, hs⟩ := hrel
      clear HA
      by_cases hlt : k < l.length
      · have hlt2 : k < m.length := by have := HLEN.out; omega
        obtain ⟨ad, Ar, cr, rfl, hat1, hls1⟩ := hs.one.at_ hlt
        obtain ⟨bd, Br, dr, rfl, hat2, hls2⟩ := hs.two.at_ hlt2
        have hrl := HR.out _ (List.getElem_mem hlt)
        have HN1 := Lib.hid (show l[k] = m[k] → l.take (k + 1) = m.take (k + 1) from fun h => by rw [List.take_succ_eq_append_getElem hlt, List.take_succ_eq_append_getElem hlt2, htk, h])
        have HN2 := Lib.hid (show l[k] ≠ m[k] → decide (l = m) = false from fun h => decide_eq_false (fun e => h (by subst e; rfl)))
        have hkp : (0 : Int) ≤ (k : Int) := by omega
        have hkl : (k : Int) < (l.length : Int) := by omega
        have hkm : (k : Int) < (m.length : Int) := by omega
        generalize l[k] = x at *
        generalize m[k] = y at *
        have HS := Lib.hid fun (n : Nat) => sameq_any x.q y.q Ar Br cr dr X Y (wr.drewN n) (hls1.after (below_drewN (Below.refl _ _) n)) (hls2.after (below_drewN (Below.refl _ _) n)) hrl
        have HSS := Lib.hid hs
        have HAT1 := Lib.hid hat1
        have HAT2 := Lib.hid hat2
        obtain ⟨a0, a1, a2, a3, a4, a5, a6, a7, a8⟩ := hat1
        obtain ⟨b0, b1, b2, b3, b4, b5, b6, b7, b8⟩ := hat2
        unfold QV QC at HS
        clear htk hs hls1 hls2 hlt hlt2
        by_cases hsg : x.s = y.s
        · have hqq : ∀ W : World, (binOp .neq 47 (.agg #[.int .i64 x.s.1, .int .i64 x.s.2]) (.agg #[.int .i64 y.s.1, .int .i64 y.s.2])).run Tryz.prog W = .ok (.bool false) W := fun W => by rw [hqe, show sgB (x.s.1, x.s.2) (y.s.1, y.s.2) = true from by rw [hsg]; exact sgB_yes _]; rfl
          have HSG := Lib.hid hsg
          clear hsg hqe
          by_cases hq : x.q = y.q
          · have HS1 := Lib.hid fun n => (HS.out n).mono (fun e w' h => show e = .returned (.bool true) ∧ _ from ⟨by rw [h.1, decide_eq_true hq], h.2⟩)
            have HT := Lib.hid (HN1.out (Sd_ext hq HSG.out))
            clear hq HS HN1 HN2
            go_wp2_with fail
            go_region_held3 (fun w' => (w'.cell? (ad.add (k * 9)) = some (.int .i64 x.q.client) ∧ w'.cell? ⟨(ad.add (k * 9)).block, (ad.add (k * 9)).off + 1, none⟩ = some (.int .i64 x.q.time) ∧ w'.cell? ⟨(ad.add (k * 9)).block, (ad.add (k * 9)).off + 2, none⟩ = some (.int .i64 x.q.o.kind) ∧ w'.cell? ⟨(ad.add (k * 9)).block, (ad.add (k * 9)).off + 3, none⟩ = some (.string ⟨x.q.o.topic.toArray⟩) ∧ w'.cell? ⟨(ad.add (k * 9)).block, (ad.add (k * 9)).off + 4, none⟩ = some (.string ⟨x.q.o.group.toArray⟩) ∧ w'.cell? ⟨(ad.add (k * 9)).block, (ad.add (k * 9)).off + 5, none⟩ = some (.int .i64 x.q.o.off) ∧ w'.cell? ⟨(ad.add (k * 9)).block, (ad.add (k * 9)).off + 6, none⟩ = some (.slice Ar x.q.o.recs.length cr) ∧ w'.cell? ⟨(ad.add (k * 9)).block, (ad.add (k * 9)).off + 7, none⟩ = some (.int .i64 x.s.1) ∧ w'.cell? ⟨(ad.add (k * 9)).block, (ad.add (k * 9)).off + 8, none⟩ = some (.int .i64 x.s.2)) ∧ (w'.cell? (bd.add (k * 9)) = some (.int .i64 y.q.client) ∧ w'.cell? ⟨(bd.add (k * 9)).block, (bd.add (k * 9)).off + 1, none⟩ = some (.int .i64 y.q.time) ∧ w'.cell? ⟨(bd.add (k * 9)).block, (bd.add (k * 9)).off + 2, none⟩ = some (.int .i64 y.q.o.kind) ∧ w'.cell? ⟨(bd.add (k * 9)).block, (bd.add (k * 9)).off + 3, none⟩ = some (.string ⟨y.q.o.topic.toArray⟩) ∧ w'.cell? ⟨(bd.add (k * 9)).block, (bd.add (k * 9)).off + 4, none⟩ = some (.string ⟨y.q.o.group.toArray⟩) ∧ w'.cell? ⟨(bd.add (k * 9)).block, (bd.add (k * 9)).off + 5, none⟩ = some (.int .i64 y.q.o.off) ∧ w'.cell? ⟨(bd.add (k * 9)).block, (bd.add (k * 9)).off + 6, none⟩ = some (.slice Br y.q.o.recs.length dr) ∧ w'.cell? ⟨(bd.add (k * 9)).block, (bd.add (k * 9)).off + 7, none⟩ = some (.int .i64 y.s.1) ∧ w'.cell? ⟨(bd.add (k * 9)).block, (bd.add (k * 9)).off + 8, none⟩ = some (.int .i64 y.s.2))) (first | exact ⟨HAT1.out, HAT2.out⟩ | exact ⟨HA3.out, HB3.out⟩)
              (first
              | (go_at_call 8; refine (HS1.out 1).mono ?_; rintro e w3 ⟨rfl, hb3⟩; have HS3 := Lib.hid (HSS.out.later (Ga.below_of_drew hb3)); have HA3 := Lib.hid (at9_later HAT1.out (Ga.below_of_drew hb3)); have HB3 := Lib.hid (at9_later HAT2.out (Ga.below_of_drew hb3)); clear hb3))
            all_goals
              go_wp2_with fail
              go_roundw
              case rel => exact ⟨k + 1, by omega, by go_num, HT.out, HS3.out⟩
              case measure => simp [intOf]; omega
          · have HS1 := Lib.hid fun n => (HS.out n).mono (fun e w' h => show e = .returned (.bool false) ∧ _ from ⟨by rw [h.1, decide_eq_false hq], h.2⟩)
            have HT := Lib.hid (HN2.out (fun h => hq (by rw [h])))
            clear hq HS HN1 HN2
            go_wp2_with fail
            go_region_held3 (fun w' => (w'.cell? (ad.add (k * 9)) = some (.int .i64 x.q.client) ∧ w'.cell? ⟨(ad.add (k * 9)).block, (ad.add (k * 9)).off + 1, none⟩ = some (.int .i64 x.q.time) ∧ w'.cell? ⟨(ad.add (k * 9)).block, (ad.add (k * 9)).off + 2, none⟩ = some (.int .i64 x.q.o.kind) ∧ w'.cell? ⟨(ad.add (k * 9)).block, (ad.add (k * 9)).off + 3, none⟩ = some (.string ⟨x.q.o.topic.toArray⟩) ∧ w'.cell? ⟨(ad.add (k * 9)).block, (ad.add (k * 9)).off + 4, none⟩ = some (.string ⟨x.q.o.group.toArray⟩) ∧ w'.cell? ⟨(ad.add (k * 9)).block, (ad.add (k * 9)).off + 5, none⟩ = some (.int .i64 x.q.o.off) ∧ w'.cell? ⟨(ad.add (k * 9)).block, (ad.add (k * 9)).off + 6, none⟩ = some (.slice Ar x.q.o.recs.length cr) ∧ w'.cell? ⟨(ad.add (k * 9)).block, (ad.add (k * 9)).off + 7, none⟩ = some (.int .i64 x.s.1) ∧ w'.cell? ⟨(ad.add (k * 9)).block, (ad.add (k * 9)).off + 8, none⟩ = some (.int .i64 x.s.2)) ∧ (w'.cell? (bd.add (k * 9)) = some (.int .i64 y.q.client) ∧ w'.cell? ⟨(bd.add (k * 9)).block, (bd.add (k * 9)).off + 1, none⟩ = some (.int .i64 y.q.time) ∧ w'.cell? ⟨(bd.add (k * 9)).block, (bd.add (k * 9)).off + 2, none⟩ = some (.int .i64 y.q.o.kind) ∧ w'.cell? ⟨(bd.add (k * 9)).block, (bd.add (k * 9)).off + 3, none⟩ = some (.string ⟨y.q.o.topic.toArray⟩) ∧ w'.cell? ⟨(bd.add (k * 9)).block, (bd.add (k * 9)).off + 4, none⟩ = some (.string ⟨y.q.o.group.toArray⟩) ∧ w'.cell? ⟨(bd.add (k * 9)).block, (bd.add (k * 9)).off + 5, none⟩ = some (.int .i64 y.q.o.off) ∧ w'.cell? ⟨(bd.add (k * 9)).block, (bd.add (k * 9)).off + 6, none⟩ = some (.slice Br y.q.o.recs.length dr) ∧ w'.cell? ⟨(bd.add (k * 9)).block, (bd.add (k * 9)).off + 7, none⟩ = some (.int .i64 y.s.1) ∧ w'.cell? ⟨(bd.add (k * 9)).block, (bd.add (k * 9)).off + 8, none⟩ = some (.int .i64 y.s.2))) (first | exact ⟨HAT1.out, HAT2.out⟩ | exact ⟨HA3.out, HB3.out⟩)
              (first
              | (go_at_call 8; refine (HS1.out 1).mono ?_; rintro e w3 ⟨rfl, hb3⟩; have HS3 := Lib.hid (HSS.out.later (Ga.below_of_drew hb3)); have HA3 := Lib.hid (at9_later HAT1.out (Ga.below_of_drew hb3)); have HB3 := Lib.hid (at9_later HAT2.out (Ga.below_of_drew hb3)); clear hb3))
            all_goals
              go_wp2_with fail
              go_ret
              exact ⟨by rw [HT.out]; rfl, HS3.out.below⟩
        · have hqq : ∀ W : World, (binOp .neq 47 (.agg #[.int .i64 x.s.1, .int .i64 x.s.2]) (.agg #[.int .i64 y.s.1, .int .i64 y.s.2])).run Tryz.prog W = .ok (.bool true) W := fun W => by rw [hqe, show sgB (x.s.1, x.s.2) (y.s.1, y.s.2) = false from sgB_no hsg]; rfl
          have HT := Lib.hid (HN2.out (fun h => hsg (by rw [h])))
          clear hsg hqe HS HN1 HN2
          go_wp2_with fail
          go_quiet (fail)
          go_wp2_with fail
          go_ret
          exact ⟨by rw [HT.out]; rfl, below_drewN HSS.out.below _⟩
      · have hke : k = l.length := by omega
        have HN : Hid (decide (l = m) = true) := Lib.hid (by
          rw [hke, List.take_length, HLEN.out, List.take_length] at htk
          exact decide_eq_true htk)
        have HSS := Lib.hid hs
        clear htk hs
        go_wp2_with fail
        go_ret
        exact ⟨by rw [HN.out]; rfl, HSS.out.below⟩
  · have hn : ((l.length : Int) != (m.length : Int)) = true := by simp only [bne_iff_ne, ne_eq]; omega
    have HN : Hid (decide (l = m) = false) := Lib.hid (decide_eq_false (fun h => hlen (by rw [h])))
    clear hlen
    go_enter Tryz.func11, Tryz.ntmps11
    go_wp2_with fail
    go_ret
    exact ⟨by rw [HN.out]; rfl, HA.out.below⟩
end Go.Proofs.YtebjjkhiniccgaaGreat.Jk

/-
  Layer 8: RequestOnly, whatever it is asked of.
-/
namespace Go.Proofs.YtebjjkhiniccgaaGreat.Ju
set_option linter.unusedSimpArgs false
open Go Go.RowKit Ck Kf Kw Ga Pm Pe Pk Py Qb Ik Lk Ld Jm Ja Jb Jc Jd Je Jf Jg Jh Jk Jl Jn
open Im (num isIn add sum)
attribute [local go_sem ↓] Go.wp_at_zero Go.wp_at_succ
set_option linter.unusedVariables false
set_option maxRecDepth 100000

/-- What stands there all the while. -/
structure OS (w0 : World) (s : Sd) (A : Option Addr) (c : Nat) (p g : Nat) (L : List (List UInt8)) (G : List Sg) (W : World) : Prop where
  below : Below w0.heap.size w0 W
  box : DK W w0.heap.size s A c
  tl : TL W (fun k => w0.heap.size + 1 ≤ k) p g L G
theorem OS.later {w0 W W' : World} {s : Sd} {A : Option Addr} {c p g : Nat} {L : List (List UInt8)} {G : List Sg} (h : OS w0 s A c p g L G W) (b : Below W.heap.size W W') : OS w0 s A c p g L G W' :=
  ⟨h.below.trans (b.mono h.below.size), Blk.below h.box b (Blk.lt h.box), h.tl.later b⟩
theorem OS.step {w0 W W' : World} {s : Sd} {A : Option Addr} {c p g : Nat} {L L' : List (List UInt8)} {G G' : List Sg} {a b : Nat} (h : OS w0 s A c p g L G W) (k : Ch (fun k => w0.heap.size + 1 ≤ k) W W') (ha : w0.heap.size + 1 ≤ a) (t : TL W' (Nw (fun k => w0.heap.size + 1 ≤ k) a b) p g L' G') : OS w0 s A c p g L' G' W' :=
  ⟨h.below.trans (k.below (fun i hi hx => by omega) h.below.size), Blk.ch h.box k (by omega), t.weaken (fun k _ h => by rcases h with h | h <;> omega)⟩
theorem OS.size {w0 W : World} {s : Sd} {A : Option Addr} {c p g : Nat} {L : List (List UInt8)} {G : List Sg} (h : OS w0 s A c p g L G W) : w0.heap.size + 1 ≤ W.heap.size := Blk.lt h.box
theorem bi_one {w : World} {X : Nat → Prop} {d : Sd} {A : Option Addr} {c : Nat} (h : Ls w X (.slice A d.q.o.recs.length c) d.q.o.recs) (hX : ¬ X w.heap.size) : BI (w.alloc (.cells (DC d A c) 53)) X (.slice (some ⟨w.heap.size, 0, none⟩) 1 1) [d] := by
  refine ⟨[(A, c)], rfl, ⟨_, _, rfl, rfl, Nat.le_refl _, by simp only [maxLen]; omega, fun _ => ⟨_, rfl, by simp, hX, fun j u hu => ?_⟩⟩, fun i hi => ?_⟩
  · have h2 : (⟨w.heap.size, 0, none⟩ : Addr).add j = ⟨w.heap.size, j, none⟩ := by unfold Addr.add; split <;> simp_all
    rw [h2, Blk.cell (Blk.new w 53 _) j]
    simpa [flat] using hu
  · have hi0 : i = 0 := by simp at hi; omega
    subst hi0
    exact ⟨(A, c), rfl, h.after (op_below w _)⟩

end Go.Proofs.YtebjjkhiniccgaaGreat.Ju

/-
  Layer 8 (request): lists of requests in memory, opened; the contract of Digest.
-/
import Derived.Test.YtjdmadfjfjenjaaJn
import Derived.Test.YtjdmadfjfjenjaaJh
import Derived.Test.YtjdmadfjfjenjaaJo
namespace Go.Proofs.Ytjdmadfjfjenjaa.Jl
set_option linter.unusedSimpArgs false
open Go Go.RowKit Go.ChangeShapes Go.WideShapes Go.ChangeAt Go.Deep Ck Kf Kw Ga Kp Pm Pe Pk Py Qb Ik Lk Ld Jm Ja Jb Jc Jd Je Jf Jg Jh Jn Jo
open Im (num isIn add sum)
attribute [local go_sem ↓] Go.wp_at_zero Go.wp_at_succ
set_option linter.unusedVariables false
set_option maxRecDepth 100000

theorem QC_len (p : Q × (Option Addr × Nat)) : ((QC p.1 p.2.1 p.2.2).toList).length = 7 := rfl
def flatQ (l : List Q) (rs : List (Option Addr × Nat)) : List Value := (l.zip rs).flatMap fun p => (QC p.1 p.2.1 p.2.2).toList
theorem zipQ_len {l : List Q} {rs : List (Option Addr × Nat)} (h : rs.length = l.length) : (l.zip rs).length = l.length := by rw [List.length_zip]; omega
theorem flatQ_length {l : List Q} {rs : List (Option Addr × Nat)} (h : rs.length = l.length) : (flatQ l rs).length = l.length * 7 := by rw [flatQ, flat_len QC_len, zipQ_len h]
/-- The value v is the requests l; all of it lies in no block of X. -/
def RI (w : World) (X : Nat → Prop) (v : Value) (l : List Q) : Prop :=
  ∃ rs, rs.length = l.length ∧ Sl w X 7 v l.length (flatQ l rs) ∧ ∀ i (h : i < l.length), ∃ r, rs[i]? = some r ∧ Ls w X (.slice r.1 l[i].o.recs.length r.2) l[i].o.recs
section
variable {w w' : World} {X Y S : Nat → Prop} {v : Value} {l : List Q}
theorem RI.after (h : RI w X v l) (hb : Below w.heap.size w w') : RI w' X v l := by
  obtain ⟨rs, h1, h2, h3⟩ := h
  exact ⟨rs, h1, h2.after hb, fun i hi => by obtain ⟨r, h4, h5⟩ := h3 i hi; exact ⟨r, h4, h5.after hb⟩⟩
theorem RI.ch (h : RI w X v l) (c : Ch S w w') (hd : ∀ k, k < w.heap.size → S k → X k) : RI w' X v l := by
  obtain ⟨rs, h1, h2, h3⟩ := h
  exact ⟨rs, h1, h2.ch c hd, fun i hi => by obtain ⟨r, h4, h5⟩ := h3 i hi; exact ⟨r, h4, h5.ch c hd⟩⟩
theorem RI.shape (h : RI w X v l) : ∃ A c, v = .slice A l.length c ∧ l.length ≤ c := by
  obtain ⟨rs, h1, ⟨A, c, rfl, _, hc, _⟩, h3⟩ := h
  exact ⟨A, c, rfl, hc⟩
def At7 (w : World) (ad : Addr) (q : Q) (Ar : Option Addr) (cr : Nat) : Prop :=
  w.cell? ad = some (.int .i64 q.client) ∧ w.cell? ⟨ad.block, ad.off + 1, none⟩ = some (.int .i64 q.time) ∧ w.cell? ⟨ad.block, ad.off + 2, none⟩ = some (.int .i64 q.o.kind) ∧ w.cell? ⟨ad.block, ad.off + 3, none⟩ = some (.string ⟨q.o.topic.toArray⟩)
    ∧ w.cell? ⟨ad.block, ad.off + 4, none⟩ = some (.string ⟨q.o.group.toArray⟩) ∧ w.cell? ⟨ad.block, ad.off + 5, none⟩ = some (.int .i64 q.o.off) ∧ w.cell? ⟨ad.block, ad.off + 6, none⟩ = some (.slice Ar q.o.recs.length cr)
theorem RI.at_ {A : Option Addr} {n c i : Nat} (h : RI w X (.slice A n c) l) (hi : i < l.length) :
    ∃ ad Ar cr, A = some ad ∧ At7 w (ad.add (i * 7)) l[i] Ar cr ∧ Ls w X (.slice Ar l[i].o.recs.length cr) l[i].o.recs := by
  obtain ⟨rs, h1, ⟨A', c', hv, hl, hc, hm, hx⟩, h3⟩ := h
  injection hv with e1 e2 e3
  subst e1
  obtain ⟨⟨Ar, cr⟩, h4, h5⟩ := h3 i hi
  obtain ⟨ad, hA, hb, hX, hcell⟩ := hx (by omega)
  refine ⟨ad, Ar, cr, hA, ?_, h5⟩
  have hz : i < (l.zip rs).length := by rw [zipQ_len h1]; exact hi
  have hr : i < rs.length := by omega
  have he : (l.zip rs)[i] = (l[i], (Ar, cr)) := by
    rw [List.getElem_zip]
    have : rs[i] = (Ar, cr) := by have := List.getElem?_eq_getElem hr; rw [this] at h4; exact Option.some.inj h4
    rw [this]
  have hg : ∀ j, j < 7 → (flatQ l rs)[i * 7 + j]? = ((QC l[i] Ar cr).toList)[j]? := fun j hj => by
    rw [flatQ, flat_get QC_len _ _ hz j hj, he]
  have hof : ∀ j u, j < 7 → ((QC l[i] Ar cr).toList)[j]? = some u → w.cell? ((ad.add (i * 7)).add j) = some u := fun j u hj hu => by
    rw [Ck.add_add]
    exact hcell _ _ (by rw [hg j hj]; exact hu)
  generalize ad.add (i * 7) = a at hof ⊢
  have ha : ∀ j, 0 < j → a.add j = ⟨a.block, a.off + j, none⟩ := fun j hj => by unfold Addr.add; rw [if_neg (by omega)]
  have h0 : a.add 0 = a := by unfold Addr.add; rw [if_pos rfl]
  refine ⟨?_, ?_, ?_, ?_, ?_, ?_, ?_⟩
  · have := hof 0 _ (by omega) rfl; rwa [h0] at this
  · have := hof 1 _ (by omega) rfl; rwa [ha _ (by omega)] at this
  · have := hof 2 _ (by omega) rfl; rwa [ha _ (by omega)] at this
  · have := hof 3 _ (by omega) rfl; rwa [ha _ (by omega)] at this
  · have := hof 4 _ (by omega) rfl; rwa [ha _ (by omega)] at this
  · have := hof 5 _ (by omega) rfl; rwa [ha _ (by omega)] at this
  · have := hof 6 _ (by omega) rfl; rwa [ha _ (by omega)] at this
end
section
variable {H : Type} {enc : TypeId × Value → H}
theorem open_qs {w : World} {fuel : Nat} {base : Nat} {v : Value} {x : DataW H × List MemPlace} (h : DataW.trod enc Try.prog w base (fun _ => true) true fuel 61 [v] = some x) (hR : ∀ n ∈ x.1.weights Try.prog 61, n ≤ 140737488351232) :
    ∃ (l : List Q), RI w (fun k => w.heap.size ≤ k) v l ∧ l.length * 88 ≤ 140737488351232 ∧ ∀ y ∈ l, far y.o 140737488351232 := by
  rcases open_slice Try.underlying61 h with ⟨hcs, rfl⟩ | ⟨a, len, cap, m, n, D, Pl, hcs, _, hl, hm, hmm, rfl, hx⟩
  · obtain rfl : v = .slice none 0 0 := by simpa using hcs
    exact ⟨[], ⟨[], rfl, Sl.nil _ _ _, fun i hi => absurd hi (by simp)⟩, by simp, fun y hy => absurd hy (by simp)⟩
  · obtain rfl : v = .slice (some a) len cap := by simpa using hcs
    simp only [if_true] at hmm
    have each : ∀ i, ∃ r : Q × (Option Addr × Nat), i < len → (∀ j u, (QC r.1 r.2.1 r.2.2).toList[j]? = some u → w.cell? (a.add (i * 7 + j)) = some u) ∧ Ls w (fun k => w.heap.size ≤ k) (.slice r.2.1 r.1.o.recs.length r.2.2) r.1.o.recs ∧ far r.1.o 140737488351232 := by
      intro i
      by_cases hi : i < len
      · obtain ⟨cs', hc, ht⟩ := hx i (by omega)
        obtain ⟨d, Ar, cr, rfl, hb, _, hr⟩ := open_q ht
        rw [cells_req] at hc
        obtain ⟨_, _, hcell⟩ := World.cells?_some hc
        have hw := hr 140737488351232 (fun n hn => hR n (by
          simp only [DataW.weights, Try.underlying61, List.mem_cons, List.mem_append]
          exact .inr (.inl (all_mem hn (List.mem_map.2 ⟨i, by simpa using hi, rfl⟩)))))
        refine ⟨(d, (Ar, cr)), fun _ => ⟨fun j u hu => ?_, hb, hw⟩⟩
        have hj : j < 7 := (List.getElem?_eq_some_iff.1 hu).1
        have h1 := hcell j hj
        rw [Ck.add_add] at h1
        rw [h1, ← hu, List.getElem?_eq_getElem (show j < (QC d Ar cr).toList.length from hj)]
      · exact ⟨(Q.zero, (none, 0)), fun h => absurd h hi⟩
    obtain ⟨f, hf⟩ := Classical.axiomOfChoice each
    have hlen : ((List.range len).map fun i => (f i).1).length = len := by simp
    have hrl : ((List.range len).map fun i => (f i).2).length = ((List.range len).map fun i => (f i).1).length := by simp
    refine ⟨(List.range len).map fun i => (f i).1, ⟨(List.range len).map fun i => (f i).2, hrl, ?_, fun i hi => ?_⟩, ?_, fun y hy => ?_⟩
    · refine ⟨some a, cap, by rw [hlen], by rw [flatQ_length hrl], by rw [hlen]; exact hl, hm, fun hn => ?_⟩
      rw [hlen] at hn
      have h0 := (hf 0 hn).1 0 _ rfl
      refine ⟨a, rfl, by have := World.block_lt_of_cell? w _ h0; rw [Ck.add_block] at this; exact this, by have := World.block_lt_of_cell? w _ h0; rw [Ck.add_block] at this; omega, fun j u hu => ?_⟩
      have hj : j < len * 7 := by
        have := (List.getElem?_eq_some_iff.1 hu).1
        rw [flatQ_length hrl, hlen] at this
        exact this
      have hi : j / 7 < len := by omega
      have hz : j / 7 < (((List.range len).map fun i => (f i).1).zip ((List.range len).map fun i => (f i).2)).length := by rw [zipQ_len hrl, hlen]; exact hi
      have hg := flat_get QC_len (((List.range len).map fun i => (f i).1).zip ((List.range len).map fun i => (f i).2)) (j / 7) hz (j % 7) (by omega)
      rw [show j / 7 * 7 + j % 7 = j by omega] at hg
      rw [flatQ, hg] at hu
      have := (hf (j / 7) hi).1 (j % 7) u (by
        rw [← hu]
        congr 1
        simp)
      rwa [show j / 7 * 7 + j % 7 = j by omega] at this
    · have hi' : i < len := by simpa using hi
      refine ⟨(f i).2, by simp [hi'], ?_⟩
      have := (hf i hi').2.1
      simpa using this
    · have := hR _ (by simp only [DataW.weights, Try.underlying61]; exact List.mem_cons_self)
      rw [bytes_req] at this
      simp only [List.length_map, List.length_range] at this ⊢
      omega
    · obtain ⟨i, hi, rfl⟩ := List.mem_map.1 hy
      have hi' : i < len := by simpa using hi
      exact (hf i hi').2.2
end

/-- What Digest leaves. -/
def Digested (S : Nat → Prop) (p g : Nat) (L : List (List UInt8)) (G : List Sg) (l : List Sd) (w : World) (e : Ending) (w' : World) : Prop :=
  e = .returned (.tuple #[.int .i64 (digR L l).1, .int .i64 (digR L l).2]) ∧ TL w' (Nw S w.heap.size w'.heap.size) p g (digT L l) G ∧ Ch S w w'
theorem nw_refl {w w' : World} {S : Nat → Prop} {p g : Nat} {L : List (List UInt8)} {G : List Sg} (h : TL w' S p g L G) : TL w' (Nw S w.heap.size w'.heap.size) p g L G := h.weaken (fun k _ h => .inl h)
set_option maxHeartbeats 4000000 in
theorem digest_any (w : World) (S X : Nat → Prop) (p g : Nat) (L : List (List UInt8)) (G : List Sg) (l : List Sd) (vl : Value) (h : TL w S p g L G) (hb : BI w X vl l) (hr : ∀ x ∈ l, x.q.o.recs.length ≤ 140737488355328) (hl63 : l.length ≤ 140737488355328) :
    Calls Try.prog 38 #[.pointer (some ⟨p, 0, none⟩), vl] w (Digested S p g L G l w) := by
  obtain ⟨A, c, rfl, -⟩ := hb.shape
  have HC := Lib.hid (cbatch_any w X _ l hb hr hl63)
  have HT := Lib.hid h
  have HB := Lib.hid hb
  have HR := Lib.hid hr
  have HL := Lib.hid hl63
  clear h hb hr hl63
  by_cases hc : bcheck l = 0
  · rw [hc] at HC
    have HBL := Lib.hid (braw_len hc)
    have HBF := Lib.hid (bform_eq hc)
    have HDT := Lib.hid (digT_ok (L := L) hc)
    have HDO := Lib.hid fun h => digR_ok (L := L) hc h
    have HDF := Lib.hid fun h => digR_full (L := L) hc h
    clear hc
    go_enter Try.func38, Try.ntmps38
    go_wp2_with fail
    refine HC.out.mono ?_
    rintro e w1 ⟨rfl, hb1⟩
    have HB1 := Lib.hid hb1
    have HT1 := Lib.hid (HT.out.later hb1)
    have HI1 := Lib.hid (HB.out.after hb1)
    obtain ⟨S1, S2, tb1, -⟩ := id HT1.out
    have HM := Lib.hid (madet_any w1 S1 p L tb1)
    clear hb1 tb1
    go_wp2_with fail
    refine HM.out.mono ?_
    rintro e w2 ⟨rfl, hb2⟩
    have HB2 := Lib.hid (HB1.out.trans (hb2.mono HB1.out.size))
    have HT2 := Lib.hid (HT1.out.later hb2)
    have HP := Lib.hid (putbatch_any l _ X (fun _ => False) (.slice none 0 0) 0 [] w2 (HI1.out.after hb2) HR.out HL.out (Sl.nil _ _ _) (by simp))
    rw [HBF.out, List.nil_append] at HP
    clear hb2 HM
    go_wp2_with fail
    refine HP.out.mono ?_
    rintro e w3 ⟨v3, rfl, ho3, hb3⟩
    obtain ⟨A3, c3, rfl⟩ := own_shape ho3
    have HB3 := Lib.hid (HB2.out.trans (hb3.mono HB2.out.size))
    have HT3 := Lib.hid (HT2.out.later hb3)
    have HO3 := Lib.hid (Sl.of_own (X := fun _ => False) ho3 (fun _ _ _ h => h))
    clear ho3 hb3 HP
    have HS : Hid (Calls Try.prog 68 #[.pointer (some ⟨p, 0, none⟩), .slice A3 (braw l).length c3] w3 fun e w' => e = .returned (.int .i64 (sum L (braw l) : Int)) ∧ TL w' (Nw S w3.heap.size w'.heap.size) p g (add L (braw l)) G ∧ Ch S w3 w') := Lib.hid (by
      obtain ⟨T1, T2, t1, t2, t3, t4, t5⟩ := HT3.out
      refine (Ib.sum_yes w3 T1 _ p L A3 c3 (braw l) t1 HO3.out (by have := HBL.out; omega)).mono ?_
      rintro e w' ⟨he, h1, h2⟩
      refine ⟨he, ?_⟩
      have hs := h2.size
      refine ⟨⟨Up T1 w3 w', T2, h1, t2.ch h2 (fun k hk hx => t3 k hx hk), ?_, ?_, ?_⟩, h2.mono (fun k _ hk => (t4 k hk).1)⟩
      · rintro k (hk | hk) hk2
        · exact t3 k hk hk2
        · have := (t5 k hk2).2; omega
      · rintro k (hk | hk)
        · exact ⟨.inl (t4 k hk).1, by have := (t4 k hk).2; omega⟩
        · exact ⟨.inr hk, hk.2⟩
      · intro k hk
        exact ⟨.inl (t5 k hk).1, by have := (t5 k hk).2; omega⟩)
    go_wp2_with fail
    refine HS.out.mono ?_
    rintro e w4 ⟨rfl, ht4, hc4⟩
    have HT4 : Hid (TL w4 (Nw S w.heap.size w4.heap.size) p g (digT L l) G) := Lib.hid (by rw [HDT.out]; exact ht4.weaken (fun k _ h => h.imp id (fun h => ⟨by have := HB3.out.size; omega, h.2⟩)))
    have HC4 : Hid (Ch S w w4) := Lib.hid ((Ch.of_below (S := S) HB3.out (Nat.le_refl _)).trans hc4 (fun _ _ h => h))
    clear ht4 hc4 HS
    by_cases h0 : sum L (braw l) = 0
    · have HD := Lib.hid (HDF.out h0)
      have hd : ((sum L (braw l) : Int) == 0) = true := by rw [h0]; rfl
      clear h0
      generalize (sum L (braw l) : Int) = z at *
      go_wp2_with fail
      go_ret2
      exact ⟨by rw [HD.out]; rfl, HT4.out, HC4.out⟩
    · have HD := Lib.hid (HDO.out h0)
      have hd : ((sum L (braw l) : Int) == 0) = false := by rw [beq_eq_false_iff_ne]; omega
      clear h0 HDO HDF
      generalize (sum L (braw l) : Int) = z at *
      go_wp2_with fail
      go_ret2
      exact ⟨by rw [HD.out]; rfl, HT4.out, HC4.out⟩
  · have hd : (bcheck l != 0) = true := by simpa using hc
    have hd2 : (bcheck l == 0) = false := by simpa using hc
    have HD := Lib.hid (And.intro (digR_bad (L := L) hc) (digT_bad (L := L) hc))
    clear hc
    go_enter Try.func38, Try.ntmps38
    go_wp2_with fail
    refine HC.out.mono ?_
    rintro e w1 ⟨rfl, hb1⟩
    have HT1 := Lib.hid (HT.out.later hb1)
    have HB1 := Lib.hid hb1
    clear hb1
    go_wp2_with fail
    go_ret2
    exact ⟨by rw [HD.out.1]; rfl, by rw [HD.out.2]; exact nw_refl HT1.out, Ch.of_below (S := S) HB1.out (Nat.le_refl _)⟩
end Go.Proofs.Ytjdmadfjfjenjaa.Jl

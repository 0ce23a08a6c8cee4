/-
  Layer 7: TopicsOnce, whatever the requests.
-/
import Derived.Test.YtcmknopgoiabbaaBu
import Derived.Test.YtcmknopgoiabbaaBv
import Derived.Test.YtcmknopgoiabbaaAo
import Derived.Test.YtcmknopgoiabbaaAl
import Derived.Deep.RegionLaw
namespace Go.Proofs.Ytcmknopgoiabbaa.Av
set_option linter.unusedSimpArgs false
open Go Go.RowKit Ck Kw Ga Kf Km Pm Pe Pz Tm Tn Tq Aa Ab Ag Ah Aj An Ao Bt Bu Bv
attribute [local go_sem ↓] Go.wp_at_zero Go.wp_at_succ
set_option linter.unusedVariables false

/-- What is known ahead of request k. -/
structure SO (w : World) (p m k : Nat) (wr : World) (s : St) (n : Nat) (D : DataW Unit) (f : Lit → Bool) : Prop where
  below : Below w.heap.size w wr
  on : On (fun q => q < w.heap.size ∨ q = m) wr p s
  dm : DM wr m n s D f
  mb : w.heap.size ≤ m ∧ m < wr.heap.size
  num : n ≤ k
theorem dm_new {w : World} {m : Nat} (h : w.ownsMap Try.prog 38 boElem m 0 (.map [])) : DM w m 0 St.zero (.map []) (fun _ => false) :=
  ⟨h, fun l => rfl, fun c t l _ h => by cases h⟩
theorem _root_.Go.Proofs.Ytcmknopgoiabbaa.Bv.DM.ch {w w' : World} {X : Nat → Prop} {m n : Nat} {s : St} {D : DataW Unit} {f : Lit → Bool} (h : DM w m n s D f) (c : Ch X w w') (hm : ¬ X m) : DM w' m n s D f := ⟨map_ch h.own c hm, h.at_, h.done⟩
noncomputable def put1 (f : Lit → Bool) (l : Lit) (b : Bool) : Lit → Bool := fun l' => @ite _ (l' = l) (Classical.propDecidable _) b (f l')
/-- One key more. -/
theorem _root_.Go.Proofs.Ytcmknopgoiabbaa.Bv.DM.put {w : World} {m n n' : Nat} {s : St} {D : DataW Unit} {f : Lit → Bool} (h0 : DM w m n s D f) {w' : World} {c t : Int} {o : O} {l : Lit} (h8 : s.last.length = 8) (hl : keyOf Try.prog 38 (kv c t) = some l) {b : Bool} (hb : b = (f l || (appS s c t o).2.2.1)) (hm : w'.ownsMap Try.prog 38 boElem m n' (D.put l (.lit (.bool b)))) :
    DM w' m n' (appS s c t o).2.2.2 (D.put l (.lit (.bool b))) (put1 f l b) := by
  refine ⟨hm, fun l' => ?_, fun c' t' l' hl' hf => ?_⟩
  · unfold put1
    by_cases e : l' = l
    · subst e
      rw [if_pos rfl]
      exact Maps.atKey_put_same h0.own.isMap (law_k.key hl) _ _
    · rw [if_neg e, ← h0.at_]
      exact Maps.atKey_put_other e _ _
  · unfold put1 at hf
    by_cases e : l' = l
    · subst e
      obtain ⟨rfl, rfl⟩ := kv_inj hl' hl
      rw [if_pos rfl, hb, Bool.or_eq_true] at hf
      rcases hf with hf | hf
      · obtain ⟨h1, h2⟩ := h0.done _ _ _ hl hf
        exact ⟨h1, Int.le_trans h2 (tm_mono h8 _ _ o _ h1)⟩
      · obtain ⟨h1, h2, h3, h4, h5⟩ := (once h8 _ _ o).1 hf
        exact ⟨h1, by omega⟩
    · rw [if_neg e] at hf
      obtain ⟨h1, h2⟩ := h0.done _ _ _ hl' hf
      exact ⟨h1, Int.le_trans h2 (tm_mono h8 _ _ o _ h1)⟩
/-- What is done was not done. -/
theorem _root_.Go.Proofs.Ytcmknopgoiabbaa.Bv.DM.fresh {w : World} {m n : Nat} {s : St} {D : DataW Unit} {f : Lit → Bool} (h0 : DM w m n s D f) {c t : Int} {o : O} {l : Lit} (h8 : s.last.length = 8) (hl : keyOf Try.prog 38 (kv c t) = some l) (hd : (appS s c t o).2.2.1 = true) : f l = false := by
  cases hf : f l with
  | false => rfl
  | true =>
    obtain ⟨h1, h2⟩ := h0.done _ _ _ hl hf
    obtain ⟨_, _, h3, _⟩ := (once h8 c t o).1 hd
    omega
/-- Asked again at once. -/
theorem calm {P : Program} {c : Code} {Q : Exit → Act → World → Prop} {a : Act} {w : World} (h : c.wp P (Exit.then (fun a w => Q .normal a w) (fun _ _ _ => False)) a w) : c.wp P Q a w :=
  wp_mono h (fun e a w h => by cases e <;> first | exact h | exact h.elim)
theorem again {s : St} (h8 : s.last.length = 8) (c t : Int) (o : O) : appS (appS s c t o).2.2.2 c t o = ((appS s c t o).1, [], false, (appS s c t o).2.2.2) := by
  cases hd : (appS s c t o).2.2.1 with
  | true => exact ((once h8 c t o).1 hd).2.2.2.2
  | false =>
    obtain ⟨h1, h2⟩ := (once h8 c t o).2 hd
    obtain ⟨⟨r, pl, b, s'⟩, he⟩ : ∃ x, appS s c t o = x := ⟨_, rfl⟩
    rw [he] at h1 h2 hd ⊢
    simp only at h1 h2 hd ⊢
    subst h1; subst h2; subst hd
    exact he
theorem _root_.Go.Proofs.Ytcmknopgoiabbaa.An.On.bytes {N : Nat → Prop} {p : Nat} {w : World} {s : St} (h : On N w p s) : Calls Try.prog 8 #[.pointer (some ⟨p, 0, none⟩)] w fun e w' => Made w 5 (stB s) e w' := by
  obtain ⟨S, R, h1, h2, h3⟩ := h
  exact bytes_all w S R p s h1 (fun k hk => (h2 k hk).2)

set_option maxRecDepth 100000 in
set_option maxHeartbeats 8000000 in
theorem once_any (w : World) (A : Option Addr) (c : Nat) (rs : List Rq) (hr : Rqs w A rs) (hin : ∀ i (hi : i < rs.length), InR rs[i].client ∧ InR rs[i].time) (hl : rs.length * 88 ≤ 140737488351232) :
    Calls Try.prog 3 #[.slice A rs.length c] w fun e w' => e = .returned (.bool true) ∧ Below w.heap.size w w' := by
  have HRQ := Lib.hid hr
  have HIN := Lib.hid hin
  clear hr hin
  go_enter Try.func3, Try.ntmps3
  go_wp2_with fail
  refine (live_any w).mono ?_
  rintro e w1 ⟨rfl, hb1⟩
  have HB1 := Lib.hid hb1
  clear hb1
  go_wp2_with fail
  refine (new_any w1).mono ?_
  rintro e w2 ⟨p, rfl, hz2, hb2⟩
  have HO2 := Lib.hid ((on_new hz2).weaken (N' := fun k => k < w.heap.size) (fun k hk => by have := HB1.out.size; omega))
  have HB2 := Lib.hid (HB1.out.trans (hb2.mono HB1.out.size))
  clear hz2 hb2
  have hmk : (Instr.makeMap 26 none).run Try.prog w2 = .ok (.map (some w2.heap.size)) (w2.alloc (.map #[] 0)) := by kernel_rfl
  go_wp2_with fail
  clear hmk
  have hb3 := op_below w2 (.map #[] 0)
  have hm3 : (w2.alloc (.map #[] 0)).ownsMap Try.prog 38 boElem w2.heap.size 0 (.map []) := World.ownsMap_made w2 _ _ _
  generalize w2.alloc (.map #[] 0) = w3 at hb3 hm3 ⊢
  have hst : SO w p w2.heap.size 0 w3 St.zero 0 (.map []) (fun _ => false) :=
    ⟨HB2.out.trans (hb3.mono HB2.out.size), (HO2.out.skip hb3).weaken (fun q hq => by
      rcases hq with hq | hq
      · exact .inl hq
      · subst hq; exact .inr ⟨Nat.le_refl _, hm3.lt⟩), dm_new hm3, ⟨HB2.out.size, hm3.lt⟩, Nat.zero_le _⟩
  have HST := Lib.hid hst
  clear hb3 hm3 hst
  go_loopw [21] (fun i wr => ∃ (k : Nat) (s : St) (n : Nat) (D : DataW Unit) (f : Lit → Bool), k ≤ rs.length ∧ i = .int .i64 k ∧ SO w p w2.heap.size k wr s n D f) (fun i _ => rs.length - (intOf i).toNat)
  case atStart => exact ⟨0, _, _, _, _, Nat.zero_le _, rfl, HST.out⟩
  case round =>
    obtain ⟨k, s, n, D, f, hk, rfl, hso⟩ := hrel
    clear HST
    have HSO := Lib.hid hso
    clear hso
    by_cases hlt : k < rs.length
    · obtain ⟨ad, Ar, cr, rfl, a0, a1, a2, a3, a4, a5, a6, hls, ht1, ht2⟩ := HRQ.out.at_ HSO.out.below hlt
      obtain ⟨hi1, hi2⟩ := HIN.out k hlt
      generalize rs[k] = r at *
      obtain ⟨l, hl1⟩ := key_kv hi1 hi2
      have HKL := Lib.hid hl1
      have hba := op_below wr (.cells (RC r.client r.time r.o Ar cr) 31)
      have hra : Blk (wr.alloc (.cells (RC r.client r.time r.o Ar cr) 31)) wr.heap.size 31 (RC r.client r.time r.o Ar cr) := Blk.new wr _ _
      have HLS := Lib.hid (hls.after hba)
      have HT := Lib.hid (And.intro ht1 ht2)
      have hsz := HSO.out.below.size
      have hmb := HSO.out.mb
      have hzz := hba.size
      have hon := HSO.out.on.skip hba
      have HON := Lib.hid hon
      have hN : ∀ q, ((q < w.heap.size ∨ q = w2.heap.size) ∨ (wr.heap.size ≤ q ∧ q < (wr.alloc (.cells (RC r.client r.time r.o Ar cr) 31)).heap.size)) → q < (wr.alloc (.cells (RC r.client r.time r.o Ar cr) 31)).heap.size := fun q hq => by
        rcases hq with (hq | hq) | hq <;> omega
      have HAP := Lib.hid (hon.asked (s' := (appS s r.client r.time r.o).2.2.2) (k := (appS s r.client r.time r.o).1.1) (off := (appS s r.client r.time r.o).1.2) (b := (appS s r.client r.time r.o).2.2.1) (pl := (appS s r.client r.time r.o).2.1) hN (HLS.out) HT.out.2 rfl)
      have HBA := Lib.hid (And.intro hba hra)
      clear hls ht1 ht2 hba hra hon hN hl1 hi1 hi2 hmb hsz hzz
      unfold RV at HAP
      unfold RC at HAP HLS HBA HON
      go_wp2_with fail
      generalize wr.alloc (.cells #[.int .i64 r.client, .int .i64 r.time, .int .i64 r.o.kind, .string ⟨r.o.topic.toArray⟩, .string ⟨r.o.group.toArray⟩, .int .i64 r.o.off, .slice Ar r.o.recs.length cr] 31) = wa at *
      clear a0 a1 a2 a3 a4 a5 a6
      refine HAP.out.mono ?_
      rintro e w4 ⟨v, B, rfl, hB, hp, ho, hc⟩
      have h8 := HSO.out.on.good.eight
      have HAG := Lib.hid (again h8 r.client r.time r.o)
      have HFR := Lib.hid (fun hd => HSO.out.dm.fresh (o := r.o) h8 HKL.out hd)
      have HPUT := Lib.hid (fun (w' : World) (n' : Nat) (b : Bool) (hb : b = (f l || (appS s r.client r.time r.o).2.2.1)) (hm : w'.ownsMap Try.prog 38 boElem w2.heap.size n' (D.put l (.lit (.bool b)))) => HSO.out.dm.put (o := r.o) h8 HKL.out hb hm)
      have hdm4 := (HSO.out.dm.ch (Ch.of_below (S := fun _ => False) HBA.out.1 (Nat.le_refl _)) (fun h => h)).ch hc (fun h => h.1 (.inl (.inr rfl)))
      have hlr : wr.heap.size < wa.heap.size := HBA.out.2.lt
      have hreq4 := HBA.out.2.ch hc (fun h => h.1 (.inr ⟨Nat.le_refl _, hlr⟩))
      clear h8
      generalize happ : appS s r.client r.time r.o = ap at *
      obtain ⟨⟨ae, af⟩, pl, ab, s'⟩ := ap
      simp only at hp ho HAG HFR HPUT ⊢
      have HW4 := Lib.hid (And.intro hB (And.intro hp (And.intro ho hc)))
      clear happ hB hp ho hc
      obtain ⟨Av, cv, rfl⟩ : ∃ Av cv, v = .slice Av pl.length cv := by
        obtain ⟨l', h1, h2, h3⟩ := HW4.out.2.1
        exact own_shape h2
      have hb6 : Below w4.heap.size w4 ((w4.alloc (.cells #[.int .i64 ae, .int .i64 af] 34)).alloc (.cells #[.int .i64 r.client, .int .i64 r.time] 38)) := two_below _ _ _
      have hdm6 := hdm4.ch (Ch.of_below (S := fun _ => False) hb6 (Nat.le_refl _)) (fun h => h)
      have hlk := hdm6.look HKL.out
      have hk6 : Blk ((w4.alloc (.cells #[.int .i64 ae, .int .i64 af] 34)).alloc (.cells #[.int .i64 r.client, .int .i64 r.time] 38)) (w4.heap.size + 1) 38 #[.int .i64 r.client, .int .i64 r.time] := Blk.new_at (by simp) rfl
      have hs6 : Blk ((w4.alloc (.cells #[.int .i64 ae, .int .i64 af] 34)).alloc (.cells #[.int .i64 r.client, .int .i64 r.time] 38)) w4.heap.size 34 #[.int .i64 ae, .int .i64 af] := (Blk.new_at rfl rfl).alloc _
      have hreq5 := hreq4.below (op_below w4 (.cells #[.int .i64 ae, .int .i64 af] 34)) hreq4.lt
      have b0 := hreq5.cell 0
      have b1 := hreq5.cell 1
      clear hreq5
      simp only [List.getElem?_toArray, List.getElem?_cons_zero, List.getElem?_cons_succ] at b0 b1
      unfold kv at hlk
      have HDM6 := Lib.hid hdm6
      have HK6 := Lib.hid hk6
      have HS6 := Lib.hid hs6
      have HB6 := Lib.hid hb6
      have HREQ := Lib.hid hreq4
      clear hdm4 hdm6 hk6 hs6 hb6 hreq4
      have hcase : (ab = true ∧ f l = false) ∨ (ab = false ∧ f l = true) ∨ (ab = false ∧ f l = false) := by
        cases ab with
        | true => exact .inl ⟨rfl, HFR.out rfl⟩
        | false => cases hf : f l with
          | true => exact .inr (.inl ⟨rfl, rfl⟩)
          | false => exact .inr (.inr ⟨rfl, rfl⟩)
      rcases hcase with ⟨rfl, hfl⟩ | ⟨rfl, hfl⟩ | ⟨rfl, hfl⟩
      · rw [hfl] at hlk
        have HFL := Lib.hid hfl
        clear hfl
        go_wp2_with fail
        clear hlk b0 b1
        generalize (w4.alloc (.cells #[.int .i64 ae, .int .i64 af] 34)).alloc (.cells #[.int .i64 r.client, .int .i64 r.time] 38) = W6 at *
        have k0 := HK6.out.cell 0
        have k1 := HK6.out.cell 1
        simp only [List.getElem?_toArray, List.getElem?_cons_zero, List.getElem?_cons_succ] at k0 k1
        have hdD := HDM6.out.ch ((Ch.refl (fun _ => False) W6).drew) (fun h => h)
        have hlkD := hdD.look HKL.out
        rw [HFL.out] at hlkD
        unfold kv at hlkD
        have hnm : n < maxLen := by have := HSO.out.num; simp only [maxLen]; omega
        obtain ⟨w7, hst7, hmap7, hturn7⟩ := hdD.own.store law_k Try.underlying26 hnm HKL.out (boElem_mk true)
        unfold kv at hst7
        have HM7 := Lib.hid (And.intro hmap7 hturn7.grown)
        clear hdD hnm hmap7 hturn7
        refine calm ?_
        first | go_region | go_region_law (fail)
        all_goals
          clear hlkD hst7 k0 k1
          have hlt6 : w4.heap.size < W6.heap.size := HS6.out.lt
          have hc7 : Ch (fun q => q = w2.heap.size) W6 w7 := ch_of_drew (Ch.of_grown HM7.out.2 (fun g hg _ => by injection hg with e; exact e.symm))
          have hdm7 := HPUT.out w7 (n + 1) true (by rw [HFL.out]; rfl) HM7.out.1
          have hon7 := (HW4.out.2.2.1.skip HB6.out).ch hc7 (fun q hq => by subst hq; exact .inl (.inl (.inl (.inr rfl))))
          have hmb := HSO.out.mb
          have hs0 := HSO.out.below.size
          have hsa := HBA.out.1.size
          have hs4 := HW4.out.2.2.2.size
          have hs6 := HB6.out.size
          have hs7 := hc7.size
          have hreq7 := (HREQ.out.below HB6.out HREQ.out.lt).ch hc7 (by omega)
          have hres7 := HS6.out.ch hc7 (by omega)
          have hba7 : Below w.heap.size wa w7 := ((HW4.out.2.2.2.below (B := w.heap.size) (fun q hq h => h.1 (.inl (.inl hq))) (by omega)).trans (HB6.out.mono (by omega))).trans (hc7.below (B := w.heap.size) (fun q hq h => by omega) (by omega))
          have HON7 := Lib.hid hon7
          have HDM7 := Lib.hid hdm7
          have HREQ7 := Lib.hid hreq7
          have HRES7 := Lib.hid hres7
          have HBA7 := Lib.hid hba7
          clear hc7 hdm7 hon7 hreq7 hres7 hba7 HDM6 HK6 HS6 HREQ HM7
          go_wp2_with fail
          refine HON7.out.bytes.mono ?_
          rintro e w8 ⟨vw, rfl, how, hb8⟩
          obtain ⟨Aw, cw, rfl⟩ := own_shape how
          have hs8 := hb8.size
          have hon8 := HON7.out.skip hb8
          have hls8 := HLS.out.below (HBA7.out.trans (hb8.mono (by omega))) (fun q _ h => h)
          have hreq8 := HREQ7.out.below hb8 HREQ7.out.lt
          have HRES8 := Lib.hid (HRES7.out.below hb8 HRES7.out.lt)
          have HOW := Lib.hid how
          have HB8 := Lib.hid hb8
          have b0 := hreq8.cell 0
          have b1 := hreq8.cell 1
          have b2 := hreq8.cell 2
          have b3 := hreq8.cell 3
          have b4 := hreq8.cell 4
          have b5 := hreq8.cell 5
          have b6 := hreq8.cell 6
          simp only [List.getElem?_toArray, List.getElem?_cons_zero, List.getElem?_cons_succ] at b0 b1 b2 b3 b4 b5 b6
          have HAP8 := Lib.hid (hon8.asked (s' := s') (k := ae) (off := af) (b := false) (pl := []) (fun q hq => by rcases hq with ((((hq | hq) | hq) | hq) | hq) | hq <;> omega) hls8 HT.out.2 HAG.out)
          unfold RV RC at HAP8
          clear how hb8 hon8 hls8 hreq8
          go_wp2_with fail
          refine HAP8.out.mono ?_
          rintro e w9 ⟨v9, B9, rfl, hB9, hp9, ho9, hc9⟩
          obtain ⟨A9, c9, rfl⟩ : ∃ A9 c9, v9 = .slice A9 0 c9 := by
            obtain ⟨l', h1, h2, h3⟩ := hp9
            exact own_shape h2
          clear b0 b1 b2 b3 b4 b5 b6
          have hs9 := hc9.size
          have hres9 := HRES8.out.ch hc9 (fun h => h.1 (.inl (.inr ⟨Nat.le_refl _, by omega⟩)))
          have hb10 := op_below w9 (.cells #[.int .i64 ae, .int .i64 af] 34)
          have hon10 := ho9.skip hb10
          have hres10 := hres9.below hb10 hres9.lt
          have r0 := hres10.cell 0
          have r1 := hres10.cell 1
          simp only [List.getElem?_toArray, List.getElem?_cons_zero, List.getElem?_cons_succ] at r0 r1
          have hk12 : Blk (w9.alloc (.cells #[.int .i64 ae, .int .i64 af] 34)) w9.heap.size 34 #[.int .i64 ae, .int .i64 af] := Blk.new _ _ _
          have u0 := hk12.cell 0
          have u1 := hk12.cell 1
          simp only [List.getElem?_toArray, List.getElem?_cons_zero, List.getElem?_cons_succ] at u0 u1
          have how9 := own_ch HOW.out hc9 (fun q hq h => h.1 (.inr ⟨(HOW.out.lt q hq).1, (HOW.out.lt q hq).2⟩))
          have how10 := own_below how9 hb10
          have hdm10 := ((HDM7.out.ch (Ch.of_below (S := fun _ => False) HB8.out (Nat.le_refl _)) (fun h => h)).ch hc9 (fun h => h.1 (.inl (.inl (.inl (.inl (.inr rfl))))))).ch (Ch.of_below (S := fun _ => False) hb10 (Nat.le_refl _)) (fun h => h)
          have hs10 := hb10.size
          have hb9 : Below w.heap.size w8 w9 := hc9.below (B := w.heap.size) (fun q hq h => h.1 (.inl (.inl (.inl (.inl (.inl hq)))))) (by omega)
          have hbw10 : Below w.heap.size w (w9.alloc (.cells #[.int .i64 ae, .int .i64 af] 34)) := ((HSO.out.below.trans (HBA.out.1.mono (by omega))).trans HBA7.out).trans (((HB8.out.mono (by omega)).trans hb9).trans (hb10.mono (by omega)))
          have HON10 := Lib.hid hon10
          have HOW10 := Lib.hid how10
          have HDM10 := Lib.hid hdm10
          have HBW10 := Lib.hid hbw10
          clear hb10 hon10 hres10 hk12 how9 how10 hdm10 hb9 hbw10 hres9 hB9 hp9 ho9 hc9 HRES8
          go_wp2_with fail
          refine HON10.out.bytes.mono ?_
          rintro e w11 ⟨vb, rfl, hob, hb11⟩
          obtain ⟨Ab, cb, rfl⟩ := own_shape hob
          have HOB := Lib.hid hob
          have HB11 := Lib.hid hb11
          clear hob hb11 r0 r1 u0 u1
          go_wp2_with fail
          refine (Ga.equal_any w11 (fun _ => False) (fun _ => False) _ _ _ _ (stB s') (stB s') (Sl.of_own (own_below HOW10.out HB11.out) (fun _ _ _ h => h)) (Sl.of_own HOB.out (fun _ _ _ h => h))).mono ?_
          rintro e w12 ⟨rfl, rfl⟩
          rw [beq_self_eq_true]
          have hs11 := HB11.out.size
          have hso : SO w p w2.heap.size (k + 1) w11 s' (n + 1) (D.put l (.lit (.bool true))) (put1 f l true) := ⟨HBW10.out.trans (HB11.out.mono (by have := HBW10.out.size; omega)), (HON10.out.later HB11.out).weaken (fun q hq => .inl (.inl (.inl (.inl (.inl (.inl hq)))))), HDM10.out.ch (Ch.of_below (S := fun _ => False) HB11.out (Nat.le_refl _)) (fun h => h), ⟨hmb.1, by omega⟩, by have := HSO.out.num; omega⟩
          have HSO' := Lib.hid hso
          clear hso
          go_wp2_with fail
          go_roundw
          case rel => exact ⟨k + 1, _, _, _, _, by omega, by go_num, HSO'.out⟩
          case measure => simp [intOf]; omega
      · rw [hfl] at hlk
        have HFL := Lib.hid hfl
        clear hfl
        go_wp2_with fail
        clear hlk b0 b1
        generalize (w4.alloc (.cells #[.int .i64 ae, .int .i64 af] 34)).alloc (.cells #[.int .i64 r.client, .int .i64 r.time] 38) = W6 at *
        have k0 := HK6.out.cell 0
        have k1 := HK6.out.cell 1
        simp only [List.getElem?_toArray, List.getElem?_cons_zero, List.getElem?_cons_succ] at k0 k1
        have hdD := HDM6.out.ch ((Ch.refl (fun _ => False) W6).drew) (fun h => h)
        have hlkD := hdD.look HKL.out
        rw [HFL.out] at hlkD
        unfold kv at hlkD
        have hnm : n < maxLen := by have := HSO.out.num; simp only [maxLen]; omega
        obtain ⟨w7, hst7, hmap7, hturn7⟩ := hdD.own.store law_k Try.underlying26 hnm HKL.out (boElem_mk true)
        unfold kv at hst7
        have HM7 := Lib.hid (And.intro hmap7 hturn7.grown)
        clear hdD hnm hmap7 hturn7
        refine calm ?_
        first | go_region | go_region_law (fail)
        all_goals
          clear hlkD hst7 k0 k1
          have hlt6 : w4.heap.size < W6.heap.size := HS6.out.lt
          have hc7 : Ch (fun q => q = w2.heap.size) W6 w7 := ch_of_drew (Ch.of_grown HM7.out.2 (fun g hg _ => by injection hg with e; exact e.symm))
          have hdm7 := HPUT.out w7 (n + 1) true (by rw [HFL.out]; rfl) HM7.out.1
          have hon7 := (HW4.out.2.2.1.skip HB6.out).ch hc7 (fun q hq => by subst hq; exact .inl (.inl (.inl (.inr rfl))))
          have hmb := HSO.out.mb
          have hs0 := HSO.out.below.size
          have hsa := HBA.out.1.size
          have hs4 := HW4.out.2.2.2.size
          have hs6 := HB6.out.size
          have hs7 := hc7.size
          have hreq7 := (HREQ.out.below HB6.out HREQ.out.lt).ch hc7 (by omega)
          have hres7 := HS6.out.ch hc7 (by omega)
          have hba7 : Below w.heap.size wa w7 := ((HW4.out.2.2.2.below (B := w.heap.size) (fun q hq h => h.1 (.inl (.inl hq))) (by omega)).trans (HB6.out.mono (by omega))).trans (hc7.below (B := w.heap.size) (fun q hq h => by omega) (by omega))
          have HON7 := Lib.hid hon7
          have HDM7 := Lib.hid hdm7
          have HREQ7 := Lib.hid hreq7
          have HRES7 := Lib.hid hres7
          have HBA7 := Lib.hid hba7
          clear hc7 hdm7 hon7 hreq7 hres7 hba7 HDM6 HK6 HS6 HREQ HM7
          go_wp2_with fail
          refine HON7.out.bytes.mono ?_
          rintro e w8 ⟨vw, rfl, how, hb8⟩
          obtain ⟨Aw, cw, rfl⟩ := own_shape how
          have hs8 := hb8.size
          have hon8 := HON7.out.skip hb8
          have hls8 := HLS.out.below (HBA7.out.trans (hb8.mono (by omega))) (fun q _ h => h)
          have hreq8 := HREQ7.out.below hb8 HREQ7.out.lt
          have HRES8 := Lib.hid (HRES7.out.below hb8 HRES7.out.lt)
          have HOW := Lib.hid how
          have HB8 := Lib.hid hb8
          have b0 := hreq8.cell 0
          have b1 := hreq8.cell 1
          have b2 := hreq8.cell 2
          have b3 := hreq8.cell 3
          have b4 := hreq8.cell 4
          have b5 := hreq8.cell 5
          have b6 := hreq8.cell 6
          simp only [List.getElem?_toArray, List.getElem?_cons_zero, List.getElem?_cons_succ] at b0 b1 b2 b3 b4 b5 b6
          have HAP8 := Lib.hid (hon8.asked (s' := s') (k := ae) (off := af) (b := false) (pl := []) (fun q hq => by rcases hq with ((((hq | hq) | hq) | hq) | hq) | hq <;> omega) hls8 HT.out.2 HAG.out)
          unfold RV RC at HAP8
          clear how hb8 hon8 hls8 hreq8
          go_wp2_with fail
          refine HAP8.out.mono ?_
          rintro e w9 ⟨v9, B9, rfl, hB9, hp9, ho9, hc9⟩
          obtain ⟨A9, c9, rfl⟩ : ∃ A9 c9, v9 = .slice A9 0 c9 := by
            obtain ⟨l', h1, h2, h3⟩ := hp9
            exact own_shape h2
          clear b0 b1 b2 b3 b4 b5 b6
          have hs9 := hc9.size
          have hres9 := HRES8.out.ch hc9 (fun h => h.1 (.inl (.inr ⟨Nat.le_refl _, by omega⟩)))
          have hb10 := op_below w9 (.cells #[.int .i64 ae, .int .i64 af] 34)
          have hon10 := ho9.skip hb10
          have hres10 := hres9.below hb10 hres9.lt
          have r0 := hres10.cell 0
          have r1 := hres10.cell 1
          simp only [List.getElem?_toArray, List.getElem?_cons_zero, List.getElem?_cons_succ] at r0 r1
          have hk12 : Blk (w9.alloc (.cells #[.int .i64 ae, .int .i64 af] 34)) w9.heap.size 34 #[.int .i64 ae, .int .i64 af] := Blk.new _ _ _
          have u0 := hk12.cell 0
          have u1 := hk12.cell 1
          simp only [List.getElem?_toArray, List.getElem?_cons_zero, List.getElem?_cons_succ] at u0 u1
          have how9 := own_ch HOW.out hc9 (fun q hq h => h.1 (.inr ⟨(HOW.out.lt q hq).1, (HOW.out.lt q hq).2⟩))
          have how10 := own_below how9 hb10
          have hdm10 := ((HDM7.out.ch (Ch.of_below (S := fun _ => False) HB8.out (Nat.le_refl _)) (fun h => h)).ch hc9 (fun h => h.1 (.inl (.inl (.inl (.inl (.inr rfl))))))).ch (Ch.of_below (S := fun _ => False) hb10 (Nat.le_refl _)) (fun h => h)
          have hs10 := hb10.size
          have hb9 : Below w.heap.size w8 w9 := hc9.below (B := w.heap.size) (fun q hq h => h.1 (.inl (.inl (.inl (.inl (.inl hq)))))) (by omega)
          have hbw10 : Below w.heap.size w (w9.alloc (.cells #[.int .i64 ae, .int .i64 af] 34)) := ((HSO.out.below.trans (HBA.out.1.mono (by omega))).trans HBA7.out).trans (((HB8.out.mono (by omega)).trans hb9).trans (hb10.mono (by omega)))
          have HON10 := Lib.hid hon10
          have HOW10 := Lib.hid how10
          have HDM10 := Lib.hid hdm10
          have HBW10 := Lib.hid hbw10
          clear hb10 hon10 hres10 hk12 how9 how10 hdm10 hb9 hbw10 hres9 hB9 hp9 ho9 hc9 HRES8
          go_wp2_with fail
          refine HON10.out.bytes.mono ?_
          rintro e w11 ⟨vb, rfl, hob, hb11⟩
          obtain ⟨Ab, cb, rfl⟩ := own_shape hob
          have HOB := Lib.hid hob
          have HB11 := Lib.hid hb11
          clear hob hb11 r0 r1 u0 u1
          go_wp2_with fail
          refine (Ga.equal_any w11 (fun _ => False) (fun _ => False) _ _ _ _ (stB s') (stB s') (Sl.of_own (own_below HOW10.out HB11.out) (fun _ _ _ h => h)) (Sl.of_own HOB.out (fun _ _ _ h => h))).mono ?_
          rintro e w12 ⟨rfl, rfl⟩
          rw [beq_self_eq_true]
          have hs11 := HB11.out.size
          have hso : SO w p w2.heap.size (k + 1) w11 s' (n + 1) (D.put l (.lit (.bool true))) (put1 f l true) := ⟨HBW10.out.trans (HB11.out.mono (by have := HBW10.out.size; omega)), (HON10.out.later HB11.out).weaken (fun q hq => .inl (.inl (.inl (.inl (.inl (.inl hq)))))), HDM10.out.ch (Ch.of_below (S := fun _ => False) HB11.out (Nat.le_refl _)) (fun h => h), ⟨hmb.1, by omega⟩, by have := HSO.out.num; omega⟩
          have HSO' := Lib.hid hso
          clear hso
          go_wp2_with fail
          go_roundw
          case rel => exact ⟨k + 1, _, _, _, _, by omega, by go_num, HSO'.out⟩
          case measure => simp [intOf]; omega
      · rw [hfl] at hlk
        have HFL := Lib.hid hfl
        clear hfl
        go_wp2_with fail
        clear hlk b0 b1
        generalize (w4.alloc (.cells #[.int .i64 ae, .int .i64 af] 34)).alloc (.cells #[.int .i64 r.client, .int .i64 r.time] 38) = W6 at *
        have k0 := HK6.out.cell 0
        have k1 := HK6.out.cell 1
        simp only [List.getElem?_toArray, List.getElem?_cons_zero, List.getElem?_cons_succ] at k0 k1
        have hdD := HDM6.out.ch ((Ch.refl (fun _ => False) W6).drew) (fun h => h)
        have hlkD := hdD.look HKL.out
        rw [HFL.out] at hlkD
        unfold kv at hlkD
        have hnm : n < maxLen := by have := HSO.out.num; simp only [maxLen]; omega
        obtain ⟨w7, hst7, hmap7, hturn7⟩ := hdD.own.store law_k Try.underlying26 hnm HKL.out (boElem_mk false)
        unfold kv at hst7
        have HM7 := Lib.hid (And.intro hmap7 hturn7.grown)
        clear hdD hnm hmap7 hturn7
        refine calm ?_
        first | go_region | go_region_law (fail)
        all_goals
          clear hlkD hst7 k0 k1
          have hlt6 : w4.heap.size < W6.heap.size := HS6.out.lt
          have hc7 : Ch (fun q => q = w2.heap.size) W6 w7 := ch_of_drew (Ch.of_grown HM7.out.2 (fun g hg _ => by injection hg with e; exact e.symm))
          have hdm7 := HPUT.out w7 (n + 1) false (by rw [HFL.out]; rfl) HM7.out.1
          have hon7 := (HW4.out.2.2.1.skip HB6.out).ch hc7 (fun q hq => by subst hq; exact .inl (.inl (.inl (.inr rfl))))
          have hmb := HSO.out.mb
          have hs0 := HSO.out.below.size
          have hsa := HBA.out.1.size
          have hs4 := HW4.out.2.2.2.size
          have hs6 := HB6.out.size
          have hs7 := hc7.size
          have hreq7 := (HREQ.out.below HB6.out HREQ.out.lt).ch hc7 (by omega)
          have hres7 := HS6.out.ch hc7 (by omega)
          have hba7 : Below w.heap.size wa w7 := ((HW4.out.2.2.2.below (B := w.heap.size) (fun q hq h => h.1 (.inl (.inl hq))) (by omega)).trans (HB6.out.mono (by omega))).trans (hc7.below (B := w.heap.size) (fun q hq h => by omega) (by omega))
          have HON7 := Lib.hid hon7
          have HDM7 := Lib.hid hdm7
          have HREQ7 := Lib.hid hreq7
          have HRES7 := Lib.hid hres7
          have HBA7 := Lib.hid hba7
          clear hc7 hdm7 hon7 hreq7 hres7 hba7 HDM6 HK6 HS6 HREQ HM7
          go_wp2_with fail
          refine HON7.out.bytes.mono ?_
          rintro e w8 ⟨vw, rfl, how, hb8⟩
          obtain ⟨Aw, cw, rfl⟩ := own_shape how
          have hs8 := hb8.size
          have hon8 := HON7.out.skip hb8
          have hls8 := HLS.out.below (HBA7.out.trans (hb8.mono (by omega))) (fun q _ h => h)
          have hreq8 := HREQ7.out.below hb8 HREQ7.out.lt
          have HRES8 := Lib.hid (HRES7.out.below hb8 HRES7.out.lt)
          have HOW := Lib.hid how
          have HB8 := Lib.hid hb8
          have b0 := hreq8.cell 0
          have b1 := hreq8.cell 1
          have b2 := hreq8.cell 2
          have b3 := hreq8.cell 3
          have b4 := hreq8.cell 4
          have b5 := hreq8.cell 5
          have b6 := hreq8.cell 6
          simp only [List.getElem?_toArray, List.getElem?_cons_zero, List.getElem?_cons_succ] at b0 b1 b2 b3 b4 b5 b6
          have HAP8 := Lib.hid (hon8.asked (s' := s') (k := ae) (off := af) (b := false) (pl := []) (fun q hq => by rcases hq with ((((hq | hq) | hq) | hq) | hq) | hq <;> omega) hls8 HT.out.2 HAG.out)
          unfold RV RC at HAP8
          clear how hb8 hon8 hls8 hreq8
          go_wp2_with fail
          refine HAP8.out.mono ?_
          rintro e w9 ⟨v9, B9, rfl, hB9, hp9, ho9, hc9⟩
          obtain ⟨A9, c9, rfl⟩ : ∃ A9 c9, v9 = .slice A9 0 c9 := by
            obtain ⟨l', h1, h2, h3⟩ := hp9
            exact own_shape h2
          clear b0 b1 b2 b3 b4 b5 b6
          have hs9 := hc9.size
          have hres9 := HRES8.out.ch hc9 (fun h => h.1 (.inl (.inr ⟨Nat.le_refl _, by omega⟩)))
          have hb10 := op_below w9 (.cells #[.int .i64 ae, .int .i64 af] 34)
          have hon10 := ho9.skip hb10
          have hres10 := hres9.below hb10 hres9.lt
          have r0 := hres10.cell 0
          have r1 := hres10.cell 1
          simp only [List.getElem?_toArray, List.getElem?_cons_zero, List.getElem?_cons_succ] at r0 r1
          have hk12 : Blk (w9.alloc (.cells #[.int .i64 ae, .int .i64 af] 34)) w9.heap.size 34 #[.int .i64 ae, .int .i64 af] := Blk.new _ _ _
          have u0 := hk12.cell 0
          have u1 := hk12.cell 1
          simp only [List.getElem?_toArray, List.getElem?_cons_zero, List.getElem?_cons_succ] at u0 u1
          have how9 := own_ch HOW.out hc9 (fun q hq h => h.1 (.inr ⟨(HOW.out.lt q hq).1, (HOW.out.lt q hq).2⟩))
          have how10 := own_below how9 hb10
          have hdm10 := ((HDM7.out.ch (Ch.of_below (S := fun _ => False) HB8.out (Nat.le_refl _)) (fun h => h)).ch hc9 (fun h => h.1 (.inl (.inl (.inl (.inl (.inr rfl))))))).ch (Ch.of_below (S := fun _ => False) hb10 (Nat.le_refl _)) (fun h => h)
          have hs10 := hb10.size
          have hb9 : Below w.heap.size w8 w9 := hc9.below (B := w.heap.size) (fun q hq h => h.1 (.inl (.inl (.inl (.inl (.inl hq)))))) (by omega)
          have hbw10 : Below w.heap.size w (w9.alloc (.cells #[.int .i64 ae, .int .i64 af] 34)) := ((HSO.out.below.trans (HBA.out.1.mono (by omega))).trans HBA7.out).trans (((HB8.out.mono (by omega)).trans hb9).trans (hb10.mono (by omega)))
          have HON10 := Lib.hid hon10
          have HOW10 := Lib.hid how10
          have HDM10 := Lib.hid hdm10
          have HBW10 := Lib.hid hbw10
          clear hb10 hon10 hres10 hk12 how9 how10 hdm10 hb9 hbw10 hres9 hB9 hp9 ho9 hc9 HRES8
          go_wp2_with fail
          refine HON10.out.bytes.mono ?_
          rintro e w11 ⟨vb, rfl, hob, hb11⟩
          obtain ⟨Ab, cb, rfl⟩ := own_shape hob
          have HOB := Lib.hid hob
          have HB11 := Lib.hid hb11
          clear hob hb11 r0 r1 u0 u1
          go_wp2_with fail
          refine (Ga.equal_any w11 (fun _ => False) (fun _ => False) _ _ _ _ (stB s') (stB s') (Sl.of_own (own_below HOW10.out HB11.out) (fun _ _ _ h => h)) (Sl.of_own HOB.out (fun _ _ _ h => h))).mono ?_
          rintro e w12 ⟨rfl, rfl⟩
          rw [beq_self_eq_true]
          have hs11 := HB11.out.size
          have hso : SO w p w2.heap.size (k + 1) w11 s' (n + 1) (D.put l (.lit (.bool false))) (put1 f l false) := ⟨HBW10.out.trans (HB11.out.mono (by have := HBW10.out.size; omega)), (HON10.out.later HB11.out).weaken (fun q hq => .inl (.inl (.inl (.inl (.inl (.inl hq)))))), HDM10.out.ch (Ch.of_below (S := fun _ => False) HB11.out (Nat.le_refl _)) (fun h => h), ⟨hmb.1, by omega⟩, by have := HSO.out.num; omega⟩
          have HSO' := Lib.hid hso
          clear hso
          go_wp2_with fail
          go_roundw
          case rel => exact ⟨k + 1, _, _, _, _, by omega, by go_num, HSO'.out⟩
          case measure => simp [intOf]; omega
    · have hke : k = rs.length := by omega
      go_wp2_with fail
      go_ret
      exact ⟨rfl, HSO.out.below⟩
end Go.Proofs.Ytcmknopgoiabbaa.Av

/-
  Layer 7: TopicsDoes' walk.
-/
import Derived.Test.YtkoedonllfmaaaaGreatVD34
import Derived.Deep.RegionLaw
import Derived.Test.YtkoedonllfmaaaaGreatVD16
namespace Go.Proofs.YtkoedonllfmaaaaGreat.Xaj
set_option linter.unusedSimpArgs false
open Go Go.RowKit Ck Kw Ga Kf Km Pm Pe Pz Py Tm Tn Tq To Aa Ab Ag Ah Ai Aj Ta Xa Xr Xg Xy Xab Xah An Ao Xai
attribute [local go_sem ↓] Go.wp_at_zero Go.wp_at_succ
set_option linter.unusedVariables false
set_option maxRecDepth 100000

def o5 : O := ⟨1, [111, 116, 104, 101, 114], [], 0, []⟩
theorem pl_len (t : St) (c k : Int) (o : O) : (appS t c k o).2.1.length ≤ 64 := by
  have key : (doesS t.L o).2.1.length ≤ 64 := by
    unfold doesS
    repeat' split
    all_goals first
      | (simp; done)
      | (simp only [placed_len]; rename_i h _ _ _ _ _; omega)
      | (simp only [placed_len]; omega)
  unfold appS
  by_cases hb : badArg c k = true
  · rw [if_pos hb]; simp
  · rw [if_neg hb]
    simp only
    by_cases h1 : k = (t.last.getD c.toNat An.zero).time
    · rw [if_pos h1]; simp
    · rw [if_neg h1]
      by_cases h2 : k < (t.last.getD c.toNat An.zero).time
      · rw [if_pos h2]; simp
      · rw [if_neg h2]; exact key
theorem cells7 {W : World} {g : Nat} {t : TypeId} {x0 x1 x2 x3 x4 x5 x6 : Value} (h : Blk W g t #[x0, x1, x2, x3, x4, x5, x6]) : W.cell? ⟨g, 0, none⟩ = some x0 ∧ W.cell? ⟨g, 1, none⟩ = some x1 ∧ W.cell? ⟨g, 2, none⟩ = some x2 ∧ W.cell? ⟨g, 3, none⟩ = some x3 ∧ W.cell? ⟨g, 4, none⟩ = some x4 ∧ W.cell? ⟨g, 5, none⟩ = some x5 ∧ W.cell? ⟨g, 6, none⟩ = some x6 :=
  ⟨h.cell 0, h.cell 1, h.cell 2, h.cell 3, h.cell 4, h.cell 5, h.cell 6⟩
theorem cells2 {W : World} {g : Nat} {t : TypeId} {x0 x1 : Value} (h : Blk W g t #[x0, x1]) : W.cell? ⟨g, 0, none⟩ = some x0 ∧ W.cell? ⟨g, 1, none⟩ = some x1 := ⟨h.cell 0, h.cell 1⟩
set_option maxHeartbeats 8000000 in
theorem does_any (w : World) (A : Option Addr) (c : Nat) (rs : List Rq) (hr : Rqs w A rs) (hgr : ∀ r ∈ rs, r.o.group.length ≤ 140737488355328) (hl : rs.length * 88 ≤ 140737488351232) :
    Calls Tryz.prog 3 #[.slice A rs.length c] w fun e w' => e = .returned (.bool true) ∧ Below w.heap.size w w' := by
  have HRQ := Lib.hid hr
  have HGR := Lib.hid hgr
  clear hr hgr
  go_enter Tryz.func3, Tryz.ntmps3
  go_wp2_with fail
  refine (live_any w).mono ?_
  rintro e w1 ⟨rfl, hb1⟩
  have HB1 := Lib.hid hb1
  clear hb1
  go_wp2_with fail
  refine (new_any w1).mono ?_
  rintro e w2 ⟨p, rfl, hz2, hb2⟩
  have hb3 := Xr.op_below w2 (.cells #[.slice none 0 0, .int .i64 0, .int .i64 0, .int .i64 0, .int .i64 0, .int .i64 0, .int .i64 0, .int .i64 0, .int .i64 0, .int .i64 0, .int .i64 0, .int .i64 0, .int .i64 0, .int .i64 0, .int .i64 0, .int .i64 0, .int .i64 0, .int .i64 0, .int .i64 0, .int .i64 0, .int .i64 0, .int .i64 0, .int .i64 0, .int .i64 0, .int .i64 0] 35)
  have hk3 : Blk (w2.alloc (.cells #[.slice none 0 0, .int .i64 0, .int .i64 0, .int .i64 0, .int .i64 0, .int .i64 0, .int .i64 0, .int .i64 0, .int .i64 0, .int .i64 0, .int .i64 0, .int .i64 0, .int .i64 0, .int .i64 0, .int .i64 0, .int .i64 0, .int .i64 0, .int .i64 0, .int .i64 0, .int .i64 0, .int .i64 0, .int .i64 0, .int .i64 0, .int .i64 0, .int .i64 0] 35)) w2.heap.size 35 #[.slice none 0 0, .int .i64 0, .int .i64 0, .int .i64 0, .int .i64 0, .int .i64 0, .int .i64 0, .int .i64 0, .int .i64 0, .int .i64 0, .int .i64 0, .int .i64 0, .int .i64 0, .int .i64 0, .int .i64 0, .int .i64 0, .int .i64 0, .int .i64 0, .int .i64 0, .int .i64 0, .int .i64 0, .int .i64 0, .int .i64 0, .int .i64 0, .int .i64 0] := Blk.new w2 _ _
  have htw := tw_new HB1.out hz2 hb2 rfl hb3 hk3
  have HST : Hid (D2 w p w2.heap.size St.zero (w2.alloc (.cells #[.slice none 0 0, .int .i64 0, .int .i64 0, .int .i64 0, .int .i64 0, .int .i64 0, .int .i64 0, .int .i64 0, .int .i64 0, .int .i64 0, .int .i64 0, .int .i64 0, .int .i64 0, .int .i64 0, .int .i64 0, .int .i64 0, .int .i64 0, .int .i64 0, .int .i64 0, .int .i64 0, .int .i64 0, .int .i64 0, .int .i64 0, .int .i64 0, .int .i64 0] 35))) := Lib.hid ⟨(HB1.out.trans (hb2.mono HB1.out.size)).trans (hb3.mono (by have := HB1.out.size; have := hb2.size; omega)), htw⟩
  clear hz2 hb2 HB1 hb3 hk3 htw
  go_wp2_with fail
  generalize w2.alloc (.cells #[.slice none 0 0, .int .i64 0, .int .i64 0, .int .i64 0, .int .i64 0, .int .i64 0, .int .i64 0, .int .i64 0, .int .i64 0, .int .i64 0, .int .i64 0, .int .i64 0, .int .i64 0, .int .i64 0, .int .i64 0, .int .i64 0, .int .i64 0, .int .i64 0, .int .i64 0, .int .i64 0, .int .i64 0, .int .i64 0, .int .i64 0, .int .i64 0, .int .i64 0] 35) = w3 at *
  generalize w2.heap.size = q at *
  go_loopw [3, 23] (fun t i wr => ∃ (k p : Nat) (s : St), k ≤ rs.length ∧ i = .int .i64 k ∧ t = .pointer (some ⟨p, 0, none⟩) ∧ D2 w p q s wr) (fun _ i _ => rs.length - (intOf i).toNat)
  case atStart => exact ⟨0, p, _, Nat.zero_le _, rfl, rfl, HST.out⟩
  case round =>
    obtain ⟨k, p, s, hk, rfl, rfl, hso⟩ := hrel
    clear HST
    have HSO := Lib.hid hso
    clear hso
    by_cases hlt : k < rs.length
    · have hgk := HGR.out _ (List.getElem_mem hlt)
      obtain ⟨ad, Ar, cr, rfl, a0, a1, a2, a3, a4, a5, a6, hls, ht1, ht2⟩ := HRQ.out.at_ HSO.out.below hlt
      generalize rs[k] = r at *
      have hba := Xr.op_below wr (.cells #[.int .i64 r.client, .int .i64 r.time, .int .i64 r.o.kind, .string ⟨r.o.topic.toArray⟩, .string ⟨r.o.group.toArray⟩, .int .i64 r.o.off, .slice Ar r.o.recs.length cr] 40)
      have hra : Blk (wr.alloc (.cells #[.int .i64 r.client, .int .i64 r.time, .int .i64 r.o.kind, .string ⟨r.o.topic.toArray⟩, .string ⟨r.o.group.toArray⟩, .int .i64 r.o.off, .slice Ar r.o.recs.length cr] 40)) wr.heap.size 40 #[.int .i64 r.client, .int .i64 r.time, .int .i64 r.o.kind, .string ⟨r.o.topic.toArray⟩, .string ⟨r.o.group.toArray⟩, .int .i64 r.o.off, .slice Ar r.o.recs.length cr] := Blk.new wr _ _
      have hls1 := hls.after hba
      have hsz := HSO.out.below.size
      have hzz := hba.size
      have hra' := hra.lt
      have htw1 : Tw (fun k => k < w.heap.size ∨ k = wr.heap.size) (wr.alloc (.cells #[.int .i64 r.client, .int .i64 r.time, .int .i64 r.o.kind, .string ⟨r.o.topic.toArray⟩, .string ⟨r.o.group.toArray⟩, .int .i64 r.o.off, .slice Ar r.o.recs.length cr] 40)) p q s s := (HSO.out.tw.skip hba).weaken (fun k hk => by
        rcases hk with hk | hk
        · exact .inl hk
        · exact .inr (by omega))
      have HPL : Hid ((appS s r.client r.time r.o).2.1.length ≤ 64) := Lib.hid (pl_len s r.client r.time r.o)
      have HGD := Lib.hid (And.intro HSO.out.tw.good (appS_good HSO.out.tw.good r.client r.time r.o))
      generalize happ : appS s r.client r.time r.o = ap at *
      obtain ⟨⟨ae, af⟩, pl, ab, s'⟩ := ap
      simp only at HPL HGD
      have HAP := Lib.hid (htw1.ask1 (fun k hk => by rcases hk with hk | hk <;> omega) hls1 ht2 happ)
      have HLS := Lib.hid (And.intro hls1 (And.intro ht2 (And.intro happ (And.intro ht1 hgk))))
      have HBA := Lib.hid (And.intro hba hra)
      clear hls hls1 ht1 ht2 hba hra htw1 happ hgk
      unfold RV RC at HAP
      go_wp2_with fail
      generalize wr.alloc (.cells #[.int .i64 r.client, .int .i64 r.time, .int .i64 r.o.kind, .string ⟨r.o.topic.toArray⟩, .string ⟨r.o.group.toArray⟩, .int .i64 r.o.off, .slice Ar r.o.recs.length cr] 40) = wa at *
      clear a0 a1 a2 a3 a4 a5 a6
      obtain ⟨a0, a1, a2, a3, a4, a5, a6⟩ := cells7 HBA.out.2
      go_wp2_with fail
      --CUT1
      refine HAP.out.mono ?_
      rintro e w4 ⟨v, B, rfl, hB, hB4, hps, htw4, hc4⟩
      obtain ⟨Av, cv, rfl⟩ : ∃ Av cv, v = .slice Av pl.length cv := by
        obtain ⟨l', h1, h2, h3⟩ := hps
        exact own_shape h2
      have hs4 := hc4.size
      have hreq4 := HBA.out.2.ch hc4 (fun h => h.1 (.inr rfl))
      have hb5 := Xr.op_below w4 (.cells #[.int .i64 ae, .int .i64 af] 30)
      have hres5 : Blk (w4.alloc (.cells #[.int .i64 ae, .int .i64 af] 30)) w4.heap.size 30 #[.int .i64 ae, .int .i64 af] := Blk.new w4 _ _
      have hreq5 := hreq4.below hb5 hreq4.lt
      have hbw4 : Below w.heap.size w w4 := (HSO.out.below.trans (HBA.out.1.mono hsz)).trans (hc4.below (B := w.heap.size) (fun k hk h => h.1 (.inl hk)) (by omega))
      have hbw5 : Below w.heap.size w (w4.alloc (.cells #[.int .i64 ae, .int .i64 af] 30)) := hbw4.trans (hb5.mono (by omega))
      have hps5 := hps.later hb5
      have hs5 := hb5.size
      have hres5' := hres5.lt
      have hls5 := (HLS.out.1.ch hc4 (fun k hk hX => (by
        have h1 : ¬ (k < w.heap.size ∨ k = wr.heap.size) ∧ k < wa.heap.size := hX
        show w.heap.size ≤ k
        omega))).after hb5
      have htw5 : Tw (fun k => k < w.heap.size ∨ k = wr.heap.size ∨ (B ≤ k ∧ k < (w4.alloc (.cells #[.int .i64 ae, .int .i64 af] 30)).heap.size)) (w4.alloc (.cells #[.int .i64 ae, .int .i64 af] 30)) p q s' s := (htw4.skip hb5).weaken (fun k hk => by
        rcases hk with hk | hk | hk
        · exact .inl (.inl (.inl hk))
        · exact .inl (.inl (.inr hk))
        · by_cases h : k < w4.heap.size
          · exact .inl (.inr ⟨hk.1, h⟩)
          · exact .inr ⟨by omega, hk.2⟩)
      have HX5 := Lib.hid (And.intro hreq5 (And.intro hres5 (And.intro hbw5 (And.intro hps5 (And.intro htw5 hls5)))))
      clear hps htw4 hc4 HAP hreq4 hb5 hres5 hbw4 hbw5 hps5 hls5 htw5 a0 a1 a2 a3 a4 a5 a6
      obtain ⟨a0, a1, a2, a3, a4, a5, a6⟩ := cells7 hreq5
      clear hreq5
      go_wp2_with fail
      generalize w4.alloc (.cells #[.int .i64 ae, .int .i64 af] 30) = w5 at *
      --CUT2
      have HAQ := Lib.hid (HX5.out.2.2.2.2.1.ask2 (fun k hk => by rcases hk with hk | hk | hk <;> omega) HGD.out.1 HX5.out.2.2.2.2.2 HLS.out.2.1 HLS.out.2.2.1)
      unfold RV RC at HAQ
      refine HAQ.out.mono ?_
      rintro e w6 ⟨v2, rfl, hps6, htw6, hc6⟩
      obtain ⟨Av2, cv2, rfl⟩ : ∃ Av2 cv2, v2 = .slice Av2 pl.length cv2 := by
        obtain ⟨l', h1, h2, h3⟩ := hps6
        exact own_shape h2
      have hs6 := hc6.size
      have hps6' : Ps w6 B (.slice Av pl.length cv) pl := HX5.out.2.2.2.1.ch hc6 (fun k h => by
        have h1 : ¬ (k < w.heap.size ∨ k = wr.heap.size ∨ (B ≤ k ∧ k < w5.heap.size)) ∧ k < w5.heap.size := h
        omega)
      have hreq6 := HX5.out.1.ch hc6 (fun h => h.1 (.inr (.inl rfl)))
      have hres6 := HX5.out.2.1.ch hc6 (fun h => h.1 (.inr (.inr ⟨by omega, hres5'⟩)))
      have hb7 := Xr.op_below w6 (.cells #[.int .i64 ae, .int .i64 af] 30)
      have hk7 : Blk (w6.alloc (.cells #[.int .i64 ae, .int .i64 af] 30)) w6.heap.size 30 #[.int .i64 ae, .int .i64 af] := Blk.new w6 _ _
      have hres7 := hres6.below hb7 hres6.lt
      have hreq7 := hreq6.below hb7 hreq6.lt
      have hbw7 : Below w.heap.size w (w6.alloc (.cells #[.int .i64 ae, .int .i64 af] 30)) := (HX5.out.2.2.1.trans (hc6.below (B := w.heap.size) (fun k hk h => h.1 (.inl hk)) HX5.out.2.2.1.size)).trans (hb7.mono (by have := HX5.out.2.2.1.size; omega))
      have HSP := Lib.hid (samep_any _ _ _ _ _ _ _ pl (hps6'.later hb7) (hps6.later hb7) (by have := HPL.out; omega))
      have htw7 : Tw (fun k => k < w.heap.size ∨ k = wr.heap.size) _ p q s' s' := (htw6.later hb7).weaken (fun k hk => hk.imp id .inl)
      have hz7 := hb7.size
      have hgt := hk7.lt
      clear a0 a1 a2 a3 a4 a5 a6
      obtain ⟨a0, a1, a2, a3, a4, a5, a6⟩ := cells7 hreq7
      obtain ⟨r0, r1⟩ := cells2 hres7
      obtain ⟨u0, u1⟩ := cells2 hk7
      have hq : ∀ W : World, (binOp .neq 30 (.agg #[.int .i64 ae, .int .i64 af]) (.agg #[.int .i64 ae, .int .i64 af])).run Tryz.prog W = .ok (.bool false) W := fun W => by rw [Xa.run_neq_rs, Xa.rsB, decide_eq_true rfl]; rfl
      have hbeq : ∀ b : Bool, (b != b) = false := fun b => by cases b <;> rfl
      have hab := hbeq ab
      have HX7 := Lib.hid (And.intro hreq7 (And.intro htw7 hbw7))
      clear hps6 htw6 hc6 hps6' hreq6 hres6 hb7 hk7 hres7 hreq7 hbw7 htw7 HX5 HAQ hbeq
      go_wp2_with fail
      --CUT3
      generalize w6.alloc (.cells #[.int .i64 ae, .int .i64 af] 30) = w7 at *
      clear r0 r1 u0 u1
      refine HSP.out.mono ?_
      rintro e w8 ⟨rfl, hb8⟩
      have hreq8 := HX7.out.1.below hb8 HX7.out.1.lt
      have htw8 := HX7.out.2.1.later hb8
      have HX8 := Lib.hid (And.intro hreq8 (And.intro htw8 (HX7.out.2.2.trans (hb8.mono HX7.out.2.2.size))))
      clear a0 a1 a2 a3 a4 a5 a6
      obtain ⟨a0, a1, a2, a3, a4, a5, a6⟩ := cells7 hreq8
      clear hb8 hreq8 htw8 HX7 HSP
      go_wp2_with fail
      refine (HX8.out.2.1.same (A := Ar) (c := cr) HLS.out.2.2.2.1 HLS.out.2.2.2.2).mono ?_
      rintro e w9 ⟨rfl, hb9⟩
      have hreq9 := HX8.out.1.below hb9 HX8.out.1.lt
      have htw9 := HX8.out.2.1.later hb9
      have HX9 := Lib.hid (And.intro hreq9 (And.intro htw9 (HX8.out.2.2.trans (hb9.mono HX8.out.2.2.size))))
      clear a0 a1 a2 a3 a4 a5 a6
      obtain ⟨a0, a1, a2, a3, a4, a5, a6⟩ := cells7 hreq9
      clear hb9 hreq9 htw9 HX8
      go_wp2_with fail
      --CUT4
      have hreq := HX9.out.1
      have s9 := HX9.out.2.2.size
      by_cases hcl : (decide (0 ≤ r.client) && decide (r.client < 8)) = true
      · obtain ⟨i, hi, hi8⟩ : ∃ i : Nat, r.client = (i : Int) ∧ i < 8 := by
          simp only [Bool.and_eq_true, decide_eq_true_eq] at hcl
          exact ⟨r.client.toNat, by omega, by omega⟩
        clear hcl
        generalize r.client = cl at *
        subst hi
        have HLA := Lib.hid (HX9.out.2.1.last hi8)
        have hqc := HX9.out.2.1.cells (by have := HGD.out.2.eight; exact this) hi8
        have HQL := Lib.hid (HX9.out.2.1.lt)
        generalize s'.last.getD i An.zero = an at *
        obtain ⟨at', ae', ao'⟩ := an
        simp only at HLA hqc
        refine HLA.out.mono ?_
        rintro e w10 ⟨rfl, hb10⟩
        have hb11 := Xr.op_below w10 (.cells #[.int .i64 ae', .int .i64 ao'] 30)
        have hy11 : Blk (w10.alloc (.cells #[.int .i64 ae', .int .i64 ao'] 30)) w10.heap.size 30 #[.int .i64 ae', .int .i64 ao'] := Blk.new w10 _ _
        have hb911 : Below w9.heap.size w9 (w10.alloc (.cells #[.int .i64 ae', .int .i64 ao'] 30)) := hb10.trans (hb11.mono hb10.size)
        have hreq11 := hreq.below hb911 hreq.lt
        have q0 := (hb911.cell (p := ⟨q, 1 + i * 3, none⟩) HQL.out).trans hqc.1
        have q1 := (hb911.cell (p := ⟨q, 1 + i * 3 + 1, none⟩) HQL.out).trans hqc.2.1
        have q2 := (hb911.cell (p := ⟨q, 1 + i * 3 + 2, none⟩) HQL.out).trans hqc.2.2
        have HX11 := Lib.hid (And.intro (HX9.out.2.1.later hb911) (HX9.out.2.2.trans (hb911.mono s9)))
        have y0 := hy11.cell 0
        have y1 := hy11.cell 1
        simp only [List.getElem?_toArray, List.getElem?_cons_zero, List.getElem?_cons_succ] at y0 y1
        clear a0 a1 a2 a3 a4 a5 a6
        obtain ⟨a0, a1, a2, a3, a4, a5, a6⟩ := cells7 hreq11
        have hi0 : (0 : Int) ≤ (i : Int) := by omega
        have hi8' : (i : Int) < 8 := by omega
        have hqr : ∀ W : World, (binOp .neq 30 (.agg #[.int .i64 ae', .int .i64 ao']) (.agg #[.int .i64 ae', .int .i64 ao'])).run Tryz.prog W = .ok (.bool false) W := fun W => by rw [Xa.run_neq_rs, Xa.rsB, decide_eq_true rfl]; rfl
        clear hreq s9 hqc hb10 hb11 hy11 hb911 hreq11 HLA hi8
        go_wp2_with fail
        generalize w10.alloc (.cells #[.int .i64 ae', .int .i64 ao'] 30) = w11 at *
        --CUT5
        go_region_held3 (fun W => W.cell? ⟨wr.heap.size, 0, none⟩ = some (.int .i64 (i : Int)) ∧ W.cell? ⟨q, 1 + i * 3, none⟩ = some (.int .i64 at') ∧ W.cell? ⟨q, 1 + i * 3 + 1, none⟩ = some (.int .i64 ae') ∧ W.cell? ⟨q, 1 + i * 3 + 2, none⟩ = some (.int .i64 ao') ∧ W.cell? ⟨w10.heap.size, 0, none⟩ = some (.int .i64 ae') ∧ W.cell? ⟨w10.heap.size, 1, none⟩ = some (.int .i64 ao')) (first | exact ⟨a0, q0, q1, q2, y0, y1⟩ | go_keep) (fail)
        all_goals
          have hb12 := Xj.below_drew0 w11
          have HD : Hid (D2 w p q s' w11.drew) := Lib.hid ⟨HX11.out.2.trans (hb12.mono HX11.out.2.size), (HX11.out.1.later hb12).weaken (fun k hk => .inl hk)⟩
          clear hb12 a0 a1 a2 a3 a4 a5 a6 q0 q1 q2 y0 y1 HX11 HX9
          generalize w11.drew = w12 at *
          by_cases h7 : ((k : Int) % 8 == 7) = true
          · go_wp2_with fail
            refine (HD.out.tw.clone (fun k hk => by have := HD.out.below.size; omega)).mono ?_
            rintro e w13 ⟨p', rfl, hb13, hap⟩
            have HAPP := Lib.hid hap
            have HB13 := Lib.hid (HD.out.below.trans (hb13.mono HD.out.below.size))
            clear hap hb13
            go_wp2_with fail
            refine (HAPP.out 0 9007199254740992 o5 none 0 (fun _ => False) _ (Below.refl _ _) (An.ls_nil _ _) (by decide)).mono ?_
            rintro e w14 ⟨v14, rfl, htw14, hc14⟩
            have HD14 : Hid (D2 w p' q s' w14) := Lib.hid ⟨HB13.out.trans (hc14.below (B := w.heap.size) (fun k hk h => h.1 hk) HB13.out.size), htw14⟩
            clear htw14 hc14
            go_wp2_with fail
            go_roundw
            case rel => exact ⟨k + 1, p', s', by omega, by go_num, rfl, HD14.out⟩
            case measure => simp [intOf]; omega
          · have h7 := Bool.eq_false_iff.2 h7
            go_wp2_with fail
            go_roundw
            case rel => exact ⟨k + 1, p, s', by omega, by go_num, rfl, HD.out⟩
            case measure => simp [intOf]; omega
      · have hcl := Bool.eq_false_iff.2 hcl
        have HLA := Lib.hid (HX9.out.2.1.lastout hcl)
        generalize r.client = cl at *
        refine HLA.out.mono ?_
        rintro e w10 ⟨rfl, hb10⟩
        have hb11 := Xr.op_below w10 (.cells #[.int .i64 0, .int .i64 0] 30)
        have hb911 : Below w9.heap.size w9 (w10.alloc (.cells #[.int .i64 0, .int .i64 0] 30)) := hb10.trans (hb11.mono hb10.size)
        have hreq11 := hreq.below hb911 hreq.lt
        have HX11 := Lib.hid (And.intro (HX9.out.2.1.later hb911) (HX9.out.2.2.trans (hb911.mono s9)))
        clear a0 a1 a2 a3 a4 a5 a6
        obtain ⟨a0, a1, a2, a3, a4, a5, a6⟩ := cells7 hreq11
        clear hreq s9 hb10 hb11 hb911 hreq11 HLA
        go_wp2_with fail
        generalize w10.alloc (.cells #[.int .i64 0, .int .i64 0] 30) = w11 at *
        have HDN : Hid (∀ n, D2 w p q s' (w11.drewN n)) := Lib.hid fun n => ⟨HX11.out.2.trans ((below_drewN (Below.refl _ w11) n).mono HX11.out.2.size), (HX11.out.1.later (below_drewN (Below.refl _ w11) n)).weaken (fun k hk => .inl hk)⟩
        clear HX11 HX9 a1 a2 a3 a4 a5 a6
        by_cases h0 : 0 ≤ cl
        · have h8 : decide (cl < 8) = false := by rw [decide_eq_true h0, Bool.true_and] at hcl; exact hcl
          have h0 : decide (0 ≤ cl) = true := decide_eq_true h0
          clear hcl
          go_quiet (fail)
          all_goals
            clear a0 h0 h8
            have HD := Lib.hid (HDN.out nq)
            clear HDN
            generalize w11.drewN nq = w12 at *
            by_cases h7 : ((k : Int) % 8 == 7) = true
            · go_wp2_with fail
              refine (HD.out.tw.clone (fun k hk => by have := HD.out.below.size; omega)).mono ?_
              rintro e w13 ⟨p', rfl, hb13, hap⟩
              have HAPP := Lib.hid hap
              have HB13 := Lib.hid (HD.out.below.trans (hb13.mono HD.out.below.size))
              clear hap hb13
              go_wp2_with fail
              refine (HAPP.out 0 9007199254740992 o5 none 0 (fun _ => False) _ (Below.refl _ _) (An.ls_nil _ _) (by decide)).mono ?_
              rintro e w14 ⟨v14, rfl, htw14, hc14⟩
              have HD14 : Hid (D2 w p' q s' w14) := Lib.hid ⟨HB13.out.trans (hc14.below (B := w.heap.size) (fun k hk h => h.1 hk) HB13.out.size), htw14⟩
              clear htw14 hc14
              go_wp2_with fail
              go_roundw
              case rel => exact ⟨k + 1, p', s', by omega, by go_num, rfl, HD14.out⟩
              case measure => simp [intOf]; omega
            · have h7 := Bool.eq_false_iff.2 h7
              go_wp2_with fail
              go_roundw
              case rel => exact ⟨k + 1, p, s', by omega, by go_num, rfl, HD.out⟩
              case measure => simp [intOf]; omega
        · have h0 : decide (0 ≤ cl) = false := decide_eq_false h0
          clear hcl
          go_quiet (fail)
          all_goals
            clear a0 h0
            have HD := Lib.hid (HDN.out nq)
            clear HDN
            generalize w11.drewN nq = w12 at *
            by_cases h7 : ((k : Int) % 8 == 7) = true
            · go_wp2_with fail
              refine (HD.out.tw.clone (fun k hk => by have := HD.out.below.size; omega)).mono ?_
              rintro e w13 ⟨p', rfl, hb13, hap⟩
              have HAPP := Lib.hid hap
              have HB13 := Lib.hid (HD.out.below.trans (hb13.mono HD.out.below.size))
              clear hap hb13
              go_wp2_with fail
              refine (HAPP.out 0 9007199254740992 o5 none 0 (fun _ => False) _ (Below.refl _ _) (An.ls_nil _ _) (by decide)).mono ?_
              rintro e w14 ⟨v14, rfl, htw14, hc14⟩
              have HD14 : Hid (D2 w p' q s' w14) := Lib.hid ⟨HB13.out.trans (hc14.below (B := w.heap.size) (fun k hk h => h.1 hk) HB13.out.size), htw14⟩
              clear htw14 hc14
              go_wp2_with fail
              go_roundw
              case rel => exact ⟨k + 1, p', s', by omega, by go_num, rfl, HD14.out⟩
              case measure => simp [intOf]; omega
            · have h7 := Bool.eq_false_iff.2 h7
              go_wp2_with fail
              go_roundw
              case rel => exact ⟨k + 1, p, s', by omega, by go_num, rfl, HD.out⟩
              case measure => simp [intOf]; omega
    · generalize wr = wo at *
      go_wp2_with fail
      go_ret
      exact ⟨rfl, HSO.out.below⟩
end Go.Proofs.YtkoedonllfmaaaaGreat.Xaj

/-
  Opening a list of requests under the form's own reach, the groups' lengths too.
-/
namespace Go.Proofs.YtkoedonllfmaaaaGreat.Xak
set_option linter.unusedSimpArgs false
open Go Go.RowKit Go.ChangeShapes Go.WideShapes Go.ChangeAt Go.Deep Ck Kp Pm Pe Py Ao Aq
set_option linter.unusedVariables false

section
variable {H : Type} {enc : TypeId × Value → H}
set_option maxRecDepth 100000 in
theorem open_reqs2 {w : World} {fuel : Nat} {base : Nat} {v : Value} {x : DataW H × List MemPlace} (h : DataW.trod enc Tryz.prog w base (fun _ => true) true fuel 22 [v] = some x) (hR : ∀ n ∈ x.1.weights Tryz.prog 22, n ≤ 140737488351232) :
    ∃ (A : Option Addr) (c : Nat) (rs : List Rq), v = .slice A rs.length c ∧ Rqs w A rs ∧ rs.length * 88 ≤ 140737488351232 ∧ ∀ r ∈ rs, r.o.group.length ≤ 140737488355328 := by
  rcases open_slice Tryz.underlying22 h with ⟨hcs, rfl⟩ | ⟨a, len, cap, m, n, D, Pl, hcs, _, hl, hm, hmm, rfl, hx⟩
  · obtain rfl : v = .slice none 0 0 := by simpa using hcs
    exact ⟨none, 0, [], rfl, fun i hi => absurd hi (by simp), by simp, fun r hr => nomatch hr⟩
  · obtain rfl : v = .slice (some a) len cap := by simpa using hcs
    simp only [if_true] at hmm
    have each : ∀ i, ∃ r : Rq, i < len → ∃ (Ar : Option Addr) (cr : Nat), (a.add (i * 7)).block < w.heap.size ∧ w.cell? (a.add (i * 7)) = some (.int .i64 r.client) ∧ w.cell? ⟨(a.add (i * 7)).block, (a.add (i * 7)).off + 1, none⟩ = some (.int .i64 r.time)
        ∧ w.cell? ⟨(a.add (i * 7)).block, (a.add (i * 7)).off + 2, none⟩ = some (.int .i64 r.o.kind) ∧ w.cell? ⟨(a.add (i * 7)).block, (a.add (i * 7)).off + 3, none⟩ = some (.string ⟨r.o.topic.toArray⟩)
        ∧ w.cell? ⟨(a.add (i * 7)).block, (a.add (i * 7)).off + 4, none⟩ = some (.string ⟨r.o.group.toArray⟩) ∧ w.cell? ⟨(a.add (i * 7)).block, (a.add (i * 7)).off + 5, none⟩ = some (.int .i64 r.o.off)
        ∧ w.cell? ⟨(a.add (i * 7)).block, (a.add (i * 7)).off + 6, none⟩ = some (.slice Ar r.o.recs.length cr) ∧ Ls w (fun k => w.heap.size ≤ k) (.slice Ar r.o.recs.length cr) r.o.recs ∧ r.o.topic.length ≤ 140737488355328 ∧ r.o.recs.length ≤ 140737488355328 ∧ r.o.group.length ≤ 140737488355328 := by
      intro i
      by_cases hi : i < len
      · obtain ⟨cs', hc, ht⟩ := hx i (by omega)
        obtain ⟨r, Ar, cr, rfl, hb, hr⟩ := open_req ht
        rw [cells_req] at hc
        obtain ⟨_, _, hcell⟩ := World.cells?_some hc
        have hw := hr 140737488351232 (fun n hn => hR n (by
          simp only [DataW.weights, Tryz.underlying22, List.mem_cons, List.mem_append]
          exact .inr (.inl (all_mem hn (List.mem_map.2 ⟨i, by simpa using hi, rfl⟩)))))
        have hg : ∀ j, 0 < j → (a.add (i * 7)).add j = ⟨(a.add (i * 7)).block, (a.add (i * 7)).off + j, none⟩ := fun j hj => by
          generalize a.add (i * 7) = ak
          unfold Addr.add
          rw [if_neg (by omega)]
        have h0 : w.cell? (a.add (i * 7)) = some (.int .i64 r.client) := by
          have := hcell 0 (by omega)
          rw [Ck.add_add] at this
          simpa using this
        have h1 := hcell 1 (by omega)
        have h2 := hcell 2 (by omega)
        have h3 := hcell 3 (by omega)
        have h4 := hcell 4 (by omega)
        have h5 := hcell 5 (by omega)
        have h6 := hcell 6 (by omega)
        rw [hg _ (by omega)] at h1 h2 h3 h4 h5 h6
        exact ⟨r, fun _ => ⟨Ar, cr, World.block_lt_of_cell? w _ h0, h0, h1, h2, h3, h4, h5, h6, hb, by have := hw.1; omega, by have := hw.2.2.1; omega, by have := hw.2.1; omega⟩⟩
      · exact ⟨⟨0, 0, ⟨0, [], [], 0, []⟩⟩, fun h => absurd h hi⟩
    obtain ⟨f, hf⟩ := Classical.axiomOfChoice each
    refine ⟨some a, cap, (List.range len).map f, by simp, fun i hi => ?_, ?_, ?_⟩
    · have hi' : i < len := by simpa using hi
      obtain ⟨Ar, cr, h0, h1, h2, h3, h4, h5, h6, h7, h8, h9, h10, -⟩ := hf i hi'
      have e : ((List.range len).map f)[i] = f i := by simp
      rw [e]
      exact ⟨a, Ar, cr, rfl, h0, h1, h2, h3, h4, h5, h6, h7, h8, h9, h10⟩
    · have := hR _ (by simp only [DataW.weights, Tryz.underlying22]; exact List.mem_cons_self)
      rw [bytes_req] at this
      simp only [List.length_map, List.length_range] at this ⊢
      omega
    · intro r hr
      obtain ⟨i, hi, rfl⟩ := List.mem_map.1 hr
      obtain ⟨Ar, cr, -, -, -, -, -, -, -, -, -, -, -, h⟩ := hf i (by simpa using hi)
      exact h
end
end Go.Proofs.YtkoedonllfmaaaaGreat.Xak

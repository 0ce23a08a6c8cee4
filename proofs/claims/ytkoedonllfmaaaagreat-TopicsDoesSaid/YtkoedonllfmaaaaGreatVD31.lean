/-
  Layer 7: the document's Bytes.
-/
import Derived.Test.YtkoedonllfmaaaaGreatVD27
import Derived.Test.YtkoedonllfmaaaaGreatVD30
import Derived.Test.YtkoedonllfmaaaaGreatVD21
import Derived.Test.YtkoedonllfmaaaaGreatVD15
import Derived.Test.YtkoedonllfmaaaaGreatVD28
namespace Go.Proofs.YtkoedonllfmaaaaGreat.Xz
set_option linter.unusedSimpArgs false
open Go Go.RowKit Ck Cd Kw Ga Kf Kx Km Pm Pe Pz Py Tm Tn Tq Ah Ta Tb Td Xa Xr Xo Bu Xy
attribute [local go_sem ↓] Go.wp_at_zero Go.wp_at_succ
set_option linter.unusedVariables false
set_option maxRecDepth 100000

/-- v is the bytes b, of one's own. -/
def BW (w : World) (v : Value) (b : Tx) (W : World) : Prop := W.ownsRow w.heap.size 5 1 v b.length (BVs b) ∧ Below w.heap.size w W
theorem BW.later {w W W' : World} {v : Value} {b : Tx} (h : BW w v b W) (c : Below W.heap.size W W') : BW w v b W' := ⟨own_below h.1 c, h.2.trans (c.mono h.2.size)⟩
theorem BW.made {w W W' : World} {v : Value} {b : Tx} (hw : Below w.heap.size w W) (ho : W'.ownsRow W.heap.size 5 1 v b.length (BVs b)) (c : Below W.heap.size W W') : BW w v b W' := ⟨own_base ho hw.size, hw.trans (c.mono hw.size)⟩
theorem put_to {b b2 : Tx} {n : Nat} (h : b2 = b ++ Cm.enc n) (hl : b.length ≤ 140737488355318) (hn : n < 9223372036854775808) (W : World) (A : Option Addr) (c base : Nat) (ho : W.ownsRow base 5 1 (.slice A b.length c) b.length (BVs b)) :
    Calls Tryz.prog 64 #[.slice A b.length c, .int .i64 (n : Int)] W (Made W 5 b2) := by
  rw [h]
  exact rput_any (fun _ => False) (.slice A b.length c) b.length n b W (Sl.of_own (X := fun _ => False) ho (fun _ _ _ h => h)) hl hn
theorem pb_to {b b2 x : Tx} (h : b2 = b ++ Cm.encB x) (hl : b.length + x.length ≤ 140737488355318) (W : World) (A : Option Addr) (c base : Nat) (Y : Nat → Prop) (u : Value) (ho : W.ownsRow base 5 1 (.slice A b.length c) b.length (BVs b)) (hu : Sl W Y 1 u x.length (BVs x)) :
    Calls Tryz.prog 65 #[.slice A b.length c, u] W (Made W 5 b2) := by
  rw [h]
  exact rputbytes_any (fun _ => False) Y (.slice A b.length c) u b.length x.length b x W (Sl.of_own (X := fun _ => False) ho (fun _ _ _ h => h)) hu (by omega) (by omega)
theorem flat_le {α : Type} (f : α → Tx) (c : Nat) : ∀ (l : List α), (∀ x ∈ l, (f x).length ≤ c) → (l.flatMap f).length ≤ l.length * c
  | [], _ => by simp
  | x :: l, h => by
    have h1 := h x (List.mem_cons_self ..)
    have h2 := flat_le f c l (fun y hy => h y (List.mem_cons_of_mem _ hy))
    rw [List.flatMap_cons, List.length_append, List.length_cons, Nat.succ_mul]
    omega
theorem gpB_len {g : Gp} (h : FitG g) : (gpB g).length ≤ 84 := by
  have h1 := h.n
  have h2 := Cm.encB_len g.n
  have h3 := (Cm.enc_len g.n.length).1
  have h4 := (Cm.enc_len g.pos.toNat).1
  unfold gpB
  rw [List.length_append]
  omega
theorem encB64 {x : Tx} (h : x.length ≤ 64) : (Cm.encB x).length ≤ 74 := by
  have h2 := Cm.encB_len x
  have h3 := (Cm.enc_len x.length).1
  omega
theorem tpB_len {t : Tp} (h : FitT t) : (tpB t).length ≤ 5600 := by
  have h1 := encB64 h.n
  have h2 := (Cm.enc_len t.base.toNat).1
  have h3 := (Cm.enc_len t.recs.length).1
  have h4 := (Cm.enc_len t.gs.length).1
  have h5 := flat_le Cm.encB 74 t.recs (fun x hx => encB64 (h.each x hx))
  have h6 := flat_le gpB 84 t.gs (fun g hg => gpB_len (h.g g hg))
  have h7 := h.few
  have h8 := h.groups
  unfold tpB Cm.encL
  rw [encP_flat]
  simp only [List.length_append]
  omega
theorem take_succ_flat {α : Type} (f : α → Tx) (l : List α) (k : Nat) (h : k < l.length) : (l.take (k + 1)).flatMap f = (l.take k).flatMap f ++ f l[k] := by
  rw [List.take_succ_eq_append_getElem h, List.flatMap_append, List.flatMap_cons, List.flatMap_nil, List.append_nil]
theorem take_flat_le {α : Type} (f : α → Tx) (c : Nat) (l : List α) (k : Nat) (h : ∀ x ∈ l, (f x).length ≤ c) : ((l.take k).flatMap f).length ≤ l.length * c := by
  have h1 := flat_le f c (l.take k) (fun x hx => h x (List.mem_of_mem_take hx))
  have h2 : (l.take k).length * c ≤ l.length * c := Nat.mul_le_mul_right _ (by rw [List.length_take]; omega)
  omega
set_option maxHeartbeats 4000000 in
theorem rbytes_tk (w : World) (S : Nat → Prop) (q : Nat) (s : St) (h : Tk w S q s) (hg : GoodS s) :
    Calls Tryz.prog 29 #[.pointer (some ⟨q, 0, none⟩)] w (Made w 5 (stB s)) := by
  obtain ⟨l, lv, hL, hP⟩ := h
  have hl8 : l.length ≤ 8 := by rw [← rows_len hL]; exact hg.L.few
  have h8 := hg.eight
  obtain ⟨Al, cl, rfl, hlc⟩ := hP.shape
  have c0 : w.cell? ⟨q, 0, none⟩ = some (.slice Al l.length cl) := by have := hP.blk.cell 0; simpa using this
  have HP := Lib.hid hP
  have HL := Lib.hid hL
  have HG := Lib.hid hg
  obtain ⟨p0, hp0⟩ : ∃ b : Tx, b = [] ++ Cm.enc l.length := ⟨_, rfl⟩
  have HP0 := Lib.hid (rput_any (fun _ => False) (.slice none 0 0) 0 l.length [] w (Sl.nil _ _ _) (by omega) (by omega))
  rw [← hp0] at HP0
  have hp0l : p0.length ≤ 10 := by rw [hp0]; simpa using (Cm.enc_len l.length).1
  have HP0E := Lib.hid hp0
  have HP0L := Lib.hid hp0l
  have HFIN : Hid (stB s = (p0 ++ (l.take l.length).flatMap (fun x => tpB x.1)) ++ (s.last.take 8).flatMap anB) := Lib.hid (by
    rw [stB, hp0, List.take_length, List.take_of_length_le (by omega), List.nil_append, rows_len hL, ← hL, List.flatMap_map, List.append_assoc])
  clear hP hL hg hp0 hp0l
  go_enter Tryz.func29, Tryz.ntmps29
  go_wp2_with fail
  refine HP0.out.mono ?_
  rintro e w0 ⟨v0, rfl, ho0, hb0⟩
  have HW0 : Hid (BW w v0 (p0 ++ (l.take 0).flatMap (fun x => tpB x.1)) w0) := Lib.hid (by rw [List.take_zero, List.flatMap_nil, List.append_nil]; exact ⟨ho0, hb0⟩)
  clear ho0 hb0 c0 HP0
  go_wp2_with fail
  go_loopw [3, 4] (fun v i W => ∃ k : Nat, k ≤ l.length ∧ i = .int .i64 k ∧ BW w v (p0 ++ (l.take k).flatMap (fun x => tpB x.1)) W) (fun _ i _ => l.length - (intOf i).toNat)
  case atStart => exact ⟨0, Nat.zero_le _, rfl, HW0.out⟩
  case round =>
    obtain ⟨k, hk, rfl, hW⟩ := hrel
    have c0 : wr.cell? ⟨q, 0, none⟩ = some (.slice Al l.length cl) := by have := (HP.out.blk.below hW.2 HP.out.blk.lt).cell 0; simpa using this
    have hbl : (p0 ++ (l.take k).flatMap (fun x => tpB x.1)).length ≤ 45000 := by
      have h1 := take_flat_le (fun x : Tw => tpB x.1) 5600 l k (fun x hx => tpB_len (HG.out.L.fit x.1 (by rw [← HL.out]; exact List.mem_map.2 ⟨x, hx, rfl⟩)))
      have h2 := HP0L.out
      rw [List.length_append]
      omega
    have HBE : Hid (∃ b0, b0 = p0 ++ (l.take k).flatMap (fun x => tpB x.1)) := Lib.hid ⟨_, rfl⟩
    obtain ⟨b0, hb0⟩ := HBE.out
    rw [← hb0] at hW hbl
    have HB0E := Lib.hid hb0
    have HBL := Lib.hid hbl
    have HW := Lib.hid hW
    obtain ⟨A0, c0', rfl⟩ := own_shape hW.1
    clear hb0 hbl hW
    by_cases hlt : k < l.length
    · obtain ⟨ad, rfl, had, hadq, hat⟩ := (HP.out.later HW.out.2).at_ hlt
      have htw := HP.out.each l[k] (List.getElem_mem hlt)
      have hft : FitT l[k].1 := HG.out.L.fit _ (by rw [← HL.out]; exact List.mem_map.2 ⟨_, List.getElem_mem hlt, rfl⟩)
      have HSTEP := Lib.hid (take_succ_flat (fun x : Tw => tpB x.1) l k hlt)
      obtain ⟨vs, hvl, hvr⟩ := htw.recs
      obtain ⟨Ar, cr, hrv, -, hcr, -⟩ := id hvl
      obtain ⟨Ag, cg, hgv, -, hcg, -⟩ := id htw.gs
      generalize hx : l[k] = x at *
      clear hx
      obtain ⟨t, rv, gv⟩ := x
      simp only at hrv hgv htw hvl hvr hft hcr hcg
      subst hrv hgv
      obtain ⟨a0, a1, a2, a3, -, -, -, -⟩ := hat
      simp only at a0 a1 a2 a3
      obtain ⟨bn, hbn⟩ : ∃ bn : Nat, t.base = (bn : Int) := ⟨t.base.toNat, by have := hft.base; omega⟩
      have hb63 : bn < 9223372036854775808 := by have := hft.next; simp only [maxNum, Tp.next] at this; omega
      have HFT := Lib.hid hft
      have HTW := Lib.hid htw
      have HVR := Lib.hid hvr
      have HVL := Lib.hid hvl
      have hkl : (k : Int) < (l.length : Int) := by omega
      obtain ⟨b1, hb1⟩ : ∃ b : Tx, b = b0 ++ Cm.encB t.n := ⟨_, rfl⟩
      obtain ⟨b2, hb2⟩ : ∃ b : Tx, b = b1 ++ Cm.enc bn := ⟨_, rfl⟩
      obtain ⟨b3, hb3⟩ : ∃ b : Tx, b = b2 ++ Cm.enc t.recs.length := ⟨_, rfl⟩
      have hl1 : b1.length ≤ 45074 := by rw [hb1, List.length_append]; have := encB64 hft.n; have := HBL.out; omega
      have hl2 : b2.length ≤ 45084 := by rw [hb2, List.length_append]; have := (Cm.enc_len bn).1; omega
      have hl3 : b3.length ≤ 45094 := by rw [hb3, List.length_append]; have := (Cm.enc_len t.recs.length).1; omega
      have HQ1 := Lib.hid (fun W A c base Y u => pb_to (b := b0) hb1 (by have := HBL.out; have := hft.n; omega) W A c base Y u)
      have HQ2 := Lib.hid (fun W A c base => put_to (b := b1) hb2 (by omega) hb63 W A c base)
      have HQ3 := Lib.hid (fun W A c base => put_to (b := b2) hb3 (by omega) (by have := hft.few; omega) W A c base)
      have HBS := Lib.hid (And.intro hb1 (And.intro hb2 hb3))
      have HLS := Lib.hid hl3
      have HN64 := Lib.hid hft.n
      have hcv := conv_bytes t.n
      rw [hbn] at a1
      have HBN := Lib.hid hbn
      have hfew := hft.few
      have hg8 := hft.groups
      have HBX : Hid (Blk (wr.alloc (.cells #[.string ⟨t.n.toArray⟩, .int .i64 (bn : Int), .slice Ar t.recs.length cr, .slice Ag t.gs.length cg] 74)) wr.heap.size 74 #[.string ⟨t.n.toArray⟩, .int .i64 (bn : Int), .slice Ar t.recs.length cr, .slice Ag t.gs.length cg]) := Lib.hid (Blk.new wr _ _)
      have HBB := Lib.hid (Xr.op_below wr (.cells #[.string ⟨t.n.toArray⟩, .int .i64 (bn : Int), .slice Ar t.recs.length cr, .slice Ag t.gs.length cg] 74))
      clear hvl hvr htw hft had hadq hb1 hb2 hb3 hl1 hl2 hl3 hbn hcr hcg
      go_wp2_with fail
      generalize hw1 : wr.alloc (.cells #[.string ⟨t.n.toArray⟩, .int .i64 (bn : Int), .slice Ar t.recs.length cr, .slice Ag t.gs.length cg] 74) = w1 at *
      clear hw1 a0 a1 a2 a3 c0
      generalize hwo : wr = wo at *
      clear hwo
      have SW : ∀ W : World, Below w1.heap.size w1 W → (W.cell? ⟨wo.heap.size, 0, none⟩ = some (.string ⟨t.n.toArray⟩) ∧ W.cell? ⟨wo.heap.size, 1, none⟩ = some (.int .i64 (bn : Int)) ∧ W.cell? ⟨wo.heap.size, 2, none⟩ = some (.slice Ar t.recs.length cr) ∧ W.cell? ⟨wo.heap.size, 3, none⟩ = some (.slice Ag t.gs.length cg)) := fun W h => by
        have hp := HBX.out.below h HBX.out.lt
        have y0 := hp.cell 0
        have y1 := hp.cell 1
        have y2 := hp.cell 2
        have y3 := hp.cell 3
        simp only [List.getElem?_toArray, List.getElem?_cons_zero, List.getElem?_cons_succ] at y0 y1 y2 y3
        exact ⟨y0, y1, y2, y3⟩
      have S0 := SW w1 (Below.refl _ _)
      have S1 := SW w1.drew (Xj.below_drew0 _)
      have S2 := SW (Lib.bytesWorld w1.drew 5 ⟨t.n.toArray⟩) (below_of_drew (bytesWorld_below w1.drew 5 ⟨t.n.toArray⟩))
      have S2' := SW (Lib.bytesWorld w1 5 ⟨t.n.toArray⟩) (bytesWorld_below w1 5 ⟨t.n.toArray⟩)
      have HSW := Lib.hid SW
      have HO1 : Hid ((Lib.bytesWorld w1.drew 5 ⟨t.n.toArray⟩).ownsRow w.heap.size 5 1 (.slice A0 b0.length c0') b0.length (BVs b0)) := Lib.hid (own_below (own_below (own_below HW.out.1 HBB.out) (Xj.below_drew0 w1)) (bytesWorld_below w1.drew 5 ⟨t.n.toArray⟩))
      have HU1 : Hid (Sl (Lib.bytesWorld w1.drew 5 ⟨t.n.toArray⟩) (fun _ => False) 1 (.slice (some ⟨w1.heap.size, 0, none⟩) t.n.length (grownCap w1.drew t.n.length 0 5)) t.n.length (BVs t.n)) := Lib.hid ((bytesWorld_out w1.drew t.n (by have := HN64.out; omega)).sl (X := fun _ => False) (fun _ _ _ h => h))
      clear SW
      go_upto_region 6 with fail
      go_cut [3] (fun s3 W => ∃ A c, s3 = .slice A b2.length c ∧ BW w (.slice A b2.length c) b2 W ∧ Below w1.heap.size w1 W)
      case first =>
        obtain ⟨z0, z1, z2, z3⟩ := S1
        obtain ⟨u0, u1, u2, u3⟩ := S2
        go_region_law
          (first
            | (go_simp; go_at_call 65; refine Calls.mono (HQ1.out _ _ _ _ _ _ HO1.out HU1.out) ?_; rintro e w2 ⟨v2, rfl, ho2, hb2⟩; obtain ⟨A2, c2, rfl⟩ := own_shape ho2; have hb2' : Below w1.heap.size w1 w2 := (below_of_drew ((bytesWorld_below w1.drew 5 ⟨t.n.toArray⟩).trans (hb2.mono (by rw [Lib.bytesWorld_size]; simp)))); obtain ⟨x0, x1, x2, x3⟩ := HSW.out w2 hb2')
            | (go_simp; go_at_call 64; refine Calls.mono (HQ2.out _ _ _ _ ho2) ?_; rintro e w3 ⟨v3, rfl, ho3, hb3⟩; obtain ⟨A3, c3, rfl⟩ := own_shape ho3; have hb3' : Below w1.heap.size w1 w3 := hb2'.trans (hb3.mono hb2'.size); obtain ⟨n0, n1, n2, n3⟩ := HSW.out w3 hb3'))
        all_goals
          go_wp2_with fail
          go_meet
          have hw1b : Below w.heap.size w w1 := HW.out.2.trans (HBB.out.mono HW.out.2.size)
          exact ⟨_, _, rfl, BW.made (hw1b.trans (hb2'.mono hw1b.size)) ho3 hb3, hb3'⟩
      case rest =>
        obtain ⟨A2, c2, rfl, hbw, hbe⟩ := hcut
        generalize wc = w2 at *
        have HW2 := Lib.hid (And.intro hbw hbe)
        clear hbw hbe S0 S1 S2 S2' HO1 HU1 hcv
        obtain ⟨y0, y1, y2, y3⟩ := HSW.out w2 HW2.out.2
        go_wp2_with fail
        refine (HQ3.out w2 A2 c2 _ HW2.out.1.1).mono ?_
        rintro e w3 ⟨v3, rfl, ho3, hb3⟩
        have hbe3 : Below w1.heap.size w1 w3 := HW2.out.2.trans (hb3.mono HW2.out.2.size)
        have HW3 : Hid (BW w v3 (b3 ++ (t.recs.take 0).flatMap Cm.encB) w3 ∧ Below w1.heap.size w1 w3) := Lib.hid ⟨by rw [List.take_zero, List.flatMap_nil, List.append_nil]; exact BW.made HW2.out.1.2 ho3 hb3, hbe3⟩
        clear ho3 hb3 hbe3 y0 y1 y2 y3
        go_wp2_with fail
        go_loopw [3, 6] (fun v i W => ∃ j : Nat, j ≤ t.recs.length ∧ i = .int .i64 j ∧ BW w v (b3 ++ (t.recs.take j).flatMap Cm.encB) W ∧ Below w1.heap.size w1 W) (fun _ i _ => t.recs.length - (intOf i).toNat)
        case atStart => exact ⟨0, Nat.zero_le _, rfl, HW3.out⟩
        case round =>
          obtain ⟨j, hj, rfl, hW4, hbe4⟩ := hrel
          obtain ⟨y0, y1, y2, y3⟩ := HSW.out wr hbe4
          have hbl4 : (b3 ++ (t.recs.take j).flatMap Cm.encB).length ≤ 49900 := by
            have h1 := take_flat_le Cm.encB 74 t.recs j (fun x hx => encB64 (HFT.out.each x hx))
            have h2 := HLS.out
            rw [List.length_append]
            omega
          obtain ⟨b4, hb4⟩ : ∃ b : Tx, b = b3 ++ (t.recs.take j).flatMap Cm.encB := ⟨_, rfl⟩
          rw [← hb4] at hW4 hbl4
          have HB4 := Lib.hid hb4
          have HW4 := Lib.hid (And.intro hW4 hbe4)
          obtain ⟨A4, c4, rfl⟩ := own_shape hW4.1
          by_cases hj2 : j < t.recs.length
          · obtain ⟨ad4, Ab, cb, e4, hcell, hsl⟩ := (show Ls w _ (.slice Ar t.recs.length cr) t.recs from HTW.out.recs).at_ hj2
            subst e4
            have hcell4 := hcell
            rw [← (HW4.out.1.2).cell (World.block_lt_of_cell? w _ hcell)] at hcell4
            have hsl4 := hsl.after HW4.out.1.2
            obtain ⟨b5, hb5⟩ : ∃ b : Tx, b = b4 ++ Cm.encB t.recs[j] := ⟨_, rfl⟩
            have hr64 := HFT.out.each _ (List.getElem_mem hj2)
            have HQ5 := Lib.hid (pb_to (b := b4) hb5 (by omega) wr A4 c4 _ _ _ HW4.out.1.1 hsl4)
            have HB5 : Hid (b5 = b3 ++ (t.recs.take (j + 1)).flatMap Cm.encB) := Lib.hid (by rw [take_succ_flat Cm.encB t.recs j hj2, ← List.append_assoc, ← hb4, hb5])
            have hjn : (j : Int) < (t.recs.length : Int) := by omega
            clear hW4 hbe4 hb4 hbl4 hcell hsl hsl4 hb5 hr64
            go_wp2_with fail
            refine HQ5.out.mono ?_
            rintro e w5 ⟨v5, rfl, ho5, hb5⟩
            have HW5 : Hid (BW w v5 b5 w5 ∧ Below w1.heap.size w1 w5) := Lib.hid ⟨BW.made HW4.out.1.2 ho5 hb5, HW4.out.2.trans (hb5.mono HW4.out.2.size)⟩
            clear ho5 hb5
            go_wp2_with fail
            go_roundw
            case rel => exact ⟨j + 1, by omega, by go_num, by rw [← HB5.out]; exact HW5.out.1, HW5.out.2⟩
            case measure => simp [intOf]; omega
          · have hje : j = t.recs.length := by omega
            subst hje
            rw [List.take_length] at HB4
            obtain ⟨b6, hb6⟩ : ∃ b : Tx, b = b4 ++ Cm.enc t.gs.length := ⟨_, rfl⟩
            have hl6 : b6.length ≤ 49910 := by rw [hb6, List.length_append]; have := (Cm.enc_len t.gs.length).1; omega
            have HQ6 := Lib.hid (put_to (b := b4) hb6 (by omega) (by omega) wr A4 c4 _ HW4.out.1.1)
            have HB6 := Lib.hid hb6
            have HL6 := Lib.hid hl6
            clear hW4 hbe4 hb4 hbl4 hb6 hl6
            go_wp2_with fail
            refine HQ6.out.mono ?_
            rintro e w6 ⟨v6, rfl, ho6, hb6⟩
            have HW6 : Hid (BW w v6 (b6 ++ (t.gs.take 0).flatMap gpB) w6 ∧ Below w1.heap.size w1 w6) := Lib.hid ⟨by rw [List.take_zero, List.flatMap_nil, List.append_nil]; exact BW.made HW4.out.1.2 ho6 hb6, HW4.out.2.trans (hb6.mono HW4.out.2.size)⟩
            clear ho6 hb6 y0 y1 y2 y3
            go_wp2_with fail
            go_loopw [3, 7] (fun v i W => ∃ j : Nat, j ≤ t.gs.length ∧ i = .int .i64 j ∧ BW w v (b6 ++ (t.gs.take j).flatMap gpB) W ∧ Below w1.heap.size w1 W) (fun _ i _ => t.gs.length - (intOf i).toNat)
            case atStart => exact ⟨0, Nat.zero_le _, rfl, HW6.out⟩
            case round =>
              obtain ⟨j, hj, rfl, hW7, hbe7⟩ := hrel
              obtain ⟨y0, y1, y2, y3⟩ := HSW.out wr hbe7
              have hbl7 : (b6 ++ (t.gs.take j).flatMap gpB).length ≤ 50600 := by
                have h1 := take_flat_le gpB 84 t.gs j (fun g hg => gpB_len (HFT.out.g g hg))
                have h2 := HL6.out
                rw [List.length_append]
                omega
              obtain ⟨b7, hb7⟩ : ∃ b : Tx, b = b6 ++ (t.gs.take j).flatMap gpB := ⟨_, rfl⟩
              rw [← hb7] at hW7 hbl7
              have HB7 := Lib.hid hb7
              have HW7 := Lib.hid (And.intro hW7 hbe7)
              obtain ⟨A7, c7, rfl⟩ := own_shape hW7.1
              by_cases hj2 : j < t.gs.length
              · obtain ⟨ag, e7, g0, g1⟩ := grp_at ((show Sl w _ 2 (.slice Ag t.gs.length cg) t.gs.length (GCs t.gs) from HTW.out.gs).after HW7.out.1.2) hj2
                subst e7
                have hfg := HFT.out.g _ (List.getElem_mem hj2)
                have HGP := Lib.hid (take_succ_flat gpB t.gs j hj2)
                generalize hgj : t.gs[j] = g at *
                clear hgj
                obtain ⟨gn, gp⟩ := g
                simp only at g0 g1 hfg
                obtain ⟨pn, hpn⟩ : ∃ pn : Nat, gp = (pn : Int) := ⟨gp.toNat, by have := hfg.pos; simp only at this; omega⟩
                subst hpn
                have hn64 : gn.length ≤ 64 := hfg.n
                have hp63 : pn < 9223372036854775808 := by have := hfg.pos; simp only [maxNum] at this; omega
                obtain ⟨b8, hb8⟩ : ∃ b : Tx, b = b7 ++ Cm.encB gn := ⟨_, rfl⟩
                obtain ⟨b9, hb9⟩ : ∃ b : Tx, b = b8 ++ Cm.enc pn := ⟨_, rfl⟩
                have hl8' : b8.length ≤ 50700 := by rw [hb8, List.length_append]; have := encB64 hn64; omega
                have HQ8 := Lib.hid (fun W A c base Y u => pb_to (b := b7) hb8 (by omega) W A c base Y u)
                have HQ9 := Lib.hid (fun W A c base => put_to (b := b8) hb9 (by omega) hp63 W A c base)
                have HB9 : Hid (b9 = b6 ++ (t.gs.take (j + 1)).flatMap gpB) := Lib.hid (by rw [HGP.out, ← List.append_assoc, ← hb7, hb9, hb8]; simp [gpB])
                have hcv := conv_bytes gn
                have hjn : (j : Int) < (t.gs.length : Int) := by omega
                have hN := Lib.hid hn64
                clear hW7 hbe7 hb7 hbl7 hfg hb8 hb9 hl8' HGP
                have SG : ∀ W : World, Below wr.heap.size wr W → (W.cell? ⟨wo.heap.size, 3, none⟩ = some (.slice (some ag) t.gs.length cg) ∧ W.cell? (ag.add (j * 2)) = some (.string ⟨gn.toArray⟩) ∧ W.cell? ⟨(ag.add (j * 2)).block, (ag.add (j * 2)).off + 1, none⟩ = some (.int .i64 (pn : Int))) := fun W h => ⟨(HSW.out W (HW7.out.2.trans (h.mono HW7.out.2.size))).2.2.2, by rw [h.cell (World.block_lt_of_cell? _ _ g0)]; exact g0, by rw [h.cell (World.block_lt_of_cell? _ _ g1)]; exact g1⟩
                have S0 := SG wr (Below.refl _ _)
                have S1 := SG wr.drew (Xj.below_drew0 _)
                have S2 := SG (Lib.bytesWorld wr.drew 5 ⟨gn.toArray⟩) (below_of_drew (bytesWorld_below wr.drew 5 ⟨gn.toArray⟩))
                have HSG := Lib.hid SG
                have HO7 : Hid ((Lib.bytesWorld wr.drew 5 ⟨gn.toArray⟩).ownsRow w.heap.size 5 1 (.slice A7 b7.length c7) b7.length (BVs b7)) := Lib.hid (own_below (own_below HW7.out.1.1 (Xj.below_drew0 wr)) (bytesWorld_below wr.drew 5 ⟨gn.toArray⟩))
                have HU7 : Hid (Sl (Lib.bytesWorld wr.drew 5 ⟨gn.toArray⟩) (fun _ => False) 1 (.slice (some ⟨wr.heap.size, 0, none⟩) gn.length (grownCap wr.drew gn.length 0 5)) gn.length (BVs gn)) := Lib.hid ((bytesWorld_out wr.drew gn (by have := hN.out; omega)).sl (X := fun _ => False) (fun _ _ _ h => h))
                clear SG y0 y1 y2 y3
                obtain ⟨y0, y1, y2⟩ := S0
                obtain ⟨z0, z1, z2⟩ := S1
                obtain ⟨u0, u1, u2⟩ := S2
                go_wp2_with fail
                go_region_law
                  (first
                    | (go_simp; go_at_call 65; refine Calls.mono (HQ8.out _ _ _ _ _ _ HO7.out HU7.out) ?_; rintro e w8 ⟨v8, rfl, ho8, hb8⟩; obtain ⟨A8, c8, rfl⟩ := own_shape ho8; have hb8' : Below wr.heap.size wr w8 := (below_of_drew ((bytesWorld_below wr.drew 5 ⟨gn.toArray⟩).trans (hb8.mono (by rw [Lib.bytesWorld_size]; simp)))); obtain ⟨x0, x1, x2⟩ := HSG.out w8 hb8')
                    | (go_simp; go_at_call 64; refine Calls.mono (HQ9.out _ _ _ _ ho8) ?_; rintro e w9 ⟨v9, rfl, ho9, hb9⟩; obtain ⟨A9, c9, rfl⟩ := own_shape ho9; have hb9' : Below wr.heap.size wr w9 := hb8'.trans (hb9.mono hb8'.size); obtain ⟨n0, n1, n2⟩ := HSG.out w9 hb9'))
                all_goals
                  have hz := HW7.out.1.2
                  have HW9 : Hid (BW w (.slice A9 b9.length c9) b9 w9 ∧ Below w1.heap.size w1 w9) := Lib.hid ⟨BW.made (hz.trans (hb8'.mono hz.size)) ho9 hb9, HW7.out.2.trans (hb9'.mono HW7.out.2.size)⟩
                  clear hz ho9 hb9 hb9' ho8 hb8 hb8' y0 y1 y2 z0 z1 z2 u0 u1 u2 x0 x1 x2 n0 n1 n2 hcv HO7 HU7
                  go_wp2_with fail
                  go_roundw
                  case rel => exact ⟨j + 1, by omega, by go_num, by rw [← HB9.out]; exact HW9.out.1, HW9.out.2⟩
                  case measure => simp [intOf]; omega
              · have hje : j = t.gs.length := by omega
                subst hje
                rw [List.take_length] at HB7
                have HNEW : Hid (p0 ++ (l.take (k + 1)).flatMap (fun x => tpB x.1) = b7) := Lib.hid (by
                  rw [HSTEP.out, ← List.append_assoc, ← HB0E.out, HB7.out, HB6.out, HB4.out, HBS.out.2.2, HBS.out.2.1, HBS.out.1]
                  simp only [tpB, Cm.encL, encP_flat, HBN.out, Int.toNat_natCast, List.append_assoc])
                clear hW7 hbe7 hb7 hbl7
                go_wp2_with fail
                go_roundw
                case rel => exact ⟨k + 1, by omega, by go_num, by rw [HNEW.out]; exact HW7.out.1⟩
                case measure => simp [intOf]; omega
    · have hke : k = l.length := by omega
      subst hke
      have HW0b : Hid (BW w (.slice A0 b0.length c0') (b0 ++ (s.last.take 0).flatMap anB) wr) := Lib.hid (by rw [List.take_zero, List.flatMap_nil, List.append_nil]; exact HW.out)
      have HFIN2 : Hid (stB s = b0 ++ (s.last.take 8).flatMap anB) := Lib.hid (by rw [HFIN.out, HB0E.out])
      go_wp2_with fail
      clear c0
      go_loopw [3, 8] (fun v i W => ∃ j : Nat, j ≤ 8 ∧ i = .int .i64 j ∧ BW w v (b0 ++ (s.last.take j).flatMap anB) W) (fun _ i _ => 8 - (intOf i).toNat)
      case atStart => exact ⟨0, Nat.zero_le _, rfl, HW0b.out⟩
      case round =>
        obtain ⟨j, hj, rfl, hW7⟩ := hrel
        have hbl7 : (b0 ++ (s.last.take j).flatMap anB).length ≤ 45240 := by
          have h1 := take_flat_le anB 30 s.last j (fun a ha => anB_len (HG.out.a a ha).1)
          have h2 := HBL.out
          rw [List.length_append]
          omega
        obtain ⟨b7, hb7⟩ : ∃ b : Tx, b = b0 ++ (s.last.take j).flatMap anB := ⟨_, rfl⟩
        rw [← hb7] at hW7 hbl7
        have HB7 := Lib.hid hb7
        have HW7 := Lib.hid hW7
        obtain ⟨A7, c7, rfl⟩ := own_shape hW7.1
        by_cases hj8 : j < 8
        · have hjl : j < s.last.length := by omega
          obtain ⟨⟨q0, q1, q2⟩, -⟩ := tk_cellA (⟨l, _, HL.out, HP.out.later hW7.2⟩ : Tk wr S q s) hjl
          have hfa := (HG.out.a _ (List.getElem_mem hjl)).1
          have HAN := Lib.hid (take_succ_flat anB s.last j hjl)
          generalize hgj : s.last[j] = a at *
          clear hgj
          obtain ⟨at', ae, ao⟩ := a
          obtain ⟨⟨t0, t1⟩, ⟨e0, e1⟩, ⟨f0, f1⟩⟩ := hfa
          simp only [maxNum] at q0 q1 q2 t0 t1 e0 e1 f0 f1
          obtain ⟨tn, rfl⟩ : ∃ tn : Nat, at' = (tn : Int) := ⟨at'.toNat, by omega⟩
          obtain ⟨en, rfl⟩ : ∃ tn : Nat, ae = (tn : Int) := ⟨ae.toNat, by omega⟩
          obtain ⟨fn, rfl⟩ : ∃ tn : Nat, ao = (tn : Int) := ⟨ao.toNat, by omega⟩
          obtain ⟨b8, hb8⟩ : ∃ b : Tx, b = b7 ++ Cm.enc tn := ⟨_, rfl⟩
          obtain ⟨b9, hb9⟩ : ∃ b : Tx, b = b8 ++ Cm.enc en := ⟨_, rfl⟩
          obtain ⟨b10, hb10⟩ : ∃ b : Tx, b = b9 ++ Cm.enc fn := ⟨_, rfl⟩
          have hl8' : b8.length ≤ 45250 := by rw [hb8, List.length_append]; have := (Cm.enc_len tn).1; omega
          have hl9' : b9.length ≤ 45260 := by rw [hb9, List.length_append]; have := (Cm.enc_len en).1; omega
          have HQ8 := Lib.hid (fun W A c base => put_to (b := b7) hb8 (by omega) (by omega) W A c base)
          have HQ9 := Lib.hid (fun W A c base => put_to (b := b8) hb9 (by omega) (by omega) W A c base)
          have HQ10 := Lib.hid (fun W A c base => put_to (b := b9) hb10 (by omega) (by omega) W A c base)
          have HB10 : Hid (b10 = b0 ++ (s.last.take (j + 1)).flatMap anB) := Lib.hid (by rw [HAN.out, ← List.append_assoc, ← hb7, hb10, hb9, hb8]; simp [anB])
          have hjn : (j : Int) < 8 := by omega
          have HBX : Hid (Blk (wr.alloc (.cells #[.int .i64 (tn : Int), .int .i64 (en : Int), .int .i64 (fn : Int)] 32)) wr.heap.size 32 #[.int .i64 (tn : Int), .int .i64 (en : Int), .int .i64 (fn : Int)]) := Lib.hid (Blk.new wr _ _)
          have HBB := Lib.hid (Xr.op_below wr (.cells #[.int .i64 (tn : Int), .int .i64 (en : Int), .int .i64 (fn : Int)] 32))
          clear hW7 hb7 hbl7 hb8 hb9 hb10 hl8' hl9' HAN t0 t1 e0 e1 f0 f1
          go_wp2_with fail
          generalize hw1 : wr.alloc (.cells #[.int .i64 (tn : Int), .int .i64 (en : Int), .int .i64 (fn : Int)] 32) = w1 at *
          clear hw1 q0 q1 q2
          have SG : ∀ W : World, Below w1.heap.size w1 W → (W.cell? ⟨wr.heap.size, 0, none⟩ = some (.int .i64 (tn : Int)) ∧ W.cell? ⟨wr.heap.size, 1, none⟩ = some (.int .i64 (en : Int)) ∧ W.cell? ⟨wr.heap.size, 2, none⟩ = some (.int .i64 (fn : Int))) := fun W h => by
            have hp := HBX.out.below h HBX.out.lt
            have y0 := hp.cell 0
            have y1 := hp.cell 1
            have y2 := hp.cell 2
            simp only [List.getElem?_toArray, List.getElem?_cons_zero, List.getElem?_cons_succ] at y0 y1 y2
            exact ⟨y0, y1, y2⟩
          have S0 := SG w1 (Below.refl _ _)
          have S1 := SG w1.drew (Xj.below_drew0 _)
          have HSG := Lib.hid SG
          have HO7 : Hid (w1.drew.ownsRow w.heap.size 5 1 (.slice A7 b7.length c7) b7.length (BVs b7)) := Lib.hid (own_below (own_below HW7.out.1 HBB.out) (Xj.below_drew0 w1))
          clear SG
          have HC8 := Lib.hid (HQ8.out w1.drew A7 c7 _ HO7.out)
          go_wp2_with fail
          go_region_held3 (fun W => W.cell? ⟨wr.heap.size, 0, none⟩ = some (.int .i64 (tn : Int)) ∧ W.cell? ⟨wr.heap.size, 1, none⟩ = some (.int .i64 (en : Int)) ∧ W.cell? ⟨wr.heap.size, 2, none⟩ = some (.int .i64 (fn : Int))) (first | with_reducible exact S0 | with_reducible exact S1 | with_reducible exact S2 | with_reducible exact S3 | with_reducible exact S4)
            (first
              | (go_at_call 64; refine HC10.out.mono ?_; rintro e w10 ⟨v10, rfl, ho10, hb10⟩; obtain ⟨A10, c10, rfl⟩ := own_shape ho10; have hb10' : Below w1.heap.size w1 w10 := hb9'.trans (hb10.mono hb9'.size); have S4 := HSG.out w10 hb10')
              | (go_at_call 64; refine HC9.out.mono ?_; rintro e w9 ⟨v9, rfl, ho9, hb9⟩; obtain ⟨A9, c9, rfl⟩ := own_shape ho9; have hb9' : Below w1.heap.size w1 w9 := hb8'.trans (hb9.mono hb8'.size); have S3 := HSG.out w9 hb9'; have HC10 := Lib.hid (HQ10.out w9 A9 c9 _ ho9))
              | (go_at_call 64; refine HC8.out.mono ?_; rintro e w8 ⟨v8, rfl, ho8, hb8⟩; obtain ⟨A8, c8, rfl⟩ := own_shape ho8; have hb8' : Below w1.heap.size w1 w8 := below_of_drew hb8; have S2 := HSG.out w8 hb8'; have HC9 := Lib.hid (HQ9.out w8 A8 c8 _ ho8)))
          all_goals
            have hz := HW7.out.2.trans (HBB.out.mono HW7.out.2.size)
            have HW10 : Hid (BW w (.slice A10 b10.length c10) b10 w10) := Lib.hid (BW.made (hz.trans (hb9'.mono hz.size)) ho10 hb10)
            clear hz ho10 hb10 hb10' ho9 hb9 hb9' ho8 hb8 hb8' S0 S1 S2 S3 S4 HO7
            go_wp2_with fail
            go_roundw
            case rel => exact ⟨j + 1, by omega, by go_num, by rw [← HB10.out]; exact HW10.out⟩
            case measure => simp [intOf]; omega
        · have hje : j = 8 := by omega
          subst hje
          have HE : Hid (stB s = b7) := Lib.hid (by rw [HFIN2.out, HB7.out])
          clear hW7 hb7 hbl7
          go_wp2_with fail
          go_ret
          rw [HE.out]
          exact ⟨_, rfl, HW7.out.1, HW7.out.2⟩
end Go.Proofs.YtkoedonllfmaaaaGreat.Xz

/-
  Layer 7: what topics that no call made answer.
-/
namespace Go.Proofs.YtkoedonllfmaaaaGreat.Xn
set_option linter.unusedSimpArgs false
open Go Go.RowKit Ck Kw Ga Kf Pm Pe Tm Tn Tq Aa Aj Ai Ag Xl
attribute [local go_sem ↓] Go.wp_at_zero Go.wp_at_succ
set_option linter.unusedVariables false
set_option maxRecDepth 100000

/-- Two results, the second a struct in a cell of its own. -/
theorem results_tmp_row {P : Program} {fn : Func} {p q : Tmp} {ty : TypeId} (h : fn.results = #[.tmp q, .cell p ty]) (tmps : Array Value) (w : World) (g : Nat) (t : TypeId) (cs : Array Value) (fr : Nat × Nat) (d : TypeDesc)
    (hp : tmps.getD p undef = .pointer (some ⟨g, 0, none⟩)) (hg : w.heap[g]? = some (.cells cs t fr))
    (hu : P.underlying ty = some d) (hd : (match d with | .struct _ | .array _ _ => true | _ => false) = true) (hi : (P.info? ty).map (·.size) = some cs.size) :
    (results fn tmps).run P w = .ok (.tuple #[tmps.getD q undef, .agg cs]) w := by
  have hp' : tmps[p]?.getD undef = .pointer (some ⟨g, 0, none⟩) := by simpa using hp
  simp [results, h, hp', asAddr, run_loadVar_row w g t ty cs fr d hg hu hd hi]
end Go.Proofs.YtkoedonllfmaaaaGreat.Xn

/-
  Layer 7: the program's Committed, Groups, Last, on topics that are.
-/
namespace Go.Proofs.YtkoedonllfmaaaaGreat.Xt
set_option linter.unusedSimpArgs false
open Go Go.RowKit Ck Kw Ga Kf Km Pm Pe Tm Tn Tq To Aa Ad Aj Am Bq Xn
attribute [local go_sem ↓] Go.wp_at_zero Go.wp_at_succ
set_option linter.unusedVariables false
set_option maxRecDepth 100000

set_option maxHeartbeats 1000000 in
theorem comm_on (w : World) (S R : Nat → Prop) (p : Nat) (s : St) (x y : Tx) (hx : x.length ≤ 140737488355328) (hy : y.length ≤ 140737488355328) (h : Tz w S R p s) :
    Calls Tryz.prog 54 #[.pointer (some ⟨p, 0, none⟩), .string ⟨x.toArray⟩, .string ⟨y.toArray⟩] w fun e w' => e = .returned (.tuple #[.int .i64 (commT s.L x y).1, .int .i64 (commT s.L x y).2]) ∧ w = w' := by
  obtain ⟨m, D, G, V, M, F, hP⟩ := h
  have HF := Lib.hid (find_on w S R p m s D G V M F x hx hP)
  cases hf : findT s.L x with
  | none =>
    have e : commT s.L x y = (0, 4) := by rw [commT, hf]
    rw [e]
    rw [hf] at HF
    unfold PV at HF
    simp only [Option.map_none, Option.isSome_none] at HF
    clear hP hf e hx
    go_enter Tryz.func54, Tryz.ntmps54
    go_wp2_with fail
    refine HF.out.mono ?_
    rintro e w2 ⟨rfl, rfl⟩
    go_wp2_with fail
    go_ret2
    exact ⟨rfl, rfl⟩
  | some t =>
    obtain ⟨ht, hn⟩ := findT_some hf
    have hT := hP.top t ht
    obtain ⟨Dg, hD, hTl⟩ := hT.gs
    have c2 : w.cell? ⟨G t.n, 2, none⟩ = some (.map (some (M t.n))) := hT.blk.cell 2
    have hlk := glook hD hTl y hy
    rw [hf] at HF
    unfold PV at HF
    simp only [Option.map_some, Option.isSome_some] at HF
    cases hp : pos t.gs y with
    | none =>
      have e : commT s.L x y = (0, 4) := by simp only [commT, hf, hp]
      rw [e]
      rw [hp] at hlk
      simp only [Option.getD_none, Option.isSome_none] at hlk
      clear hP hf e hx hT hD hTl hp ht hn
      go_enter Tryz.func54, Tryz.ntmps54
      go_wp2_with fail
      refine HF.out.mono ?_
      rintro e w2 ⟨rfl, rfl⟩
      go_wp2_with fail
      go_ret2
      exact ⟨rfl, rfl⟩
    | some k =>
      have e : commT s.L x y = (k, 0) := by simp only [commT, hf, hp]
      rw [e]
      rw [hp] at hlk
      simp only [Option.getD_some, Option.isSome_some] at hlk
      clear hP hf e hx hT hD hTl hp ht hn
      go_enter Tryz.func54, Tryz.ntmps54
      go_wp2_with fail
      refine HF.out.mono ?_
      rintro e w2 ⟨rfl, rfl⟩
      go_wp2_with fail
      go_ret2
      exact ⟨rfl, rfl⟩
/-- The names of a topic's groups. -/
def groupsT (L : List Tp) (x : Tx) : List Tx := match findT L x with
  | none => []
  | some t => t.gs.map (·.n)
set_option maxHeartbeats 1000000 in
theorem groups_on (w : World) (S R : Nat → Prop) (p : Nat) (s : St) (x : Tx) (hx : x.length ≤ 140737488355328) (h : Tz w S R p s) :
    Calls Tryz.prog 24 #[.pointer (some ⟨p, 0, none⟩), .string ⟨x.toArray⟩] w (Named w (groupsT s.L x)) := by
  obtain ⟨m, D, G, V, M, F, hP⟩ := h
  have HF := Lib.hid (find_on w S R p m s D G V M F x hx hP)
  cases hf : findT s.L x with
  | none =>
    have e : groupsT s.L x = [] := by rw [groupsT, hf]
    rw [e]
    rw [hf] at HF
    unfold PV at HF
    simp only [Option.map_none, Option.isSome_none] at HF
    clear hP hf e hx
    go_enter Tryz.func24, Tryz.ntmps24
    go_wp2_with fail
    refine HF.out.mono ?_
    rintro e w2 ⟨rfl, rfl⟩
    go_wp2_with fail
    go_ret
    exact ⟨none, 0, rfl, World.ownsRow_nil _ _ _ _, Below.refl _ _⟩
  | some t =>
    have e : groupsT s.L x = t.gs.map (·.n) := by rw [groupsT, hf]
    rw [e]
    obtain ⟨ht, hn⟩ := findT_some hf
    have hT := hP.top t ht
    have hfit := hP.good.L.fit t ht
    have HGN := Lib.hid (gnames_on w _ R _ t _ _ hT (List.pairwise_map.2 ((okT_iff t).1 (hP.good.L.ok t ht)).2.2.2) hfit.groups)
    rw [hf] at HF
    unfold PV at HF
    simp only [Option.map_some, Option.isSome_some] at HF
    clear hP hf e hx hT ht hn hfit
    go_enter Tryz.func24, Tryz.ntmps24
    go_wp2_with fail
    refine HF.out.mono ?_
    rintro e w2 ⟨rfl, rfl⟩
    go_wp2_with fail
    refine HGN.out.mono ?_
    rintro e w2 ⟨A, c, rfl, ho, hb⟩
    have HO := Lib.hid (And.intro ho hb)
    clear ho hb
    go_wp2_with fail
    go_ret
    exact ⟨A, c, by simp, HO.out.1, HO.out.2⟩
set_option maxHeartbeats 1000000 in
theorem last_on (w : World) (S R : Nat → Prop) (p i : Nat) (s : St) (hi : i < 8) (h : Tz w S R p s) :
    Calls Tryz.prog 11 #[.pointer (some ⟨p, 0, none⟩), .int .i64 (i : Int)] w fun e w' => e = .returned (.tuple #[.int .i64 (s.last.getD i An.zero).time, .agg #[.int .i64 (s.last.getD i An.zero).err, .int .i64 (s.last.getD i An.zero).off]]) ∧ Below w.heap.size w w' := by
  have hb := Xj.op_below w (.cells #[.int .i64 0, .int .i64 0] 30)
  have hr : Blk (w.alloc (.cells #[.int .i64 0, .int .i64 0] 30)) w.heap.size 30 #[.int .i64 0, .int .i64 0] := Blk.new _ _ _
  have h1 := h.later hb
  have HR := Lib.hid (And.intro hb hr)
  have HM := Lib.hid (made_on _ S R p s h1)
  obtain ⟨m, D, G, V, M, F, hP⟩ := h1
  have hlen := hP.len8
  have hil : i < s.last.length := by omega
  obtain ⟨q0, q1, q2⟩ := hP.cellA hil
  have hg2 : s.last.getD i An.zero = s.last[i] := by rw [List.getD_eq_getElem?_getD, List.getElem?_eq_getElem hil]; rfl
  rw [hg2]
  have hcl : (decide (0 ≤ (i : Int)) && decide ((i : Int) < 8)) = true := by simp; omega
  have HCN : ∀ W : World, Hid (Calls Tryz.prog 18 #[.int .i64 (i : Int)] W fun e w' => e = .returned (.bool true) ∧ W = w') := fun W => Lib.hid (by rw [← hcl]; exact client_any W i)
  have r0 := hr.cell 0
  have r1 := hr.cell 1
  have fr0 := hr.frozen 0
  have fr1 := hr.frozen 1
  simp only [List.getElem?_toArray, List.getElem?_cons_zero, List.getElem?_cons_succ] at r0 r1
  have hn0 : (0 : Int) ≤ (i : Int) := by omega
  have hn8 : (i : Int) < 8 := by omega
  clear hb hr h hP hlen hg2 hcl
  generalize s.last[i] = a at *
  obtain ⟨at', ae, ao⟩ := a
  simp only at q0 q1 q2
  go_enter Tryz.func11, Tryz.ntmps11
  go_wp2_with fail
  refine HM.out.mono ?_
  rintro e w1 ⟨rfl, rfl⟩
  go_wp2_with fail
  refine (HCN _).out.mono ?_
  rintro e w1 ⟨rfl, rfl⟩
  go_wp2_with fail
  go_region_law (fail)
  all_goals
    go_wp2_with fail
    refine bodyPost_ret (results_tmp_row rfl _ _ w.heap.size 30 #[.int .i64 ae, .int .i64 ao] (0, 0) _ rfl (Blk.alloc (Blk.new w _ _) _) Tryz.underlying30 rfl Ai.size_res) rfl ?_
    exact ⟨rfl, below_drewN ((Xj.op_below w _).trans ((Xj.op_below _ _).mono (by simp))) 1⟩
end Go.Proofs.YtkoedonllfmaaaaGreat.Xt

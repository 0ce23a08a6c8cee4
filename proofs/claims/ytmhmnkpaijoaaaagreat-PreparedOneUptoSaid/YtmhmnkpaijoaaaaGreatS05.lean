import Derived.Deep.RegionLaw
import Derived.Deep.DeepCutAuto
import Derived.BigQuiet
import Derived.Deep.RegionHeld3
import Derived.Deep.RegionHeldLaw
import Derived.Test.YtmhmnkpaijoaaaaGreatS04
namespace Go.Proofs.YtmhmnkpaijoaaaaGreat.Psh
set_option linter.unusedSimpArgs false
open Go Go.RowKit Cm Ck Kw Ga Kf Pm Pe Pg Ph Qb Lk Ld Jm Ja Jb Jk Pra Prb Prc Prd Pre Prf Psg
attribute [local go_sem ↓] Go.wp_at_zero Go.wp_at_succ
set_option linter.unusedVariables false
set_option maxRecDepth 100000
theorem pslice_from (A : Option Addr) (n c k : Nat) (hk : k <= n) (hc : n <= c) : ∃ A', (∀ W : World, (Instr.slice 30 (.slice A n c) (some (.int .i64 (k : Int))) none none).run Tryz.prog W = .ok (.slice A' (n - k) (c - k)) W) /\ (∀ ad, A = some ad -> k < n -> A' = some (ad.add (k * 7))) := by
  have he : ∀ W : World, (sizeOf (Tryz.prog.elem 30)).run Tryz.prog W = .ok 7 W := fun _ => by kernel_rfl
  refine ⟨if c = k then A else A.map (·.add (k * 7)), fun W => ?_, ?_⟩
  . rw [run_slice_l W 30 A n c (by kernel_rfl) .i64 k (by omega) (by omega), he]
    rfl
  . rintro ad rfl hlt
    rw [if_neg (by omega)]
    rfl
theorem pslice_upto (A : Option Addr) (n c k : Nat) (hk : k <= c) (W : World) : (Instr.slice 30 (.slice A n c) none (some (.int .i64 (k : Int))) none).run Tryz.prog W = .ok (.slice A k c) W := by
  have he : ∀ W : World, (sizeOf (Tryz.prog.elem 30)).run Tryz.prog W = .ok 7 W := fun _ => by kernel_rfl
  rw [run_slice_h W 30 A n c (by kernel_rfl) .i64 k (by omega) (by omega), he]
  simp only [Result.andThen_ok, sliced, Int.toNat_natCast]
  congr 2
  by_cases h0 : c = 0
  . simp [h0]
  . cases A <;> simp [h0, Addr.add]
structure Tag (W : World) : Prop where
theorem at_tag {P : Program} {ops : Array Oper} {o : Oper} {a : Act} {K : Act -> World -> Prop} {Q : Exit -> Act -> World -> Prop} {W : World} (t : Tag W) (h : if Region.wanted o (yielded ops a.tmps) = true then Oper.wp P o a W K Q else K (a.put o.dst undef) W) : if Region.wanted o (yielded ops a.tmps) = true then Oper.wp P o a W K Q else K (a.put o.dst undef) W := h
def RPut (X : Nat -> Prop) (g : Nat) (l : List Pd) (x : Pd) (w : World) (e : Ending) (w' : World) : Prop := e = .returned (.bool (putP l x).2) /\ RH w' X g (putP l x).1 /\ Ch (fun k => k = g) w w'
theorem put_bad {l : List Pd} {x : Pd} (h : okN x.seq = false) : putP l x = (l, false) := by rw [putP, if_neg (by rw [h]; decide)]
structure PS (w0 : World) (X : Nat -> Prop) (g : Nat) (A : Option Addr) (c : Nat) (l : List Pd) (x : Pd) (r : Pl2) (w : World) : Prop where
  ch : Ch (fun k => k = g) w0 w
  held : Blk w g 67 #[.slice A l.length c]
  pl : PL w (fun k => X k \/ k = g) (.slice A l.length c) l
  box : Blk w w0.heap.size 41 (PC x r)
  pi : PI w (fun k => X k \/ k = g) x r
theorem put_had {l : List Pd} {x z : Pd} (h : okN x.seq = true) (hz : l[kOf l x.seq]? = some z) (hs : z.seq = x.seq) : putP l x = if x.view <= z.view then (l, false) else (l.take (kOf l x.seq) ++ x :: l.drop (kOf l x.seq + 1), true) := by
  rw [putP, if_pos h]
  have : hadP l x.seq = some z := by unfold hadP; rw [hz]; simp [hs]
  rw [this]
theorem put_new {l : List Pd} {x z : Pd} (h : okN x.seq = true) (hz : l[kOf l x.seq]? = some z) (hs : ¬ z.seq = x.seq) : putP l x = (l.take (kOf l x.seq) ++ x :: l.drop (kOf l x.seq), true) := by
  rw [putP, if_pos h]
  have : hadP l x.seq = none := by unfold hadP; rw [hz]; simp [hs]
  rw [this]
theorem put_end {l : List Pd} {x : Pd} (h : okN x.seq = true) (hz : kOf l x.seq = l.length) : putP l x = (l.take (kOf l x.seq) ++ x :: l.drop (kOf l x.seq), true) := by
  rw [putP, if_pos h]
  have : hadP l x.seq = none := by unfold hadP; rw [List.getElem?_eq_none (by omega)]
  rw [this]
theorem PS.later {w0 w w' : World} {X : Nat -> Prop} {g : Nat} {A : Option Addr} {c : Nat} {l : List Pd} {x : Pd} {r : Pl2} (h : PS w0 X g A c l x r w) (b : Below w.heap.size w w') : PS w0 X g A c l x r w' :=
  ⟨h.ch.trans (Ch.of_below (S := fun k => k = g) b (Nat.le_refl _)) (fun _ _ h => h), h.held.below b h.held.lt, h.pl.after b, h.box.below b h.box.lt, h.pi.after b⟩
theorem PS.fin {w Wb w11 : World} {X : Nat -> Prop} {g k j n : Nat} {A : Option Addr} {c : Nat} {l : List Pd} {x : Pd} {r : Pl2} {rs : List Pl2} {v : Value} (h : PS w X g A c l x r Wb) (hpts : Pts Wb (fun q => X q \/ q = g) l rs) (hb : Below Wb.heap.size Wb w11) (how : w11.ownsRow Wb.heap.size 41 7 v n (flatP (l.take k) (rs.take k) ++ (PC x r).toList ++ flatP (l.drop j) (rs.drop j))) (hn : n = (l.take k ++ x :: l.drop j).length) (hX : ∀ q, X q -> q < w.heap.size) :
    RH (w11.setCell ⟨g, 0, none⟩ v) X g (l.take k ++ x :: l.drop j) /\ Ch (fun q => q = g) w (w11.setCell ⟨g, 0, none⟩ v) := by
  have hl := hpts.1
  have hg := h.held.lt
  have hs := h.ch.size
  have c2 : Ch (fun q => q = g) w11 (w11.setCell ⟨g, 0, none⟩ v) := (Ch.refl (fun q => q = g) w11).setCell (p := ⟨g, 0, none⟩) (fun _ => rfl) v
  have hk : Blk (w11.setCell ⟨g, 0, none⟩ v) g 67 #[v] := by
    have := (h.held.below hb hg).set_ 0 v
    simpa using this
  have hp : Pts w11 (fun q => X q \/ q = g) (l.take k ++ ([x] ++ l.drop j)) (rs.take k ++ ([r] ++ rs.drop j)) := ((hpts.take k).app ((Pts.one h.pi).app (hpts.drop j))).after hb
  have hsl : Sl w11 (fun q => X q \/ q = g) 7 v n (flatP (l.take k) (rs.take k) ++ (PC x r).toList ++ flatP (l.drop j) (rs.drop j)) := Sl.of_own how (fun q h1 h2 h3 => by
    rcases h3 with h3 | h3
    . have := hX q h3; omega
    . omega)
  have hf : flatP (l.take k ++ ([x] ++ l.drop j)) (rs.take k ++ ([r] ++ rs.drop j)) = flatP (l.take k) (rs.take k) ++ (PC x r).toList ++ flatP (l.drop j) (rs.drop j) := by
    rw [flatP_app (by rw [List.length_take, List.length_take, hl]), flatP_app (by simp), flatP_single, List.append_assoc]
  have e : l.take k ++ x :: l.drop j = l.take k ++ ([x] ++ l.drop j) := rfl
  refine ⟨⟨v, hk, rs.take k ++ ([r] ++ rs.drop j), ?_, ?_⟩, (h.ch.trans (Ch.of_below (S := fun q => q = g) hb (Nat.le_refl _)) (fun _ _ h => h)).trans c2 (fun _ _ h => h)⟩
  . exact hp.ch c2 (fun q _ hq => .inr hq)
  . rw [e, hf, <- e, <- hn]
    exact hsl.ch c2 (fun q _ hq => .inr hq)
theorem kOf_step {l : List Pd} {n : Int} {k : Nat} (hk : k < l.length) (h : k <= kOf l n) (hs : l[k].seq < n) : k + 1 <= kOf l n := by
  rcases Nat.lt_or_eq_of_le h with h | h
  . omega
  . subst h
    exact absurd hs (kOf_at n l hk)
theorem kOf_stop {l : List Pd} {n : Int} {k : Nat} (hk : k < l.length) (h : k <= kOf l n) (hs : ¬ l[k].seq < n) : k = kOf l n := by
  rcases Nat.lt_or_eq_of_le h with h | h
  . exact absurd (kOf_low n l k h hk) hs
  . exact h
set_option maxHeartbeats 8000000 in
theorem rput_any (w : World) (X : Nat -> Prop) (g : Nat) (l : List Pd) (x : Pd) (r : Pl2) (h : RH w X g l) (hx : PI w (fun k => X k \/ k = g) x r) (hX : ∀ k, X k -> k < w.heap.size) (hl : (l.length + 1) * 88 <= 140737488355328) :
    Calls Tryz.prog 22 #[.pointer (some ⟨g, 0, none⟩), .agg (PC x r)] w (RPut X g l x w) := by
  obtain ⟨v, hg, hp⟩ := h
  obtain ⟨A, c, rfl, hc⟩ := hp.shape
  have hb0 : Below w.heap.size w (w.alloc (.cells (PC x r) 41)) := (Below.refl _ w).alloc (Nat.le_refl _) _
  have HPS : Hid (PS w X g A c l x r (w.alloc (.cells (PC x r) 41))) := Lib.hid ⟨Ch.of_below hb0 (Nat.le_refl _), hg.below hb0 hg.lt, hp.after hb0, Blk.new w _ _, hx.after hb0⟩
  have HGL : Hid (g < w.heap.size) := Lib.hid hg.lt
  have HX := Lib.hid hX
  have HL := Lib.hid hl
  obtain ⟨a0, a1, a2, a3, a4, a5, a6⟩ := Pro.PC_cells HPS.out.box
  clear hg hp hc hx hb0 hX hl
  unfold PC at HPS a0 a1 a2 a3 a4 a5 a6 ⊢
  by_cases h1 : x.seq < 1
  . have d1 : decide (x.seq < 1) = true := decide_eq_true h1
    have HB := Lib.hid (put_bad (l := l) (okN_lo h1))
    clear h1
    go_enter Tryz.func22, Tryz.ntmps22
    go_wp2_with fail
    go_ret
    exact ⟨by rw [HB.out]; rfl, by rw [HB.out]; exact ⟨_, HPS.out.held, HPS.out.pl⟩, HPS.out.ch⟩
  have d1 : decide (x.seq < 1) = false := decide_eq_false h1
  by_cases h2 : 9007199254740992 < x.seq
  . have d2 : decide (9007199254740992 < x.seq) = true := decide_eq_true h2
    have HB := Lib.hid (put_bad (l := l) (okN_hi h2))
    clear h1 h2
    go_enter Tryz.func22, Tryz.ntmps22
    go_wp2_with fail
    go_ret
    exact ⟨by rw [HB.out]; rfl, by rw [HB.out]; exact ⟨_, HPS.out.held, HPS.out.pl⟩, HPS.out.ch⟩
  have d2 : decide (9007199254740992 < x.seq) = false := decide_eq_false h2
  have HOK : Hid (okN x.seq = true) := Lib.hid (okN_iff.2 ⟨by omega, by omega⟩)
  clear h1 h2
  go_enter Tryz.func22, Tryz.ntmps22
  go_wp2_with fail
  generalize w.alloc (.cells #[.int .i64 x.view, .int .i64 x.seq, .int .i64 x.dig, .int .i64 x.first.1, .int .i64 x.first.2, .slice r.1.1 x.signs.length r.1.2, .slice r.2.1 x.batch.length r.2.2] 41) = w0 at *
  have hln : (l.length : Int) <= 1599289640402 := by have := HL.out; omega
  go_loopw [5] (fun i wr => ∃ k : Nat, k <= kOf l x.seq /\ i = .int .i64 k /\ ∃ n, wr = w0.drewN n) (fun i _ => l.length - (intOf i).toNat)
  case atStart => exact ⟨0, Nat.zero_le _, rfl, 0, rfl⟩
  case round =>
    obtain ⟨k, hk, rfl, nd, rfl⟩ := hrel
    have hkl2 := kOf_le l x.seq
    have c0 := HPS.out.held.cell 0
    simp only [List.getElem?_toArray, List.getElem?_cons_zero] at c0
    have hkp : (0 : Int) <= (k : Int) := by omega
    by_cases hlt : k < l.length
    . obtain ⟨ad, rr, rfl, hat, hpi⟩ := HPS.out.pl.at_ hlt
      obtain ⟨b0, b1, b2, b3, b4, b5, b6⟩ := hat
      have hkl : (k : Int) < (l.length : Int) := by omega
      have hkd : decide ((k : Int) < (l.length : Int)) = true := decide_eq_true hkl
      have hkdn : decide (k < l.length) = true := decide_eq_true hlt
      have HKK := Lib.hid (And.intro hk hlt)
      by_cases hs : l[k].seq < x.seq
      . have HS := Lib.hid (kOf_step hlt hk hs)
        have ds : decide (l[k].seq < x.seq) = true := decide_eq_true hs
        generalize l[k] = z at *
        clear hpi hk hlt hs hkl2
        go_wp2_with fail
        go_quiet (fail)
        all_goals
          go_wp2_with fail
          go_roundw
          case rel => exact ⟨k + 1, HS.out, by go_num, _, rfl⟩
          case measure => have := HKK.out.2; simp [intOf]; omega
      . have HS := Lib.hid (kOf_stop hlt hk hs)
        have ds : decide (l[k].seq < x.seq) = false := decide_eq_false hs
        obtain ⟨z, hz⟩ : ∃ z, l[k]? = some z := ⟨_, List.getElem?_eq_getElem hlt⟩
        have hze : l[k] = z := by rw [List.getElem?_eq_getElem hlt] at hz; exact Option.some.inj hz
        rw [hze] at b0 b1 b2 b3 b4 b5 b6 ds hs
        have HZ := Lib.hid (And.intro hz (And.intro hs HS.out))
        clear hz hze hpi hk hlt hkl2 hs HS
        go_wp2_with fail
        go_quiet (fail)
        all_goals
          go_wp2_with fail
          have HW1 : Hid (PS w X g (some ad) c l x r (w0.drewN (nd + nq))) := Lib.hid (HPS.out.later (below_drewN (Below.refl _ _) _))
          rw [World.drewN_drewN]
          generalize w0.drewN (nd + nq) = W1 at *
          obtain ⟨hz, hzs, hkk⟩ := HZ.out
          have HKK := Lib.hid hkk
          clear HZ b0 b1 b2 b3 b4 b5 b6 a0 a1 a2 a3 a4 a5 a6 c0 ds
          have hlt2 : k < l.length := by
            rcases Nat.lt_or_ge k l.length with h | h
            . exact h
            . rw [List.getElem?_eq_none h] at hz; cases hz
          obtain ⟨ad', rr', e', hat', -⟩ := HW1.out.pl.at_ hlt2
          injection e' with e'
          subst e'
          have hze : l[k] = z := by rw [List.getElem?_eq_getElem hlt2] at hz; exact Option.some.inj hz
          rw [hze] at hat'
          have HZW1 := Lib.hid hat'
          have HPW1 := Lib.hid HW1.out
          obtain ⟨b0, b1, b2, b3, b4, b5, b6⟩ := hat'
          obtain ⟨a0, a1, a2, a3, a4, a5, a6⟩ := Pro.PC_cells HW1.out.box
          have c0 := HW1.out.held.cell 0
          simp only [List.getElem?_toArray, List.getElem?_cons_zero] at c0
          rw [hkk] at hz
          by_cases h3 : z.seq = x.seq
          . have e3 : (z.seq == x.seq) = true := by rw [beq_iff_eq]; exact h3
            have HPH := Lib.hid (put_had HOK.out hz h3)
            by_cases h4 : x.view <= z.view
            . rw [if_pos h4] at HPH
              have d4 : decide (x.view <= z.view) = true := decide_eq_true h4
              clear hz hze hkk hzs h3 h4 hlt2 HW1
              go_quiet (fail)
              all_goals
                go_wp2_with fail
                have HPWa : Hid (PS w X g (some ad) c l x r (W1.drewN nq)) := Lib.hid (HPW1.out.later (below_drewN (Below.refl _ _) _))
                have HZWa : Hid (At7 (W1.drewN nq) (ad.add (k * 7)) z rr') := Lib.hid (HZW1.out.later (below_drewN (Below.refl _ _) _))
                generalize W1.drewN nq = Wa at *
                clear a0 a1 a2 a3 a4 a5 a6 b0 b1 b2 b3 b4 b5 b6 c0
                obtain ⟨a0, a1, a2, a3, a4, a5, a6⟩ := Pro.PC_cells HPWa.out.box
                obtain ⟨b0, b1, b2, b3, b4, b5, b6⟩ := HZWa.out
                have c0 := HPWa.out.held.cell 0
                simp only [List.getElem?_toArray, List.getElem?_cons_zero] at c0
                clear HPW1 HZW1
                go_quiet (fail)
                all_goals
                  go_wp2_with fail
                  go_ret
                  have HF := HPWa.out.later (below_drewN (Below.refl _ _) nq)
                  exact ⟨by rw [HPH.out]; rfl, by rw [HPH.out]; exact ⟨_, HF.held, HF.pl⟩, HF.ch⟩
            . rw [if_neg h4] at HPH
              have d4 : decide (x.view <= z.view) = false := decide_eq_false h4
              have HKL := Lib.hid (And.intro hlt2 hkk)
              clear hz hze hkk hzs h3 h4 hlt2 HW1
              go_quiet (fail)
              all_goals
                go_wp2_with fail
                have HPWa : Hid (PS w X g (some ad) c l x r (W1.drewN nq)) := Lib.hid (HPW1.out.later (below_drewN (Below.refl _ _) _))
                have HZWa : Hid (At7 (W1.drewN nq) (ad.add (k * 7)) z rr') := Lib.hid (HZW1.out.later (below_drewN (Below.refl _ _) _))
                generalize W1.drewN nq = Wa at *
                clear a0 a1 a2 a3 a4 a5 a6 b0 b1 b2 b3 b4 b5 b6 c0
                obtain ⟨a0, a1, a2, a3, a4, a5, a6⟩ := Pro.PC_cells HPWa.out.box
                obtain ⟨b0, b1, b2, b3, b4, b5, b6⟩ := HZWa.out
                have c0 := HPWa.out.held.cell 0
                simp only [List.getElem?_toArray, List.getElem?_cons_zero] at c0
                clear HPW1 HZW1
                go_quiet (fail)
                all_goals
                  go_upto_region 10 with fail
                  have HPWb : Hid (PS w X g (some ad) c l x r (Wa.drewN nq)) := Lib.hid (HPWa.out.later (below_drewN (Below.refl _ _) _))
                  have HZWb : Hid (At7 (Wa.drewN nq) (ad.add (k * 7)) z rr') := Lib.hid (HZWa.out.later (below_drewN (Below.refl _ _) _))
                  generalize Wa.drewN nq = Wb at *
                  clear a0 a1 a2 a3 a4 a5 a6 b0 b1 b2 b3 b4 b5 b6 c0
                  obtain ⟨a0, a1, a2, a3, a4, a5, a6⟩ := Pro.PC_cells HPWb.out.box
                  obtain ⟨b0, b1, b2, b3, b4, b5, b6⟩ := HZWb.out
                  have c0 := HPWb.out.held.cell 0
                  simp only [List.getElem?_toArray, List.getElem?_cons_zero] at c0
                  clear HPWa HZWa
                  clear b0 b1 b2 b3 b4 b5 b6 HZWb
                  obtain ⟨rs, hpts, hsl⟩ := HPWb.out.pl
                  obtain ⟨i7, hi7, hz7, hs7, hy7⟩ := info_parts info_prep
                  have hkc : k <= c := by
                    obtain ⟨_, _, e, _, hc, _⟩ := hsl
                    injection e with e1 e2 e3
                    have := HKL.out.1
                    omega
                  have hslk : Sl Wb (fun q => X q \/ q = g) 7 (.slice (some ad) k c) k (flatP (l.take k) (rs.take k)) := by
                    rw [flatP_take]
                    exact hsl.upto (by have := HKL.out.1; omega)
                  have HFL := Lib.hid (And.intro (show ∀ u ∈ flatP (l.take k) (rs.take k), u.oneCell' = true from flatP_one) (show ∀ u ∈ ([.int .i64 x.view, .int .i64 x.seq, .int .i64 x.dig, .int .i64 x.first.1, .int .i64 x.first.2, .slice r.1.1 x.signs.length r.1.2, .slice r.2.1 x.batch.length r.2.2] : List Value), u.oneCell' = true from PC_one x r))
                  have hbd : Below Wb.heap.size Wb Wb.drew := below_drewN (Below.refl _ _) 1
                  have hba : Below Wb.heap.size Wb (Wb.alloc (.cells #[.int .i64 x.view, .int .i64 x.seq, .int .i64 x.dig, .int .i64 x.first.1, .int .i64 x.first.2, .slice r.1.1 x.signs.length r.1.2, .slice r.2.1 x.batch.length r.2.2] 41)).drew := below_drewN ((Below.refl _ Wb).alloc (Nat.le_refl _) (.cells #[.int .i64 x.view, .int .i64 x.seq, .int .i64 x.dig, .int .i64 x.first.1, .int .i64 x.first.2, .slice r.1.1 x.signs.length r.1.2, .slice r.2.1 x.batch.length r.2.2] 41)) 1
                  have H79 : Hid (∀ (W : World), (W = Wb.drew \/ W = (Wb.alloc (.cells #[.int .i64 x.view, .int .i64 x.seq, .int .i64 x.dig, .int .i64 x.first.1, .int .i64 x.first.2, .slice r.1.1 x.signs.length r.1.2, .slice r.2.1 x.batch.length r.2.2] 41)).drew) -> ∀ (ops : Array Oper) (o : Oper) (a : Act) (K : Act -> World -> Prop) (Q : Exit -> Act -> World -> Prop) (E : Prop), o.guard = none -> o.op = Op.call { callee := Callee.builtin Builtin.append, args := #[Operand.tmp 72, Operand.tmp 78], argTypes := #[30, 30] } -> a.eval (.tmp 72) = .slice none 0 0 -> a.eval (.tmp 78) = .slice (some ad) k c -> (∀ A9 c9 w9, w9.ownsRow Wb.heap.size 41 7 (.slice A9 k c9) k (flatP (l.take k) (rs.take k)) /\ Below Wb.heap.size Wb w9 /\ Below W.heap.size W w9 -> K (a.put o.dst (.slice A9 k c9)) w9) -> if Region.wanted o (yielded ops a.tmps) = true then Oper.wp Tryz.prog o a W K Q else E) := Lib.hid (fun W hW ops o a K Q E hg ho h1 h2 h => by
                    have hbw : Below Wb.heap.size Wb W := by rcases hW with rfl | rfl <;> assumption
                    refine step_append_sh hg (.tmp 72) (.tmp 78) _ ho Wb.heap.size 41 i7 _ 7 88 Tryz.underlying30 hi7 hz7 hs7 hy7 rfl (by omega) (.slice none 0 0) 0 [] h1 (World.ownsRow_nil _ _ _ _) (fun q => X q \/ q = g) (.slice (some ad) k c) k (flatP (l.take k) (rs.take k)) h2 (hslk.after hbw) HFL.out.1 (by have := HKL.out.1; have := HL.out; simp only [maxLen]; omega) (by have := HKL.out.1; have := HL.out; omega) hbw.size ?_
                    intro A9 c9 w9 happ
                    have hbn : Below W.heap.size W w9 := (Ch.of_grown (S := fun _ => False) happ.2.1 (fun k hk _ => by simp [Value.ownBlock] at hk)).below (fun _ _ h => h) (Nat.le_refl _)
                    have ho9 := happ.1
                    simp only [List.nil_append, Nat.zero_add] at ho9 h
                    rw [Nat.zero_add]
                    exact h A9 c9 w9 ⟨ho9, hbw.trans (hbn.mono hbw.size), hbn⟩)
                  have H82 : Hid (∀ (W : World) (A9 : Option Addr) (c9 gs : Nat), W.ownsRow Wb.heap.size 41 7 (.slice A9 k c9) k (flatP (l.take k) (rs.take k)) -> Below Wb.heap.size Wb W -> Blk W gs 41 (PC x r) -> ∀ (ops : Array Oper) (o : Oper) (a : Act) (K : Act -> World -> Prop) (Q : Exit -> Act -> World -> Prop) (E : Prop), o.guard = none -> o.op = Op.call { callee := Callee.builtin Builtin.append, args := #[Operand.tmp 79, Operand.tmp 81], argTypes := #[30, 30] } -> a.eval (.tmp 79) = .slice A9 k c9 -> a.eval (.tmp 81) = .slice (some ⟨gs, 0, none⟩) 1 1 -> (∀ A10 c10 w10, w10.ownsRow Wb.heap.size 41 7 (.slice A10 (k + 1) c10) (k + 1) (flatP (l.take k) (rs.take k) ++ [.int .i64 x.view, .int .i64 x.seq, .int .i64 x.dig, .int .i64 x.first.1, .int .i64 x.first.2, .slice r.1.1 x.signs.length r.1.2, .slice r.2.1 x.batch.length r.2.2]) /\ Below Wb.heap.size Wb w10 -> K (a.put o.dst (.slice A10 (k + 1) c10)) w10) -> if Region.wanted o (yielded ops a.tmps) = true then Oper.wp Tryz.prog o a W K Q else E) := Lib.hid (fun W A9 c9 gs how hbw hk ops o a K Q E hg ho h1 h2 h => by
                    have hone : Sl W (fun _ => False) 7 (.slice (some ⟨gs, 0, none⟩) 1 1) 1 [.int .i64 x.view, .int .i64 x.seq, .int .i64 x.dig, .int .i64 x.first.1, .int .i64 x.first.2, .slice r.1.1 x.signs.length r.1.2, .slice r.2.1 x.batch.length r.2.2] := ⟨_, _, rfl, rfl, Nat.le_refl _, by simp only [maxLen]; omega, fun _ => ⟨_, rfl, hk.lt, fun h => h, fun j u hu => by
                      have ha : (⟨gs, 0, none⟩ : Addr).add j = ⟨gs, j, none⟩ := by unfold Addr.add; split <;> simp_all
                      rw [ha, hk.cell j]
                      simpa [PC] using hu⟩⟩
                    refine step_append_sh hg (.tmp 79) (.tmp 81) _ ho Wb.heap.size 41 i7 _ 7 88 Tryz.underlying30 hi7 hz7 hs7 hy7 rfl (by omega) (.slice A9 k c9) k (flatP (l.take k) (rs.take k)) h1 how (fun _ => False) (.slice (some ⟨gs, 0, none⟩) 1 1) 1 [.int .i64 x.view, .int .i64 x.seq, .int .i64 x.dig, .int .i64 x.first.1, .int .i64 x.first.2, .slice r.1.1 x.signs.length r.1.2, .slice r.2.1 x.batch.length r.2.2] h2 hone HFL.out.2 (by have := HKL.out.1; have := HL.out; simp only [maxLen]; omega) (by have := HKL.out.1; have := HL.out; omega) hbw.size ?_
                    intro A10 c10 w10 happ
                    have hlo := how.lt
                    have hbn : Below Wb.heap.size W w10 := (Ch.of_grown (S := fun q => Wb.heap.size <= q) happ.2.1 (fun q hq _ => (hlo q hq).1)).below (fun q hq h => by omega) hbw.size
                    exact h A10 c10 w10 ⟨happ.1, hbw.trans hbn⟩)
                  have tD : Tag Wb.drew := ⟨⟩
                  have tA : Tag (Wb.alloc (.cells #[.int .i64 x.view, .int .i64 x.seq, .int .i64 x.dig, .int .i64 x.first.1, .int .i64 x.first.2, .slice r.1.1 x.signs.length r.1.2, .slice r.2.1 x.batch.length r.2.2] 41)).drew := ⟨⟩
                  have HBX : Hid (∀ W, Below Wb.heap.size Wb W -> Blk W w.heap.size 41 (PC x r)) := Lib.hid (fun W hW => HPWb.out.box.below hW HPWb.out.box.lt)
                  have HKA : Hid (Blk (Wb.alloc (.cells #[.int .i64 x.view, .int .i64 x.seq, .int .i64 x.dig, .int .i64 x.first.1, .int .i64 x.first.2, .slice r.1.1 x.signs.length r.1.2, .slice r.2.1 x.batch.length r.2.2] 41)).drew Wb.heap.size 41 (PC x r)) := Lib.hid (Blk.new Wb _ _)
                  have hsu := pslice_upto (some ad) l.length c k (by have := HKL.out.1; omega)
                  have c0a := (HPWb.out.held.below hba HPWb.out.held.lt).cell 0
                  have c0b := (HPWb.out.held.below ((Below.refl _ Wb).alloc (Nat.le_refl _) (.cells #[.int .i64 x.view, .int .i64 x.seq, .int .i64 x.dig, .int .i64 x.first.1, .int .i64 x.first.2, .slice r.1.1 x.signs.length r.1.2, .slice r.2.1 x.batch.length r.2.2] 41)) HPWb.out.held.lt).cell 0
                  simp only [List.getElem?_toArray, List.getElem?_cons_zero] at c0a c0b
                  obtain ⟨A', hsf, hsf2⟩ := pslice_from (some ad) l.length c (k + 1) (by have := HKL.out.1; omega) (by
                    obtain ⟨_, _, e, _, hc, _⟩ := hsl
                    injection e with e1 e2 e3
                    omega)
                  have hcs : (((k + 1 : Nat) : Int)) = (k : Int) + 1 := rfl
                  rw [hcs] at hsf
                  have hcut : Sl Wb (fun q => X q \/ q = g) 7 (.slice A' (l.length - (k + 1)) (c - (k + 1))) (l.length - (k + 1)) (flatP (l.drop (k + 1)) (rs.drop (k + 1))) := by
                    rw [flatP_drop]
                    exact hsl.cut (by have := HKL.out.1; omega) A' (fun ad' h h' => by injection h with h; subst h; exact hsf2 ad rfl h')
                  have HCUT := Lib.hid (And.intro hcut (And.intro hpts (show ∀ u ∈ flatP (l.drop (k + 1)) (rs.drop (k + 1)), u.oneCell' = true from flatP_one)))
                  have HIN := Lib.hid (And.intro hi7 (And.intro hz7 (And.intro hs7 hy7)))
                  have hw1 : IntKind.i64.wrap ((k : Int) + 1) = (k : Int) + 1 := wrap64 (by omega) (by have := HKL.out.1; omega)
                  clear hbd hba hkc hslk hpts hsl hi7 hz7 hs7 hy7 hsf2 hcut hcs hln
                  go_region_law (first
                    | ((with_reducible refine at_tag tD ?_); refine H79.out _ (.inl rfl) _ _ _ _ _ _ (by rfl) (by rfl) (by rfl) (by rfl) ?_; rintro A9 c9 w9 ⟨ho9, hb9, hbn9⟩; have HO9 := Lib.hid ho9; have HB9 := Lib.hid hb9; obtain ⟨n0, n1, n2, n3, n4, n5, n6⟩ := Pro.PC_cells (HBX.out w9 hb9); have t9d : Tag (w9.alloc (.cells #[.int .i64 x.view, .int .i64 x.seq, .int .i64 x.dig, .int .i64 x.first.1, .int .i64 x.first.2, .slice r.1.1 x.signs.length r.1.2, .slice r.2.1 x.batch.length r.2.2] 41)) := ⟨⟩; clear ho9 hb9 hbn9)
                    | ((with_reducible refine at_tag tA ?_); refine H79.out _ (.inr rfl) _ _ _ _ _ _ (by rfl) (by rfl) (by rfl) (by rfl) ?_; rintro A9 c9 w9 ⟨ho9, hb9, hbn9⟩; have HO9 := Lib.hid ho9; have HB9 := Lib.hid hb9; have HK9 := Lib.hid (HKA.out.below hbn9 HKA.out.lt); have t9 : Tag w9 := ⟨⟩; clear ho9 hb9 hbn9)
                    | ((with_reducible refine at_tag t9d ?_); refine H82.out _ _ _ _ (HO9.out.alloc _) (HB9.out.alloc HB9.out.size _) (Blk.new w9 _ _) _ _ _ _ _ _ (by rfl) (by rfl) (by rfl) (by rfl) ?_; rintro A10 c10 w10 ⟨ho10, hb10⟩; have HO10 := Lib.hid ho10; have HB10 := Lib.hid hb10; clear ho10 hb10)
                    | ((with_reducible refine at_tag t9 ?_); refine H82.out _ _ _ _ HO9.out HB9.out HK9.out _ _ _ _ _ _ (by rfl) (by rfl) (by rfl) (by rfl) ?_; rintro A10 c10 w10 ⟨ho10, hb10⟩; have HO10 := Lib.hid ho10; have HB10 := Lib.hid hb10; clear ho10 hb10))
                  all_goals
                    have HP10 := Lib.hid (HPWb.out.later HB10.out)
                    have c10' := HP10.out.held.cell 0
                    have f10' := HP10.out.held.frozen 0
                    simp only [List.getElem?_toArray, List.getElem?_cons_zero] at c10'
                    go_wp2_with (at_builtin; refine wpList_append_sh _ rfl (.tmp 87) (.tmp 93) _ rfl Wb.heap.size 41 i7 _ 7 88 Tryz.underlying30 HIN.out.1 HIN.out.2.1 HIN.out.2.2.1 HIN.out.2.2.2 rfl (by omega) _ _ _ rfl HO10.out (fun q => X q \/ q = g) _ _ _ rfl (HCUT.out.1.after HB10.out) HCUT.out.2.2 (by have := HKL.out.1; have := HL.out; simp only [maxLen]; omega) (by have := HKL.out.1; have := HL.out; omega) HB10.out.size ?_; intro A11 c11 w11 happ; have hlo := HO10.out.lt; have HB11 := Lib.hid (HB10.out.trans ((Ch.of_grown (S := fun q => Wb.heap.size <= q) happ.2.1 (fun q hq _ => (hlo q hq).1)).below (fun q hq h => by omega) HB10.out.size)); have HO11 := Lib.hid happ.1; have c11' := (HPWb.out.held.below HB11.out HPWb.out.held.lt).cell 0; have f11' := (HPWb.out.held.below HB11.out HPWb.out.held.lt).frozen 0; simp only [List.getElem?_toArray, List.getElem?_cons_zero] at c11'; clear happ hlo)
                    go_ret
                    obtain ⟨r1, r2⟩ := PS.fin (k := k) (j := k + 1) HPWb.out HCUT.out.2.1 HB11.out HO11.out (by have := HKL.out.1; simp only [List.length_append, List.length_take, List.length_cons, List.length_drop]; omega) HX.out
                    have hkk := HKL.out.2
                    refine ⟨by rw [HPH.out]; rfl, ?_, r2⟩
                    rw [HPH.out, <- hkk]
                    exact r1
          . have e3 : (z.seq == x.seq) = false := by rw [beq_eq_false_iff_ne]; exact h3
            have HPH := Lib.hid (put_new HOK.out hz h3)
            have HKL := Lib.hid (And.intro (Nat.le_of_lt hlt2) hkk)
            clear hz hze hkk hzs h3 hlt2 HW1
            go_quiet (fail)
            all_goals
              go_wp2_with fail
              have HPWa : Hid (PS w X g (some ad) c l x r (W1.drewN nq)) := Lib.hid (HPW1.out.later (below_drewN (Below.refl _ _) _))
              have HZWa : Hid (At7 (W1.drewN nq) (ad.add (k * 7)) z rr') := Lib.hid (HZW1.out.later (below_drewN (Below.refl _ _) _))
              generalize W1.drewN nq = Wa at *
              clear a0 a1 a2 a3 a4 a5 a6 c0 b0 b1 b2 b3 b4 b5 b6
              obtain ⟨a0, a1, a2, a3, a4, a5, a6⟩ := Pro.PC_cells HPWa.out.box
              obtain ⟨b0, b1, b2, b3, b4, b5, b6⟩ := HZWa.out
              have c0 := HPWa.out.held.cell 0
              simp only [List.getElem?_toArray, List.getElem?_cons_zero] at c0
              clear HPW1 HZW1
              go_quiet (fail)
              all_goals
                go_upto_region 10 with fail
                have HPWb : Hid (PS w X g (some ad) c l x r (Wa.drewN nq)) := Lib.hid (HPWa.out.later (below_drewN (Below.refl _ _) _))
                have HZWb : Hid (At7 (Wa.drewN nq) (ad.add (k * 7)) z rr') := Lib.hid (HZWa.out.later (below_drewN (Below.refl _ _) _))
                generalize Wa.drewN nq = Wb at *
                clear a0 a1 a2 a3 a4 a5 a6 c0 b0 b1 b2 b3 b4 b5 b6
                obtain ⟨a0, a1, a2, a3, a4, a5, a6⟩ := Pro.PC_cells HPWb.out.box
                obtain ⟨b0, b1, b2, b3, b4, b5, b6⟩ := HZWb.out
                have c0 := HPWb.out.held.cell 0
                simp only [List.getElem?_toArray, List.getElem?_cons_zero] at c0
                clear HPWa HZWa
                clear b0 b1 b2 b3 b4 b5 b6 HZWb
                obtain ⟨rs, hpts, hsl⟩ := HPWb.out.pl
                obtain ⟨i7, hi7, hz7, hs7, hy7⟩ := info_parts info_prep
                have hkc : k <= c := by
                  obtain ⟨_, _, e, _, hc, _⟩ := hsl
                  injection e with e1 e2 e3
                  have := HKL.out.1
                  omega
                have hslk : Sl Wb (fun q => X q \/ q = g) 7 (.slice (some ad) k c) k (flatP (l.take k) (rs.take k)) := by
                  rw [flatP_take]
                  exact hsl.upto (by have := HKL.out.1; omega)
                have HFL := Lib.hid (And.intro (show ∀ u ∈ flatP (l.take k) (rs.take k), u.oneCell' = true from flatP_one) (show ∀ u ∈ ([.int .i64 x.view, .int .i64 x.seq, .int .i64 x.dig, .int .i64 x.first.1, .int .i64 x.first.2, .slice r.1.1 x.signs.length r.1.2, .slice r.2.1 x.batch.length r.2.2] : List Value), u.oneCell' = true from PC_one x r))
                have hbd : Below Wb.heap.size Wb Wb.drew := below_drewN (Below.refl _ _) 1
                have hba : Below Wb.heap.size Wb (Wb.alloc (.cells #[.int .i64 x.view, .int .i64 x.seq, .int .i64 x.dig, .int .i64 x.first.1, .int .i64 x.first.2, .slice r.1.1 x.signs.length r.1.2, .slice r.2.1 x.batch.length r.2.2] 41)).drew := below_drewN ((Below.refl _ Wb).alloc (Nat.le_refl _) (.cells #[.int .i64 x.view, .int .i64 x.seq, .int .i64 x.dig, .int .i64 x.first.1, .int .i64 x.first.2, .slice r.1.1 x.signs.length r.1.2, .slice r.2.1 x.batch.length r.2.2] 41)) 1
                have H79 : Hid (∀ (W : World), (W = Wb.drew \/ W = (Wb.alloc (.cells #[.int .i64 x.view, .int .i64 x.seq, .int .i64 x.dig, .int .i64 x.first.1, .int .i64 x.first.2, .slice r.1.1 x.signs.length r.1.2, .slice r.2.1 x.batch.length r.2.2] 41)).drew) -> ∀ (ops : Array Oper) (o : Oper) (a : Act) (K : Act -> World -> Prop) (Q : Exit -> Act -> World -> Prop) (E : Prop), o.guard = none -> o.op = Op.call { callee := Callee.builtin Builtin.append, args := #[Operand.tmp 72, Operand.tmp 78], argTypes := #[30, 30] } -> a.eval (.tmp 72) = .slice none 0 0 -> a.eval (.tmp 78) = .slice (some ad) k c -> (∀ A9 c9 w9, w9.ownsRow Wb.heap.size 41 7 (.slice A9 k c9) k (flatP (l.take k) (rs.take k)) /\ Below Wb.heap.size Wb w9 /\ Below W.heap.size W w9 -> K (a.put o.dst (.slice A9 k c9)) w9) -> if Region.wanted o (yielded ops a.tmps) = true then Oper.wp Tryz.prog o a W K Q else E) := Lib.hid (fun W hW ops o a K Q E hg ho h1 h2 h => by
                  have hbw : Below Wb.heap.size Wb W := by rcases hW with rfl | rfl <;> assumption
                  refine step_append_sh hg (.tmp 72) (.tmp 78) _ ho Wb.heap.size 41 i7 _ 7 88 Tryz.underlying30 hi7 hz7 hs7 hy7 rfl (by omega) (.slice none 0 0) 0 [] h1 (World.ownsRow_nil _ _ _ _) (fun q => X q \/ q = g) (.slice (some ad) k c) k (flatP (l.take k) (rs.take k)) h2 (hslk.after hbw) HFL.out.1 (by have := HKL.out.1; have := HL.out; simp only [maxLen]; omega) (by have := HKL.out.1; have := HL.out; omega) hbw.size ?_
                  intro A9 c9 w9 happ
                  have hbn : Below W.heap.size W w9 := (Ch.of_grown (S := fun _ => False) happ.2.1 (fun k hk _ => by simp [Value.ownBlock] at hk)).below (fun _ _ h => h) (Nat.le_refl _)
                  have ho9 := happ.1
                  simp only [List.nil_append, Nat.zero_add] at ho9 h
                  rw [Nat.zero_add]
                  exact h A9 c9 w9 ⟨ho9, hbw.trans (hbn.mono hbw.size), hbn⟩)
                have H82 : Hid (∀ (W : World) (A9 : Option Addr) (c9 gs : Nat), W.ownsRow Wb.heap.size 41 7 (.slice A9 k c9) k (flatP (l.take k) (rs.take k)) -> Below Wb.heap.size Wb W -> Blk W gs 41 (PC x r) -> ∀ (ops : Array Oper) (o : Oper) (a : Act) (K : Act -> World -> Prop) (Q : Exit -> Act -> World -> Prop) (E : Prop), o.guard = none -> o.op = Op.call { callee := Callee.builtin Builtin.append, args := #[Operand.tmp 79, Operand.tmp 81], argTypes := #[30, 30] } -> a.eval (.tmp 79) = .slice A9 k c9 -> a.eval (.tmp 81) = .slice (some ⟨gs, 0, none⟩) 1 1 -> (∀ A10 c10 w10, w10.ownsRow Wb.heap.size 41 7 (.slice A10 (k + 1) c10) (k + 1) (flatP (l.take k) (rs.take k) ++ [.int .i64 x.view, .int .i64 x.seq, .int .i64 x.dig, .int .i64 x.first.1, .int .i64 x.first.2, .slice r.1.1 x.signs.length r.1.2, .slice r.2.1 x.batch.length r.2.2]) /\ Below Wb.heap.size Wb w10 -> K (a.put o.dst (.slice A10 (k + 1) c10)) w10) -> if Region.wanted o (yielded ops a.tmps) = true then Oper.wp Tryz.prog o a W K Q else E) := Lib.hid (fun W A9 c9 gs how hbw hk ops o a K Q E hg ho h1 h2 h => by
                  have hone : Sl W (fun _ => False) 7 (.slice (some ⟨gs, 0, none⟩) 1 1) 1 [.int .i64 x.view, .int .i64 x.seq, .int .i64 x.dig, .int .i64 x.first.1, .int .i64 x.first.2, .slice r.1.1 x.signs.length r.1.2, .slice r.2.1 x.batch.length r.2.2] := ⟨_, _, rfl, rfl, Nat.le_refl _, by simp only [maxLen]; omega, fun _ => ⟨_, rfl, hk.lt, fun h => h, fun j u hu => by
                    have ha : (⟨gs, 0, none⟩ : Addr).add j = ⟨gs, j, none⟩ := by unfold Addr.add; split <;> simp_all
                    rw [ha, hk.cell j]
                    simpa [PC] using hu⟩⟩
                  refine step_append_sh hg (.tmp 79) (.tmp 81) _ ho Wb.heap.size 41 i7 _ 7 88 Tryz.underlying30 hi7 hz7 hs7 hy7 rfl (by omega) (.slice A9 k c9) k (flatP (l.take k) (rs.take k)) h1 how (fun _ => False) (.slice (some ⟨gs, 0, none⟩) 1 1) 1 [.int .i64 x.view, .int .i64 x.seq, .int .i64 x.dig, .int .i64 x.first.1, .int .i64 x.first.2, .slice r.1.1 x.signs.length r.1.2, .slice r.2.1 x.batch.length r.2.2] h2 hone HFL.out.2 (by have := HKL.out.1; have := HL.out; simp only [maxLen]; omega) (by have := HKL.out.1; have := HL.out; omega) hbw.size ?_
                  intro A10 c10 w10 happ
                  have hlo := how.lt
                  have hbn : Below Wb.heap.size W w10 := (Ch.of_grown (S := fun q => Wb.heap.size <= q) happ.2.1 (fun q hq _ => (hlo q hq).1)).below (fun q hq h => by omega) hbw.size
                  exact h A10 c10 w10 ⟨happ.1, hbw.trans hbn⟩)
                have tD : Tag Wb.drew := ⟨⟩
                have tA : Tag (Wb.alloc (.cells #[.int .i64 x.view, .int .i64 x.seq, .int .i64 x.dig, .int .i64 x.first.1, .int .i64 x.first.2, .slice r.1.1 x.signs.length r.1.2, .slice r.2.1 x.batch.length r.2.2] 41)).drew := ⟨⟩
                have HBX : Hid (∀ W, Below Wb.heap.size Wb W -> Blk W w.heap.size 41 (PC x r)) := Lib.hid (fun W hW => HPWb.out.box.below hW HPWb.out.box.lt)
                have HKA : Hid (Blk (Wb.alloc (.cells #[.int .i64 x.view, .int .i64 x.seq, .int .i64 x.dig, .int .i64 x.first.1, .int .i64 x.first.2, .slice r.1.1 x.signs.length r.1.2, .slice r.2.1 x.batch.length r.2.2] 41)).drew Wb.heap.size 41 (PC x r)) := Lib.hid (Blk.new Wb _ _)
                have hsu := pslice_upto (some ad) l.length c k (by have := HKL.out.1; omega)
                have c0a := (HPWb.out.held.below hba HPWb.out.held.lt).cell 0
                have c0b := (HPWb.out.held.below ((Below.refl _ Wb).alloc (Nat.le_refl _) (.cells #[.int .i64 x.view, .int .i64 x.seq, .int .i64 x.dig, .int .i64 x.first.1, .int .i64 x.first.2, .slice r.1.1 x.signs.length r.1.2, .slice r.2.1 x.batch.length r.2.2] 41)) HPWb.out.held.lt).cell 0
                simp only [List.getElem?_toArray, List.getElem?_cons_zero] at c0a c0b
                obtain ⟨A', hsf, hsf2⟩ := pslice_from (some ad) l.length c k HKL.out.1 (by
                  obtain ⟨_, _, e, _, hc, _⟩ := hsl
                  injection e with e1 e2 e3
                  omega)
                have hcut : Sl Wb (fun q => X q \/ q = g) 7 (.slice A' (l.length - k) (c - k)) (l.length - k) (flatP (l.drop k) (rs.drop k)) := by
                  rw [flatP_drop]
                  exact hsl.cut (by have := HKL.out.1; omega) A' (fun ad' h h' => hsf2 ad' h h')
                have HCUT := Lib.hid (And.intro hcut (And.intro hpts (show ∀ u ∈ flatP (l.drop k) (rs.drop k), u.oneCell' = true from flatP_one)))
                have HIN := Lib.hid (And.intro hi7 (And.intro hz7 (And.intro hs7 hy7)))
                clear hbd hba hkc hslk hpts hsl hi7 hz7 hs7 hy7 hsf2 hcut hln
                go_region_law (first
                  | ((with_reducible refine at_tag tD ?_); refine H79.out _ (.inl rfl) _ _ _ _ _ _ (by rfl) (by rfl) (by rfl) (by rfl) ?_; rintro A9 c9 w9 ⟨ho9, hb9, hbn9⟩; have HO9 := Lib.hid ho9; have HB9 := Lib.hid hb9; obtain ⟨n0, n1, n2, n3, n4, n5, n6⟩ := Pro.PC_cells (HBX.out w9 hb9); have t9d : Tag (w9.alloc (.cells #[.int .i64 x.view, .int .i64 x.seq, .int .i64 x.dig, .int .i64 x.first.1, .int .i64 x.first.2, .slice r.1.1 x.signs.length r.1.2, .slice r.2.1 x.batch.length r.2.2] 41)) := ⟨⟩; clear ho9 hb9 hbn9)
                  | ((with_reducible refine at_tag tA ?_); refine H79.out _ (.inr rfl) _ _ _ _ _ _ (by rfl) (by rfl) (by rfl) (by rfl) ?_; rintro A9 c9 w9 ⟨ho9, hb9, hbn9⟩; have HO9 := Lib.hid ho9; have HB9 := Lib.hid hb9; have HK9 := Lib.hid (HKA.out.below hbn9 HKA.out.lt); have t9 : Tag w9 := ⟨⟩; clear ho9 hb9 hbn9)
                  | ((with_reducible refine at_tag t9d ?_); refine H82.out _ _ _ _ (HO9.out.alloc _) (HB9.out.alloc HB9.out.size _) (Blk.new w9 _ _) _ _ _ _ _ _ (by rfl) (by rfl) (by rfl) (by rfl) ?_; rintro A10 c10 w10 ⟨ho10, hb10⟩; have HO10 := Lib.hid ho10; have HB10 := Lib.hid hb10; clear ho10 hb10)
                  | ((with_reducible refine at_tag t9 ?_); refine H82.out _ _ _ _ HO9.out HB9.out HK9.out _ _ _ _ _ _ (by rfl) (by rfl) (by rfl) (by rfl) ?_; rintro A10 c10 w10 ⟨ho10, hb10⟩; have HO10 := Lib.hid ho10; have HB10 := Lib.hid hb10; clear ho10 hb10))
                all_goals
                  have HP10 := Lib.hid (HPWb.out.later HB10.out)
                  have c10' := HP10.out.held.cell 0
                  have f10' := HP10.out.held.frozen 0
                  simp only [List.getElem?_toArray, List.getElem?_cons_zero] at c10'
                  go_wp2_with (at_builtin; refine wpList_append_sh _ rfl (.tmp 87) (.tmp 93) _ rfl Wb.heap.size 41 i7 _ 7 88 Tryz.underlying30 HIN.out.1 HIN.out.2.1 HIN.out.2.2.1 HIN.out.2.2.2 rfl (by omega) _ _ _ rfl HO10.out (fun q => X q \/ q = g) _ _ _ rfl (HCUT.out.1.after HB10.out) HCUT.out.2.2 (by have := HKL.out.1; have := HL.out; simp only [maxLen]; omega) (by have := HKL.out.1; have := HL.out; omega) HB10.out.size ?_; intro A11 c11 w11 happ; have hlo := HO10.out.lt; have HB11 := Lib.hid (HB10.out.trans ((Ch.of_grown (S := fun q => Wb.heap.size <= q) happ.2.1 (fun q hq _ => (hlo q hq).1)).below (fun q hq h => by omega) HB10.out.size)); have HO11 := Lib.hid happ.1; have c11' := (HPWb.out.held.below HB11.out HPWb.out.held.lt).cell 0; have f11' := (HPWb.out.held.below HB11.out HPWb.out.held.lt).frozen 0; simp only [List.getElem?_toArray, List.getElem?_cons_zero] at c11'; clear happ hlo)
                  go_ret
                  obtain ⟨r1, r2⟩ := PS.fin (k := k) (j := k) HPWb.out HCUT.out.2.1 HB11.out HO11.out (by have := HKL.out.1; simp only [List.length_append, List.length_take, List.length_cons, List.length_drop]; omega) HX.out
                  have hkk := HKL.out.2
                  refine ⟨by rw [HPH.out]; rfl, ?_, r2⟩
                  rw [HPH.out, <- hkk]
                  exact r1
    . have hke : k = l.length := by omega
      have hko : k = kOf l x.seq := by have := kOf_le l x.seq; omega
      have HPH := Lib.hid (put_end (l := l) (x := x) HOK.out (by omega))
      have HKL := Lib.hid (And.intro (show k <= l.length by omega) hko)
      have hkd : decide ((k : Int) < (l.length : Int)) = false := decide_eq_false (by omega)
      have hkdn : decide (k < l.length) = false := decide_eq_false (by omega)
      have HPW0 : Hid (PS w X g A c l x r (w0.drewN nd)) := Lib.hid (HPS.out.later (below_drewN (Below.refl _ _) _))
      generalize w0.drewN nd = W0 at *
      obtain ⟨a0, a1, a2, a3, a4, a5, a6⟩ := Pro.PC_cells HPW0.out.box
      have c0 := HPW0.out.held.cell 0
      simp only [List.getElem?_toArray, List.getElem?_cons_zero] at c0
      clear hke hko hlt hk hkl2
      go_wp2_with fail
      go_quiet (fail)
      all_goals
        go_wp2_with fail
        have HPW1 : Hid (PS w X g A c l x r (W0.drewN nq)) := Lib.hid (HPW0.out.later (below_drewN (Below.refl _ _) _))
        generalize W0.drewN nq = W1 at *
        clear a0 a1 a2 a3 a4 a5 a6 c0
        obtain ⟨a0, a1, a2, a3, a4, a5, a6⟩ := Pro.PC_cells HPW1.out.box
        have c0 := HPW1.out.held.cell 0
        simp only [List.getElem?_toArray, List.getElem?_cons_zero] at c0
        clear HPW0
        go_quiet (fail)
        all_goals
          go_wp2_with fail
          have HPWa : Hid (PS w X g A c l x r (W1.drewN nq)) := Lib.hid (HPW1.out.later (below_drewN (Below.refl _ _) _))
          generalize W1.drewN nq = Wa at *
          clear a0 a1 a2 a3 a4 a5 a6 c0
          obtain ⟨a0, a1, a2, a3, a4, a5, a6⟩ := Pro.PC_cells HPWa.out.box
          have c0 := HPWa.out.held.cell 0
          simp only [List.getElem?_toArray, List.getElem?_cons_zero] at c0
          clear HPW1
          go_quiet (fail)
          all_goals
            go_upto_region 10 with fail
            have HPWb : Hid (PS w X g A c l x r (Wa.drewN nq)) := Lib.hid (HPWa.out.later (below_drewN (Below.refl _ _) _))
            generalize Wa.drewN nq = Wb at *
            clear a0 a1 a2 a3 a4 a5 a6 c0
            obtain ⟨a0, a1, a2, a3, a4, a5, a6⟩ := Pro.PC_cells HPWb.out.box
            have c0 := HPWb.out.held.cell 0
            simp only [List.getElem?_toArray, List.getElem?_cons_zero] at c0
            clear HPWa
            obtain ⟨rs, hpts, hsl⟩ := HPWb.out.pl
            obtain ⟨i7, hi7, hz7, hs7, hy7⟩ := info_parts info_prep
            have hkc : k <= c := by
              obtain ⟨_, _, e, _, hc, _⟩ := hsl
              injection e with e1 e2 e3
              have := HKL.out.1
              omega
            have hslk : Sl Wb (fun q => X q \/ q = g) 7 (.slice A k c) k (flatP (l.take k) (rs.take k)) := by
              rw [flatP_take]
              exact hsl.upto (by have := HKL.out.1; omega)
            have HFL := Lib.hid (And.intro (show ∀ u ∈ flatP (l.take k) (rs.take k), u.oneCell' = true from flatP_one) (show ∀ u ∈ ([.int .i64 x.view, .int .i64 x.seq, .int .i64 x.dig, .int .i64 x.first.1, .int .i64 x.first.2, .slice r.1.1 x.signs.length r.1.2, .slice r.2.1 x.batch.length r.2.2] : List Value), u.oneCell' = true from PC_one x r))
            have hbd : Below Wb.heap.size Wb Wb.drew := below_drewN (Below.refl _ _) 1
            have hba : Below Wb.heap.size Wb (Wb.alloc (.cells #[.int .i64 x.view, .int .i64 x.seq, .int .i64 x.dig, .int .i64 x.first.1, .int .i64 x.first.2, .slice r.1.1 x.signs.length r.1.2, .slice r.2.1 x.batch.length r.2.2] 41)).drew := below_drewN ((Below.refl _ Wb).alloc (Nat.le_refl _) (.cells #[.int .i64 x.view, .int .i64 x.seq, .int .i64 x.dig, .int .i64 x.first.1, .int .i64 x.first.2, .slice r.1.1 x.signs.length r.1.2, .slice r.2.1 x.batch.length r.2.2] 41)) 1
            have H79 : Hid (∀ (W : World), (W = Wb.drew \/ W = (Wb.alloc (.cells #[.int .i64 x.view, .int .i64 x.seq, .int .i64 x.dig, .int .i64 x.first.1, .int .i64 x.first.2, .slice r.1.1 x.signs.length r.1.2, .slice r.2.1 x.batch.length r.2.2] 41)).drew) -> ∀ (ops : Array Oper) (o : Oper) (a : Act) (K : Act -> World -> Prop) (Q : Exit -> Act -> World -> Prop) (E : Prop), o.guard = none -> o.op = Op.call { callee := Callee.builtin Builtin.append, args := #[Operand.tmp 72, Operand.tmp 78], argTypes := #[30, 30] } -> a.eval (.tmp 72) = .slice none 0 0 -> a.eval (.tmp 78) = .slice A k c -> (∀ A9 c9 w9, w9.ownsRow Wb.heap.size 41 7 (.slice A9 k c9) k (flatP (l.take k) (rs.take k)) /\ Below Wb.heap.size Wb w9 /\ Below W.heap.size W w9 -> K (a.put o.dst (.slice A9 k c9)) w9) -> if Region.wanted o (yielded ops a.tmps) = true then Oper.wp Tryz.prog o a W K Q else E) := Lib.hid (fun W hW ops o a K Q E hg ho h1 h2 h => by
              have hbw : Below Wb.heap.size Wb W := by rcases hW with rfl | rfl <;> assumption
              refine step_append_sh hg (.tmp 72) (.tmp 78) _ ho Wb.heap.size 41 i7 _ 7 88 Tryz.underlying30 hi7 hz7 hs7 hy7 rfl (by omega) (.slice none 0 0) 0 [] h1 (World.ownsRow_nil _ _ _ _) (fun q => X q \/ q = g) (.slice A k c) k (flatP (l.take k) (rs.take k)) h2 (hslk.after hbw) HFL.out.1 (by have := HKL.out.1; have := HL.out; simp only [maxLen]; omega) (by have := HKL.out.1; have := HL.out; omega) hbw.size ?_
              intro A9 c9 w9 happ
              have hbn : Below W.heap.size W w9 := (Ch.of_grown (S := fun _ => False) happ.2.1 (fun k hk _ => by simp [Value.ownBlock] at hk)).below (fun _ _ h => h) (Nat.le_refl _)
              have ho9 := happ.1
              simp only [List.nil_append, Nat.zero_add] at ho9 h
              rw [Nat.zero_add]
              exact h A9 c9 w9 ⟨ho9, hbw.trans (hbn.mono hbw.size), hbn⟩)
            have H82 : Hid (∀ (W : World) (A9 : Option Addr) (c9 gs : Nat), W.ownsRow Wb.heap.size 41 7 (.slice A9 k c9) k (flatP (l.take k) (rs.take k)) -> Below Wb.heap.size Wb W -> Blk W gs 41 (PC x r) -> ∀ (ops : Array Oper) (o : Oper) (a : Act) (K : Act -> World -> Prop) (Q : Exit -> Act -> World -> Prop) (E : Prop), o.guard = none -> o.op = Op.call { callee := Callee.builtin Builtin.append, args := #[Operand.tmp 79, Operand.tmp 81], argTypes := #[30, 30] } -> a.eval (.tmp 79) = .slice A9 k c9 -> a.eval (.tmp 81) = .slice (some ⟨gs, 0, none⟩) 1 1 -> (∀ A10 c10 w10, w10.ownsRow Wb.heap.size 41 7 (.slice A10 (k + 1) c10) (k + 1) (flatP (l.take k) (rs.take k) ++ [.int .i64 x.view, .int .i64 x.seq, .int .i64 x.dig, .int .i64 x.first.1, .int .i64 x.first.2, .slice r.1.1 x.signs.length r.1.2, .slice r.2.1 x.batch.length r.2.2]) /\ Below Wb.heap.size Wb w10 -> K (a.put o.dst (.slice A10 (k + 1) c10)) w10) -> if Region.wanted o (yielded ops a.tmps) = true then Oper.wp Tryz.prog o a W K Q else E) := Lib.hid (fun W A9 c9 gs how hbw hk ops o a K Q E hg ho h1 h2 h => by
              have hone : Sl W (fun _ => False) 7 (.slice (some ⟨gs, 0, none⟩) 1 1) 1 [.int .i64 x.view, .int .i64 x.seq, .int .i64 x.dig, .int .i64 x.first.1, .int .i64 x.first.2, .slice r.1.1 x.signs.length r.1.2, .slice r.2.1 x.batch.length r.2.2] := ⟨_, _, rfl, rfl, Nat.le_refl _, by simp only [maxLen]; omega, fun _ => ⟨_, rfl, hk.lt, fun h => h, fun j u hu => by
                have ha : (⟨gs, 0, none⟩ : Addr).add j = ⟨gs, j, none⟩ := by unfold Addr.add; split <;> simp_all
                rw [ha, hk.cell j]
                simpa [PC] using hu⟩⟩
              refine step_append_sh hg (.tmp 79) (.tmp 81) _ ho Wb.heap.size 41 i7 _ 7 88 Tryz.underlying30 hi7 hz7 hs7 hy7 rfl (by omega) (.slice A9 k c9) k (flatP (l.take k) (rs.take k)) h1 how (fun _ => False) (.slice (some ⟨gs, 0, none⟩) 1 1) 1 [.int .i64 x.view, .int .i64 x.seq, .int .i64 x.dig, .int .i64 x.first.1, .int .i64 x.first.2, .slice r.1.1 x.signs.length r.1.2, .slice r.2.1 x.batch.length r.2.2] h2 hone HFL.out.2 (by have := HKL.out.1; have := HL.out; simp only [maxLen]; omega) (by have := HKL.out.1; have := HL.out; omega) hbw.size ?_
              intro A10 c10 w10 happ
              have hlo := how.lt
              have hbn : Below Wb.heap.size W w10 := (Ch.of_grown (S := fun q => Wb.heap.size <= q) happ.2.1 (fun q hq _ => (hlo q hq).1)).below (fun q hq h => by omega) hbw.size
              exact h A10 c10 w10 ⟨happ.1, hbw.trans hbn⟩)
            have tD : Tag Wb.drew := ⟨⟩
            have tA : Tag (Wb.alloc (.cells #[.int .i64 x.view, .int .i64 x.seq, .int .i64 x.dig, .int .i64 x.first.1, .int .i64 x.first.2, .slice r.1.1 x.signs.length r.1.2, .slice r.2.1 x.batch.length r.2.2] 41)).drew := ⟨⟩
            have HBX : Hid (∀ W, Below Wb.heap.size Wb W -> Blk W w.heap.size 41 (PC x r)) := Lib.hid (fun W hW => HPWb.out.box.below hW HPWb.out.box.lt)
            have HKA : Hid (Blk (Wb.alloc (.cells #[.int .i64 x.view, .int .i64 x.seq, .int .i64 x.dig, .int .i64 x.first.1, .int .i64 x.first.2, .slice r.1.1 x.signs.length r.1.2, .slice r.2.1 x.batch.length r.2.2] 41)).drew Wb.heap.size 41 (PC x r)) := Lib.hid (Blk.new Wb _ _)
            have hsu := pslice_upto A l.length c k (by have := HKL.out.1; omega)
            have c0a := (HPWb.out.held.below hba HPWb.out.held.lt).cell 0
            have c0b := (HPWb.out.held.below ((Below.refl _ Wb).alloc (Nat.le_refl _) (.cells #[.int .i64 x.view, .int .i64 x.seq, .int .i64 x.dig, .int .i64 x.first.1, .int .i64 x.first.2, .slice r.1.1 x.signs.length r.1.2, .slice r.2.1 x.batch.length r.2.2] 41)) HPWb.out.held.lt).cell 0
            simp only [List.getElem?_toArray, List.getElem?_cons_zero] at c0a c0b
            obtain ⟨A', hsf, hsf2⟩ := pslice_from A l.length c k HKL.out.1 (by
              obtain ⟨_, _, e, _, hc, _⟩ := hsl
              injection e with e1 e2 e3
              omega)
            have hcut : Sl Wb (fun q => X q \/ q = g) 7 (.slice A' (l.length - k) (c - k)) (l.length - k) (flatP (l.drop k) (rs.drop k)) := by
              rw [flatP_drop]
              exact hsl.cut (by have := HKL.out.1; omega) A' (fun ad' h h' => hsf2 ad' h h')
            have HCUT := Lib.hid (And.intro hcut (And.intro hpts (show ∀ u ∈ flatP (l.drop k) (rs.drop k), u.oneCell' = true from flatP_one)))
            have HIN := Lib.hid (And.intro hi7 (And.intro hz7 (And.intro hs7 hy7)))
            clear hbd hba hkc hslk hpts hsl hi7 hz7 hs7 hy7 hsf2 hcut hln
            go_region_law (first
              | ((with_reducible refine at_tag tD ?_); refine H79.out _ (.inl rfl) _ _ _ _ _ _ (by rfl) (by rfl) (by rfl) (by rfl) ?_; rintro A9 c9 w9 ⟨ho9, hb9, hbn9⟩; have HO9 := Lib.hid ho9; have HB9 := Lib.hid hb9; obtain ⟨n0, n1, n2, n3, n4, n5, n6⟩ := Pro.PC_cells (HBX.out w9 hb9); have t9d : Tag (w9.alloc (.cells #[.int .i64 x.view, .int .i64 x.seq, .int .i64 x.dig, .int .i64 x.first.1, .int .i64 x.first.2, .slice r.1.1 x.signs.length r.1.2, .slice r.2.1 x.batch.length r.2.2] 41)) := ⟨⟩; clear ho9 hb9 hbn9)
              | ((with_reducible refine at_tag tA ?_); refine H79.out _ (.inr rfl) _ _ _ _ _ _ (by rfl) (by rfl) (by rfl) (by rfl) ?_; rintro A9 c9 w9 ⟨ho9, hb9, hbn9⟩; have HO9 := Lib.hid ho9; have HB9 := Lib.hid hb9; have HK9 := Lib.hid (HKA.out.below hbn9 HKA.out.lt); have t9 : Tag w9 := ⟨⟩; clear ho9 hb9 hbn9)
              | ((with_reducible refine at_tag t9d ?_); refine H82.out _ _ _ _ (HO9.out.alloc _) (HB9.out.alloc HB9.out.size _) (Blk.new w9 _ _) _ _ _ _ _ _ (by rfl) (by rfl) (by rfl) (by rfl) ?_; rintro A10 c10 w10 ⟨ho10, hb10⟩; have HO10 := Lib.hid ho10; have HB10 := Lib.hid hb10; clear ho10 hb10)
              | ((with_reducible refine at_tag t9 ?_); refine H82.out _ _ _ _ HO9.out HB9.out HK9.out _ _ _ _ _ _ (by rfl) (by rfl) (by rfl) (by rfl) ?_; rintro A10 c10 w10 ⟨ho10, hb10⟩; have HO10 := Lib.hid ho10; have HB10 := Lib.hid hb10; clear ho10 hb10))
            all_goals
              have HP10 := Lib.hid (HPWb.out.later HB10.out)
              have c10' := HP10.out.held.cell 0
              have f10' := HP10.out.held.frozen 0
              simp only [List.getElem?_toArray, List.getElem?_cons_zero] at c10'
              go_wp2_with (at_builtin; refine wpList_append_sh _ rfl (.tmp 87) (.tmp 93) _ rfl Wb.heap.size 41 i7 _ 7 88 Tryz.underlying30 HIN.out.1 HIN.out.2.1 HIN.out.2.2.1 HIN.out.2.2.2 rfl (by omega) _ _ _ rfl HO10.out (fun q => X q \/ q = g) _ _ _ rfl (HCUT.out.1.after HB10.out) HCUT.out.2.2 (by have := HKL.out.1; have := HL.out; simp only [maxLen]; omega) (by have := HKL.out.1; have := HL.out; omega) HB10.out.size ?_; intro A11 c11 w11 happ; have hlo := HO10.out.lt; have HB11 := Lib.hid (HB10.out.trans ((Ch.of_grown (S := fun q => Wb.heap.size <= q) happ.2.1 (fun q hq _ => (hlo q hq).1)).below (fun q hq h => by omega) HB10.out.size)); have HO11 := Lib.hid happ.1; have c11' := (HPWb.out.held.below HB11.out HPWb.out.held.lt).cell 0; have f11' := (HPWb.out.held.below HB11.out HPWb.out.held.lt).frozen 0; simp only [List.getElem?_toArray, List.getElem?_cons_zero] at c11'; clear happ hlo)
              go_ret
              obtain ⟨r1, r2⟩ := PS.fin (k := k) (j := k) HPWb.out HCUT.out.2.1 HB11.out HO11.out (by have := HKL.out.1; simp only [List.length_append, List.length_take, List.length_cons, List.length_drop]; omega) HX.out
              have hkk := HKL.out.2
              refine ⟨by rw [HPH.out]; rfl, ?_, r2⟩
              rw [HPH.out, <- hkk]
              exact r1
end Go.Proofs.YtmhmnkpaijoaaaaGreat.Psh
namespace Go.Proofs.YtmhmnkpaijoaaaaGreat.Ptd
set_option linter.unusedSimpArgs false
open Go Go.RowKit Ck Cf Kw Ga Kf Pm Pe Pg Ik Lk Jm Ja Jb Jf Jg Jl Jn Kc Kj Pra Prb Prc Prd Pre Prf Prn Prr Psg Psh Psx Pta
attribute [local go_sem ↓] Go.wp_at_zero Go.wp_at_succ
set_option linter.unusedVariables false
set_option maxRecDepth 100000
structure HeldD (H : World -> (Nat -> Prop) -> Nat -> List Pd -> Prop) (okl : List Pd -> Prop) : Prop where
  get : ∀ (w : World) (S : Nat -> Prop) (g : Nat) (l : List Pd) (n : Int), H w S g l -> -9223372036854775808 <= n -> n <= 9223372036854775807 ->
    Calls Tryz.prog 23 #[.pointer (some ⟨g, 0, none⟩), .int .i64 n] w (Pre.Told w (fun _ => False) (getP l n))
  slide : ∀ (w : World) (S : Nat -> Prop) (g : Nat) (l : List Pd) (low : Int), H w S g l ->
    Calls Tryz.prog 19 #[.pointer (some ⟨g, 0, none⟩), .int .i64 low] w fun e w' => e = .returned (.tuple #[]) /\ H w' (Nw S w.heap.size w'.heap.size) g (slideP l low) /\ Ch S w w'
  clone : ∀ (w : World) (S : Nat -> Prop) (g : Nat) (l : List Pd), H w S g l ->
    Calls Tryz.prog 29 #[.pointer (some ⟨g, 0, none⟩)] w fun e w' => ∃ g', e = .returned (.pointer (some ⟨g', 0, none⟩)) /\ H w' (fun k => w.heap.size <= k /\ k < w'.heap.size) g' l /\ Below w.heap.size w w'
  all : ∀ (w : World) (S : Nat -> Prop) (g : Nat) (l : List Pd), H w S g l -> okl l ->
    Calls Tryz.prog 27 #[.pointer (some ⟨g, 0, none⟩)] w fun e w' => ∃ v, e = .returned v /\ PL w' (fun _ => False) v l /\ Below w.heap.size w w'
  frm : ∀ (w : World) (X : Nat -> Prop) (v : Value) (l : List Pd), PL w X v l -> okl l ->
    Calls Tryz.prog 30 #[v] w fun e w' => Below w.heap.size w w' /\ if fromP 0 l then ∃ g, e = .returned (.tuple #[.pointer (some ⟨g, 0, none⟩), .int .i64 0]) /\ H w' (fun k => w.heap.size <= k /\ k < w'.heap.size) g l else e = .returned (.tuple #[.pointer none, .int .i64 1])
def SameC : Prop := ∀ (w : World) (X Y : Nat -> Prop) (p q : Pd) (rp rq : Pl2), PI w X p rp -> PI w Y q rq -> okP p -> okP q ->
    Calls Tryz.prog 32 #[.agg (PC p rp), .agg (PC q rq)] w fun e w' => e = .returned (.bool (decide (p = q))) /\ Below w.heap.size w w'
structure FX (Z : World -> Prop) (w : World) (ga gb : Nat) (a b : Pd) (ra rb : Pl2) (W : World) : Prop where
  ka : Blk W ga 41 (PC a ra)
  kb : Blk W gb 41 (PC b rb)
  pa : PI W (fun _ => False) a ra
  pb : PI W (fun _ => False) b rb
  hb : Below w.heap.size w W
  z : Z W
theorem FX.later {Z : World -> Prop} {w : World} {ga gb : Nat} {a b : Pd} {ra rb : Pl2} {W W' : World} (h : FX Z w ga gb a b ra rb W) (b' : Below W.heap.size W W') (hz : Z W') : FX Z w ga gb a b ra rb W' :=
  ⟨h.ka.below b' h.ka.lt, h.kb.below b' h.kb.lt, h.pa.after b', h.pb.after b', h.hb.trans (b'.mono h.hb.size), hz⟩
end Go.Proofs.YtmhmnkpaijoaaaaGreat.Ptd

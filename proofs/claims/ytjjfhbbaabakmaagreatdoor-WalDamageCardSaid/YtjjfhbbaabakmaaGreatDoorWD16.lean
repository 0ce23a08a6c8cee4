/-
  Layer 4: the law's burst.
-/
import Derived.Test.YtjjfhbbaabakmaaGreatDoorWD02
import Derived.Test.YtjjfhbbaabakmaaGreatDoorWD04
import Derived.Test.YtjjfhbbaabakmaaGreatDoorWD15
import Derived.RangeFuncNested
import Derived.RangeFuncBound
import Derived.RangeFuncCalls
import Derived.RangeFuncLeaves
import Derived.RangeFuncWrites
namespace Go.Proofs.YtjjfhbbaabakmaaGreatDoor.Ui
set_option linter.unusedSimpArgs false
open Go Go.RowKit Ck Kw Ga Wc Wf
attribute [local go_sem ↓] Go.wp_at_zero Go.wp_at_succ
set_option linter.unusedVariables false
set_option maxRecDepth 100000

theorem own_at {w : World} {base : Nat} {t : TypeId} {v : Value} {l : List UInt8} {k : Nat} (h : w.ownsRow base t 1 v l.length (BVs l)) (hk : k < l.length) : ∃ g c, v = .slice (some ⟨g, 0, none⟩) l.length c ∧ base ≤ g ∧ w.cell? ⟨g, k, none⟩ = some (.int .u8 (l[k].toNat : Int)) ∧ w.frozen? ⟨g, k, none⟩ = false ∧
    ∀ y : UInt8, (w.setCell ⟨g, k, none⟩ (.int .u8 (y.toNat : Int))).ownsRow base t 1 v l.length (BVs (l.set k y)) ∧ w.grownBy (w.setCell ⟨g, k, none⟩ (.int .u8 (y.toNat : Int))) (some g) := by
  obtain ⟨g, c, rfl, hb, _⟩ := h.form (by omega)
  refine ⟨g, c, rfl, hb, ?_, h.frozenAt k, fun y => ?_⟩
  · rw [h.cellAt k (by omega), BVs_get hk]
  · have h2 := h.stored k (.int .u8 (y.toNat : Int))
    have e : BVs (l.set k y) = (BVs l).set k (.int .u8 (y.toNat : Int)) := by simp [BVs, BV, List.map_set]
    rw [e]
    exact h2
/-- Bytes of which a part is turned. -/
def hurt (l : List UInt8) (a z first many bits i : Nat) : List UInt8 := l.take a ++ burst ((l.take z).drop a) first many bits i ++ l.drop z
theorem mid_len {l : List UInt8} {a z : Nat} (h : z ≤ l.length) : ((l.take z).drop a).length = z - a := by simp; omega
theorem hurt_len {l : List UInt8} {a z first many bits i : Nat} (h : z ≤ l.length) (ha : a ≤ z) : (hurt l a z first many bits i).length = l.length := by
  unfold hurt
  rw [List.length_append, List.length_append, burst_len, mid_len h, List.length_take, List.length_drop]
  omega
theorem hurt_zero {l : List UInt8} {a z first many bits : Nat} (ha : a ≤ z) : hurt l a z first many bits 0 = l := by
  unfold hurt burst
  have h1 : l.take a = (l.take z).take a := by rw [List.take_take, Nat.min_eq_left ha]
  rw [h1, List.take_append_drop, List.take_append_drop]
theorem flip_set {l : List UInt8} {k : Nat} (h : k / 8 < l.length) : Wc.flip l k = l.set (k / 8) (l[k / 8] ^^^ UInt8.ofNat (2 ^ (k % 8))) := by
  unfold Wc.flip
  refine List.ext_getElem (by simp) (fun i h1 h2 => ?_)
  rw [List.getElem_modify, List.getElem_set]
  by_cases e : k / 8 = i
  · subst e; simp
  · simp [e]
theorem hurt_flip {l : List UInt8} {a z first many bits i : Nat} (hz : z ≤ l.length) (ha : a ≤ z) (hm : many = 8 * (z - a)) (hk : first + i < many) (hb : bits / 2 ^ i % 2 = 1) (h : a + (first + i) / 8 < (hurt l a z first many bits i).length) :
    hurt l a z first many bits (i + 1) = (hurt l a z first many bits i).set (a + (first + i) / 8) ((hurt l a z first many bits i)[a + (first + i) / 8] ^^^ UInt8.ofNat (2 ^ ((first + i) % 8))) := by
  have hj : (first + i) / 8 < (burst ((l.take z).drop a) first many bits i).length := by rw [burst_len, mid_len hz]; omega
  have hta : (l.take a).length = a := by rw [List.length_take]; omega
  have he : (hurt l a z first many bits i)[a + (first + i) / 8] = (burst ((l.take z).drop a) first many bits i)[(first + i) / 8] := by
    simp only [hurt]
    rw [List.getElem_append_left (by rw [List.length_append]; omega), List.getElem_append_right (by omega)]
    simp only [hta, Nat.add_sub_cancel_left]
  rw [he]
  unfold hurt
  rw [burst, if_pos ⟨hk, hb⟩, flip_set hj, List.set_append_left _ _ (by rw [List.length_append]; omega), List.set_append_right _ _ (by omega), hta, Nat.add_sub_cancel_left]
theorem hurt_none {l : List UInt8} {a z first many bits i : Nat} (h : ¬ (first + i < many ∧ bits / 2 ^ i % 2 = 1)) : hurt l a z first many bits (i + 1) = hurt l a z first many bits i := by
  unfold hurt
  rw [burst, if_neg h]
theorem mask_none {first many bits i : Nat} (h : ¬ (first + i < many ∧ bits / 2 ^ i % 2 = 1)) : decide (mask first many bits (i + 1) ≠ 0) = decide (mask first many bits i ≠ 0) := by
  rw [mask_step, decide_eq_false h, Bool.or_false]
theorem mask_yes {first many bits i : Nat} (h : first + i < many ∧ bits / 2 ^ i % 2 = 1) : decide (mask first many bits (i + 1) ≠ 0) = true := by
  rw [mask_step, decide_eq_true h, Bool.or_true]

set_option maxHeartbeats 4000000 in
theorem burst_any (w : World) (base : Nat) (v : Value) (l : List UInt8) (a z at' bits : Nat) (hr : w.ownsRow base 5 1 v l.length (BVs l)) (haz : a < z) (hz : z ≤ l.length) (hl : l.length ≤ 4194304) (hat : at' < 4294967296) (hbits : bits < 4294967296) :
    Calls Tryz.prog 22 #[v, .int .i64 (a : Int), .int .i64 (z : Int), .int .u32 (at' : Int), .int .u32 (bits : Int)] w fun e w' => e = .returned (.bool (decide (mask (at' % (8 * (z - a))) (8 * (z - a)) bits 32 ≠ 0))) ∧
      w'.ownsRow base 5 1 v l.length (BVs (hurt l a z (at' % (8 * (z - a))) (8 * (z - a)) bits 32)) ∧ w.grownBy w' v.ownBlock := by
  obtain ⟨many, hm⟩ : ∃ many, many = 8 * (z - a) := ⟨_, rfl⟩
  rw [← hm]
  have hfm : at' % many < many := Nat.mod_lt _ (by omega)
  have hml : many ≤ 33554432 := by omega
  obtain ⟨first, hfe⟩ : ∃ first, first = at' % many := ⟨_, rfl⟩
  rw [← hfe] at hfm ⊢
  have e1 : IntKind.i64.wrap ((z : Int) - (a : Int)) = ((z - a : Nat) : Int) := by rw [wrap64 (by omega) (by omega)]; omega
  have e2 : IntKind.i64.wrap (8 * ((z - a : Nat) : Int)) = (many : Int) := by rw [wrap64 (by omega) (by omega)]; omega
  have e3 : Int.tmod (at' : Int) (many : Int) = ((at' % many : Nat) : Int) := by rw [Int.ofNat_tmod]
  have hmany0 : ((many : Int) == 0) = false := by rw [beq_eq_false_iff_ne]; omega
  have hR := Lib.hid hr
  clear hr
  go_enter Tryz.func22, Tryz.ntmps22
  go_wp2
  rw [show (8 : Int) * ((z - a : Nat) : Int) = (many : Int) from by omega, show (at' : Int) % (many : Int) = (first : Int) from by omega]
  have HM := Lib.hid hm
  have HFE := Lib.hid hfe
  clear e1 e2 e3 hm hfe
  go_loopw [13, 24] (fun t i wr => ∃ (k : Nat) (tb : Bool), k ≤ 32 ∧ i = .int .i64 k ∧ t = .bool tb ∧ tb = decide (mask first many bits k ≠ 0) ∧ wr.ownsRow base 5 1 v l.length (BVs (hurt l a z first many bits k)) ∧ w.grownBy wr v.ownBlock) (fun _ i _ => 32 - (intOf i).toNat)
  case atStart => exact ⟨0, false, by omega, rfl, rfl, by simp [mask], by rw [hurt_zero (by omega)]; exact hR.out, World.grownBy.refl _ _⟩
  case round =>
    obtain ⟨k, tb, hk, rfl, rfl, htb, hrow, hgr⟩ := hrel
    have HTB := Lib.hid htb
    clear htb
    have HR := Lib.hid (And.intro hrow hgr)
    have hhl := Lib.hid (hurt_len (first := first) (many := many) (bits := bits) (i := k) hz (by omega : a ≤ z))
    by_cases h32 : k < 32
    · obtain ⟨q, hq⟩ : ∃ q, q = first + k := ⟨_, rfl⟩
      have w1 : IntKind.i64.wrap ((first : Int) + (k : Int)) = (q : Int) := by rw [wrap64 (by omega) (by omega)]; omega
      have hq4 : q < 33554432 + 32 := by omega
      have HQ := Lib.hid hq
      clear hq
      have hbv : Go.bits .and .u32 ((bits : Int) / 2 ^ k) 1 = ((bits / 2 ^ k % 2 : Nat) : Int) := by
        have hd : bits / 2 ^ k < 4294967296 := Nat.lt_of_le_of_lt (Nat.div_le_self _ _) hbits
        rw [show ((bits : Int) / 2 ^ k) = ((bits / 2 ^ k : Nat) : Int) from by simp, show (1 : Int) = ((1 : Nat) : Int) from rfl, u32_and_nat _ 1 hd (by omega), Nat.and_one_is_mod]
      by_cases hkm : q < many
      · by_cases hbt : bits / 2 ^ k % 2 = 1
        · have hb1 : (Go.bits .and .u32 ((bits : Int) / 2 ^ k) 1 == 1) = true := by rw [hbv, hbt]; rfl
          have hidx : a + q / 8 < (hurt l a z first many bits k).length := by rw [hhl.out]; have := HM.out; omega
          have hro : wr.ownsRow base 5 1 v (hurt l a z first many bits k).length (BVs (hurt l a z first many bits k)) := by rw [hhl.out]; exact hrow
          obtain ⟨g, c, rfl, hgb, hcell, hfz, hset⟩ := own_at hro hidx
          have hnx : hurt l a z first many bits (k + 1) = (hurt l a z first many bits k).set (a + q / 8) ((hurt l a z first many bits k)[a + q / 8] ^^^ UInt8.ofNat (2 ^ (q % 8))) := by
            have hq := HQ.out
            subst hq
            exact hurt_flip hz (by omega) HM.out hkm hbt _
          have hs2 := hset ((hurt l a z first many bits k)[a + q / 8] ^^^ UInt8.ofNat (2 ^ (q % 8)))
          rw [← hnx, hhl.out] at hs2
          have hmy := mask_yes (first := first) (many := many) (bits := bits) (i := k) ⟨by have := HQ.out; omega, hbt⟩
          have HY := Lib.hid (And.intro hs2 hmy)
          rw [hhl.out]
          generalize (hurt l a z first many bits k)[a + q / 8] = x at *
          obtain ⟨j, hj⟩ : ∃ j, j = a + q / 8 := ⟨_, rfl⟩
          rw [← hj] at hcell hfz HY
          obtain ⟨q8, hq8⟩ : ∃ q8, q8 = q / 8 := ⟨_, rfl⟩
          obtain ⟨q7, hq7⟩ : ∃ q7, q7 = q % 8 := ⟨_, rfl⟩
          rw [← hq7] at HY
          have t1 : Int.tdiv (q : Int) 8 = (q8 : Int) := by rw [Int.tdiv_eq_ediv_of_nonneg (by omega)]; omega
          have t2 : (q : Int) / 8 = (q8 : Int) := by omega
          have t3 : Int.tmod (q : Int) 8 = (q7 : Int) := by rw [Int.tmod_eq_emod_of_nonneg (by omega)]; omega
          have t4 : (q : Int) % 8 = (q7 : Int) := by omega
          have w3 : IntKind.i64.wrap (q8 : Int) = (q8 : Int) := wrap64 (by omega) (by omega)
          have w2 : IntKind.i64.wrap ((a : Int) + (q8 : Int)) = (j : Int) := by rw [wrap64 (by omega) (by omega)]; omega
          have hq7l : q7 < 8 := by omega
          have h70 : (0 : Int) ≤ (q7 : Int) := by omega
          have hjl : (j : Int) < (l.length : Int) := by have := hhl.out; omega
          have hj0 : (0 : Int) ≤ (j : Int) := by omega
          clear hrow hgr hbv hro hset hnx hs2 hmy hj hidx hq8 hq7
          go_wp2
          obtain ⟨y, hy⟩ : ∃ y, y = x ^^^ UInt8.ofNat (2 ^ q7) := ⟨_, rfl⟩
          rw [← hy] at HY
          have hxv : Go.bits .xor .u8 (x.toNat : Int) (IntKind.u8.wrap (2 ^ q7)) = (y.toNat : Int) := by
            rw [hy]
            have hp := Wc.pow_lt hq7l
            have hx := x.toNat_lt
            have e : IntKind.u8.wrap (2 ^ q7) = ((2 ^ q7 : Nat) : Int) := by
              rw [show ((2 : Int) ^ q7) = ((2 ^ q7 : Nat) : Int) from by simp]
              clear hy HY
              generalize 2 ^ q7 = z2 at *
              simp only [IntKind.wrap]
              show ((z2 : Int) % 256 : Int) = _
              omega
            rw [e, u8_xor_nat x.toNat (2 ^ q7) (by omega) (by omega), UInt8.toNat_xor, Cm.toNat_ofNat hp]
          clear hy
          go_region_law (fail)
          all_goals
            have hgr2 : w.grownBy ((wr.setCell ⟨g, j, none⟩ (.int .u8 (y.toNat : Int))).drewN 1) (some g) := (HR.out.2.trans HY.out.1.2).trans (Ck.grown_of_below (below_drewN (Below.refl _ _) 1) (some g))
            have hrow2 : ((wr.setCell ⟨g, j, none⟩ (.int .u8 (y.toNat : Int))).drewN 1).ownsRow base 5 1 (.slice (some ⟨g, 0, none⟩) l.length c) l.length (BVs (hurt l a z first many bits (k + 1))) := HY.out.1.1
            have HF := Lib.hid (And.intro hgr2 hrow2)
            clear hgr2 hrow2 hcell hfz
            go_wp2
            go_roundw
            case rel => exact ⟨k + 1, true, by omega, by go_num, rfl, by rw [HY.out.2], HF.out.2, HF.out.1⟩
            case measure => simp [intOf]; omega
        · have hb1 : (Go.bits .and .u32 ((bits : Int) / 2 ^ k) 1 == 1) = false := by rw [hbv, beq_eq_false_iff_ne]; omega
          have hno : Hid (¬ (first + k < many ∧ bits / 2 ^ k % 2 = 1)) := Lib.hid fun h => hbt h.2
          clear hrow hgr hbv
          go_wp2
          go_roundw
          case rel => exact ⟨k + 1, tb, by omega, by go_num, rfl, by rw [mask_none hno.out]; exact HTB.out, by rw [hurt_none hno.out]; exact HR.out.1, HR.out.2⟩
          case measure => simp [intOf]; omega
      · have hno : Hid (¬ (first + k < many ∧ bits / 2 ^ k % 2 = 1)) := Lib.hid fun h => hkm (by have := HQ.out; omega)
        clear hrow hgr hbv
        go_wp2
        go_roundw
        case rel => exact ⟨k + 1, tb, by omega, by go_num, rfl, by rw [mask_none hno.out]; exact HTB.out, by rw [hurt_none hno.out]; exact HR.out.1, HR.out.2⟩
        case measure => simp [intOf]; omega
    · obtain rfl : k = 32 := by omega
      clear hrow hgr
      go_wp2
      go_ret
      rw [HTB.out]
      exact ⟨rfl, HR.out.1, HR.out.2⟩
end Go.Proofs.YtjjfhbbaabakmaaGreatDoor.Ui

/-
  Layer 4: mathematics of WalDamage: a log in one file, and what a burst makes of it.
-/
namespace Go.Proofs.YtjjfhbbaabakmaaGreatDoor.Uj
set_option linter.unusedSimpArgs false
open Go Go.RowKit Cm Ck Kw Ga Dm Dw Da Db Dc Dd De Df Dg Dh Wc Wf Wa Wb Wd Wn We Kx Wg Wh Wl Wj Wk Wo Wq Wr Ws Wt Wu Wv Ww Wx Wy Wz Va Vb Vc Vd Ui
set_option linter.unusedVariables false

/-- The bytes of a log in one file. -/
def bt (recs : List Bs) : Bs := head 1 ++ frames recs
def fl1 (b : Bs) (d : Nat) : Fl := ⟨nm lg 1, b, d⟩
def sg1 (recs : List Bs) : Sg := ⟨1, 1, (bt recs).length, recs⟩
theorem bt_snoc (recs : List Bs) (x : Bs) : bt (recs ++ [x]) = bt recs ++ frame x := by
  unfold bt
  rw [frames_snoc, List.append_assoc]
theorem bt_len (recs : List Bs) : 6 ≤ (bt recs).length ∧ 5 * recs.length + 6 ≤ (bt recs).length := by
  have h1 := head_len 1
  have h2 := frames_len recs
  unfold bt
  rw [List.length_append]
  omega
theorem find_fl1 (b : Bs) (d : Nat) : find [fl1 b d] (nm lg 1) = some (fl1 b d) := by simp [find, fl1]
theorem upd_fl1 (b b' : Bs) (d d' : Nat) : upd [fl1 b d] (nm lg 1) (setf b' d') = [fl1 b' d'] := by simp [upd, fl1, setf]
theorem app_one (recs : List Bs) (x : Bs) (d : Nat) (hd : d ≤ (bt recs).length) : appS [fl1 (bt recs) d] 1048576 false (nm lg 1) (frame x) = if (bt (recs ++ [x])).length ≤ 1048576 then ([fl1 (bt (recs ++ [x])) d], 0) else ([fl1 (bt recs) d], 30) := by
  rw [appS, find_fl1]
  simp only [Bool.false_eq_true, if_false, putS]
  have hl := congrArg List.length (bt_snoc recs x)
  rw [List.length_append] at hl
  have hu : used [fl1 (bt recs) d] = (bt recs).length := by simp [used, fl1]
  rw [hu, show (fl1 (bt recs) d).b = bt recs from rfl, show (fl1 (bt recs) d).n = nm lg 1 from rfl, show (fl1 (bt recs) d).d = d from rfl]
  by_cases h : (bt (recs ++ [x])).length ≤ 1048576
  · rw [if_neg (by omega), if_pos h, upd_fl1]
    congr 3
    · unfold Db.wr
      rw [List.take_length, List.drop_of_length_le (by omega), List.append_nil, bt_snoc]
    · omega
  · rw [if_pos (by omega), if_neg h]
theorem full_one {recs : List Bs} (h : (bt recs).length ≤ 1048576) : full (sg1 recs) 4194304 = false := by
  unfold full sg1
  rw [Bool.and_eq_false_iff]
  exact .inr (decide_eq_false (by simp only; omega))
/-- The place of a record's bytes and its sum. -/
theorem part_at {recs : List Bs} {k : Nat} (hk : k < recs.length) : bt recs = bt (recs.take k) ++ enc recs[k].length ++ (recs[k] ++ le4 (sum (encB recs[k]))) ++ frames (recs.drop (k + 1)) := by
  have e : recs = recs.take k ++ (recs[k] :: recs.drop (k + 1)) := by rw [← List.drop_eq_getElem_cons hk, List.take_append_drop]
  have h1 := congrArg frames e
  rw [frames_app, frames] at h1
  unfold bt
  rw [h1]
  simp only [frame, encB, List.append_assoc]
theorem ends_at {recs : List Bs} {k : Nat} (hk : k < recs.length) : (bt (recs.take (k + 1))).length = (bt (recs.take k)).length + (enc recs[k].length).length + recs[k].length + 4 := by
  rw [List.take_add_one, List.getElem?_eq_getElem hk, Option.toList, bt_snoc, List.length_append, frame_len]
  omega
theorem bt_mono (recs : List Bs) (k : Nat) : (bt (recs.take k)).length ≤ (bt recs).length := by
  have e := congrArg (fun l => (frames l).length) (List.take_append_drop k recs)
  simp only [frames_app, List.length_append] at e
  unfold bt
  rw [List.length_append, List.length_append]
  omega
/-- What the burst makes of the file. -/
theorem hurt_at {recs : List Bs} {k first many bits : Nat} (hk : k < recs.length) :
    hurt (bt recs) ((bt (recs.take k)).length + (enc recs[k].length).length) (bt (recs.take (k + 1))).length first many bits 32 = bt (recs.take k) ++ (enc recs[k].length ++ burst (recs[k] ++ le4 (sum (encB recs[k]))) first many bits 32 ++ frames (recs.drop (k + 1))) := by
  have hp := part_at hk
  have hz := ends_at hk
  obtain ⟨P, hP⟩ : ∃ P, P = bt (recs.take k) ++ enc recs[k].length := ⟨_, rfl⟩
  obtain ⟨M, hM⟩ : ∃ M, M = recs[k] ++ le4 (sum (encB recs[k])) := ⟨_, rfl⟩
  have hMl : M.length = recs[k].length + 4 := by rw [hM, List.length_append, le4_len]
  have hPl : P.length = (bt (recs.take k)).length + (enc recs[k].length).length := by rw [hP, List.length_append]
  rw [← hPl, hz, ← hPl, ← hM]
  rw [← hP, ← hM] at hp
  have hz2 : P.length + recs[k].length + 4 = P.length + M.length := by omega
  rw [hz2, hp]
  unfold hurt
  have t1 : (P ++ M ++ frames (recs.drop (k + 1))).take P.length = P := by rw [List.append_assoc, List.take_left]
  have t2 : (P ++ M ++ frames (recs.drop (k + 1))).take (P.length + M.length) = P ++ M := by rw [← List.length_append, List.take_left]
  have t3 : (P ++ M ++ frames (recs.drop (k + 1))).drop (P.length + M.length) = frames (recs.drop (k + 1)) := by rw [← List.length_append, List.drop_left]
  rw [t1, t2, t3, List.drop_left, hP]
  simp only [List.append_assoc]
theorem frames_head (recs : List Bs) : bt recs = frames (enc 1 :: recs) := by
  unfold bt
  rw [frames]
  rfl
theorem enc1_len : (enc 1).length ≤ 524288 := by
  have := Cm.enc_len 1
  omega
theorem segOf_one (recs : List Bs) : segOf 1 (enc 1 :: recs) = sg1 recs := by
  have h : fstOf (Cm.enc 1) = 1 := fstOf_enc (by omega)
  simp only [segOf]
  rw [if_neg (by rw [show enc 1 = Cm.enc 1 from rfl, h]; omega)]
  unfold sg1
  rw [frames_head, show enc 1 = Cm.enc 1 from rfl, h]
/-- The whole frames with which the file begins then. -/
theorem frs_hurt {recs : List Bs} {k first many bits : Nat} (hk : k < recs.length) (hx : ∀ x ∈ recs, x.length ≤ 524288) (hm : many = 8 * (recs[k].length + 4)) (hf : first < many) (hb : mask first many bits 32 ≠ 0) :
    Frs (hurt (bt recs) ((bt (recs.take k)).length + (enc recs[k].length).length) (bt (recs.take (k + 1))).length first many bits 32) (enc 1 :: recs.take k) (enc recs[k].length ++ burst (recs[k] ++ le4 (sum (encB recs[k]))) first many bits 32 ++ frames (recs.drop (k + 1))) := by
  refine ⟨by rw [hurt_at hk, frames_head], fun x hx' => ?_, fr_hurt (hx _ (List.getElem_mem hk)) hm hf hb⟩
  rcases List.mem_cons.1 hx' with rfl | hx'
  · exact enc1_len
  · exact hx x (List.mem_of_mem_take hx')
theorem frs_all {recs : List Bs} (hx : ∀ x ∈ recs, x.length ≤ 524288) : Frs (bt recs) (enc 1 :: recs) [] := by
  have := frs_frames (xs := enc 1 :: recs) (fun x hx' => by
    rcases List.mem_cons.1 hx' with rfl | hx'
    · exact enc1_len
    · exact hx x hx')
  rw [← frames_head] at this
  exact this
/-- A file that begins so loads as that segment. -/
theorem loads_one {b r : Bs} {recs : List Bs} {d : Nat} (hF : Frs b (enc 1 :: recs) r) (hb : b.length ≤ 4194304) : Loads [fl1 b d] lg ([] ++ [sg1 recs]) := by
  refine ⟨fun i hi => ?_, fun i hi => by simp at hi, by simp⟩
  have hi0 : i = 0 := by simpa using hi
  subst hi0
  have hfl := frames_len recs
  have hh := head_len 1
  have he : b = bt recs ++ r := by rw [frames_head]; exact hF.1
  have hle : (bt recs).length ≤ b.length := by rw [he, List.length_append]; omega
  refine ⟨fl1 b d, enc 1 :: recs, r, ⟨find_fl1 b d, hF, segOf_one recs, by simp [sg1], ⟨by simp [sg1], by simp [sg1], ?_, ?_⟩, ?_, ?_⟩, fun h => by simp at h⟩
  · show (sg1 recs).size ≤ 4194304
    exact Nat.le_trans hle hb
  · show 5 * recs.length ≤ (bt recs).length
    have := bt_len recs; omega
  · exact hle
  · exact hb
end Go.Proofs.YtjjfhbbaabakmaaGreatDoor.Uj

/-
  A range over a function that makes blocks of its own whenever it likes: as Kr's and Ks's, but what a round keeps lies in blocks that were there before. For any layer; nothing of a program is in it.
-/
namespace Go.Proofs.YtjjfhbbaabakmaaGreatDoor.Ue
set_option linter.unusedSimpArgs false
open Go Go.RowKit Ck Kw Kr
set_option linter.unusedVariables false

/-- What an iterator owes that hands on the parts bs, one behind the other: a round writes to blocks of S alone (and to new ones); what it keeps bears any change of blocks made since the iterator was called. -/
def SeqB {β : Type} (F : Fence) (n : Nat) (P : Program) (g : Nat) (lb : Array Value) (R : Nat → β → Array Value → World → Prop) (S : Nat → Prop) (bs : List β) (w : World) : Prop :=
  ∀ (l : Nat) (J Jx : Nat → World → Prop) (W : World), Below w.heap.size w W → w.heap.size + 2 ≤ W.heap.size →
    (∀ k A B, J k A → W.heap.size ≤ A.heap.size → Ch (fun q => W.heap.size ≤ q) A B → J k B) → (∀ k A B, Jx k A → W.heap.size ≤ A.heap.size → Ch (fun q => W.heap.size ≤ q) A B → Jx k B) →
    (∀ (k : Nat) (h : k < bs.length) (args : Array Value) (W1 : World), J k W1 → Ch (fun q => S q ∨ W.heap.size ≤ q) W W1 → R W.heap.size bs[k] args W1 → YieldAt F (n - 1) P l args W1 fun e W' =>
      (e = .returned (.bool true) ∧ J (k + 1) W' ∧ Ch S W1 W') ∨ (e = .returned (.bool false) ∧ Jx (k + 1) W' ∧ Ch S W1 W')) →
    J 0 W →
    CallsIn F n P g (#[.func (.yield l) #[] #[]] ++ lb) W fun e W' => (∃ v, e = .returned v) ∧ Ch (fun q => S q ∨ W.heap.size ≤ q) W W' ∧ (J bs.length W' ∨ ∃ k, k ≤ bs.length ∧ Jx k W')

section
variable {F : Fence} {n : Nat} {P : Program}
theorem wpIn_rangeB {β : Type} {g : Operand} {ps : Array Tmp} {assign body : Code} {Q : Exit → Act → World → Prop} {a : Act} {w : World}
    (hro : F.round = none) (h1 : 1 ≤ n) {gf : Nat} {lb : Array Value} (hg : a.eval g = .func (.func gf) #[] lb) (hFg : F.fn gf) (eg : ∀ args w, (callFunc gf args).run P w = .ok (.enter gf args) w)
    {R : Nat → β → Array Value → World → Prop} {X : Nat → Prop} {bs : List β} (hseq : SeqB F (n - 1) P gf lb R (fun q => X q ∨ Bk w.heap.size q) bs w) (hX : ∀ k, X k → k < w.heap.size)
    (hps : ∀ B b args W, R B b args W → args.size = ps.size) (hR : ∀ b args W W', R (w.heap.size + 2) b args W → Ch (Bk w.heap.size) W W' → R (w.heap.size + 2) b args W')
    (I : Nat → World → Prop) (Ix : Code → Nat → World → Prop)
    (hI : ∀ k W W', I k W → w.heap.size ≤ W.heap.size → Ch (fun q => w.heap.size ≤ q) W W' → I k W') (hIx : ∀ c k W W', Ix c k W → w.heap.size ≤ W.heap.size → Ch (fun q => w.heap.size ≤ q) W W' → Ix c k W') (h0 : I 0 w) (a₁ : Array Value → Act)
    (hassign : ∀ (l : Nat) (args : Array Value) (W : World) (K : Act → World → Prop), args.size = ps.size → K (a₁ args) W →
      assign.wpIn (F.inRound l) (n - 1 - 1) P (Exit.then K (fun _ _ _ => False)) { tmps := (ps.zip args).foldl (fun t (p, v) => t.setIfInBounds p v) a.tmps, defers := [] } W)
    (hbody : ∀ (l k : Nat) (h : k < bs.length) (args : Array Value) (W : World), w.heap.size + 2 ≤ W.heap.size → Ch (fun q => X q ∨ w.heap.size ≤ q) w W → I k W → R (w.heap.size + 2) bs[k] args W → body.wpIn (F.inRound l) (n - 1 - 1) P (PostR w.heap.size X I Ix (k + 1) W) (a₁ args) W)
    (hdone : ∀ (W : World), Ch (fun q => X q ∨ w.heap.size ≤ q) w W → I bs.length W → W.heap[w.heap.size]? = some (.deferred (some [])) → Q .normal { a with defers := { target := .collected w.heap.size, args := #[] } :: a.defers } W)
    (hstop : ∀ (c : Code) (k : Nat) (W : World), k ≤ bs.length → Ch (fun q => X q ∨ w.heap.size ≤ q) w W → Ix c k W → W.heap[w.heap.size]? = some (.deferred (some [])) → c.wpIn F n P Q { a with defers := { target := .collected w.heap.size, args := #[] } :: a.defers } W) :
    (Code.rangeFunc g ps assign body).wpIn F n P Q a w := by
  refine wpIn_rangeFunc ?_
  intro fn hfn
  rw [hro]
  obtain ⟨D, hD⟩ : ∃ D, D = w.heap.size := ⟨_, rfl⟩
  obtain ⟨rec, hrec⟩ : ∃ rec : LoopState → Option Code → Loop, rec = fun st pe => { state := st, pending := pe, fn, tmps := a.tmps, params := ps, assign, body, defers := w.heap.size } := ⟨_, rfl⟩
  obtain ⟨W1, hW1⟩ : ∃ W1, (w.alloc (.deferred (some []))).alloc (.loop (rec .ready none)) = W1 := ⟨_, rfl⟩
  have hsz1 : W1.heap.size = D + 2 := by rw [← hW1, hD]; simp
  have hb1 : Below w.heap.size w W1 := by rw [← hW1]; exact ((Below.refl _ w).alloc (Nat.le_refl _) _).alloc (by simp) _
  have hL1 : W1.heap[D + 1]? = some (.loop (rec .ready none)) := by
    have := World.alloc_heap_new (w.alloc (.deferred (some []))) (.loop (rec .ready none))
    rw [World.size_alloc, hW1, ← hD] at this
    exact this
  have hK1 : W1.heap[D]? = some (.deferred (some [])) := by
    rw [← hW1, hD]; exact (Below.heap_alloc _ _ _ (by simp)).trans (World.alloc_heap_new w _)
  have hI1 : I 0 W1 := hI 0 w W1 h0 (Nat.le_refl _) (Ch.of_below (S := fun q => w.heap.size ≤ q) hb1 (Nat.le_refl _))
  have hpo : ∀ (W : World) (o : Obj), Ch (Bk w.heap.size) W (W.putObj (D + 1) o) := fun W o => (ch_putObj W (D + 1) o).mono (fun k _ e => .inr (by rw [e, hD]))
  have hbk : ∀ k, Bk w.heap.size k → (X k ∨ Bk w.heap.size k) := fun k h => .inr h
  have hbt : ∀ k, Bk w.heap.size k → (X k ∨ w.heap.size ≤ k) := fun k h => .inr (by rcases h with h | h <;> omega)
  have hbm : ∀ {A B : World}, Ch (Bk w.heap.size) A B → Ch (fun q => w.heap.size ≤ q) A B := fun c => c.mono (fun k _ h => by rcases h with h | h <;> (show w.heap.size ≤ k; omega))
  have hup : ∀ {A B : World}, Ch (fun q => X q ∨ Bk w.heap.size q) A B → Ch (fun q => X q ∨ w.heap.size ≤ q) A B := fun c => c.mono (fun k _ h => h.elim .inl (fun h => hbt k h))
  refine ⟨D + 1, [{ target := .collected D, args := #[] }], W1, { target := .fn (.func gf) lb, args := #[.func (.yield (D + 1)) #[] #[]] }, W1, gf, #[.func (.yield (D + 1)) #[] #[]] ++ lb, W1, ?_, ?_, ?_, ?_, fun _ => h1, ?_⟩
  · rw [← hW1, hrec, hD]; exact run_enterLoop_outer _ _ _ _ _
  · simp only [resolve, hg]
    simp [go_sem]
  · intro f' hf'
    simp [Target.leads] at hf'
    subst hf'
    exact hFg
  · simp [invoke, go_sem, eg]
  · have keep : ∀ {A B : World} {j : Nat} {o : Obj}, A.heap[j]? = some o → Ch (fun q => W1.heap.size ≤ q) A B → j < D + 2 → B.heap[j]? = some o := fun ho hb hj => (hb.block _ (Array.getElem?_eq_some_iff.1 ho).1 (fun h => by omega)).trans ho
    have bch : ∀ {A B : World}, Ch (fun q => W1.heap.size ≤ q) A B → Ch (fun q => w.heap.size ≤ q) A B := fun hb => hb.mono (fun k _ h => by show w.heap.size ≤ k; have h' : W1.heap.size ≤ k := h; omega)
    have bch2 : ∀ {A B : World}, Ch (fun q => W1.heap.size ≤ q) A B → Ch (fun q => X q ∨ w.heap.size ≤ q) A B := fun hb => hb.mono (fun k _ h => .inr (by have h' : W1.heap.size ≤ k := h; omega))
    refine (hseq (D + 1)
      (fun k W => I k W ∧ Ch (fun q => X q ∨ w.heap.size ≤ q) w W ∧ W.heap[D + 1]? = some (.loop (rec .ready none)) ∧ W.heap[D]? = some (.deferred (some [])))
      (fun k W => ∃ c, Ix c k W ∧ Ch (fun q => X q ∨ w.heap.size ≤ q) w W ∧ W.heap[D + 1]? = some (.loop (rec .done (some c))) ∧ W.heap[D]? = some (.deferred (some [])))
      W1 hb1 (by omega)
      (fun k A B hs hsz hb => ⟨hI k A B hs.1 hs.2.1.size (bch hb), hs.2.1.trans (bch2 hb) (fun j hj h => h), keep hs.2.2.1 hb (by omega), keep hs.2.2.2 hb (by omega)⟩)
      (fun k A B hs hsz hb => by
        obtain ⟨c, h1, h2, h3, h4⟩ := hs
        exact ⟨c, hIx c k A B h1 h2.size (bch hb), h2.trans (bch2 hb) (fun j hj h => h), keep h3 hb (by omega), keep h4 hb (by omega)⟩)
      ?_ ⟨hI1, Ch.of_below hb1 (Nat.le_refl _), hL1, hK1⟩).mono ?_
    · -- a round
      rintro k hk args W ⟨hi, hc, hl, hd⟩ hc1 hr
      rw [hsz1, hD] at hr
      have hsz : D + 2 ≤ W.heap.size := by have := hc1.size; omega
      have hy := run_yield (P := P) (args := args) hl (by rw [hrec]; exact hps _ _ _ _ hr)
      rw [hrec] at hy
      refine ⟨fn, _, assign, body, hy, roundIn_of_wpIn hfn (hassign (D + 1) args W _ (hps _ _ _ _ hr) ?_)⟩
      refine ⟨_, run_beginRound hl (by rw [hrec]), ?_⟩
      have hpo1 := hpo W (.loop { rec .ready none with state := .busy })
      have hl2 : (W.putObj (D + 1) (.loop { rec .ready none with state := .busy })).heap[D + 1]? = some (.loop { rec .ready none with state := .busy }) := World.putObj_heap_same (by omega)
      have hd2 : (W.putObj (D + 1) (.loop { rec .ready none with state := .busy })).heap[D]? = some (.deferred (some [])) := (World.putObj_heap_other (by omega)).trans hd
      refine wpIn_mono (hbody (D + 1) k hk args _ (by rw [putObj_size]; omega) (hc.trans (hup (hpo1.mono (fun j _ h => hbk j h))) (fun j _ h => h)) (hI k _ _ hi hc.size (hbm hpo1)) (hR _ _ _ _ hr hpo1)) ?_
      -- behind the round
      have fin : ∀ (jump : Option Code) (W3 : World), Ch (fun j => X j ∧ ¬ Bk w.heap.size j) (W.putObj (D + 1) (.loop { rec .ready none with state := .busy })) W3 →
          (Instr.endRound (D + 1) jump).run P W3 = .ok (.bool jump.isNone) (W3.putObj (D + 1) (.loop (rec (if jump.isNone then .ready else .done) jump))) ∧
          (W3.putObj (D + 1) (.loop (rec (if jump.isNone then .ready else .done) jump))).heap[D + 1]? = some (.loop (rec (if jump.isNone then .ready else .done) jump)) ∧
          (W3.putObj (D + 1) (.loop (rec (if jump.isNone then .ready else .done) jump))).heap[D]? = some (.deferred (some [])) ∧
          Ch (fun q => X q ∨ Bk w.heap.size q) W (W3.putObj (D + 1) (.loop (rec (if jump.isNone then .ready else .done) jump))) := fun jump W3 c3 => by
        have e1 := c3.block (D + 1) (by have := hpo1.size; omega) (fun h => h.2 (.inr (by rw [hD])))
        have e0 := c3.block D (by have := hpo1.size; omega) (fun h => h.2 (.inl hD))
        have hl3 := e1.trans hl2
        have hend := run_endRound (P := P) jump hl3
        have hlt := (Array.getElem?_eq_some_iff.1 hl3).1
        rw [hrec] at hend ⊢
        refine ⟨hend, World.putObj_heap_same hlt, (World.putObj_heap_other (by omega)).trans (e0.trans hd2), ?_⟩
        exact ((hpo1.mono (fun j _ h => hbk j h)).trans (c3.mono (fun j _ h => .inl h.1)) (fun j _ h => h)).trans ((hpo W3 _).mono (fun j _ h => hbk j h)) (fun j _ h => h)
      rintro e a3 W3 hp
      cases e with
      | normal =>
        obtain ⟨c3, hi3⟩ := hp
        obtain ⟨hr3, hl4, hd4, c4⟩ := fin none W3 c3
        exact ⟨_, _, hr3, .inl ⟨rfl, ⟨hI _ _ _ hi3 (by have h1 := c3.size; rw [putObj_size] at h1; omega) (hbm (hpo W3 _)), hc.trans (hup c4) (fun _ _ h => h), hl4, hd4⟩, c4⟩⟩
      | ret =>
        obtain ⟨c3, hi3⟩ := hp
        obtain ⟨hr3, hl4, hd4, c4⟩ := fin (some .ret) W3 c3
        exact ⟨_, _, hr3, .inr ⟨rfl, ⟨.ret, hIx _ _ _ _ hi3 (by have h1 := c3.size; rw [putObj_size] at h1; omega) (hbm (hpo W3 _)), hc.trans (hup c4) (fun _ _ h => h), hl4, hd4⟩, c4⟩⟩
      | exit id =>
        obtain ⟨c3, hi3⟩ := hp
        obtain ⟨hr3, hl4, hd4, c4⟩ := fin (some (.exit id)) W3 c3
        exact ⟨_, _, hr3, .inr ⟨rfl, ⟨.exit id, hIx _ _ _ _ hi3 (by have h1 := c3.size; rw [putObj_size] at h1; omega) (hbm (hpo W3 _)), hc.trans (hup c4) (fun _ _ h => h), hl4, hd4⟩, c4⟩⟩
      | goto t =>
        obtain ⟨c3, hi3⟩ := hp
        obtain ⟨hr3, hl4, hd4, c4⟩ := fin (some (.goto t)) W3 c3
        exact ⟨_, _, hr3, .inr ⟨rfl, ⟨.goto t, hIx _ _ _ _ hi3 (by have h1 := c3.size; rw [putObj_size] at h1; omega) (hbm (hpo W3 _)), hc.trans (hup c4) (fun _ _ h => h), hl4, hd4⟩, c4⟩⟩
      | panic ch => exact hp.elim
      | outgrown => exact hp.elim
    · -- behind the iterator
      rintro e W2 ⟨⟨v, rfl⟩, -, (⟨hi, hc, hl, hd⟩ | ⟨k, hk, c, hi, hc, hl, hd⟩)⟩
      · refine ⟨none, _, by have := run_endLoop (P := P) hl (by rw [hrec]; simp); rw [hrec] at this; exact this, ?_⟩
        have hp := hpo W2 (.loop { rec .ready none with state := .exhausted })
        rw [hrec] at hp
        have := hdone _ (hc.trans (hup (hp.mono (fun j _ h => hbk j h))) (fun j _ h => h)) (hI _ _ _ hi hc.size (hbm hp)) ((World.putObj_heap_other (by omega)).trans (by rw [← hD]; exact hd))
        subst hD
        exact this
      · refine ⟨some c, _, by have := run_endLoop (P := P) hl (by rw [hrec]; simp); rw [hrec] at this; exact this, ?_⟩
        have hp := hpo W2 (.loop { rec .done (some c) with state := .exhausted })
        rw [hrec] at hp
        have := hstop c k _ hk (hc.trans (hup (hp.mono (fun j _ h => hbk j h))) (fun j _ h => h)) (hIx _ _ _ _ hi hc.size (hbm hp)) ((World.putObj_heap_other (by omega)).trans (by rw [← hD]; exact hd))
        subst hD
        exact this

/-- So many marks: the blocks that collected no call are shut, one behind the other. -/
theorem leaves_marks {fn : Func} {tmps : Array Value} {R : Ending → World → Prop} {u : FrameMode} (hu : u ≠ .run) : ∀ (Ds : List Nat) (w : World), Ds.Nodup → (∀ D ∈ Ds, w.heap[D]? = some (.deferred (some []))) →
    (∀ w', Ch (fun k => k ∈ Ds) w w' → LeavesIn F n P fn tmps R [] u w') → LeavesInM F n P fn tmps R (Ds.map fun D => { target := .collected D, args := #[] }) u w
  | [], w, _, _, h => h w (Ch.refl _ _)
  | D :: Ds, w, hn, hd, h => by
    rw [List.nodup_cons] at hn
    refine ⟨hu, .inl ⟨D, _, rfl, run_takeDeferred (hd D (List.mem_cons_self ..)), ?_⟩⟩
    have c1 := ch_putObj w D (.deferred none)
    refine leaves_marks hu Ds _ hn.2 (fun E hE => ?_) (fun w' c => h w' ((c1.mono (fun k _ e => by rw [e]; exact List.mem_cons_self ..)).trans c (fun k _ hk => List.mem_cons_of_mem _ hk)))
    rw [World.putObj_heap_other (fun e => hn.1 (by rw [← e]; exact hE))]
    exact hd E (List.mem_cons_of_mem _ hE)
end

end Go.Proofs.YtjjfhbbaabakmaaGreatDoor.Ue

/-
  Contract of layer 4's law's begun.
-/
import Derived.Test.YtjjfhbbaabakmaaGreatDoorWS15
namespace Go.Proofs.YtjjfhbbaabakmaaGreatDoor.Vd
set_option linter.unusedSimpArgs false
open Go Go.RowKit Ck Kw Ga Dm Dw Da Db Dc Dd De Df Dg Dh Wc Wf Wa Wb Wd Wn We Kx Wg Wh Wl Wj Wk Wo Wq Wr Ws Wt Wu Wv Ww Wx Wy Wz Va Vb Vc
attribute [local go_sem ↓] Go.wp_at_zero Go.wp_at_succ
set_option linter.unusedVariables false

theorem frs_frames {xs : List Bs} (h : ∀ x ∈ xs, x.length ≤ 524288) : Frs (frames xs) xs [] := ⟨by simp, h, fun x t hf => by
  have := congrArg List.length hf.1
  have := frame_pos x
  simp at *
  omega⟩
def lg : Tx := [108, 111, 103]
def r78 : Tx := [7, 8]
theorem okName_lg : okName lg = true := by decide
def seg1 : Sg := ⟨1, 1, (head 1).length + (frame r78).length, [r78]⟩
def L1 : List Fl := [⟨nm lg 1, head 1, (head 1).length⟩]
def L2 : List Fl := [⟨nm lg 1, head 1 ++ frame r78, (head 1).length⟩]
theorem frame_r78 : (frame r78).length ≤ 20 ∧ 5 ≤ (frame r78).length := by
  have := Cm.enc_len r78.length
  rw [frame_len]
  have h1 := this.1
  have h2 := this.2
  have h3 : r78.length = 2 := rfl
  omega
theorem app_L1 : appS L1 1000 false (nm lg 1) (frame r78) = (L2, 0) := by
  have h1 := head_len 1
  have h2 := frame_r78
  have hf : find L1 (nm lg 1) = some ⟨nm lg 1, head 1, (head 1).length⟩ := by simp [find, L1]
  rw [appS, hf]
  simp only [Bool.false_eq_true, if_false, putS]
  rw [if_neg (by simp [L1, used]; omega)]
  simp [L1, L2, upd, setf, Db.wr]
theorem seg1_of : segOf 1 [Cm.enc 1, r78] = seg1 := by
  have h : fstOf (Cm.enc 1) = 1 := fstOf_enc (by omega)
  simp only [segOf, h]
  rw [if_neg (by omega)]
  simp [seg1, frames, head]
theorem loads_L2 : Loads L2 lg ([] ++ [seg1]) := by
  have h1 := head_len 1
  have h2 := frame_r78
  have he := Cm.enc_len 1
  refine ⟨fun i hi => ?_, fun i hi => by simp at hi, by simp⟩
  have hi0 : i = 0 := by simpa using hi
  subst hi0
  refine ⟨⟨nm lg 1, head 1 ++ frame r78, (head 1).length⟩, [Cm.enc 1, r78], [], ⟨?_, ?_, seg1_of, ?_, ⟨?_, ?_, ?_, ?_⟩, ?_, ?_⟩, fun h => by simp at h⟩
  · simp [find, L2, seg1]
  · have := frs_frames (xs := [Cm.enc 1, r78]) (fun x hx => by
      simp at hx
      rcases hx with rfl | rfl
      · have := he.1; omega
      · simp [r78])
    simpa [frames, head] using this
  · simp [seg1]
  · simp [seg1]
  · simp [seg1]
  · simp [seg1]; omega
  · simp [seg1]; omega
  · simp [seg1]
  · simp; omega

theorem two_lit (w : World) (X : Nat → Prop) (t : TypeId) (hX : ¬ X w.heap.size) : Sl (w.alloc (.cells #[.int .u8 7, .int .u8 8] t)) X 1 (.slice (some ⟨w.heap.size, 0, none⟩) 2 2) 2 (BVs r78) := by
  refine ⟨_, _, rfl, rfl, Nat.le_refl _, by simp only [maxLen]; omega, fun _ => ⟨_, rfl, by simp, hX, fun j x hx => ?_⟩⟩
  have ha : (⟨w.heap.size, 0, none⟩ : Addr).add j = ⟨w.heap.size, j, none⟩ := by unfold Addr.add; split <;> simp_all
  rw [ha, Blk.cell (Blk.new w t _) j]
  have e : BVs r78 = [.int .u8 7, .int .u8 8] := rfl
  rw [e] at hx
  simpa using hx

set_option maxRecDepth 100000 in
set_option maxHeartbeats 8000000 in
theorem begun_any (w : World) (hT : Tab w) : Calls Tryz.prog 7 #[] w fun e w' => e = .returned (.bool true) ∧ Below w.heap.size w w' := by
  have HT := Lib.hid hT
  clear hT
  go_enter Tryz.func7, Tryz.ntmps7
  go_wp2_with fail
  refine (new_ok w 1000 (by omega)).mono ?_
  rintro e w1 ⟨p, rfl, hdk, hb1⟩
  have HB1 := Lib.hid hb1
  have HOP := Lib.hid (open_empty w1 (New w w1) p 1000 lg 64 hdk (fun k hk => hk.2) (HT.out.after hb1) (fun hz => by have := HT.out.lt; have := hz.1; omega) okName_lg (by omega) (by omega) (by omega))
  clear hdk hb1
  go_wp2_with fail
  refine HOP.out.mono ?_
  rintro e w2 ⟨g, S1, S2, rfl, hD, hS⟩
  have HD2 := Lib.hid hD
  have HS2 := Lib.hid hS
  clear hD hS HOP
  go_wp2_with fail
  have hal : Below w2.heap.size w2 (w2.alloc (.cells #[.int .u8 7, .int .u8 8] 5)) := (Below.refl _ w2).alloc (Nat.le_refl _) _
  have HAL := Lib.hid hal
  have HAP := Lib.hid (append_log (w2.alloc (.cells #[.int .u8 7, .int .u8 8] 5)) S1 S2 (fun k => k < w2.heap.size) g p L1 1000 lg 64 [] ⟨1, 1, (head 1).length, []⟩ 0 ⟨nm lg 1, head 1, (head 1).length⟩ (HD2.out.later hal) (by simp) (by simp) (by simp [find, L1]) rfl (some ⟨w2.heap.size, 0, none⟩) 2 r78 (two_lit w2 _ _ (by simp)) (fun k hk => HD2.out.b1 k hk) (fun k hk => HD2.out.b2 k hk) (by simp [r78]))
  clear hal
  refine HAP.out.mono ?_
  rintro e w4 hA
  have hA2 : e = .returned (.tuple #[.int .i64 1, .int .i64 0]) ∧ Wal S1 S2 g p 1000 lg 64 (w2.alloc (.cells #[.int .u8 7, .int .u8 8] 5)) L2 [seg1] 0 w4 := by
    rcases hA with ⟨_, hA⟩ | ⟨hf, _⟩ | ⟨hf, _⟩
    · rcases hA with ⟨_, he, hw⟩ | ⟨hc, _⟩
      · rw [app_L1] at hw
        exact ⟨he, hw⟩
      · rw [app_L1] at hc
        exact absurd rfl hc
    · simp [full] at hf
    · simp [full] at hf
  obtain ⟨rfl, R1, R2, hD, hS⟩ := hA2
  have HD4 := Lib.hid hD
  have HS4 := Lib.hid hS
  have HOP := Lib.hid (open_segs w4 R2 p 1000 lg 64 L2 [] seg1 hD.dk hD.b2 hD.tab hD.z2 okName_lg (by omega) (by omega) loads_L2 (by simp [L2, seg1]) (by simp [seg1]) (by simp [find, L2, nm_ne]))
  obtain ⟨gb4, cap4, hC4, hgb4, _⟩ := hD.cells (by simp)
  clear hA hD hS HAP
  go_wp2_with fail
  refine HOP.out.mono ?_
  rintro e w5 ⟨m, T1, T2, rfl, hD, hS⟩
  have HD5 := Lib.hid hD
  have HS5 := Lib.hid hS
  have hl5 := HD4.out.lg
  obtain ⟨gb5, cap5, hR⟩ := Reads.of hD.lg (by simp)
  have hlast : seg1.first + seg1.recs.length - 1 = 1 := rfl
  rw [hlast] at HD5
  have HGE : Hid (Calls Tryz.prog 30 #[.pointer (some ⟨m, 0, none⟩), .int .i64 1] w5 (Got w5 (r78, 0))) := Lib.hid (getn_log w5 m p gb5 cap5 lg 64 _ [seg1] hR seg1 seg1 [] [] rfl rfl (by simp) 1 0 0 (by simp) (by simp [seg1]) rfl (by simp [seg1]) (by simp [seg1]) (fun i hi => by omega) (by simp [seg1, r78]))
  have hgR : R1 g := by obtain ⟨_, _, _, h, _⟩ := HD4.out.lg; exact h
  have HCL := Lib.hid (hC4.ch hS.ch (fun h => h.elim (fun h => h) (fun h => HD4.out.apart g hgR h)) (fun h => h.elim (fun h => h) (fun h => HD4.out.apart gb4 hgb4 h)))
  have HCM := Lib.hid hR.lgc
  clear hD hS hl5 hR HOP
  go_wp2_with fail
  refine HGE.out.mono ?_
  rintro e w6 ⟨A6, c6, rfl, ho6, hb6⟩
  have HB6 := Lib.hid hb6
  have HO6 := Lib.hid ho6
  clear hb6 ho6
  dsimp only
  go_wp2_with fail
  have hb7 : Below w5.heap.size w5 (w6.alloc (.cells #[.int .u8 7, .int .u8 8] 5)) := HB6.out.alloc HB6.out.size _
  have HB7 := Lib.hid hb7
  have HEQ := Lib.hid (equal_any (w6.alloc (.cells #[.int .u8 7, .int .u8 8] 5)) (fun _ => False) (fun _ => False) _ _ _ _ r78 r78 (Sl.of_own (HO6.out.alloc _) (fun _ _ _ h => h)) (two_lit w6 _ _ (fun h => h)))
  have HLA := Lib.hid (lastn_log _ m p gb5 cap5 lg 64 [] seg1 _ (HCM.out.after hb7) (by simp))
  have hls : lastS seg1 = 1 := rfl
  rw [hls] at HLA
  clear hb7 hls
  refine HEQ.out.mono ?_
  rintro e w8 ⟨rfl, rfl⟩
  have hbe : (r78 == r78) = true := by decide
  rw [hbe]
  go_wp2_with fail
  refine HLA.out.mono ?_
  rintro e w8 ⟨rfl, hb8⟩
  have HB8 := Lib.hid (HB7.out.trans (hb8.mono HB7.out.size))
  have HSL := Lib.hid (synced_log w8 g p gb4 cap4 lg 64 _ 0 (HCL.out.after HB8.out))
  have HSM := Lib.hid (synced_log w8 m p gb5 cap5 lg 64 _ 1 (HCM.out.after HB8.out))
  clear hb8
  go_wp2_with fail
  refine HSL.out.mono ?_
  rintro e w9 ⟨rfl, rfl⟩
  go_wp2_with fail
  refine HSM.out.mono ?_
  rintro e w9 ⟨rfl, rfl⟩
  go_wp2_with fail
  go_ret
  have tot := (HS2.out.trans (Step.below HAL.out)).trans HS4.out
  have z1 := HB1.out.size
  have z2 := tot.ch.size
  have c1 : Below w.heap.size w w4 := HB1.out.trans (tot.ch.below (fun k hk h => by
    rcases h with h | h
    · exact h
    · have := h.1; omega) z1)
  have c2 : Below w.heap.size w w5 := c1.trans (HS5.out.ch.below (fun k hk h => by
    rcases h with h | h
    · exact h
    · rcases tot.s2 k h with h | h
      · have := h.1; omega
      · omega) c1.size)
  exact ⟨rfl, c2.trans (HB8.out.mono c2.size)⟩

end Go.Proofs.YtjjfhbbaabakmaaGreatDoor.Vd

/-
  Layer 4: mathematics of WalDamage: a log in one file, and what a burst makes of it.
-/
namespace Go.Proofs.YtjjfhbbaabakmaaGreatDoor.Uj
set_option linter.unusedSimpArgs false
open Go Go.RowKit Cm Ck Kw Ga Dm Dw Da Db Dc Dd De Df Dg Dh Wc Wf Wa Wb Wd Wn We Kx Wg Wh Wl Wj Wk Wo Wq Wr Ws Wt Wu Wv Ww Wx Wy Wz Va Vb Vc Vd
set_option linter.unusedVariables false

/-- The bytes of a log in one file. -/
def bt (recs : List Bs) : Bs := head 1 ++ frames recs
def fl1 (b : Bs) (d : Nat) : Fl := ⟨nm lg 1, b, d⟩
def sg1 (recs : List Bs) : Sg := ⟨1, 1, (bt recs).length, recs⟩
theorem bt_snoc (recs : List Bs) (x : Bs) : bt (recs ++ [x]) = bt recs ++ frame x := by
  unfold bt
  rw [frames_snoc, List.append_assoc]
theorem bt_len (recs : List Bs) : 6 ≤ (bt recs).length ∧ 5 * recs.length + 6 ≤ (bt recs).length := by
  have h1 := head_len 1
  have h2 := frames_len recs
  unfold bt
  rw [List.length_append]
  omega
theorem find_fl1 (b : Bs) (d : Nat) : find [fl1 b d] (nm lg 1) = some (fl1 b d) := by simp [find, fl1]
theorem upd_fl1 (b b' : Bs) (d d' : Nat) : upd [fl1 b d] (nm lg 1) (setf b' d') = [fl1 b' d'] := by simp [upd, fl1, setf]
theorem app_one (recs : List Bs) (x : Bs) (d : Nat) (hd : d ≤ (bt recs).length) : appS [fl1 (bt recs) d] 1048576 false (nm lg 1) (frame x) = if (bt (recs ++ [x])).length ≤ 1048576 then ([fl1 (bt (recs ++ [x])) d], 0) else ([fl1 (bt recs) d], 30) := by
  rw [appS, find_fl1]
  simp only [Bool.false_eq_true, if_false, putS]
  have hl := congrArg List.length (bt_snoc recs x)
  rw [List.length_append] at hl
  have hu : used [fl1 (bt recs) d] = (bt recs).length := by simp [used, fl1]
  rw [hu, show (fl1 (bt recs) d).b = bt recs from rfl, show (fl1 (bt recs) d).n = nm lg 1 from rfl, show (fl1 (bt recs) d).d = d from rfl]
  by_cases h : (bt (recs ++ [x])).length ≤ 1048576
  · rw [if_neg (by omega), if_pos h, upd_fl1]
    congr 3
    · unfold Db.wr
      rw [List.take_length, List.drop_of_length_le (by omega), List.append_nil, bt_snoc]
    · omega
  · rw [if_pos (by omega), if_neg h]
theorem full_one {recs : List Bs} (h : (bt recs).length ≤ 1048576) : full (sg1 recs) 4194304 = false := by
  unfold full sg1
  rw [Bool.and_eq_false_iff]
  exact .inr (decide_eq_false (by simp only; omega))
theorem frames_head (recs : List Bs) : bt recs = frames (enc 1 :: recs) := by
  unfold bt
  rw [frames]
  rfl
theorem segOf_one (recs : List Bs) : segOf 1 (enc 1 :: recs) = sg1 recs := by
  have h : fstOf (Cm.enc 1) = 1 := fstOf_enc (by omega)
  simp only [segOf]
  rw [if_neg (by rw [show enc 1 = Cm.enc 1 from rfl, h]; omega)]
  unfold sg1
  rw [frames_head, show enc 1 = Cm.enc 1 from rfl, h]
end Go.Proofs.YtjjfhbbaabakmaaGreatDoor.Uj

/-
  Layer 4: mathematics of WalSure: what stands in a log's files, through every step of a script.
-/
namespace Go.Proofs.YtjjfhbbaabakmaaGreatDoor.Up
set_option linter.unusedSimpArgs false
open Go Go.RowKit Cm Ck Kw Ga Dm Dw Da Db Dc Dd De Df Dg Dh Dj Wc Wf Wa Wb Wd Wn We Kx Wg Wh Wl Wj Wk Wo Wq Wr Ws Wt Wu Wv Ww Wx Wy Wz Va Vb Vc Vd Uj Uo
set_option linter.unusedVariables false

/-- The bytes of a segment's file. -/
def bts (first : Nat) (recs : List Bs) : Bs := head first ++ frames recs
def fl (t : Sg) (b : Bs) (d : Nat) : Fl := ⟨nm lg t.num, b, d⟩
def whole (t : Sg) : Fl := fl t (bts t.first t.recs) (bts t.first t.recs).length
theorem bts_snoc (n : Nat) (recs : List Bs) (x : Bs) : bts n (recs ++ [x]) = bts n recs ++ frame x := by
  unfold bts
  rw [frames_snoc, List.append_assoc]
theorem bts_head (n : Nat) (recs : List Bs) : bts n recs = frames (enc n :: recs) := by
  unfold bts
  rw [frames]
  rfl
theorem bts_take (n : Nat) (recs : List Bs) (j : Nat) : ∃ t, bts n recs = bts n (recs.take j) ++ t :=
  ⟨frames (recs.drop j), by unfold bts; rw [List.append_assoc, ← frames_app, List.take_append_drop]⟩
theorem bts_mono (n : Nat) (recs : List Bs) (j : Nat) : (bts n (recs.take j)).length ≤ (bts n recs).length := by
  obtain ⟨t, h⟩ := bts_take n recs j
  rw [h, List.length_append]
  omega
theorem bts_len (n : Nat) (recs : List Bs) : 6 ≤ (bts n recs).length ∧ 5 * recs.length + 6 ≤ (bts n recs).length := by
  have h1 := head_len n
  have h2 := frames_len recs
  unfold bts
  rw [List.length_append]
  omega

/-- What of the segments does not hang on the files: one stands behind another; R is all that was ever put. -/
structure Row (segs : List Sg) (R : List Bs) : Prop where
  chain : ∀ i (h : i + 1 < segs.length), segs[i + 1].num = segs[i].num + 1 ∧ segs[i + 1].first = segs[i].first + segs[i].recs.length
  recs : ∀ t ∈ segs, ∀ j x, t.recs[j]? = some x → R[t.first - 1 + j]? = some x
  size : ∀ t ∈ segs, t.size = (bts t.first t.recs).length ∧ 1 ≤ t.first ∧ 1 ≤ t.num ∧ t.num < 1000000000000000 ∧ t.first ≤ 9007199254740992
  len : ∀ x ∈ R, x.length ≤ 524288
theorem Row.rises {segs : List Sg} {R : List Bs} (h : Row segs R) : ∀ (d i : Nat) (hi : i + d < segs.length), segs[i + d].num = segs[i].num + d
  | 0, i, hi => rfl
  | d + 1, i, hi => by
    have h1 := Row.rises h d i (by omega)
    have h2 := (h.chain (i + d) (by omega)).1
    have e : segs[i + (d + 1)] = segs[i + d + 1] := rfl
    rw [e, h2, h1]
    omega
theorem Row.nodup {segs : List Sg} {R : List Bs} (h : Row segs R) : (segs.map (fun t => nm lg t.num)).Nodup := by
  unfold List.Nodup
  rw [List.pairwise_iff_getElem]
  intro i j hi hj hij
  simp only [List.length_map] at hi hj
  simp only [List.getElem_map]
  intro e
  have h1 := nm_inj (h.size _ (List.getElem_mem hi)).2.2.2.1 (h.size _ (List.getElem_mem hj)).2.2.2.1 e
  have h2 := h.rises (j - i) i (by omega)
  have e2 : segs[i + (j - i)]'(by omega) = segs[j] := by congr 1; omega
  rw [e2] at h2
  omega
theorem Row.in_ {segs : List Sg} {R : List Bs} (h : Row segs R) {t : Sg} (ht : t ∈ segs) {x : Bs} (hx : x ∈ t.recs) : x.length ≤ 524288 := by
  obtain ⟨j, hj, rfl⟩ := List.getElem_of_mem hx
  exact h.len _ (List.mem_of_getElem? (h.recs t ht j _ (List.getElem?_eq_getElem hj)))
theorem Row.drop {segs : List Sg} {R : List Bs} (h : Row segs R) (m : Nat) : Row (segs.drop m) R := by
  refine ⟨fun i hi => ?_, fun t ht => h.recs t (List.mem_of_mem_drop ht), fun t ht => h.size t (List.mem_of_mem_drop ht), h.len⟩
  rw [List.length_drop] at hi
  simp only [List.getElem_drop]
  exact h.chain (m + i) (by omega)
theorem Row.snoc {ls : List Sg} {s s' : Sg} {R : List Bs} (h : Row (ls ++ [s]) R) (h1 : s'.num = s.num + 1 ∧ s'.first = s.first + s.recs.length) (h2 : s'.recs = []) (h3 : s'.size = (bts s'.first []).length) (h4 : s'.num < 1000000000000000 ∧ s'.first ≤ 9007199254740992) : Row ((ls ++ [s]) ++ [s']) R := by
  refine ⟨fun i hi => ?_, fun t ht j x hj => ?_, fun t ht => ?_, h.len⟩
  · by_cases hlt : i + 1 < (ls ++ [s]).length
    · have hlt2 : i < (ls ++ [s]).length := by omega
      rw [List.getElem_append_left hlt, List.getElem_append_left hlt2]
      exact h.chain i hlt
    · have e : i = ls.length := by simp at hi hlt; omega
      subst e
      have q1 : ((ls ++ [s]) ++ [s'])[ls.length + 1]'hi = s' := by simp
      have q2 : ((ls ++ [s]) ++ [s'])[ls.length]'(by simp) = s := by simp
      rw [q1, q2]
      exact h1
  · rcases List.mem_append.1 ht with ht | ht
    · exact h.recs t ht j x hj
    · rw [List.mem_singleton.1 ht, h2] at hj
      simp at hj
  · rcases List.mem_append.1 ht with ht | ht
    · exact h.size t ht
    · rw [List.mem_singleton.1 ht]
      have := h.size s (by simp)
      refine ⟨by rw [h2]; exact h3, by omega, by omega, h4.1, h4.2⟩
theorem Row.last {ls : List Sg} {s s' : Sg} {R R' : List Bs} (h : Row (ls ++ [s]) R) (h1 : s'.num = s.num ∧ s'.first = s.first) (hr : ∀ (i : Nat) (x : Bs), R[i]? = some x → R'[i]? = some x) (h2 : ∀ (j : Nat) (x : Bs), s'.recs[j]? = some x → R'[s.first - 1 + j]? = some x) (h3 : s'.size = (bts s'.first s'.recs).length) (h4 : ∀ x ∈ R', x.length ≤ 524288) : Row (ls ++ [s']) R' := by
  refine ⟨fun i hi => ?_, fun t ht j x hj => ?_, fun t ht => ?_, h4⟩
  · have hi' : i + 1 < (ls ++ [s]).length := by simpa using hi
    have hc := h.chain i hi'
    have hil : i < ls.length := by simp at hi; omega
    rw [List.getElem_append_left (show i < ls.length from hil)] at hc ⊢
    by_cases hlt : i + 1 < ls.length
    · rw [List.getElem_append_left hlt] at hc ⊢
      exact hc
    · rw [List.getElem_append_right (by omega)] at hc ⊢
      simp only [List.getElem_singleton] at hc ⊢
      rw [h1.1, h1.2]
      exact hc
  · rcases List.mem_append.1 ht with ht | ht
    · exact hr _ _ (h.recs t (by simp [ht]) j x hj)
    · rw [List.mem_singleton.1 ht] at hj ⊢
      rw [h1.2]
      exact h2 j x hj
  · rcases List.mem_append.1 ht with ht | ht
    · exact h.size t (by simp [ht])
    · rw [List.mem_singleton.1 ht]
      have := h.size s (by simp)
      rw [h1.1]
      refine ⟨h3, by rw [h1.2]; exact this.2.1, this.2.2.1, this.2.2.2.1, by rw [h1.2]; exact this.2.2.2.2⟩

/-- What stands in the files: all but the last whole and sure, of the last so many records sure. -/
structure Inv (L : List Fl) (ls : List Sg) (s : Sg) (y : Nat) (R : List Bs) : Prop where
  row : Row (ls ++ [s]) R
  all : s.first + s.recs.length = R.length + 1
  files : ∃ j, j ≤ s.recs.length ∧ y + 1 = s.first + j ∧ L.Perm (ls.map whole ++ [fl s (bts s.first s.recs) (bts s.first (s.recs.take j)).length])
theorem names_of {ls : List Sg} {s : Sg} {L : List Fl} {b : Bs} {d : Nat} (h : L.Perm (ls.map whole ++ [fl s b d])) : (L.map (·.n)).Perm ((ls ++ [s]).map (fun t => nm lg t.num)) := by
  have := h.map (·.n)
  rw [List.map_append, List.map_map] at this
  rw [List.map_append]
  exact this
theorem nodup_of {ls : List Sg} {s : Sg} {R : List Bs} (hr : Row (ls ++ [s]) R) {L : List Fl} {b : Bs} {d : Nat} (h : L.Perm (ls.map whole ++ [fl s b d])) : (L.map (·.n)).Nodup := (names_of h).nodup_iff.2 hr.nodup
theorem last_ne {ls : List Sg} {s : Sg} {R : List Bs} (hr : Row (ls ++ [s]) R) : ∀ t ∈ ls, nm lg t.num ≠ nm lg s.num := by
  intro t ht e
  have h := hr.nodup
  rw [List.map_append, List.nodup_append] at h
  exact h.2.2 _ (List.mem_map.2 ⟨t, ht, rfl⟩) _ (by simp) e
theorem find_last {ls : List Sg} {s : Sg} {R : List Bs} (hr : Row (ls ++ [s]) R) {L : List Fl} {b : Bs} {d : Nat} (h : L.Perm (ls.map whole ++ [fl s b d])) : find L (nm lg s.num) = some (fl s b d) :=
  find_of (f := fl s b d) (nodup_of hr h) (h.mem_iff.2 (by simp))
/-- The last file, put otherwise. -/
theorem upd_last {ls : List Sg} {s : Sg} {R : List Bs} (hr : Row (ls ++ [s]) R) {L : List Fl} {b b' : Bs} {d d' : Nat} (h : L.Perm (ls.map whole ++ [fl s b d])) : (upd L (nm lg s.num) (setf b' d')).Perm (ls.map whole ++ [fl s b' d']) := by
  have := h.map (fun f => if f.n = nm lg s.num then setf b' d' f else f)
  refine this.trans ?_
  rw [List.map_append, List.map_map]
  refine List.Perm.append ?_ ?_
  · rw [List.map_congr_left (g := whole) (fun t ht => ?_)]
    have := last_ne hr t ht
    exact if_neg this
  · simp [fl, setf]
theorem Inv.sync {L : List Fl} {ls : List Sg} {s : Sg} {y : Nat} {R : List Bs} (h : Inv L ls s y R) : ∃ f, find L (nm lg s.num) = some f ∧ f.b.length = s.size ∧ Inv (upd L f.n (setf f.b f.b.length)) ls s (s.first + s.recs.length - 1) R := by
  obtain ⟨j, hj, hy, hp⟩ := h.files
  have hs := h.row.size s (by simp)
  refine ⟨_, find_last h.row hp, hs.1.symm, h.row, h.all, s.recs.length, Nat.le_refl _, by omega, ?_⟩
  rw [List.take_length]
  exact upd_last h.row hp
theorem beg_same {L : List Fl} {room k first : Nat} {name : Tx} (h : (begS L room name k first).2 ≠ 0) : (begS L room name k first).1 = L := by
  unfold begS at h ⊢
  repeat' split
  all_goals first | rfl | skip
  all_goals simp_all
theorem beg_ins {L : List Fl} {room k first : Nat} {name : Tx} (h : (begS L room name k first).2 = 0) : (begS L room name k first).1 = ins ⟨nm name k, head first, (head first).length⟩ L ∧ first ≤ 9007199254740992 ∧ k < 1000000000000000 := by
  unfold begS at h ⊢
  split at h
  · simp at h
  · rename_i h1
    split at h
    · simp at h
    · rename_i h2
      split at h
      · simp at h
      · rename_i h3
        split at h
        · simp at h
        · rename_i h4
          split at h
          · simp at h
          · rename_i h5
            rw [if_neg h1, if_neg h2, if_neg h3, if_neg h4, if_neg h5]
            exact ⟨rfl, by omega, by omega⟩
theorem Inv.beg {L : List Fl} {ls : List Sg} {s : Sg} {room : Nat} {R : List Bs} (h : Inv L ls s (s.first + s.recs.length - 1) R) (hc : (begS L room lg (s.num + 1) (s.first + s.recs.length)).2 = 0) :
    Inv (begS L room lg (s.num + 1) (s.first + s.recs.length)).1 (ls ++ [s]) ⟨s.num + 1, s.first + s.recs.length, (head (s.first + s.recs.length)).length, []⟩ (s.first + s.recs.length - 1) R := by
  obtain ⟨h1, h2, h3⟩ := beg_ins hc
  have hs := h.row.size s (by simp)
  obtain ⟨j, hj, hy, hp⟩ := h.files
  have ej : j = s.recs.length := by omega
  subst ej
  rw [List.take_length] at hp
  refine ⟨h.row.snoc ⟨rfl, rfl⟩ rfl (by simp [bts, frames]) ⟨h3, h2⟩, by simpa using h.all, 0, by simp, by simp; omega, ?_⟩
  rw [h1]
  refine (ins_perm _ L).trans ?_
  refine (List.Perm.cons _ hp).trans ?_
  have e : ls.map whole ++ [fl s (bts s.first s.recs) (bts s.first s.recs).length] = (ls ++ [s]).map whole := by simp [whole]
  rw [e]
  have e2 : (⟨nm lg (s.num + 1), head (s.first + s.recs.length), (head (s.first + s.recs.length)).length⟩ : Fl) = fl ⟨s.num + 1, s.first + s.recs.length, (head (s.first + s.recs.length)).length, []⟩ (bts (s.first + s.recs.length) []) (bts (s.first + s.recs.length) ([] : List Bs)).length := by simp [fl, bts, frames]
  rw [e2]
  exact (List.perm_append_singleton _ _).symm
/-- Roll. -/
theorem Inv.roll {L : List Fl} {ls : List Sg} {s : Sg} {y room : Nat} {R : List Bs} (h : Inv L ls s y R) {f : Fl} (hf : find L (nm lg s.num) = some f) :
    ((rollS L room lg f s).2 = 0 ∧ Inv (rollS L room lg f s).1 (ls ++ [s]) ⟨s.num + 1, s.first + s.recs.length, (head (s.first + s.recs.length)).length, []⟩ (s.first + s.recs.length - 1) R) ∨
    ((rollS L room lg f s).2 ≠ 0 ∧ Inv (rollS L room lg f s).1 ls s (s.first + s.recs.length - 1) R) := by
  obtain ⟨f', hf', -, hs⟩ := h.sync
  rw [hf] at hf'
  obtain rfl := Option.some.inj hf'
  by_cases hc : (rollS L room lg f s).2 = 0
  · exact .inl ⟨hc, hs.beg hc⟩
  · refine .inr ⟨hc, ?_⟩
    unfold rollS at hc ⊢
    rw [beg_same hc]
    exact hs
/-- A record behind the last. -/
theorem Inv.app {L : List Fl} {ls : List Sg} {s : Sg} {y room : Nat} {R : List Bs} (h : Inv L ls s y R) (x : Bs) (hx : x.length ≤ 524288) :
    ((appS L room false (nm lg s.num) (frame x)).2 = 0 ∧ Inv (appS L room false (nm lg s.num) (frame x)).1 ls ⟨s.num, s.first, s.size + (frame x).length, s.recs ++ [x]⟩ y (R ++ [x])) ∨
    ((appS L room false (nm lg s.num) (frame x)).2 ≠ 0 ∧ Inv (appS L room false (nm lg s.num) (frame x)).1 ls s y R) := by
  obtain ⟨j, hj, hy, hp⟩ := h.files
  have hs := h.row.size s (by simp)
  have e : appS L room false (nm lg s.num) (frame x) = putS L room (fl s (bts s.first s.recs) (bts s.first (s.recs.take j)).length) (bts s.first s.recs).length (frame x) := by
    rw [appS, find_last h.row hp]
    rfl
  rw [e]
  unfold putS
  split
  · exact .inr ⟨by simp, h⟩
  · refine .inl ⟨rfl, ?_, ?_, j, by simp; omega, hy, ?_⟩
    · refine h.row.last ⟨rfl, rfl⟩ (fun i z hz => ?_) (fun i z hz => ?_) ?_ (fun z hz => ?_)
      · rw [List.getElem?_append_left (List.getElem?_eq_some_iff.1 hz).1]
        exact hz
      · simp only at hz
        have ha := h.all
        by_cases hlt : i < s.recs.length
        · rw [List.getElem?_append_left hlt] at hz
          have := h.row.recs s (by simp) i z hz
          rw [List.getElem?_append_left (List.getElem?_eq_some_iff.1 this).1]
          exact this
        · have hi := (List.getElem?_eq_some_iff.1 hz).1
          rw [List.length_append, List.length_singleton] at hi
          have ei : i = s.recs.length := by omega
          subst ei
          rw [List.getElem?_append_right (Nat.le_refl _), Nat.sub_self] at hz
          have e3 : s.first - 1 + s.recs.length = R.length := by omega
          rw [e3, List.getElem?_append_right (Nat.le_refl _), Nat.sub_self]
          exact hz
      · simp only [bts_snoc, List.length_append]
        rw [hs.1]
      · rcases List.mem_append.1 hz with hz | hz
        · exact h.row.len z hz
        · rw [List.mem_singleton.1 hz]; exact hx
    · have := h.all
      simp only [List.length_append, List.length_singleton]
      omega
    · simp only [List.take_append_of_le_length hj]
      have hu := upd_last (b' := bts s.first (s.recs ++ [x])) (d' := (bts s.first (s.recs.take j)).length) h.row hp
      have e1 : Db.wr (bts s.first s.recs) (bts s.first s.recs).length (frame x) = bts s.first (s.recs ++ [x]) := by
        unfold Db.wr
        rw [List.take_length, List.drop_of_length_le (by omega), List.append_nil, bts_snoc]
      have e2 : min (bts s.first (s.recs.take j)).length (bts s.first s.recs).length = (bts s.first (s.recs.take j)).length := Nat.min_eq_left (bts_mono _ _ _)
      have := hu
      simp only [fl] at this ⊢
      rw [e1, e2]
      exact this
/-- The first segments gone. -/
theorem Inv.prune {s : Sg} {y : Nat} {R : List Bs} : ∀ (m : Nat) {L : List Fl} {ls : List Sg} (h : Inv L ls s y R) (hm : m ≤ ls.length), Inv (dels L lg ((ls ++ [s]).take m)) (ls.drop m) s y R
  | 0, L, ls, h, _ => by simpa [dels] using h
  | m + 1, L, [], h, hm => by simp at hm
  | m + 1, L, t :: ls, h, hm => by
    refine Inv.prune m (L := del L (nm lg t.num)) (ls := ls) ⟨by have := h.row.drop 1; simpa using this, h.all, ?_⟩ (by simpa using hm)
    obtain ⟨j, hj, hy, hp⟩ := h.files
    refine ⟨j, hj, hy, ?_⟩
    have hn := h.row.nodup
    simp only [List.cons_append, List.map_cons, List.nodup_cons] at hn
    refine (hp.filter (fun f => !(f.n == nm lg t.num))).trans ?_
    have e1 : (!((whole t).n == nm lg t.num)) = false := by simp [whole, fl]
    rw [List.map_cons, List.cons_append, List.filter_cons_of_neg (by rw [e1]; simp)]
    rw [List.filter_eq_self.2 (fun f hf => ?_)]
    rw [Bool.not_eq_true', beq_eq_false_iff_ne]
    intro e
    refine hn.1 (List.mem_map.2 ?_)
    rcases List.mem_append.1 hf with hf | hf
    · obtain ⟨q, hq, rfl⟩ := List.mem_map.1 hf
      exact ⟨q, by simp [hq], e⟩
    · rw [List.mem_singleton.1 hf] at e
      exact ⟨s, by simp, e⟩
end Go.Proofs.YtjjfhbbaabakmaaGreatDoor.Up

/-
  Layer 4: mathematics of WalSure: what a crash leaves, and what Open makes of it.
-/
namespace Go.Proofs.YtjjfhbbaabakmaaGreatDoor.Uq
set_option linter.unusedSimpArgs false
open Go Go.RowKit Cm Ck Kw Ga Dm Dw Da Db Dc Dd De Df Dg Dh Dj Wc Wf Wa Wb Wd Wn We Kx Wg Wh Wl Wj Wk Wo Wq Wr Ws Wt Wu Wv Ww Wx Wy Wz Va Vb Vc Vd Uj Uo Up
set_option linter.unusedVariables false

theorem frs_more {ys xs : List Bs} {t r : Bs} (hy : ∀ x ∈ ys, x.length ≤ 524288) (h : Frs t xs r) : Frs (frames ys ++ t) (ys ++ xs) r := by
  obtain ⟨h1, h2, h3⟩ := h
  refine ⟨by rw [h1, frames_app, List.append_assoc], fun x hx => ?_, h3⟩
  rcases List.mem_append.1 hx with hx | hx
  · exact hy x hx
  · exact h2 x hx
theorem enc_short (n : Nat) : (enc n).length ≤ 524288 := by
  have := Cm.enc_len n
  omega
/-- A beginning of the file, the sure part in it: so many records are whole. -/
theorem torn_at {n j : Nat} {recs : List Bs} {b t : Bs} (hj : j ≤ recs.length) (hx : ∀ x ∈ recs, x.length ≤ 524288) (h : bts n recs = b ++ t) (hd : (bts n (recs.take j)).length ≤ b.length) : ∃ k r, j ≤ k ∧ k ≤ recs.length ∧ Frs b (enc n :: recs.take k) r := by
  obtain ⟨t1, h1⟩ := bts_take n recs j
  have hpre : bts n (recs.take j) <+: b := List.prefix_of_prefix_length_le ⟨t1, h1.symm⟩ ⟨t, h.symm⟩ hd
  obtain ⟨t2, h2⟩ := hpre
  have h0 := h
  rw [bts_head] at h0
  have hall : ∀ x ∈ enc n :: recs, x.length ≤ 524288 := fun x hx' => by
    rcases List.mem_cons.1 hx' with rfl | hx'
    · exact enc_short n
    · exact hx x hx'
  obtain ⟨k0, r, hk0, hF⟩ := frs_part (enc n :: recs) b t hall h0
  obtain ⟨xs2, r2, hF2⟩ := frs_any t2.length t2 (Nat.le_refl _)
  have hF3 := frs_more (ys := enc n :: recs.take j) (fun x hx' => by
    rcases List.mem_cons.1 hx' with rfl | hx'
    · exact enc_short n
    · exact hx x (List.mem_of_mem_take hx')) hF2
  rw [← bts_head, h2] at hF3
  have e := (frs_one hF hF3).1
  have el := congrArg List.length e
  simp only [List.length_take, List.length_append, List.length_cons] at el hk0
  have hk1 : k0 = (k0 - 1) + 1 := by omega
  rw [hk1, List.take_succ_cons] at hF
  exact ⟨k0 - 1, r, by omega, by omega, hF⟩

/-- A file's name and bytes. -/
def nb (f : Fl) : Tx × Tx := (f.n, f.b)
def nbs (ls : List Sg) (s : Sg) (b : Bs) : List (Tx × Tx) := ls.map (fun t => (nm lg t.num, bts t.first t.recs)) ++ [(nm lg s.num, b)]
theorem nb_of {ls : List Sg} {s : Sg} {L : List Fl} {b : Bs} {d : Nat} (h : L.Perm (ls.map whole ++ [fl s b d])) : (L.map nb).Perm (nbs ls s b) := by
  have := h.map nb
  rw [List.map_append, List.map_map] at this
  exact this
theorem nb_names {ls : List Sg} {s : Sg} {L : List Fl} {b : Bs} (h : (L.map nb).Perm (nbs ls s b)) : (L.map (·.n)).Perm ((ls ++ [s]).map (fun t => nm lg t.num)) := by
  have := h.map Prod.fst
  unfold nbs at this
  rw [List.map_append, List.map_map, List.map_map] at this
  rw [List.map_append]
  exact this
theorem nb_nodup {ls : List Sg} {s : Sg} {R : List Bs} (hr : Row (ls ++ [s]) R) {L : List Fl} {b : Bs} (h : (L.map nb).Perm (nbs ls s b)) : (L.map (·.n)).Nodup := (nb_names h).nodup_iff.2 hr.nodup
theorem nb_find {ls : List Sg} {s : Sg} {R : List Bs} (hr : Row (ls ++ [s]) R) {L : List Fl} {b : Bs} (h : (L.map nb).Perm (nbs ls s b)) {p : Tx × Tx} (hp : p ∈ nbs ls s b) : ∃ f, find L p.1 = some f ∧ f.b = p.2 ∧ f ∈ L ∧ f.n = p.1 := by
  have := h.mem_iff.2 hp
  obtain ⟨f, hf, rfl⟩ := List.mem_map.1 this
  exact ⟨f, find_of (nb_nodup hr h) hf, rfl, hf, rfl⟩
theorem no_empty {ls : List Sg} {s : Sg} {L : List Fl} {b : Bs} (h : (L.map nb).Perm (nbs ls s b)) : find L [] = none := by
  cases hf : find L [] with
  | none => rfl
  | some f =>
    obtain ⟨h1, h2⟩ := find_some hf
    have := (nb_names h).mem_iff.1 (List.mem_map.2 ⟨f, h1, rfl⟩)
    obtain ⟨t, -, ht⟩ := List.mem_map.1 this
    exact absurd (ht.trans h2) (nm_ne _ _)
theorem seg_of {s : Sg} {R : List Bs} {segs : List Sg} (hr : Row segs R) (hs : s ∈ segs) : segOf s.num (enc s.first :: s.recs) = s := by
  obtain ⟨h1, h2, h3, h4, h5⟩ := hr.size s hs
  have h : fstOf (Cm.enc s.first) = s.first := fstOf_enc h5
  simp only [segOf]
  rw [show enc s.first = Cm.enc s.first from rfl, h, if_neg (by omega)]
  rw [show Cm.enc s.first = enc s.first from rfl, ← bts_head, ← h1]
theorem frs_bts {s : Sg} {R : List Bs} {segs : List Sg} (hr : Row segs R) (hs : s ∈ segs) : Frs (bts s.first s.recs) (enc s.first :: s.recs) [] := by
  rw [bts_head]
  exact frs_frames (fun x hx => by
    rcases List.mem_cons.1 hx with rfl | hx
    · exact enc_short _
    · exact hr.in_ hs hx)
theorem loads_of {L : List Fl} {ls : List Sg} {s : Sg} {b r : Bs} {R : List Bs} {room : Nat} (hr : Row (ls ++ [s]) R) (hp : (L.map nb).Perm (nbs ls s b)) (hF : Frs b (enc s.first :: s.recs) r) (hg : GoodL L room) : Loads L lg (ls ++ [s]) := by
  have hlen : (ls ++ [s]).length = L.length := by
    have := (nb_names hp).length_eq
    simpa using this.symm
  refine ⟨fun i hi => ?_, hr.chain, by rw [hlen]; exact hg.few⟩
  by_cases hlt : i < ls.length
  · rw [List.getElem_append_left hlt]
    have hm : ls[i] ∈ ls ++ [s] := List.mem_append_left _ (List.getElem_mem hlt)
    obtain ⟨h1, h2, h3, h4, h5⟩ := hr.size _ hm
    obtain ⟨f, hf, hb, hfL, hn⟩ := nb_find hr hp (p := (nm lg ls[i].num, bts ls[i].first ls[i].recs)) (List.mem_append_left _ (List.mem_map.2 ⟨ls[i], List.getElem_mem hlt, rfl⟩))
    have hbl := hg.len hfL
    have hbt := bts_len ls[i].first ls[i].recs
    simp only at hb hf
    refine ⟨f, enc ls[i].first :: ls[i].recs, [], ⟨hf, by rw [hb]; exact frs_bts hr hm, seg_of hr hm, h2, ⟨h4, h5, ?_, ?_⟩, ?_, hbl⟩, fun _ => ?_⟩
    · rw [h1, ← hb]; exact hbl
    · rw [h1]; omega
    · rw [h1, hb]; exact Nat.le_refl _
    · rw [h1, hb]
  · have ei : i = ls.length := by simp at hi; omega
    subst ei
    rw [List.getElem_append_right (Nat.le_refl _)]
    simp only [Nat.sub_self, List.getElem_cons_zero]
    have hm : s ∈ ls ++ [s] := by simp
    obtain ⟨h1, h2, h3, h4, h5⟩ := hr.size _ hm
    obtain ⟨f, hf, hb, hfL, hn⟩ := nb_find hr hp (p := (nm lg s.num, b)) (List.mem_append_right _ (by simp))
    have hbl := hg.len hfL
    have hbt := bts_len s.first s.recs
    simp only at hb hf
    have hle : s.size ≤ f.b.length := by
      rw [h1, hb, hF.1, ← bts_head, List.length_append]
      omega
    exact ⟨f, enc s.first :: s.recs, r, ⟨hf, by rw [hb]; exact hF, seg_of hr hm, h2, ⟨h4, h5, by omega, by omega⟩, hle, hbl⟩, fun h => by simp at h⟩
/-- The segment, but for its last records. -/
def cut (s : Sg) (k : Nat) : Sg := ⟨s.num, s.first, (bts s.first (s.recs.take k)).length, s.recs.take k⟩
theorem tear_whole (k : Nat) (t : Sg) : tear k (whole t) = whole t := by
  unfold tear whole fl
  simp only [Nat.sub_self, Nat.zero_add, Nat.mod_one, Nat.add_zero, List.take_length]
theorem _root_.Go.Proofs.YtjjfhbbaabakmaaGreatDoor.Up.Inv.crash {L : List Fl} {ls : List Sg} {s : Sg} {y : Nat} {R : List Bs} (h : Inv L ls s y R) (k : Nat) : ∃ k' b r, y + 1 ≤ s.first + k' ∧ k' ≤ s.recs.length ∧ Row (ls ++ [cut s k']) R ∧ ((L.map (tear k)).map nb).Perm (nbs ls (cut s k') b) ∧ Frs b (enc s.first :: s.recs.take k') r := by
  obtain ⟨j, hj, hy, hp⟩ := h.files
  obtain ⟨d, hd⟩ : ∃ d, d = (bts s.first (s.recs.take j)).length := ⟨_, rfl⟩
  rw [← hd] at hp
  have hmono := bts_mono s.first s.recs j
  rw [← hd] at hmono
  obtain ⟨z, hz⟩ : ∃ z, z = d + k % ((bts s.first s.recs).length - d + 1) := ⟨_, rfl⟩
  have hzl : d ≤ z ∧ z ≤ (bts s.first s.recs).length := by
    have := Nat.mod_lt k (show 0 < (bts s.first s.recs).length - d + 1 by omega)
    omega
  have hP : (L.map (tear k)).Perm (ls.map whole ++ [fl s ((bts s.first s.recs).take z) z]) := by
    refine (hp.map (tear k)).trans ?_
    rw [List.map_append, List.map_map, List.map_congr_left (f := tear k ∘ whole) (g := whole) (fun t _ => tear_whole k t)]
    simp only [List.map_cons, List.map_nil, tear, fl]
    rw [← hz]
  have hin : ∀ x ∈ s.recs, x.length ≤ 524288 := fun x hx => h.row.in_ (by simp) hx
  obtain ⟨k', r, h1, h2, h3⟩ := torn_at (n := s.first) (b := (bts s.first s.recs).take z) (t := (bts s.first s.recs).drop z) hj hin (List.take_append_drop _ _).symm (by rw [List.length_take, ← hd]; omega)
  refine ⟨k', _, r, by omega, h2, ?_, nb_of hP, h3⟩
  refine h.row.last ⟨rfl, rfl⟩ (fun i x hx => hx) (fun i x hx => ?_) rfl h.row.len
  have hx : (s.recs.take k')[i]? = some x := hx
  rw [List.getElem?_take] at hx
  split at hx
  · exact h.row.recs s (by simp) i x hx
  · cases hx
theorem sync_nb {L : List Fl} {n : Tx} (hn : (L.map (·.n)).Nodup) : (syncS L false n).1.map nb = L.map nb := by
  unfold syncS
  cases hf : find L n with
  | none => rfl
  | some f =>
    simp only [Bool.false_eq_true, if_false]
    obtain ⟨h1, h2⟩ := find_some hf
    unfold upd
    rw [List.map_map]
    refine List.map_congr_left (fun g hg => ?_)
    simp only [Function.comp]
    split
    · rename_i e
      rw [nodup_eq hn hg h1 e]
      rfl
    · rfl
theorem names_nb {L K : List Fl} (h : L.map nb = K.map nb) : L.map (·.n) = K.map (·.n) := by
  have := congrArg (List.map Prod.fst) h
  rw [List.map_map, List.map_map] at this
  exact this
theorem syncAll_nb {name : Tx} : ∀ (ss : List Sg) {L : List Fl} (hn : (L.map (·.n)).Nodup), (syncAll L name ss).map nb = L.map nb
  | [], L, _ => rfl
  | t :: ss, L, hn => by
    have h := sync_nb (n := nm name t.num) hn
    have := syncAll_nb (name := name) ss (L := (syncS L false (nm name t.num)).1) (by rw [names_nb h]; exact hn)
    exact this.trans h
theorem upd_nb {ls : List Sg} {s : Sg} {R : List Bs} (hr : Row (ls ++ [s]) R) {L : List Fl} {b b' : Bs} {d' : Nat} (h : (L.map nb).Perm (nbs ls s b)) : ((upd L (nm lg s.num) (setf b' d')).map nb).Perm (nbs ls s b') := by
  have e : (upd L (nm lg s.num) (setf b' d')).map nb = (L.map nb).map (fun p => if p.1 = nm lg s.num then (p.1, b') else p) := by
    unfold upd
    rw [List.map_map, List.map_map]
    refine List.map_congr_left (fun f _ => ?_)
    show nb (if f.n = nm lg s.num then setf b' d' f else f) = (if (nb f).1 = nm lg s.num then ((nb f).1, b') else nb f)
    by_cases hc : f.n = nm lg s.num
    · rw [if_pos hc, if_pos (show (nb f).1 = nm lg s.num from hc)]; rfl
    · rw [if_neg hc, if_neg (show ¬ (nb f).1 = nm lg s.num from hc)]
  rw [e]
  refine (h.map _).trans ?_
  unfold nbs
  rw [List.map_append, List.map_map]
  refine List.Perm.append ?_ ?_
  · rw [List.map_congr_left (g := fun t => (nm lg t.num, bts t.first t.recs)) (fun t ht => ?_)]
    exact if_neg (last_ne hr t ht)
  · simp
theorem open_nb {L : List Fl} {ls : List Sg} {s : Sg} {b r : Bs} {R : List Bs} (hr : Row (ls ++ [s]) R) (hp : (L.map nb).Perm (nbs ls s b)) (hF : Frs b (enc s.first :: s.recs) r) : ((openS L lg ls s).map nb).Perm (nbs ls s (bts s.first s.recs)) := by
  have hs := hr.size s (by simp)
  obtain ⟨f, hf, hb, hfL, hn⟩ := nb_find hr hp (p := (nm lg s.num, b)) (List.mem_append_right _ (by simp))
  simp only at hf hb hn
  have e : b = bts s.first s.recs ++ r := by rw [bts_head]; exact hF.1
  have ht : truncS L false (nm lg s.num) s.size = (upd L (nm lg s.num) (setf (bts s.first s.recs) (min f.d s.size)), 0) := by
    have h1 : ¬ ((s.size : Int) < 0 ∨ (f.b.length : Int) < (s.size : Int)) := by
      rw [hb, e, List.length_append, hs.1]
      omega
    have h2 : f.b.take s.size = bts s.first s.recs := by rw [hb, e, hs.1, List.take_left]
    simp only [truncS, hf, Bool.false_eq_true, if_false]
    rw [if_neg h1, Int.toNat_natCast, h2, hn]
  unfold openS
  rw [ht]
  have hu := upd_nb (b' := bts s.first s.recs) (d' := min f.d s.size) hr hp
  have hnd := nb_nodup hr hu
  rw [syncAll_nb _ hnd]
  exact hu
end Go.Proofs.YtjjfhbbaabakmaaGreatDoor.Uq

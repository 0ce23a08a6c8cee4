/-
  Layer 4: WalDamage's walk.
-/
import Derived.Test.YtjjfhbbaabakmaaGreatDoorWD18
import Derived.Deep.RegionLaw
import Derived.Test.YtjjfhbbaabakmaaGreatDoorWD02
import Derived.SizedLaws
import Derived.JoinedOf
namespace Go.Proofs.YtjjfhbbaabakmaaGreatDoor.Ul
set_option linter.unusedSimpArgs false
open Go Go.RowKit Cm Ck Kw Ga Dm Dw Da Db Dc Dd De Df Dg Dh Wc Wf Wa Wb Wd Wn We Kx Wg Wh Wl Wj Wk Wo Wq Wr Ws Wt Wu Wv Ww Wx Wy Wz Va Vb Vc Vd Ug Uh Ui Uj Uk
attribute [local go_sem ↓] Go.wp_at_zero Go.wp_at_succ
set_option linter.unusedVariables false
set_option maxRecDepth 100000

theorem info_int : (Tryz.prog.info? 3).map (fun i => (i.zero, i.size, i.bytes)) = some (some (.int .i64 0), 1, 8) := by kernel_rfl
theorem one_lit (w : World) (X : Nat → Prop) (t : TypeId) (u : Value) (hX : ¬ X w.heap.size) : Sl (w.alloc (.cells #[u] t)) X 1 (.slice (some ⟨w.heap.size, 0, none⟩) 1 1) 1 [u] := by
  refine ⟨_, _, rfl, rfl, Nat.le_refl _, by simp only [maxLen]; omega, fun _ => ⟨_, rfl, by simp, hX, fun j x hx => ?_⟩⟩
  have ha : (⟨w.heap.size, 0, none⟩ : Addr).add j = ⟨w.heap.size, j, none⟩ := by unfold Addr.add; split <;> simp_all
  rw [ha, Blk.cell (Blk.new w t _) j]
  simpa using hx
theorem op_below (w : World) (x : Obj) : Below w.heap.size w (w.alloc x) := (Below.refl _ w).alloc (Nat.le_refl _) _

theorem rec_at {w wr : World} {A : Option Addr} {c : Nat} {l : List Bs} (h : Ls w (fun k => w.heap.size ≤ k) (.slice A l.length c) l) {k : Nat} (hk : k < l.length) (b : Below w.heap.size w wr) :
    ∃ ad, A = some ad ∧ ∃ Ax cx, wr.cell? (ad.add k) = some (.slice Ax l[k].length cx) ∧ Sl w (fun k => w.heap.size ≤ k) 1 (.slice Ax l[k].length cx) l[k].length (BVs l[k]) := by
  obtain ⟨vals, h1, h2⟩ := h
  obtain ⟨u, hu, hs⟩ := h2 k hk
  obtain ⟨A0, c0, hv, hl, hc, hm, hx⟩ := h1
  injection hv with e1 e2 e3
  obtain ⟨ad, hA, hb, hX, hcell⟩ := hx (by omega)
  obtain ⟨Ax, cx, rfl, -⟩ := id hs
  refine ⟨ad, e1.trans hA, Ax, cx, ?_, hs⟩
  have hblk : (ad.add k).block = ad.block := by unfold Addr.add; split <;> rfl
  rw [b.cell (p := ad.add k) (by rw [hblk]; exact hb)]
  exact hcell k _ hu
theorem nm_log1 : nm lg 1 = [108, 111, 103, 46, 49] := by decide +kernel
/-- A change elsewhere. -/
theorem lds_far {w w' : World} {S1 S2 X : Nat → Prop} {g p room most y : Nat} {L : List Fl} {name : Tx} {segs : List Sg} (h : LDs w S1 S2 g p L room name most segs y) (c : Ch X w w') (h1 : ∀ k, S1 k → ¬ X k) (h2 : ∀ k, S2 k → ¬ X k) (hz : ¬ X 0) : LDs w' S1 S2 g p L room name most segs y :=
  ⟨h.lg.ch c (fun k hk hx => h1 k hk hx), h.dk.ch c (fun k hk hx => h2 k hk hx), h.apart, fun k hk => Nat.lt_of_lt_of_le (h.b1 k hk) c.size, fun k hk => Nat.lt_of_lt_of_le (h.b2 k hk) c.size, h.tab.ch c hz, h.z1, h.z2⟩
theorem write_one {b x : Bs} {d : Nat} (h : x.length = b.length) (hb : b.length ≤ 1048576) : writeS [fl1 b d] 1048576 false (nm lg 1) 0 x = ([fl1 x 0], 0) := by
  rw [writeS, find_fl1]
  simp only [Bool.false_eq_true, if_false]
  rw [if_neg (by omega)]
  simp only [putS]
  have hu : Dm.used [fl1 b d] = b.length := by simp [Dm.used, fl1]
  rw [hu, show (fl1 b d).b = b from rfl, show (fl1 b d).n = nm lg 1 from rfl]
  rw [if_neg (by simp; omega), upd_fl1]
  congr 3
  · unfold Db.wr
    rw [List.drop_of_length_le (by simp; omega)]
    simp
  · simp
theorem sync_one (b : Bs) (d : Nat) : syncS [fl1 b d] false (nm lg 1) = ([fl1 b b.length], 0) := by
  rw [syncS, find_fl1]
  simp only [Bool.false_eq_true, if_false]
  rw [show (fl1 b d).n = nm lg 1 from rfl, show (fl1 b d).b = b from rfl, upd_fl1]
/-- What a burst leaves: just the records ahead, or all. -/
theorem hurt_end {recs : List Bs} {k a z at' bits : Nat} (hk : k < recs.length) (hx : ∀ x ∈ recs, x.length ≤ 524288) (ha : a = (bt (recs.take k)).length + (enc recs[k].length).length) (hz : z = (bt (recs.take (k + 1))).length) :
    ∃ recs' r, Frs (hurt (bt recs) a z (at' % (8 * (z - a))) (8 * (z - a)) bits 32) (enc 1 :: recs') r ∧ recs'.length = (if mask (at' % (8 * (z - a))) (8 * (z - a)) bits 32 ≠ 0 then k else recs.length) ∧ ∀ j (h : j < recs'.length), ∃ h' : j < recs.length, recs'[j] = recs[j] := by
  have he := ends_at hk
  have hza : z - a = recs[k].length + 4 := by omega
  have hf : at' % (8 * (z - a)) < 8 * (z - a) := Nat.mod_lt _ (by omega)
  by_cases hm : mask (at' % (8 * (z - a))) (8 * (z - a)) bits 32 ≠ 0
  · have h0 := frs_hurt (first := at' % (8 * (z - a))) (many := 8 * (z - a)) (bits := bits) hk hx (by rw [hza]) hf hm
    rw [← ha, ← hz] at h0
    refine ⟨recs.take k, _, h0, by rw [if_pos hm, List.length_take]; omega, fun j h => ?_⟩
    · rw [List.length_take] at h
      exact ⟨by omega, List.getElem_take⟩
  · refine ⟨recs, [], ?_, by rw [if_neg hm], fun j h => ⟨h, rfl⟩⟩
    have hm0 : mask (at' % (8 * (z - a))) (8 * (z - a)) bits 32 = 0 := by omega
    have : hurt (bt recs) a z (at' % (8 * (z - a))) (8 * (z - a)) bits 32 = bt recs := by
      have h0 := hurt_zero (l := bt recs) (a := a) (z := z) (first := at' % (8 * (z - a))) (many := 8 * (z - a)) (bits := bits) (by omega)
      unfold hurt at h0 ⊢
      rw [burst_same hm0]
      exact h0
    rw [this]
    exact frs_all hx
theorem mem_one {recs : List Bs} {p : Nat × Tx} (h : p ∈ allOf ([] ++ [sg1 recs])) : ∃ j, ∃ h : j < recs.length, p = (j + 1, recs[j]) := by
  have e : allOf ([] ++ [sg1 recs]) = Uf.offs 1 recs := by simp [allOf, sg1]
  rw [e] at h
  obtain ⟨j, hj, rfl⟩ := List.getElem_of_mem h
  have hj' : j < recs.length := by rw [Uf.offs_len] at hj; exact hj
  exact ⟨j, hj', by rw [Uf.offs_get 1 recs j hj', Nat.add_comm]⟩
set_option maxHeartbeats 8000000 in
theorem damage_any (w : World) (hT : Tab w) (A : Option Addr) (c : Nat) (l : List Bs) (which at' bits : Nat) (hl : Ls w (fun k => w.heap.size ≤ k) (.slice A l.length c) l) (hll : l.length * 24 ≤ 140737488355328) (hw8 : which < 256) (hat : at' < 4294967296) (hbits : bits < 4294967296) :
    Calls Tryz.prog 4 #[.slice A l.length c, .int .u8 (which : Int), .int .u32 (at' : Int), .int .u32 (bits : Int)] w fun e w' => e = .returned (.bool true) ∧ Below w.heap.size w w' := by
  have HT := Lib.hid hT
  have HL := Lib.hid hl
  clear hT hl
  go_enter Tryz.func4, Tryz.ntmps4
  go_wp2_with fail
  refine (new_ok w 1048576 (by omega)).mono ?_
  rintro e w1 ⟨p, rfl, hd1, hb1⟩
  have hs1 := hb1.size
  have HOP := Lib.hid (open_empty w1 _ p 1048576 lg 4194304 hd1 (fun k hk => hk.2) (HT.out.after hb1) (fun hk => by have := HT.out.lt; have := hk.1; omega) okName_lg (by omega) (by omega) (by omega))
  have HB1 := Lib.hid hb1
  clear hd1 hb1
  go_wp2_with fail
  refine HOP.out.mono ?_
  rintro e w2 ⟨g, S1, S2, rfl, hD2, hS2⟩
  have HD2 := Lib.hid (And.intro hD2 hS2)
  clear hD2 hS2 HOP
  go_wp2_with fail
  refine (begun_any w2 HD2.out.1.tab).mono ?_
  rintro e w3 ⟨rfl, hb3⟩
  have HB3 := Lib.hid hb3
  clear hb3
  have hmm := @run_makeMap Tryz.prog
  have s3 := HB3.out.size
  have s2 := HD2.out.2.ch.size
  have h4 := op_below w3 (.map #[] 0)
  have hda : DA w p g w3.heap.size (.slice none 0 0) [] [] [] (w3.alloc (.map #[] 0)) := by
    have hb2 : Below w.heap.size w w2 := HB1.out.trans (HD2.out.2.ch.below (fun k hk h => by
      rcases h with h | h
      · exact h
      · have := h.1; omega) hs1)
    refine ⟨(hb2.trans (HB3.out.mono hb2.size)).trans (h4.mono (by have := hb2.size; omega)), ⟨S1, S2, ?_, fun k hk => ?_⟩, ⟨.map [], ⟨World.ownsMap_made w3 _ _ _, fun j v hj => by simp at hj⟩⟩, by omega, World.ownsRow_nil _ _ _ _, by simp, fun j hj => by simp at hj, fun x hx => by simp at hx, ?_, HT.out.lt⟩
    · have := (HD2.out.1.later HB3.out).later h4
      have e1 : bt [] = head 1 := by simp [bt, frames]
      have e2 : sg1 [] = ⟨1, 1, (head 1).length, []⟩ := by simp [sg1, e1]
      rw [e1, e2]
      exact this
    · have hu : w.heap.size ≤ k ∧ k < w2.heap.size := by
        rcases hk with hk | hk
        · refine ⟨?_, HD2.out.1.b1 k hk⟩
          rcases HD2.out.2.s1 k hk with h | h
          · exact h.elim
          · omega
        · refine ⟨?_, HD2.out.1.b2 k hk⟩
          rcases HD2.out.2.s2 k hk with h | h
          · exact h.1
          · omega
      exact ⟨hu.1, by omega, by simp [Value.ownBlock]⟩
    · have := head_len 1
      simp [bt, frames]
      omega
  have HDA := Lib.hid hda
  clear hda h4 s3 s2
  go_wp2_with fail
  generalize w3.alloc (.map #[] 0) = w4 at *
  generalize w3.heap.size = m at *
  obtain ⟨i0, hi0, hz0, hz1, hz2⟩ := info_parts info_int
  go_loopw [14, 50] (fun ve i wr => ∃ (k : Nat) (recs : List Bs) (vals : List Value), k ≤ l.length ∧ i = .int .i64 k ∧ vals.length = recs.length ∧ DA w p g m ve recs vals recs wr) (fun _ i _ => l.length - (intOf i).toNat)
  case atStart => exact ⟨0, [], [], Nat.zero_le _, rfl, rfl, HDA.out⟩
  case round =>
    obtain ⟨k, recs, vals, hk, rfl, hvl, hda⟩ := hrel
    clear HDA
    have HVL := Lib.hid hvl
    have HDA := Lib.hid hda
    clear hvl hda
    obtain ⟨Ae, ce, rfl⟩ := own_shape HDA.out.ends
    by_cases hlt : k < l.length
    · obtain ⟨ad, hA, Ax, cx, hcell, hsl⟩ := rec_at HL.out hlt HDA.out.below
      subst hA
      have h0k : (0 : Int) ≤ (k : Int) := by omega
      have hkl : (k : Int) < (l.length : Int) := by omega
      generalize l[k] = x at *
      have HAP := Lib.hid (HDA.out.app Ax cx x hsl)
      have HSL := Lib.hid hsl
      clear hsl
      go_wp2_with fail
      clear hcell
      refine HAP.out.mono ?_
      rintro e wa (⟨rfl, hda⟩ | ⟨z, hz, rfl, hda⟩)
      · have HDB := Lib.hid hda
        clear hda HAP
        obtain ⟨D, hD⟩ := HDB.out.had
        obtain ⟨wb, D', hrun, hD', hcb⟩ := hD.put Ax x.length cx (by have := HDB.out.few; have := HVL.out; rw [List.length_append] at *; omega)
        rw [HVL.out, show ((recs.length + 1 : Nat) : Int) = (recs.length : Int) + 1 from by omega] at hrun
        have HPU := Lib.hid (And.intro hD' hcb)
        have hfew := HDB.out.few
        have hdb := HDB.out.put HVL.out hD' hcb HSL.out
        have HDC := Lib.hid hdb
        have HUS := Lib.hid hdb.used
        clear hD hD' hcb hdb HPU HDB
        go_wp2_with fail
        refine HUS.out.mono ?_
        rintro e wc ⟨rfl, hbc⟩
        have hb2 := op_below wc (.cells #[.int .i64 ((bt (recs ++ [x])).length : Int)] 3)
        have hdc := (HDC.out.later hbc).later hb2
        have hone : ∀ u ∈ ([.int .i64 ((bt (recs ++ [x])).length : Int)] : List Value), u.oneCell' = true := fun u hu => by rw [List.mem_singleton] at hu; subst hu; rfl
        have HSRC := Lib.hid (one_lit wc (fun _ => False) 3 (.int .i64 ((bt (recs ++ [x])).length : Int)) (fun h => h))
        have HDD := Lib.hid hdc
        have hw0 := hdc.below.size
        have hrl := HDD.out.few
        rw [List.length_append, List.length_singleton] at hrl
        clear hbc hb2 hdc HUS HDC
        go_wp2_with (at_builtin; refine wpList_append_sh _ rfl (.tmp 65) (.tmp 68) _ rfl w.heap.size 3 i0 _ 1 8 Tryz.underlying49 hi0 hz0 hz1 hz2 rfl (by omega) (.slice Ae recs.length ce) recs.length (EV recs) rfl HDD.out.ends (fun _ => False) _ 1 _ rfl HSRC.out hone (by simp only [maxLen]; omega) (by omega) hw0 ?_; intro Af cf wd happ)
        have HDE := Lib.hid (HDD.out.note (x := x) happ)
        clear happ
        go_wp2_with fail
        go_roundw
        case rel => exact ⟨k + 1, recs ++ [x], vals ++ [.slice Ax x.length cx], by omega, by go_num, by rw [List.length_append, List.length_append, HVL.out]; rfl, HDE.out⟩
        case measure => simp [intOf]; omega
      · have HDB := Lib.hid hda
        have hz2' : ((z : Int) == 0) = false := by rw [beq_eq_false_iff_ne]; omega
        clear hda HAP
        go_wp2_with fail
        go_roundw
        case rel => exact ⟨k + 1, recs, vals, by omega, by go_num, HVL.out, HDB.out⟩
        case measure => simp [intOf]; omega
    · generalize wr = wo at *
      by_cases h0 : recs.length = 0
      · have hr0 : recs = [] := List.eq_nil_of_length_eq_zero h0
        subst hr0
        go_wp2_with fail
        go_ret
        exact ⟨rfl, HDA.out.below⟩
      · have hne : ((recs.length : Int) == 0) = false := by rw [beq_eq_false_iff_ne]; omega
        obtain ⟨kk, hkk⟩ : ∃ kk, kk = which % recs.length := ⟨_, rfl⟩
        have hkl : kk < recs.length := by rw [hkk]; exact Nat.mod_lt _ (by omega)
        have hm1 : Int.tmod (which : Int) (recs.length : Int) = (kk : Int) := by rw [Int.tmod_eq_emod_of_nonneg (by omega)]; omega
        have hm2 : (which : Int) % (recs.length : Int) = (kk : Int) := by omega
        clear hkk
        obtain ⟨S1, S2, hld, hS⟩ := HDA.out.ld
        have HGE := Lib.hid (get_on wo S2 p _ 1048576 false (nm lg 1) (by rw [nm_log1]; simp) hld.dk)
        have hgs : getS [fl1 (bt recs) (head 1).length] false (nm lg 1) = (bt recs, 0) := by rw [getS, find_fl1]; rfl
        rw [hgs, nm_log1] at HGE
        have HLD := Lib.hid (And.intro hld hS)
        have hrl := HDA.out.few
        clear hld hS hgs
        go_wp2_with fail
        refine HGE.out.mono ?_
        rintro e w5 ⟨Ab, cb, rfl, hb5, hbl5⟩
        have HB5 := Lib.hid (And.intro hb5 hbl5)
        clear hb5 hbl5 HGE
        have hz := ends_at hkl
        have hbm := bt_mono recs (kk + 1)
        have hbf := HDA.out.fit
        have hel := Cm.enc_len recs[kk].length
        obtain ⟨h', Av, cv, hvv, hvs⟩ := HDA.out.vs kk (by rw [HVL.out]; exact hkl)
        obtain ⟨D, hD⟩ := HDA.out.had
        have hlk : ∀ W, Below wo.heap.size wo W → (Instr.lookup 31 (.map (some m)) (.int .i64 ((kk : Int) + 1)) false).run Tryz.prog W = .ok (.slice Av recs[kk].length cv) W := fun W hb => by
          have := (hD.ch (Ch.of_below (S := fun _ => False) hb (Nat.le_refl _)) (fun h => h)).look (j := kk) (v := .slice Av recs[kk].length cv) (by rw [← hvv]; exact List.getElem?_eq_getElem _) (by rw [HVL.out]; omega)
          rw [show (((kk + 1 : Nat)) : Int) = (kk : Int) + 1 from by omega] at this
          exact this
        have hcell : ∀ W, Below wo.heap.size wo W → ∃ ge, Ae = some ⟨ge, 0, none⟩ ∧ W.cell? ⟨ge, kk, none⟩ = some (.int .i64 ((bt (recs.take (kk + 1))).length : Int)) := fun W hb => by
          have ho := own_below HDA.out.ends hb
          obtain ⟨ge, c', hv, -, -⟩ := ho.form (by omega)
          obtain ⟨rfl, -, rfl⟩ := Value.slice.inj hv
          exact ⟨ge, rfl, by rw [ho.cellAt kk (by omega), EV_get hkl]⟩
        obtain ⟨ge, rfl, -⟩ := hcell wo (Below.refl _ _)
        have hce : ∀ W, Below wo.heap.size wo W → W.cell? ⟨ge, kk, none⟩ = some (.int .i64 ((bt (recs.take (kk + 1))).length : Int)) := fun W hb => by
          obtain ⟨ge', e, h⟩ := hcell W hb
          cases e
          exact h
        have HX := Lib.hid (And.intro hce (And.intro hlk hD))
        obtain ⟨a, ha⟩ : ∃ a, a = (bt (recs.take kk)).length + (enc recs[kk].length).length := ⟨_, rfl⟩
        obtain ⟨z, hze⟩ : ∃ z, z = (bt (recs.take (kk + 1))).length := ⟨_, rfl⟩
        have h6 := (bt_len (recs.take kk)).1
        rw [← hze] at HX hbm hz
        have hzl : z ≤ (bt recs).length := hbm
        have hb50 := HB5.out.2
        have e5 := HX.out.1 _ (below_tr hb50 (Below.refl _ _))
        have l5 := HX.out.2.1 _ hb50
        have w1' : IntKind.i64.wrap ((z : Int) - 4) = (z : Int) - 4 := wrap64 (by omega) (by omega)
        have w2' : IntKind.i64.wrap ((z : Int) - 4 - (recs[kk].length : Int)) = (a : Int) := by rw [wrap64 (by omega) (by omega)]; omega
        have w3' : IntKind.i64.wrap ((kk : Int) + 1) = (kk : Int) + 1 := wrap64 (by omega) (by omega)
        have hk0 : (0 : Int) ≤ (kk : Int) := by omega
        have hkI : (kk : Int) < (recs.length : Int) := by omega
        have HA := Lib.hid (And.intro ha (And.intro hze hz))
        clear hce hlk hD hcell ha hze hz hvv hvs hel
        go_wp2_with fail
        go_region_held3 (fun W => W.cell? ⟨ge, kk, none⟩ = some (.int .i64 (z : Int)) ∧ (Instr.lookup 31 (.map (some m)) (.int .i64 ((kk : Int) + 1)) false).run Tryz.prog W = .ok (.slice Av recs[kk].length cv) W) (first | exact ⟨e5, l5⟩ | exact ⟨HX.out.1 _ (below_drewN hb50 1), HX.out.2.1 _ (below_drewN hb50 1)⟩ | go_keep) (fail)
        all_goals
          have hb6 : Below wo.heap.size wo w5.drew := below_drewN hb50 1
          have e6 := HX.out.1 _ hb6
          have hrow6 : w5.drew.ownsRow wo.heap.size 5 1 (.slice Ab (bt recs).length cb) (bt recs).length (BVs (bt recs)) := HB5.out.1
          have HB6 := Lib.hid (And.intro hb6 hrow6)
          have hn1 : ¬ ((bt recs).length : Int) < (z : Int) := by omega
          have hn2 : ¬ (a : Int) < 1 := by have := HA.out; omega
          have hn3 : (z : Int) ≤ ((bt recs).length : Int) := by omega
          have hn4 : (1 : Int) ≤ (a : Int) := by have := HA.out; omega
          have HBU := Lib.hid (burst_any w5.drew wo.heap.size _ (bt recs) a z at' bits hrow6 (by have := HA.out; omega) hzl (by omega) hat hbits)
          have hen := hurt_end (at' := at') (bits := bits) hkl HDA.out.len HA.out.1 HA.out.2.1
          have hhl := hurt_len (first := at' % (8 * (z - a))) (many := 8 * (z - a)) (bits := bits) (i := 32) hzl (by have := HA.out; omega : a ≤ z)
          generalize hurt (bt recs) a z (at' % (8 * (z - a))) (8 * (z - a)) bits 32 = hu at *
          obtain ⟨tb, htb⟩ : ∃ tb, tb = decide (mask (at' % (8 * (z - a))) (8 * (z - a)) bits 32 ≠ 0) := ⟨_, rfl⟩
          rw [← htb] at HBU
          obtain ⟨recs', r', hF, hrl', hrs⟩ := hen
          have hlen' : recs'.length = if tb = true then kk else recs.length := by
            rw [hrl', htb]
            by_cases hm : mask (at' % (8 * (z - a))) (8 * (z - a)) bits 32 ≠ 0
            · rw [if_pos hm, if_pos (decide_eq_true hm)]
            · rw [if_neg hm, if_neg (by rw [decide_eq_false hm]; simp)]
          have HEN := Lib.hid (And.intro hF (And.intro hlen' (And.intro hrs hhl)))
          clear htb hF hrl' hlen' hrs hhl hb6 hrow6 e5 l5
          generalize w5.drew = w6 at *
          go_wp2_with fail
          refine HBU.out.mono ?_
          rintro e w7 ⟨rfl, hrow7, hg7⟩
          obtain ⟨hld, hS⟩ := HLD.out
          have c67 : Ch (fun k => (Value.slice Ab (bt recs).length cb).ownBlock = some k) w6 w7 := Ch.of_grown hg7 (fun _ h _ => h)
          have ow6 : ∀ k, (Value.slice Ab (bt recs).length cb).ownBlock = some k → wo.heap.size ≤ k := fun k hk => (HB6.out.2.lt k hk).1
          have gwo := HDA.out.below.size
          have g0 := HDA.out.g0
          have hld7 := lds_far (hld.later HB6.out.1) c67 (fun k hk hx => by have := hld.b1 k hk; have := ow6 k hx; omega) (fun k hk hx => by have := hld.b2 k hk; have := ow6 k hx; omega) (fun hx => by have := ow6 _ hx; omega)
          have hml := HDA.out.ml
          have hm7 := (HX.out.2.2.ch (Ch.of_below (S := fun _ => False) HB6.out.1 (Nat.le_refl _)) (fun h => h)).ch c67 (fun hx => by have := ow6 _ hx; omega)
          have s6 := HB6.out.1.size
          have s7 := c67.size
          have hbw7 : Below w.heap.size w w7 := (HDA.out.below.trans (HB6.out.1.mono gwo)).trans (c67.below (fun k hk hx => by have := ow6 k hx; omega) (by omega))
          have hrow7' := hrow7
          rw [← HEN.out.2.2.2] at hrow7'
          have HWR := Lib.hid (write_on w7 S2 S2 p _ 1048576 false (nm lg 1) (by rw [nm_log1]; simp) hld7.dk 0 hu Ab cb (Sl.of_own hrow7' (fun k h1 h2 h3 => by have := hld.b2 k h3; omega)) (fun _ h => h) (by rw [HEN.out.2.2.2]; omega))
          rw [write_one HEN.out.2.2.2 hbf, nm_log1, HEN.out.2.2.2] at HWR
          have H7 := Lib.hid (And.intro hld7 (And.intro hm7 hbw7))
          have HSB := Lib.hid hS
          clear hld hS c67 ow6 hld7 hm7 hbw7 hrow7 hrow7' hg7 HBU
          go_wp2_with fail
          refine HWR.out.mono ?_
          intro e w8 hdid
          have h8 := H7.out.1.disk hdid
          obtain ⟨rfl, -, hc8⟩ := hdid
          have H8 := Lib.hid (And.intro h8.1 hc8)
          have HSY := Lib.hid (sync_on w8 _ p _ 1048576 false (nm lg 1) (by rw [nm_log1]; simp) h8.1.dk)
          rw [show (([fl1 hu 0], 0) : List Fl × Nat).1 = [fl1 hu 0] from rfl, sync_one, nm_log1] at HSY
          have s8 := hc8.size
          clear h8 hc8 HWR
          go_wp2_with fail
          refine HSY.out.mono ?_
          intro e w9 hdid
          have h9 := H8.out.1.disk hdid
          obtain ⟨rfl, -, hc9⟩ := hdid
          have s9 := hc9.size
          have hL9 := loads_one (d := hu.length) HEN.out.1 (by rw [HEN.out.2.2.2]; omega)
          have HOP2 := Lib.hid (open_segs w9 _ p 1048576 lg 4194304 [fl1 hu hu.length] [] (sg1 recs') h9.1.dk h9.1.b2 h9.1.tab h9.1.z2 okName_lg (by omega) (by omega) hL9 (by simp [fl1, sg1]) (by simp [sg1]) (by simp [find, fl1, nm_ne]))
          have H9 := Lib.hid (And.intro h9.1 hc9)
          clear h9 hc9 hL9 HSY
          go_wp2_with fail
          refine HOP2.out.mono ?_
          rintro e wA ⟨g2, T1, T2, rfl, hDA2, hSA⟩
          have sA := hSA.ch.size
          obtain ⟨gb1, cap1, hC1, hgb1, -⟩ := H9.out.1.cells (by simp)
          have hg1 : S1 g := by obtain ⟨_, _, _, h, _⟩ := H9.out.1.lg; exact h
          have hCA := hC1.ch hSA.ch (fun h => h.elim (fun h => h) (fun h => H9.out.1.apart g hg1 h)) (fun h => h.elim (fun h => h) (fun h => H9.out.1.apart gb1 hgb1 h))
          obtain ⟨gb2, cap2, hC2, -, -⟩ := hDA2.cells (by simp)
          have hS2m : ¬ S2 m := fun h => (HSB.out m (.inr h)).2.1 rfl
          have hm8 := H7.out.2.1.ch H8.out.2 hS2m
          have hm9 := hm8.ch H9.out.2 (fun h => by rcases h with h | h; exact hS2m h; omega)
          have hmA := hm9.ch hSA.ch (fun h => by
            rcases h with h | h
            · exact h
            · rcases h with h | h
              · rcases h with h | h
                · exact hS2m h
                · omega
              · omega)
          have hS2w : ∀ k, S2 k → w.heap.size ≤ k := fun k h => (HSB.out k (.inr h)).1
          have z7 := H7.out.2.2.size
          have hbw8 := H7.out.2.2.trans (H8.out.2.below (fun k hk h => by have := hS2w k h; omega) z7)
          have hbw9 := hbw8.trans (H9.out.2.below (fun k hk h => by rcases h with h | h; (have := hS2w k h; omega); omega) hbw8.size)
          have hbwA := hbw9.trans (hSA.ch.below (fun k hk h => by
            rcases h with h | h
            · exact h
            · rcases h with h | h
              · rcases h with h | h
                · have := hS2w k h; omega
                · omega
              · omega) hbw9.size)
          have hal := hDA2.lg
          have HAL := Lib.hid (all_log wA T1 g2 p lg 4194304 ([] ++ [sg1 recs']) _ hal (by simp) (by simp))
          have HFA := Lib.hid (And.intro hCA (And.intro hC2 (And.intro hmA hbwA)))
          have hrl2 := (bt_len recs).2
          have hl2 := HEN.out.2.1
          have hrle : recs'.length ≤ recs.length := by rw [hl2]; split <;> omega
          have HRLE := Lib.hid hrle
          clear hDA2 hSA hC1 hCA hC2 hm8 hm9 hmA hbw8 hbw9 hbwA hal HOP2 hl2 hrle
          go_wp2_with fail
          refine HAL.out.mono ?_
          rintro e wB ⟨Bn, AB, cB, rv, rfl, hBB, hsB, hBl, hbB⟩
          have HKE := Lib.hid (kept_any wB _ Bn AB cB ([] ++ [sg1 recs']) rv m hBB hsB (by simp) (fun s hs => by
              simp only [List.nil_append, List.mem_singleton] at hs
              subst hs
              show recs'.length ≤ 4194304
              have := HRLE.out; omega) (fun s hs x hx => by
              simp only [List.nil_append, List.mem_singleton] at hs
              subst hs
              obtain ⟨j, hj, rfl⟩ := List.getElem_of_mem (show x ∈ recs' from hx)
              obtain ⟨h', e⟩ := HEN.out.2.2.1 j hj
              rw [e]
              have := HDA.out.len _ (List.getElem_mem h')
              omega) (fun W hW p hp => by
              obtain ⟨j, hj, rfl⟩ := mem_one hp
              obtain ⟨h', e⟩ := HEN.out.2.2.1 j hj
              obtain ⟨_, Aj, cj, hvj, hsj⟩ := HDA.out.vs j (by rw [HVL.out]; exact h')
              have hb : Below wA.heap.size wA W := hbB.trans (hW.mono hbB.size)
              refine ⟨.slice Aj recs[j].length cj, ?_, ?_⟩
              · exact (HFA.out.2.2.1.ch (Ch.of_below (S := fun _ => False) hb (Nat.le_refl _)) (fun h => h)).look (by rw [← hvj]; exact List.getElem?_eq_getElem _) (by rw [HVL.out]; omega)
              · have hbW : Below w.heap.size w W := HFA.out.2.2.2.trans (hb.mono HFA.out.2.2.2.size)
                simp only [e]
                exact (hsj.below hbW (fun k h1 h2 => h2)).weaken (fun k _ h => h.elim)))
          have HBB := Lib.hid hbB
          clear hBB hsB hBl hbB HAL
          go_wp2_with fail
          refine HKE.out.mono ?_
          rintro e wC ⟨rfl, hbC⟩
          have hbAC : Below wA.heap.size wA wC := HBB.out.trans (hbC.mono HBB.out.size)
          have HLM := Lib.hid (lastn_log wC g2 p gb2 cap2 lg 4194304 [] (sg1 recs') _ (HFA.out.2.1.after hbAC) (by simp))
          have HLL := fun W (hW : Below wA.heap.size wA W) => Lib.hid (lastn_log W g p gb1 cap1 lg 4194304 [] (sg1 recs) _ (HFA.out.1.after hW) (by simp))
          have hlm : lastS (sg1 recs') = (recs'.length : Int) := by unfold lastS; simp only [sg1]; omega
          have hll : lastS (sg1 recs) = (recs.length : Int) := by unfold lastS; simp only [sg1]; omega
          rw [hlm] at HLM
          rw [hll] at HLL
          have HBC := Lib.hid (And.intro hbAC (HFA.out.2.2.2.trans (hbAC.mono HFA.out.2.2.2.size)))
          have hl3 := HEN.out.2.1
          clear hbC hbAC hlm hll HKE
          cases tb with
          | true =>
            rw [if_pos rfl] at hl3
            rw [hl3] at HLM
            have hbk : ((kk : Int) == (kk : Int)) = true := beq_self_eq_true _
            clear hl3
            go_wp2_with fail
            refine HLM.out.mono ?_
            rintro e wD ⟨rfl, hbD⟩
            have HD := Lib.hid (HBC.out.2.trans (hbD.mono HBC.out.2.size))
            clear hbD
            go_wp2_with fail
            go_ret
            exact ⟨rfl, HD.out⟩
          | false =>
            rw [if_neg (by simp)] at hl3
            rw [hl3] at HLM
            have hbk : ((recs.length : Int) == (recs.length : Int)) = true := beq_self_eq_true _
            clear hl3
            go_wp2_with fail
            refine HLM.out.mono ?_
            rintro e wD ⟨rfl, hbD⟩
            have HLD2 := HLL wD (HBC.out.1.trans (hbD.mono HBC.out.1.size))
            have HD := Lib.hid (HBC.out.2.trans (hbD.mono HBC.out.2.size))
            clear hbD
            go_wp2_with fail
            refine HLD2.out.mono ?_
            rintro e wE ⟨rfl, hbE⟩
            have HE := Lib.hid (HD.out.trans (hbE.mono HD.out.size))
            clear hbE
            go_wp2_with fail
            go_ret
            exact ⟨rfl, HE.out⟩
end Go.Proofs.YtjjfhbbaabakmaaGreatDoor.Ul

/-
  Opening a list of byte strings under the form's own reach.
-/
namespace Go.Proofs.YtjjfhbbaabakmaaGreatDoor.Um
set_option linter.unusedSimpArgs false
open Go Go.RowKit Go.ChangeShapes Go.WideShapes Go.ChangeAt Go.Deep Ck Kp
set_option linter.unusedVariables false

section
variable {H : Type} {enc : TypeId × Value → H}
theorem cells_sl : Tryz.prog.cellsOf 32 = 1 := by kernel_rfl
theorem bytes_sl : Tryz.prog.bytesOf 32 = 24 := by kernel_rfl
theorem open_listsW {w : World} {fuel : Nat} {base : Nat} {v : Value} {x : DataW H × List MemPlace} (h : DataW.trod enc Tryz.prog w base (fun _ => true) true fuel 47 [v] = some x) :
    ∃ ls : List (List UInt8), Ls w (fun k => w.heap.size ≤ k) v ls ∧ ∀ R, (∀ n ∈ x.1.weights Tryz.prog 47, n ≤ R) → ls.length * 24 ≤ R ∧ ∀ l ∈ ls, l.length ≤ R := by
  rcases open_slice1 Tryz.underlying47 cells_sl h with ⟨hcs, rfl⟩ | ⟨a, len, cap, m, n, V, D, Pl, hcs, _, hl, hm, hmm, rfl, hx⟩
  · obtain rfl : v = .slice none 0 0 := by simpa using hcs
    exact ⟨[], ⟨[], Sl.nil _ _ _, fun i hi => absurd hi (by simp)⟩, fun R _ => by simp⟩
  · obtain rfl : v = .slice (some a) len cap := by simpa using hcs
    simp only [if_true] at hmm
    have each : ∀ r, ∃ b : List UInt8, r < len → w.cell? (a.add r) = some (V r) ∧ Sl w (fun k => w.heap.size ≤ k) 1 (V r) b.length (BVs b) ∧ ∀ R, (∀ n ∈ (D r).weights Tryz.prog 32, n ≤ R) → b.length ≤ R := by
      intro r
      by_cases hr : r < len
      · obtain ⟨hc, ht⟩ := hx r (by omega)
        obtain ⟨b, hb1, hb2⟩ := open_bytesW ht
        exact ⟨b, fun _ => ⟨hc, hb1, hb2⟩⟩
      · exact ⟨[], fun h => absurd h hr⟩
    obtain ⟨f, hf⟩ := Classical.axiomOfChoice each
    refine ⟨(List.range len).map f, ⟨(List.range len).map V, ?_, fun i hi => ?_⟩, fun R hR => ⟨?_, fun l hl2 => ?_⟩⟩
    · refine ⟨some a, cap, by simp, by simp, by simpa using hl, hm, fun hn => ?_⟩
      have hn' : 0 < len := by simpa using hn
      have h0 := (hf 0 hn').1
      refine ⟨a, rfl, by have := World.block_lt_of_cell? w _ h0; rw [add_block] at this; exact this, by have := World.block_lt_of_cell? w _ h0; rw [add_block] at this; omega, fun j u hu => ?_⟩
      have hj : j < ((List.range len).map V).length := (List.getElem?_eq_some_iff.1 hu).1
      simp only [List.length_map, List.length_range] at hj
      rw [(hf j hj).1, ← hu]
      simp [hj]
    · have hi' : i < len := by simpa using hi
      refine ⟨V i, by simp [hi'], ?_⟩
      simpa using (hf i hi').2.1
    · have := hR _ (by simp only [DataW.weights, Tryz.underlying47]; exact List.mem_cons_self)
      rw [bytes_sl] at this
      simp only [List.length_map, List.length_range] at this ⊢
      omega
    · obtain ⟨r, hr, rfl⟩ := List.mem_map.1 hl2
      have hr' : r < len := by simpa using hr
      refine (hf r hr').2.2 R (fun n hn => hR n ?_)
      simp only [DataW.weights, Tryz.underlying47, List.mem_cons, List.mem_append]
      exact .inr (.inl (all_mem hn (List.mem_map.2 ⟨r, hr, rfl⟩)))

end
end Go.Proofs.YtjjfhbbaabakmaaGreatDoor.Um

/-
  Layer 4: WalSure's walk.
-/
import Derived.Test.YtjjfhbbaabakmaaGreatDoorWS19
import Derived.Lib.MinMax
import Derived.Deep.RegionLaw
import Derived.Test.YtjjfhbbaabakmaaGreatDoorWS02
namespace Go.Proofs.YtjjfhbbaabakmaaGreatDoor.Us
set_option linter.unusedSimpArgs false
open Go Go.RowKit Cm Ck Kw Ga Dm Dw Da Db Dc Dd De Df Dg Dh Dj Wc Wf Wa Wb Wd Wn We Kx Wg Wh Wl Wj Wk Wo Wq Wr Ws Wt Wu Wv Ww Wx Wy Wz Va Vb Vc Vd Ug Uh Uj Uk Ul Uo Up Uq Ur
attribute [local go_sem ↓] Go.wp_at_zero Go.wp_at_succ
set_option linter.unusedVariables false
set_option maxRecDepth 100000

/-- An operation of a script. -/
structure Od where
  z : Int
  b : Bs
  n : Int
  k : Int
/-- The operations, as they were handed in, lie in world w. -/
def Ops (w : World) (A : Option Addr) (os : List Od) : Prop :=
  ∀ i (h : i < os.length), ∃ ad B c, A = some ad ∧ (ad.add (i * 4)).block < w.heap.size ∧ w.cell? (ad.add (i * 4)) = some (.int .i64 os[i].z) ∧ w.cell? ⟨(ad.add (i * 4)).block, (ad.add (i * 4)).off + 1, none⟩ = some (.slice B os[i].b.length c)
    ∧ w.cell? ⟨(ad.add (i * 4)).block, (ad.add (i * 4)).off + 2, none⟩ = some (.int .i64 os[i].n) ∧ w.cell? ⟨(ad.add (i * 4)).block, (ad.add (i * 4)).off + 3, none⟩ = some (.int .i64 os[i].k)
    ∧ Sl w (fun k => w.heap.size ≤ k) 1 (.slice B os[i].b.length c) os[i].b.length (BVs os[i].b)
theorem ops_at {w wr : World} {A : Option Addr} {os : List Od} (h : Ops w A os) {i : Nat} (hi : i < os.length) (b : Below w.heap.size w wr) :
    ∃ ad B c, A = some ad ∧ wr.cell? (ad.add (i * 4)) = some (.int .i64 os[i].z) ∧ wr.cell? ⟨(ad.add (i * 4)).block, (ad.add (i * 4)).off + 1, none⟩ = some (.slice B os[i].b.length c)
    ∧ wr.cell? ⟨(ad.add (i * 4)).block, (ad.add (i * 4)).off + 2, none⟩ = some (.int .i64 os[i].n) ∧ wr.cell? ⟨(ad.add (i * 4)).block, (ad.add (i * 4)).off + 3, none⟩ = some (.int .i64 os[i].k)
    ∧ Sl w (fun k => w.heap.size ≤ k) 1 (.slice B os[i].b.length c) os[i].b.length (BVs os[i].b) := by
  obtain ⟨ad, B, c, hA, hlt, c0, c1, c2, c3, hs⟩ := h i hi
  have k : ∀ {a : Addr} {v : Value}, a.block = (ad.add (i * 4)).block → w.cell? a = some v → wr.cell? a = some v := fun {a v} ha hc => by rw [b.cell (by rw [ha]; exact hlt)]; exact hc
  exact ⟨ad, B, c, hA, k rfl c0, k rfl c1, k rfl c2, k rfl c3, hs⟩
theorem inv_begin : Inv [⟨nm lg 1, head 1, (head 1).length⟩] [] ⟨1, 1, (head 1).length, []⟩ 0 [] := by
  refine ⟨⟨fun i hi => by simp at hi, fun t ht j x hj => ?_, fun t ht => ?_, fun x hx => by simp at hx⟩, rfl, 0, Nat.le_refl _, rfl, ?_⟩
  · simp only [List.nil_append, List.mem_singleton] at ht
    subst ht
    simp at hj
  · simp only [List.nil_append, List.mem_singleton] at ht
    subst ht
    simp [bts, frames]
  · simp [fl, bts, frames]
theorem byte_one (b : Bs) : ∀ u ∈ BVs b, u.oneCell' = true := by
  intro u hu
  simp only [BVs, List.mem_map] at hu
  obtain ⟨x, -, rfl⟩ := hu
  rfl
theorem mem_all : ∀ {l : List Sg} {p : Nat × Tx}, p ∈ allOf l → ∃ t ∈ l, ∃ j, ∃ h : j < t.recs.length, p = (t.first + j, t.recs[j])
  | [], p, h => by simp [allOf] at h
  | s :: l, p, h => by
    rcases List.mem_append.1 (show p ∈ Uf.offs s.first s.recs ++ allOf l from h) with h | h
    · obtain ⟨j, hj, rfl⟩ := List.getElem_of_mem h
      have hj' : j < s.recs.length := by rw [Uf.offs_len] at hj; exact hj
      exact ⟨s, by simp, j, hj', Uf.offs_get s.first s.recs j hj'⟩
    · obtain ⟨t, ht, r⟩ := mem_all h
      exact ⟨t, by simp [ht], r⟩
/-- What was had, in world W. -/
structure HV (b m : Nat) (R : List Bs) (vals : List Value) (W : World) : Prop where
  had : ∃ D, HadM W m vals D
  vs : ∀ (j : Nat) (v : Value), vals[j]? = some v → ∃ x : Bs, R[j]? = some x ∧ ∃ A c, v = .slice A x.length c ∧ W.ownsRow b 5 1 v x.length (BVs x)
section
variable {b m : Nat} {R : List Bs} {vals : List Value} {W W' : World}
theorem HV.ch {X : Nat → Prop} (h : HV b m R vals W) (c : Ch X W W') (hX : ∀ k, X k → k ≠ m ∧ ∀ v ∈ vals, v.ownBlock ≠ some k) : HV b m R vals W' := by
  obtain ⟨D, hD⟩ := h.had
  refine ⟨⟨D, hD.ch c (fun hx => (hX m hx).1 rfl)⟩, fun j v hj => ?_⟩
  obtain ⟨x, h1, A, cc, h2, h3⟩ := h.vs j v hj
  exact ⟨x, h1, A, cc, h2, own_ch h3 c (fun k hk hx => (hX k hx).2 v (List.mem_of_getElem? hj) hk)⟩
theorem HV.later (h : HV b m R vals W) (hb : Below W.heap.size W W') : HV b m R vals W' := h.ch (Ch.of_below (S := fun _ => False) hb (Nat.le_refl _)) (fun _ h => h.elim)
/-- None of its blocks is new. -/
theorem HV.old (h : HV b m R vals W) : ∀ k, W.heap.size ≤ k → k ≠ m ∧ ∀ v ∈ vals, v.ownBlock ≠ some k := by
  obtain ⟨D, hD⟩ := h.had
  have hm := hD.own.lt
  refine fun k hk => ⟨by omega, fun v hv e => ?_⟩
  obtain ⟨j, hj, rfl⟩ := List.getElem_of_mem hv
  obtain ⟨x, -, A, c, -, ho⟩ := h.vs j _ (List.getElem?_eq_getElem hj)
  have := (ho.lt k e).2
  omega
theorem HV.kept {segs : List Sg} (h : HV b m R vals W) (hvl : vals.length = R.length) (hr : Row segs R) (hR : R.length ≤ 9007199258935296) : ∀ W', Below W.heap.size W W' → ∀ p ∈ allOf segs, ∃ V, (Instr.lookup 31 (.map (some m)) (.int .i64 (p.1 : Int)) false).run Tryz.prog W' = .ok V W' ∧ Sl W' (fun _ => False) 1 V p.2.length (BVs p.2) := by
  intro W' hb p hp
  have h' := h.later hb
  obtain ⟨t, ht, j, hj, rfl⟩ := mem_all hp
  have h1 := (hr.size t ht).2.1
  have hR' := hr.recs t ht j _ (List.getElem?_eq_getElem hj)
  have hlt := (List.getElem?_eq_some_iff.1 hR').1
  have hv := List.getElem?_eq_getElem (show t.first - 1 + j < vals.length by omega)
  obtain ⟨x, q1, A, c, q2, q3⟩ := h'.vs _ _ hv
  obtain rfl : t.recs[j] = x := Option.some.inj (hR'.symm.trans q1)
  obtain ⟨D, hD⟩ := h'.had
  rw [q2] at q3 hv
  refine ⟨.slice A t.recs[j].length c, ?_, Sl.of_own q3 (fun _ _ _ h => h)⟩
  have := hD.look hv (by omega)
  rw [show t.first - 1 + j + 1 = t.first + j by omega] at this
  exact this
end
theorem first_of {ls : List Sg} {s s' : Sg} (h : s'.first = s.first) : ∃ a r a' r', ls ++ [s] = a :: r ∧ ls ++ [s'] = a' :: r' ∧ a'.first = a.first ∧ r.length = ls.length ∧ r'.length = ls.length := by
  cases ls with
  | nil => exact ⟨s, [], s', [], rfl, rfl, h, rfl, rfl⟩
  | cons t l => exact ⟨t, l ++ [s], t, l ++ [s'], rfl, rfl, rfl, by simp, by simp⟩
set_option maxHeartbeats 8000000 in
theorem sure_any (w : World) (hT : Tab w) (A : Option Addr) (c : Nat) (os : List Od) (keep : Int) (ho : Ops w A os) (hl : os.length ≤ 140737488355328) (hk1 : -9223372036854775808 ≤ keep) (hk2 : keep ≤ 9223372036854775807) :
    Calls Tryz.prog 3 #[.slice A os.length c, .int .i64 keep] w fun e w' => e = .returned (.bool true) ∧ Below w.heap.size w w' := by
  have HT := Lib.hid hT
  have HO := Lib.hid ho
  have HK := Lib.hid (And.intro hk1 hk2)
  clear hT ho hk1 hk2
  go_enter Tryz.func3, Tryz.ntmps3
  go_wp2_with fail
  refine (new_ok w 16384 (by omega)).mono ?_
  rintro e w1 ⟨p, rfl, hd1, hb1⟩
  have hs1 := hb1.size
  have HOP := Lib.hid (open_empty w1 _ p 16384 lg 64 hd1 (fun k hk => hk.2) (HT.out.after hb1) (fun hk => by have := HT.out.lt; have := hk.1; omega) okName_lg (by omega) (by omega) (by omega))
  have HB1 := Lib.hid hb1
  clear hd1 hb1
  go_wp2_with fail
  refine HOP.out.mono ?_
  rintro e w2 ⟨g, S1, S2, rfl, hD2, hS2⟩
  have HD2 := Lib.hid (And.intro hD2 hS2)
  clear hD2 hS2 HOP
  go_wp2_with fail
  refine (begun_any w2 HD2.out.1.tab).mono ?_
  rintro e w3 ⟨rfl, hb3⟩
  have HB3 := Lib.hid hb3
  clear hb3
  have hmm := @run_makeMap Tryz.prog
  have s3 := HB3.out.size
  have s2 := HD2.out.2.ch.size
  have h4 := op_below w3 (.map #[] 0)
  have hda : SA w p g w3.heap.size [] [] (w3.alloc (.map #[] 0)) := by
    have hb2 : Below w.heap.size w w2 := HB1.out.trans (HD2.out.2.ch.below (fun k hk h => by
      rcases h with h | h
      · exact h
      · have := h.1; omega) hs1)
    refine ⟨(hb2.trans (HB3.out.mono hb2.size)).trans (h4.mono (by have := hb2.size; omega)), ⟨S1, S2, _, [], _, 0, (HD2.out.1.later HB3.out).later h4, inv_begin, fun k hk => ?_⟩, ⟨.map [], ⟨World.ownsMap_made w3 _ _ _, fun j v hj => by simp at hj⟩⟩, by omega, by simp, fun j v hj => by simp at hj, HT.out.lt⟩
    have hu : w.heap.size ≤ k ∧ k < w2.heap.size := by
      rcases hk with hk | hk
      · refine ⟨?_, HD2.out.1.b1 k hk⟩
        rcases HD2.out.2.s1 k hk with h | h
        · exact h.elim
        · omega
      · refine ⟨?_, HD2.out.1.b2 k hk⟩
        rcases HD2.out.2.s2 k hk with h | h
        · exact h.1
        · omega
    exact ⟨hu.1, by omega, by simp⟩
  have HDA := Lib.hid hda
  clear hda h4 s3 s2
  go_wp2_with fail
  generalize w3.alloc (.map #[] 0) = w4 at *
  generalize w3.heap.size = m at *
  go_loopw [45] (fun i wr => ∃ (k : Nat) (R : List Bs) (vals : List Value), k ≤ os.length ∧ i = .int .i64 k ∧ vals.length = R.length ∧ SA w p g m R vals wr) (fun i _ => os.length - (intOf i).toNat)
  case atStart => exact ⟨0, [], [], Nat.zero_le _, rfl, rfl, HDA.out⟩
  case round =>
    obtain ⟨k, R, vals, hk, rfl, hvl, hda⟩ := hrel
    clear HDA
    have HVL := Lib.hid hvl
    have HDA := Lib.hid hda
    clear hvl hda
    by_cases hlt : k < os.length
    · obtain ⟨ad, B, cB, hA, c0, c1, c2, c3, hsl⟩ := ops_at HO.out hlt HDA.out.below
      subst hA
      have h0k : (0 : Int) ≤ (k : Int) := by omega
      have hkl : (k : Int) < (os.length : Int) := by omega
      generalize os[k] = o at *
      obtain ⟨z, x, n, kk⟩ := o
      simp only at c0 c1 c2 c3 hsl
      have hbx := op_below wr (.cells #[.int .i64 z, .slice B x.length cB, .int .i64 n, .int .i64 kk] 34)
      have HBX := Lib.hid hbx
      have HAP := Lib.hid (HDA.out.app hbx B cB x hsl)
      have HSL := Lib.hid hsl
      have hblk : Blk (wr.alloc (.cells #[.int .i64 z, .slice B x.length cB, .int .i64 n, .int .i64 kk] 34)) wr.heap.size 34 #[.int .i64 z, .slice B x.length cB, .int .i64 n, .int .i64 kk] := Blk.new wr _ _
      have HBL := Lib.hid hblk
      clear hsl hbx hblk
      by_cases h0 : z = 0
      · subst h0
        go_wp2_with fail
        generalize wr.alloc (.cells #[.int .i64 0, .slice B x.length cB, .int .i64 n, .int .i64 kk] 34) = wx at *
        refine HAP.out.mono ?_
        rintro e wa ⟨hca, ⟨rfl, hda, hxl⟩ | ⟨q, hq, rfl, hda⟩⟩
        · have hba := HBL.out.ch hca (fun h => by omega)
          have e1 := hba.cell 1
          simp only [List.getElem?_toArray, List.getElem?_cons_zero, List.getElem?_cons_succ] at e1
          have HCL := Lib.hid (clone_b _ _ _ _ wa (HSL.out.below hda.below (fun k hk hX => hX)) (byte_one x) (by omega))
          have HDB := Lib.hid hda
          clear hda hba hca HAP
          go_wp2_with fail
          refine HCL.out.mono ?_
          rintro e wb ⟨A2, c2, rfl, ho2, hb2⟩
          obtain ⟨wc, hrun, hdc⟩ := HDB.out.put HVL.out ho2 hb2
          rw [show ((R.length + 1 : Nat) : Int) = (R.length : Int) + 1 from by omega] at hrun
          have HDC := Lib.hid hdc
          clear hdc ho2 hb2 HCL HDB
          go_wp2_with fail
          go_roundw
          case rel => exact ⟨k + 1, R ++ [x], vals ++ [.slice A2 x.length c2], by omega, by go_num, by rw [List.length_append, List.length_append, HVL.out]; rfl, HDC.out⟩
          case measure => simp [intOf]; omega
        · have hq2 : ((q : Int) == 0) = false := by rw [beq_eq_false_iff_ne]; omega
          have HDB := Lib.hid hda
          clear hda hca HAP
          go_wp2_with fail
          go_roundw
          case rel => exact ⟨k + 1, R, vals, by omega, by go_num, HVL.out, HDB.out⟩
          case measure => simp [intOf]; omega
      · have z0 : (z == 0) = false := by rw [beq_eq_false_iff_ne]; exact h0
        clear HAP
        by_cases h1 : z = 1
        · subst h1
          have HSY := Lib.hid (HDA.out.later HBX.out).sync
          go_wp2_with fail
          refine HSY.out.mono ?_
          rintro e wa ⟨⟨q, rfl⟩, hda⟩
          have HDB := Lib.hid hda
          clear hda HSY
          go_wp2_with fail
          go_roundw
          case rel => exact ⟨k + 1, R, vals, by omega, by go_num, HVL.out, HDB.out⟩
          case measure => simp [intOf]; omega
        · have z1 : (z == 1) = false := by rw [beq_eq_false_iff_ne]; exact h1
          by_cases h2 : z = 2
          · subst h2
            have HSY := Lib.hid (HDA.out.later HBX.out).roll
            go_wp2_with fail
            refine HSY.out.mono ?_
            rintro e wa ⟨⟨q, rfl⟩, hda⟩
            have HDB := Lib.hid hda
            clear hda HSY
            go_wp2_with fail
            go_roundw
            case rel => exact ⟨k + 1, R, vals, by omega, by go_num, HVL.out, HDB.out⟩
            case measure => simp [intOf]; omega
          · have z2 : (z == 2) = false := by rw [beq_eq_false_iff_ne]; exact h2
            by_cases h3 : z = 3
            · subst h3
              go_wp2_with fail
              generalize wr.alloc (.cells #[.int .i64 3, .slice B x.length cB, .int .i64 n, .int .i64 kk] 34) = wx at *
              have e2 := HBL.out.cell 2
              simp only [List.getElem?_toArray, List.getElem?_cons_zero, List.getElem?_cons_succ] at e2
              obtain ⟨y, hy⟩ := HDA.out.synced
              have HY := Lib.hid hy
              clear hy
              go_region_held3 (fun W => W.cell? ⟨wr.heap.size, 2, none⟩ = some (.int .i64 n)) (first | exact e2 | exact d2)
                (first
                | (go_at_call 13; refine (HY.out _ (below_drewN HBX.out 1)).mono ?_; rintro e w5 ⟨rfl, rfl⟩)
                | (go_at_call 12; refine (HDA.out.prune (below_drewN HBX.out 1) _).mono ?_; rintro e w6 ⟨⟨v6, rfl⟩, hc6, hd6⟩; have d2 := hc6.cell e2 (fun h => by simp at h); have HD6 := Lib.hid hd6; clear hc6 hd6))
              all_goals
                go_wp2_with fail
                go_roundw
                case rel => exact ⟨k + 1, R, vals, by omega, by go_num, HVL.out, HD6.out⟩
                case measure => simp [intOf]; omega
            · have z3 : (z == 3) = false := by rw [beq_eq_false_iff_ne]; exact h3
              have HDB := Lib.hid (HDA.out.later HBX.out)
              go_wp2_with fail
              go_roundw
              case rel => exact ⟨k + 1, R, vals, by omega, by go_num, HVL.out, HDB.out⟩
              case measure => simp [intOf]; omega
    · obtain ⟨S1, S2, L, ls, s, y, hld, hinv, hS⟩ := HDA.out.ld
      have hfew := few_segs hld hinv
      have hR := few_recs hld hinv
      have HHV : Hid (HV w.heap.size m R vals wr) := Lib.hid ⟨HDA.out.had, HDA.out.vs⟩
      obtain ⟨k', b', r', hk1', hk2', hrow, hp, hF⟩ := hinv.crash (Dm.size keep)
      obtain ⟨s0, r0, s0', r0', he0, he0', hef, hrl, hrl'⟩ := first_of (ls := ls) (s := s) (s' := cut s k') rfl
      obtain ⟨gb, cap, hC, hgb, -⟩ := hld.cells (by simp)
      have HSY := Lib.hid (synced_log wr g p gb cap lg 64 (ls ++ [s]) y hC)
      have HLA := Lib.hid (lastn_log wr g p gb cap lg 64 ls s y hC (by omega))
      have hls : lastS s = (R.length : Int) := by have := hinv.all; unfold lastS; omega
      rw [hls] at HLA
      have hC0 := hC
      rw [he0] at hC0
      have HFI : Hid (∀ W, Below wr.heap.size wr W → Calls Tryz.prog 15 #[.pointer (some ⟨g, 0, none⟩)] W fun e w' => e = .returned (.int .i64 (s0.first : Int)) ∧ W = w') := Lib.hid fun W hW => first_log W g p gb cap lg 64 s0 r0 y (hC0.after hW) (by omega)
      have HLD := Lib.hid (And.intro hld hS)
      have HRW := Lib.hid (And.intro hrow (And.intro hp hF))
      have hq : (cut s k').first + (cut s k').recs.length - 1 = s.first + k' - 1 := by simp [cut]; omega
      have hs1 : 1 ≤ s.first := (hinv.row.size s (by simp)).2.1
      have hall := hinv.all
      obtain ⟨q, hqe⟩ : ∃ q, q = s.first + k' - 1 := ⟨_, rfl⟩
      have hqy : ¬ (q : Int) < (y : Int) := by omega
      have hqR : ¬ (R.length : Int) < (q : Int) := by omega
      have HQ := Lib.hid (And.intro hq hqe)
      have hlc : lastS (cut s k') = (q : Int) := by simp [lastS, cut]; omega
      have HLC := Lib.hid hlc
      have hff : ((s0'.first : Int) == (s0.first : Int)) = true := by rw [hef]; exact beq_self_eq_true _
      have HE := Lib.hid (And.intro he0' (And.intro hef hrl'))
      clear hC hC0 he0 he0' hls hld hinv hS hrow hp hF hk1' hk2' hq hs1 hall hqe hlc hrl
      go_wp2_with fail
      refine HSY.out.mono ?_
      rintro e w5 ⟨rfl, rfl⟩
      go_wp2_with fail
      refine HLA.out.mono ?_
      rintro e w5 ⟨rfl, hb5⟩
      have HB5 := Lib.hid hb5
      clear hb5 HLA HSY
      go_wp2_with fail
      refine (HFI.out _ HB5.out).mono ?_
      rintro e w6 ⟨rfl, rfl⟩
      have hcr : crashS L false keep = (L.map (tear (Dm.size keep)), 0) := rfl
      have HCR := Lib.hid (crash_on w5 S2 p L 16384 false keep HK.out.1 HK.out.2 (HLD.out.1.later HB5.out).dk)
      rw [hcr] at HCR
      clear hcr HFI
      go_wp2_with fail
      refine HCR.out.mono ?_
      rintro e w6 ⟨rfl, hd6, hc6⟩
      have HD6 := Lib.hid (And.intro hd6 hc6)
      have HRE := Lib.hid (restart_on w6 _ p _ 16384 true hd6)
      clear hd6 hc6 HCR
      go_wp2_with fail
      refine HRE.out.mono ?_
      rintro e w7 ⟨he7, hd7, hc7⟩
      rw [if_pos trivial] at he7
      subst he7
      have s5 := HB5.out.size
      have s6 := HD6.out.2.size
      have s7 := hc7.size
      have swr := HDA.out.below.size
      have hv5 := HHV.out.later HB5.out
      have hUp : ∀ k, Up S2 w5 w6 k → w.heap.size ≤ k ∧ k ≠ m ∧ ∀ v ∈ vals, v.ownBlock ≠ some k := fun k hk => by
        rcases hk with hk | hk
        · exact HLD.out.2 k (.inr hk)
        · exact ⟨by omega, hv5.old k hk.1⟩
      have hv6 := hv5.ch HD6.out.2 (fun k hk => (HLD.out.2 k (.inr hk)).2)
      have hv7 := hv6.ch hc7 (fun k hk => (hUp k hk).2)
      have hg0 := HDA.out.g0
      have hz7 : ¬ Up S2 w5 w6 0 := fun hk => by have := (hUp _ hk).1; omega
      have ht7 := (((HLD.out.1.later HB5.out).tab).ch HD6.out.2 HLD.out.1.z2).ch hc7 hz7
      have hS7 : ∀ k, Up S2 w5 w6 k → k < w7.heap.size := fun k hk => by
        rcases hk with hk | hk
        · have := HLD.out.1.b2 k hk; omega
        · omega
      have hb7 : Below w.heap.size w w7 := ((HDA.out.below.trans (HB5.out.mono swr)).trans (HD6.out.2.below (fun k hk hx => by have := (HLD.out.2 k (.inr hx)).1; omega) (by omega))).trans (hc7.below (fun k hk hx => by have := (hUp k hx).1; omega) (by omega))
      have hnum : 1 ≤ (cut s k').num ∧ ∀ t ∈ ls, 1 ≤ t.num := ⟨(HRW.out.1.size _ (by simp)).2.2.1, fun t ht => (HRW.out.1.size t (by simp [ht])).2.2.1⟩
      have HNUM := Lib.hid hnum
      have HOP2 := Lib.hid (open_segs w7 _ p 16384 lg 64 _ ls (cut s k') hd7 hS7 ht7 hz7 okName_lg (by omega) (by omega) (loads_of HRW.out.1 HRW.out.2.1 HRW.out.2.2 hd7.good) (nb_names HRW.out.2.1) hnum (no_empty HRW.out.2.1))
      have H7 := Lib.hid (And.intro hv7 (And.intro hb7 hUp))
      clear hv5 hv6 hv7 hz7 ht7 hS7 hb7 hnum hUp hd7 hc7 HRE HHV
      go_wp2_with fail
      refine HOP2.out.mono ?_
      rintro e w8 ⟨g2, T1, T2, rfl, hD8, hS8⟩
      have s8 := hS8.ch.size
      have hT2 : ∀ k, T2 k → w.heap.size ≤ k ∧ k ≠ m ∧ ∀ v ∈ vals, v.ownBlock ≠ some k := fun k hk => by
        rcases hS8.s2 k hk with hk | hk
        · exact H7.out.2.2 k hk
        · have := H7.out.1.old k hk.1
          exact ⟨by omega, this⟩
      have hv8 := H7.out.1.ch hS8.ch (fun k hk => by
        rcases hk with hk | hk
        · exact hk.elim
        · exact (H7.out.2.2 k hk).2)
      have hb8 := H7.out.2.1.trans (hS8.ch.below (fun k hk hx => by
        rcases hx with hx | hx
        · exact hx
        · have := (H7.out.2.2 k hx).1; omega) (by omega))
      obtain ⟨gb2, cap2, hC2, hgb2, -⟩ := hD8.cells (by simp)
      have hg2 : T1 g2 := by obtain ⟨_, _, _, h, _⟩ := hD8.lg; exact h
      have hC20 := hC2
      rw [HE.out.1] at hC20
      have HLA2 : Hid (∀ W, Below w8.heap.size w8 W → Calls Tryz.prog 14 #[.pointer (some ⟨g2, 0, none⟩)] W fun e w' => e = .returned (.int .i64 (q : Int)) ∧ Below W.heap.size W w') := Lib.hid fun W hW => by
        have := lastn_log W g2 p gb2 cap2 lg 64 ls (cut s k') _ (hC2.after hW) (by omega)
        rw [HLC.out] at this
        exact this
      have HFI2 : Hid (∀ W, Below w8.heap.size w8 W → Calls Tryz.prog 15 #[.pointer (some ⟨g2, 0, none⟩)] W fun e w' => e = .returned (.int .i64 (s0'.first : Int)) ∧ W = w') := Lib.hid fun W hW => first_log W g2 p gb2 cap2 lg 64 s0' r0' _ (hC20.after hW) (by have := HE.out.2.2; omega)
      have H8 := Lib.hid (And.intro hD8 (And.intro hT2 (And.intro hv8 (And.intro hb8 (And.intro hC2 (And.intro hgb2 hg2))))))
      have hgood : ∀ t ∈ ls ++ [cut s k'], t.recs.length ≤ 4194304 ∧ ∀ x ∈ t.recs, x.length ≤ 549755813888 := fun t ht => by
        have hg := hD8.good t ht
        have h1 := hg.few
        have h2 := hg.size
        exact ⟨by omega, fun x hx => by have := HRW.out.1.in_ ht hx; omega⟩
      have HGD := Lib.hid hgood
      clear hT2 hv8 hb8 hC2 hC20 hgb2 hg2 hD8 hS8 HOP2 hgood
      go_wp2_with fail
      refine (HLA2.out w8 (Below.refl _ _)).mono ?_
      rintro e w9 ⟨rfl, hb9⟩
      have HB9 := Lib.hid hb9
      clear hb9
      go_wp2_with fail
      refine (HLA2.out w9 HB9.out).mono ?_
      rintro e w10 ⟨rfl, hb10⟩
      have HB10 := Lib.hid (HB9.out.trans (hb10.mono HB9.out.size))
      clear hb10
      go_wp2_with fail
      refine (HFI2.out w10 HB10.out).mono ?_
      rintro e w11 ⟨rfl, rfl⟩
      have HAL := Lib.hid (all_log w10 T1 g2 p lg 64 (ls ++ [cut s k']) _ (H8.out.1.later HB10.out).lg (by simp) (by simp; omega))
      clear HLA2 HFI2
      go_wp2_with fail
      refine HAL.out.mono ?_
      rintro e w11 ⟨Bn, AB, cBB, rv, rfl, hBB, hsB, hBl, hbB⟩
      have hv11 := (H8.out.2.2.1.later HB10.out).later hbB
      have HKE := Lib.hid (kept_any w11 _ Bn AB cBB (ls ++ [cut s k']) rv m hBB hsB (by simp; omega) (fun t ht => (HGD.out t ht).1) (fun t ht x hx => (HGD.out t ht).2 x hx) (hv11.kept HVL.out HRW.out.1 hR))
      have HB11 := Lib.hid (HB10.out.trans (hbB.mono HB10.out.size))
      clear hBB hsB hBl hbB HAL hv11
      go_wp2_with fail
      refine HKE.out.mono ?_
      rintro e w12 ⟨rfl, hb12⟩
      have HB12 := Lib.hid (HB11.out.trans (hb12.mono HB11.out.size))
      have hD12 := H8.out.1.later HB12.out
      have hp2 := open_nb HRW.out.1 HRW.out.2.1 HRW.out.2.2
      have HOP3 := Lib.hid (open_segs w12 T2 p 16384 lg 64 _ ls (cut s k') hD12.dk hD12.b2 hD12.tab hD12.z2 okName_lg (by omega) (by omega) (loads_of HRW.out.1 hp2 (frs_bts HRW.out.1 (by simp)) hD12.dk.good) (nb_names hp2) HNUM.out (no_empty hp2))
      have s12 := HB12.out.size
      clear hb12 hD12 hp2 HKE
      go_wp2_with fail
      refine HOP3.out.mono ?_
      rintro e w13 ⟨g3, U1, U2, rfl, hD13, hS13⟩
      have s13 := hS13.ch.size
      have hv13 := (H8.out.2.2.1.later HB12.out).ch hS13.ch (fun k hk => by
        rcases hk with hk | hk
        · exact hk.elim
        · exact (H8.out.2.1 k hk).2)
      have hb13 := (H8.out.2.2.2.1.trans (HB12.out.mono H8.out.2.2.2.1.size)).trans (hS13.ch.below (fun k hk hx => by
        rcases hx with hx | hx
        · exact hx
        · have := (H8.out.2.1 k hx).1; omega) (by have := H8.out.2.2.2.1.size; omega))
      have hC13 := (H8.out.2.2.2.2.1.after HB12.out).ch hS13.ch (fun h => h.elim (fun h => h) (fun h => H8.out.1.apart g2 H8.out.2.2.2.2.2.2 h)) (fun h => h.elim (fun h => h) (fun h => H8.out.1.apart gb2 H8.out.2.2.2.2.2.1 h))
      obtain ⟨gb3, cap3, hC3, -, -⟩ := hD13.cells (by simp)
      have hC30 := hC3
      rw [HE.out.1] at hC30
      have HLA3 := Lib.hid (lastn_log w13 g3 p gb3 cap3 lg 64 ls (cut s k') _ hC3 (by omega))
      rw [HLC.out] at HLA3
      have HLA4 : Hid (∀ W, Below w13.heap.size w13 W → Calls Tryz.prog 14 #[.pointer (some ⟨g2, 0, none⟩)] W fun e w' => e = .returned (.int .i64 (q : Int)) ∧ Below W.heap.size W w') := Lib.hid fun W hW => by
        have := lastn_log W g2 p gb2 cap2 lg 64 ls (cut s k') _ (hC13.after hW) (by omega)
        rw [HLC.out] at this
        exact this
      have HFI3 : Hid (∀ W, Below w13.heap.size w13 W → Calls Tryz.prog 15 #[.pointer (some ⟨g3, 0, none⟩)] W fun e w' => e = .returned (.int .i64 (s0'.first : Int)) ∧ W = w') := Lib.hid fun W hW => first_log W g3 p gb3 cap3 lg 64 s0' r0' _ (hC30.after hW) (by have := HE.out.2.2; omega)
      have H13 := Lib.hid (And.intro hD13 (And.intro hv13 hb13))
      have hqq : ((q : Int) == (q : Int)) = true := beq_self_eq_true _
      clear hv13 hb13 hC13 hC3 hC30 hD13 hS13 HOP3
      go_wp2_with fail
      refine HLA3.out.mono ?_
      rintro e w14 ⟨rfl, hb14⟩
      have HB14 := Lib.hid hb14
      clear hb14
      go_wp2_with fail
      refine (HLA4.out w14 HB14.out).mono ?_
      rintro e w15 ⟨rfl, hb15⟩
      have HB15 := Lib.hid (HB14.out.trans (hb15.mono HB14.out.size))
      clear hb15
      go_wp2_with fail
      refine (HFI3.out w15 HB15.out).mono ?_
      rintro e w16 ⟨rfl, rfl⟩
      have HAL := Lib.hid (all_log w15 U1 g3 p lg 64 (ls ++ [cut s k']) _ (H13.out.1.later HB15.out).lg (by simp) (by simp; omega))
      clear HLA3 HLA4 HFI3
      go_wp2_with fail
      refine HAL.out.mono ?_
      rintro e w16 ⟨Bn2, AB2, cBB2, rv2, rfl, hBB, hsB, hBl, hbB⟩
      have hv16 := (H13.out.2.1.later HB15.out).later hbB
      have HKE := Lib.hid (kept_any w16 _ Bn2 AB2 cBB2 (ls ++ [cut s k']) rv2 m hBB hsB (by simp; omega) (fun t ht => (HGD.out t ht).1) (fun t ht x hx => (HGD.out t ht).2 x hx) (hv16.kept HVL.out HRW.out.1 hR))
      have HB16 := Lib.hid (HB15.out.trans (hbB.mono HB15.out.size))
      clear hBB hsB hBl hbB HAL hv16
      go_wp2_with fail
      refine HKE.out.mono ?_
      rintro e w17 ⟨rfl, hb17⟩
      have hbe := H13.out.2.2.trans ((HB16.out.trans (hb17.mono HB16.out.size)).mono H13.out.2.2.size)
      have HBE := Lib.hid hbe
      clear hb17 hbe
      go_wp2_with fail
      go_ret
      exact ⟨rfl, HBE.out⟩
end Go.Proofs.YtjjfhbbaabakmaaGreatDoor.Us

/-
  Layer 4: opening a script of WalSure under the form's own reach.
-/
namespace Go.Proofs.YtjjfhbbaabakmaaGreatDoor.Ut
set_option linter.unusedSimpArgs false
open Go Go.RowKit Go.ChangeShapes Go.WideShapes Go.ChangeAt Go.Deep Ck Kp Dm Us
set_option linter.unusedVariables false

section
variable {H : Type} {enc : TypeId × Value → H}
theorem cells_op : Tryz.prog.cellsOf 34 = 4 := by kernel_rfl
theorem cells_int : Tryz.prog.cellsOf 3 = 1 := by kernel_rfl
theorem cells_i64 : Tryz.prog.cellsOf 2 = 1 := by kernel_rfl
theorem cells_sl : Tryz.prog.cellsOf 32 = 1 := by kernel_rfl
theorem bytes_op : Tryz.prog.bytesOf 34 = 48 := by kernel_rfl

set_option maxRecDepth 100000 in
theorem open_op {w : World} {base : Nat} {fuel : Nat} {cs : List Value} {x : DataW H × List MemPlace} (h : DataW.trod enc Tryz.prog w base (fun _ => true) true fuel 34 cs = some x) :
    ∃ (o : Od) (B : Option Addr) (c : Nat), cs = [.int .i64 o.z, .slice B o.b.length c, .int .i64 o.n, .int .i64 o.k] ∧ Sl w (fun k => w.heap.size ≤ k) 1 (.slice B o.b.length c) o.b.length (BVs o.b) := by
  obtain ⟨xs, n', _, hx, hl, hxl, hf⟩ := DataW.trod_struct Tryz.underlying34 h
  rw [cells_op] at hl
  have hxl' : xs.length = 4 := hxl
  match cs, hl with
  | [v0, v1, v2, v3], _ =>
    have f0 : DataW.trod enc Tryz.prog w base (fun _ => true) true n' 3 (([v0, v1, v2, v3].drop 0).take (Tryz.prog.cellsOf 3)) = xs[0]? := hf 0 _ rfl
    have f1 : DataW.trod enc Tryz.prog w base (fun _ => true) true n' 32 (([v0, v1, v2, v3].drop 1).take (Tryz.prog.cellsOf 32)) = xs[1]? := hf 1 _ rfl
    have f2 : DataW.trod enc Tryz.prog w base (fun _ => true) true n' 2 (([v0, v1, v2, v3].drop 2).take (Tryz.prog.cellsOf 2)) = xs[2]? := hf 2 _ rfl
    have f3 : DataW.trod enc Tryz.prog w base (fun _ => true) true n' 3 (([v0, v1, v2, v3].drop 3).take (Tryz.prog.cellsOf 3)) = xs[3]? := hf 3 _ rfl
    rw [cells_int] at f0 f3
    rw [cells_i64] at f2
    rw [cells_sl] at f1
    simp only [List.drop_zero, List.drop_succ_cons, List.take_succ_cons, List.take_zero] at f0 f1 f2 f3
    obtain ⟨z0, e0, w0⟩ := one_int Tryz.underlying3 (by omega) f0
    obtain ⟨z2, e2, w2⟩ := one_int Tryz.underlying2 (by omega) f2
    obtain ⟨z3, e3, w3⟩ := one_int Tryz.underlying3 (by omega) f3
    rw [List.getElem?_eq_getElem (by omega)] at f1
    obtain ⟨b, hb, r1⟩ := open_bytesW f1
    simp only [List.cons.injEq, and_true] at e0 e2 e3
    obtain ⟨B, c, hv, _⟩ := id hb
    exact ⟨⟨z0, b, z2, z3⟩, B, c, by rw [e0, e2, e3, hv], by rw [← hv]; exact hb⟩

set_option maxRecDepth 100000 in
theorem open_ops {w : World} {fuel : Nat} {base : Nat} {v : Value} {x : DataW H × List MemPlace} (h : DataW.trod enc Tryz.prog w base (fun _ => true) true fuel 22 [v] = some x) (hR : ∀ n ∈ x.1.weights Tryz.prog 22, n ≤ 140737488351232) :
    ∃ (A : Option Addr) (c : Nat) (os : List Od), v = .slice A os.length c ∧ Ops w A os ∧ os.length * 48 ≤ 140737488351232 := by
  rcases open_slice Tryz.underlying22 h with ⟨hcs, rfl⟩ | ⟨a, len, cap, m, n, D, Pl, hcs, _, hl, hm, hmm, rfl, hx⟩
  · obtain rfl : v = .slice none 0 0 := by simpa using hcs
    exact ⟨none, 0, [], rfl, fun i hi => absurd hi (by simp), by simp⟩
  · obtain rfl : v = .slice (some a) len cap := by simpa using hcs
    simp only [if_true] at hmm
    have each : ∀ i, ∃ o : Od, i < len → ∃ (B : Option Addr) (c : Nat), (a.add (i * 4)).block < w.heap.size ∧ w.cell? (a.add (i * 4)) = some (.int .i64 o.z) ∧ w.cell? ⟨(a.add (i * 4)).block, (a.add (i * 4)).off + 1, none⟩ = some (.slice B o.b.length c)
        ∧ w.cell? ⟨(a.add (i * 4)).block, (a.add (i * 4)).off + 2, none⟩ = some (.int .i64 o.n) ∧ w.cell? ⟨(a.add (i * 4)).block, (a.add (i * 4)).off + 3, none⟩ = some (.int .i64 o.k)
        ∧ Sl w (fun k => w.heap.size ≤ k) 1 (.slice B o.b.length c) o.b.length (BVs o.b) := by
      intro i
      by_cases hi : i < len
      · obtain ⟨cs', hc, ht⟩ := hx i (by omega)
        obtain ⟨o, B, c, rfl, hb⟩ := open_op ht
        rw [cells_op] at hc
        obtain ⟨_, _, hcell⟩ := World.cells?_some hc
        have hg : ∀ j, 0 < j → (a.add (i * 4)).add j = ⟨(a.add (i * 4)).block, (a.add (i * 4)).off + j, none⟩ := fun j hj => by
          generalize a.add (i * 4) = ak
          unfold Addr.add
          rw [if_neg (by omega)]
        have h0 : w.cell? (a.add (i * 4)) = some (.int .i64 o.z) := by
          have := hcell 0 (by omega)
          rw [Ck.add_add] at this
          simpa using this
        have h1 := hcell 1 (by omega)
        have h2 := hcell 2 (by omega)
        have h3 := hcell 3 (by omega)
        rw [hg _ (by omega)] at h1 h2 h3
        exact ⟨o, fun _ => ⟨B, c, World.block_lt_of_cell? w _ h0, h0, h1, h2, h3, hb⟩⟩
      · exact ⟨⟨0, [], 0, 0⟩, fun h => absurd h hi⟩
    obtain ⟨f, hf⟩ := Classical.axiomOfChoice each
    refine ⟨some a, cap, (List.range len).map f, by simp, fun i hi => ?_, ?_⟩
    · have hi' : i < len := by simpa using hi
      obtain ⟨B, c, h⟩ := hf i hi'
      have e : ((List.range len).map f)[i] = f i := by simp
      rw [e]
      exact ⟨a, B, c, rfl, h⟩
    · have := hR _ (by simp only [DataW.weights, Tryz.underlying22]; exact List.mem_cons_self)
      rw [bytes_op] at this
      simp only [List.length_map, List.length_range] at this ⊢
      omega
end
end Go.Proofs.YtjjfhbbaabakmaaGreatDoor.Ut

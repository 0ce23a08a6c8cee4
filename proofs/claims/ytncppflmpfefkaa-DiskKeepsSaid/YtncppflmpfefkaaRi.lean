/-
  Contract of the document's disk: Crash.
-/
import Derived.Test.YtncppflmpfefkaaRh
import Derived.Test.YtncppflmpfefkaaDj
namespace Go.Proofs.Ytncppflmpfefkaa.Ri
open Go Go.RowKit Go.Maps Ck Kw Ga Dm Dw Da Db Dc Dd De Df Dg Dh Di Dj Ra Rb Rc Rd Re Rf Rg Rh
attribute [local go_sem ↓] Go.wp_at_zero Go.wp_at_succ
set_option linter.unusedVariables false

/-- The first files torn. -/
def torn (K : Nat) (L : List Fl) (k : Nat) : List Fl := (L.take k).map (tear K) ++ L.drop k
theorem torn_len (K : Nat) (L : List Fl) (k : Nat) : (torn K L k).length = L.length := by
  unfold torn
  simp only [List.length_append, List.length_map, List.length_take, List.length_drop]
  omega
theorem torn_at {K : Nat} {L : List Fl} {k : Nat} {f : Fl} (h : L[k]? = some f) : (torn K L k)[k]? = some f := by
  have hl := (List.getElem?_eq_some_iff.1 h).1
  unfold torn
  rw [List.getElem?_append_right (by simp; omega)]
  simp only [List.length_map, List.length_take, Nat.min_eq_left (Nat.le_of_lt hl), Nat.sub_self, List.getElem?_drop, Nat.add_zero]
  exact h
theorem torn_step {K : Nat} {L : List Fl} {k : Nat} {f : Fl} (h : L[k]? = some f) : (torn K L k).set k (tear K f) = torn K L (k + 1) := by
  obtain ⟨hl, he⟩ := List.getElem?_eq_some_iff.1 h
  unfold torn
  rw [List.set_append_right _ _ (by simp; omega), List.drop_eq_getElem_cons hl, List.take_succ_eq_append_getElem hl, he]
  simp [Nat.min_eq_left (Nat.le_of_lt hl)]
theorem torn_zero (K : Nat) (L : List Fl) : torn K L 0 = L := rfl
theorem torn_all (K : Nat) (L : List Fl) : torn K L L.length = L.map (tear K) := by simp [torn]

set_option maxRecDepth 100000 in
set_option maxHeartbeats 2000000 in
theorem rcrash_any (w : World) (S : Nat → Prop) (q : Nat) (L : List Fl) (most : Nat) (down : Bool) (z : Int) (hz : -9223372036854775808 ≤ z) (hz' : z ≤ 9223372036854775807) (h : Rk w S q L most down) :
    Calls Try.prog 41 #[.pointer (some ⟨q, 0, none⟩), .int .i64 z] w (RDid S q (crashS L down z) most true w) := by
  have H := Lib.hid h
  have hfew0 := h.good.few
  have HF0 := Lib.hid hfew0
  obtain ⟨l0, lv0, hL0, hP0⟩ := h
  have c2 : w.cell? ⟨q, 2, none⟩ = some (.bool down) := hP0.blk.cell 2
  clear hP0 hL0
  cases down
  · have e : crashS L false z = (L.map (tear (Dm.size z)), 0) := rfl
    rw [e]
    clear e hfew0
    have hsz := size_lt z hz hz'
    have hql : q < w.heap.size := by
      obtain ⟨l0, lv0, _, hP0⟩ := H.out
      exact hP0.blk.lt
    have HQ := Lib.hid hql
    by_cases hmin : z = -9223372036854775808
    · subst hmin
      have hw0 : RowKit.wrap64 9223372036854775808 = -9223372036854775808 := by kernel_rfl
      have hm : ∀ W, (Builtin.max_ #[3, 3, 3] 3 #[.int .i64 (-9223372036854775808), .int .i64 (-9223372036854775808), .int .i64 0]).run Try.prog W = .ok (.int .i64 (Dm.size (-9223372036854775808) : Int)) W := fun W => by
        rw [run_max_int3]
        rfl
      obtain ⟨K, hK⟩ : ∃ K, K = Dm.size (-9223372036854775808) := ⟨_, rfl⟩
      rw [← hK] at hm hsz ⊢
      have HSZ := Lib.hid hsz
      clear hz hz' hsz hK hql
      go_enter Try.func41, Try.ntmps41
      go_wp2_with fail
      rw [hw0]
      clear hw0
      go_loopw [5] (fun i wr => ∃ k : Nat, k ≤ L.length ∧ i = .int .i64 (k : Int) ∧ Rk wr (Up S w wr) q (torn K L k) most false ∧ Ch S w wr) (fun i _ => L.length - (intOf i).toNat)
      case atStart => exact ⟨0, Nat.zero_le _, rfl, by rw [torn_zero]; exact H.out.weaken (fun k hk => .inl hk), Ch.refl _ _⟩
      case round =>
        obtain ⟨k, hk, rfl, hRk, hC⟩ := hrel
        have HG := Lib.hid hRk.good
        have HRK := Lib.hid hRk
        have HC := Lib.hid hC
        obtain ⟨l, lv, hL, hP⟩ := hRk
        obtain ⟨A, c, rfl, -⟩ := hP.shape
        have hll : l.length = L.length := by rw [← rows_len hL, torn_len]
        have c0 : wr.cell? ⟨q, 0, none⟩ = some (.slice A l.length c) := hP.blk.cell 0
        have d2 : wr.cell? ⟨q, 2, none⟩ = some (.bool false) := hP.blk.cell 2
        have f2 := hP.blk.frozen 2
        have HP := Lib.hid hP
        have HL := Lib.hid hL
        have hfew : l.length ≤ 64 := by have := HF0.out; omega
        have HLL := Lib.hid hll
        clear hP hL hC
        by_cases hlt' : k < L.length
        · have hlt : k < l.length := by omega
          clear hll
          obtain ⟨f, hf⟩ : ∃ f, L[k]? = some f := ⟨_, List.getElem?_eq_getElem hlt'⟩
          have hi := torn_at (K := K) hf
          obtain ⟨ad, rfl, had, hadq, hfa⟩ := HP.out.at_ hlt
          have hfe : l[k].1 = f := rows_eq HL.out hi hlt
          have hby := HP.out.bytes _ (List.getElem_mem hlt)
          rw [hfe] at hby
          obtain ⟨B, d, hxx⟩ : ∃ B d, l[k].2 = .slice B f.b.length d := by
            obtain ⟨B, d, h, _⟩ := hby
            exact ⟨B, d, h⟩
          have a0 := hfa.a0
          have a1 := hfa.a1
          have a2 := hfa.a2
          rw [hfe] at a0 a2
          rw [hxx] at a1 hby
          have hfm := List.mem_of_getElem? hi
          have hlen := HG.out.len hfm
          have hdone := HG.out.done f hfm
          have hbd : f.b.length ≤ d := by
            obtain ⟨B0, d0, hv, _, hcc, _⟩ := hby
            have := (Value.slice.inj hv).2.2
            omega
          have HLI := Lib.hid (show l[k] = (f, .slice B f.b.length d) from Prod.ext hfe hxx)
          have HBY := Lib.hid hby
          have HI := Lib.hid hi
          have HFK := Lib.hid hf
          have HAD := Lib.hid had
          have hi2 : (k : Int) < (l.length : Int) := by omega
          have hi0 : (0 : Int) ≤ (k : Int) := by omega
          have hmod := Nat.mod_lt K (show 0 < f.b.length - f.d + 1 by omega)
          obtain ⟨t, ht⟩ : ∃ t, t = f.d + K % (f.b.length - f.d + 1) := ⟨_, rfl⟩
          have htl : t ≤ f.b.length := by omega
          have e3 := tear_nat K f.d f.b.length hdone
          rw [← ht] at e3
          obtain ⟨y, hy⟩ : ∃ y : Int, y = (f.b.length : Int) - (f.d : Int) := ⟨_, rfl⟩
          rw [← hy] at e3
          obtain ⟨u, hu⟩ : ∃ u, u = Int.tmod (K : Int) (y + 1) := ⟨_, rfl⟩
          rw [← hu] at e3
          have hu0 : 0 ≤ u := by omega
          have hu1 : u ≤ 4194304 := by omega
          have hy0 : 0 ≤ y := by omega
          have hy1 : y ≤ 4194304 := by omega
          have hw1 : IntKind.i64.wrap ((f.b.length : Int) - (f.d : Int)) = y := by rw [← hy]; exact wrap64 (by omega) (by omega)
          have hw1' : (f.b.length : Int) - (f.d : Int) = y := hy.symm
          have hw2 : IntKind.i64.wrap (y + 1) = y + 1 := wrap64 (by omega) (by omega)
          have hw3 : IntKind.i64.wrap ((f.d : Int) + u) = (t : Int) := by rw [e3]; exact wrap64 (by omega) (by omega)
          have hw3' : (f.d : Int) + u = (t : Int) := e3
          have hne1 : ((y + 1) == 0) = false := by rw [beq_eq_false_iff_ne]; omega
          have hne2 : ¬ (y + 1 = 0) := by omega
          have hzz := hu.symm
          have HT := Lib.hid (And.intro ht htl)
          have hsu := fun W => slice_hm B f.b.length d t (by omega) W
          have HM0 : Hid (Blk (wr.alloc (.cells #[.string ⟨f.n.toArray⟩, .slice B f.b.length d, .int .i64 (f.d : Int)] 84)) wr.heap.size 84 #[.string ⟨f.n.toArray⟩, .slice B f.b.length d, .int .i64 (f.d : Int)]) := Lib.hid (Blk.new _ _ _)
          have HBW : Hid (Below wr.heap.size wr (wr.alloc (.cells #[.string ⟨f.n.toArray⟩, .slice B f.b.length d, .int .i64 (f.d : Int)] 84))) := Lib.hid ((Below.refl _ wr).alloc (Nat.le_refl _) _)
          clear hfa hfe hi hby had hxx hfm hmod ht htl e3 hy hu hf
          go_wp2_with fail
          go_quiet (fail)
          have hbq : Below wr.heap.size wr ((wr.alloc (.cells #[.string ⟨f.n.toArray⟩, .slice B f.b.length d, .int .i64 (f.d : Int)] 84)).drewN nq) := below_drewN HBW.out nq
          have hmq : Blk ((wr.alloc (.cells #[.string ⟨f.n.toArray⟩, .slice B f.b.length d, .int .i64 (f.d : Int)] 84)).drewN nq) wr.heap.size 84 #[.string ⟨f.n.toArray⟩, .slice B f.b.length d, .int .i64 (f.d : Int)] := HM0.out
          generalize (wr.alloc (.cells #[.string ⟨f.n.toArray⟩, .slice B f.b.length d, .int .i64 (f.d : Int)] 84)).drewN nq = W2 at hbq hmq ⊢
          have FT := write_facts HP.out HAD.out hlt HLI.out hbq hmq (.slice B t t)
          have m1 := hmq.cell 1
          have g1 := FT.1
          have g2 := FT.2.1
          have g3 := FT.2.2.1
          have g4 : (W2.setCell ⟨(ad.add (k * 3)).block, (ad.add (k * 3)).off + 1, none⟩ (.slice B t t)).drew.cell? ⟨q, 0, none⟩ = some (.slice (some ad) l.length c) := FT.2.2.2.1
          have g6 : (W2.setCell ⟨(ad.add (k * 3)).block, (ad.add (k * 3)).off + 1, none⟩ (.slice B t t)).drew.cell? ⟨(ad.add (k * 3)).block, (ad.add (k * 3)).off + 2, none⟩ = some (.int .i64 (f.d : Int)) := FT.2.2.2.2.2.1
          have g7 : (W2.setCell ⟨(ad.add (k * 3)).block, (ad.add (k * 3)).off + 1, none⟩ (.slice B t t)).drew.frozen? ⟨(ad.add (k * 3)).block, (ad.add (k * 3)).off + 2, none⟩ = false := FT.2.2.2.2.2.2
          simp only [List.getElem?_toArray, List.getElem?_cons_zero, List.getElem?_cons_succ] at m1
          have HBQ := Lib.hid hbq
          have HG4 := Lib.hid (And.intro g4 (And.intro g6 g7))
          clear FT hbq hmq g4 g6 g7 a0 a1 a2 c0 d2 f2
          go_wp2_with fail
          go_still_tail 12, (by kernel_rfl)
          change wpList _ _ _ _ _ W2.drew
          have g4 := HG4.out.1
          have g6 := HG4.out.2.1
          have g7 := HG4.out.2.2
          have q1 : ¬ q = (ad.add (k * 3)).block := by rw [add_block]; exact fun e => hadq e.symm
          have q2 : ¬ (ad.add (k * 3)).block = q := fun e => q1 e.symm
          go_wp2_with fail
          go_roundw
          case rel =>
            have hb2 := sl_capped HBY.out HT.out.2
            have hwk : Sl wr (fun j => ¬ Up (Up S w wr) wr W2 j ∨ j = q ∨ j = ad.block) 1 (.slice B t t) (f.b.take t).length (BVs (f.b.take t)) := hb2.weaken (fun j _ hj => by
              rcases hj with hj | hj | hj
              · exact .inl (fun hs => hj (.inl hs))
              · exact .inr (.inl hj)
              · exact .inr (.inr (by rw [hj]; rfl)))
            have hu := used_le HG.out.nodup (List.mem_of_getElem? HI.out) (b := f.b.take t) (d := t) (by rw [List.length_take]; omega)
            obtain ⟨r1, r2⟩ := rk_set (w := wr) (S := Up S w wr) HL.out (HP.out.later HBQ.out) HI.out (f.b.take t) t (.slice B t t) (puts_two W2 HAD.out k _ _) HBQ.out HG.out (by rw [List.length_take]; have := HT.out.2; omega) (Nat.le_trans hu HG.out.fits) (hwk.after HBQ.out)
            have htear : setf (f.b.take t) t f = tear K f := by unfold setf tear; rw [HT.out.1]
            have hst : upd (torn K L k) f.n (setf (f.b.take t) t) = torn K L (k + 1) := by rw [← set_upd HG.out.nodup HI.out, htear]; exact torn_step HFK.out
            rw [hst] at r1
            exact ⟨k + 1, by omega, by go_num, (r1.weaken (fun j hj => up_two HC.out.size r2.size hj)).drewN 1, (ch_two HC.out r2).drew⟩
          case measure => simp [intOf]; omega
        · have hke : k = L.length := by omega
          subst hke
          clear hlt' hk
          go_wp2_with fail
          go_ret
          have hP := rparts_down HP.out true
          rw [torn_all] at HL
          exact ⟨rfl, ⟨l, _, HL.out, hP.weaken (fun j hj => up_mono (Nat.le_of_eq (by simp [World.setCell])) hj)⟩, HC.out.setCell (fun _ => HP.out.sq.elim id (fun h => absurd h.1 (by have := HQ.out; omega))) _⟩
    · have hw : IntKind.i64.wrap (-z) = -z := wrap64 (by omega) (by omega)
      have hm : ∀ W, (Builtin.max_ #[3, 3, 3] 3 #[.int .i64 z, .int .i64 (-z), .int .i64 0]).run Try.prog W = .ok (.int .i64 (Dm.size z : Int)) W := fun W => by
        have e : (Dm.size z : Int) = if 0 > (if -z > z then -z else z) then 0 else (if -z > z then -z else z) := by
          unfold Dm.size
          rw [if_neg hmin]
          split <;> split <;> omega
        rw [run_max_int3, e]
      obtain ⟨K, hK⟩ : ∃ K, K = Dm.size z := ⟨_, rfl⟩
      rw [← hK] at hm hsz ⊢
      have HSZ := Lib.hid hsz
      clear hz hz' hsz hK hql hmin
      go_enter Try.func41, Try.ntmps41
      go_wp2_with fail
      go_loopw [5] (fun i wr => ∃ k : Nat, k ≤ L.length ∧ i = .int .i64 (k : Int) ∧ Rk wr (Up S w wr) q (torn K L k) most false ∧ Ch S w wr) (fun i _ => L.length - (intOf i).toNat)
      case atStart => exact ⟨0, Nat.zero_le _, rfl, by rw [torn_zero]; exact H.out.weaken (fun k hk => .inl hk), Ch.refl _ _⟩
      case round =>
        obtain ⟨k, hk, rfl, hRk, hC⟩ := hrel
        have HG := Lib.hid hRk.good
        have HRK := Lib.hid hRk
        have HC := Lib.hid hC
        obtain ⟨l, lv, hL, hP⟩ := hRk
        obtain ⟨A, c, rfl, -⟩ := hP.shape
        have hll : l.length = L.length := by rw [← rows_len hL, torn_len]
        have c0 : wr.cell? ⟨q, 0, none⟩ = some (.slice A l.length c) := hP.blk.cell 0
        have d2 : wr.cell? ⟨q, 2, none⟩ = some (.bool false) := hP.blk.cell 2
        have f2 := hP.blk.frozen 2
        have HP := Lib.hid hP
        have HL := Lib.hid hL
        have hfew : l.length ≤ 64 := by have := HF0.out; omega
        have HLL := Lib.hid hll
        clear hP hL hC
        by_cases hlt' : k < L.length
        · have hlt : k < l.length := by omega
          clear hll
          obtain ⟨f, hf⟩ : ∃ f, L[k]? = some f := ⟨_, List.getElem?_eq_getElem hlt'⟩
          have hi := torn_at (K := K) hf
          obtain ⟨ad, rfl, had, hadq, hfa⟩ := HP.out.at_ hlt
          have hfe : l[k].1 = f := rows_eq HL.out hi hlt
          have hby := HP.out.bytes _ (List.getElem_mem hlt)
          rw [hfe] at hby
          obtain ⟨B, d, hxx⟩ : ∃ B d, l[k].2 = .slice B f.b.length d := by
            obtain ⟨B, d, h, _⟩ := hby
            exact ⟨B, d, h⟩
          have a0 := hfa.a0
          have a1 := hfa.a1
          have a2 := hfa.a2
          rw [hfe] at a0 a2
          rw [hxx] at a1 hby
          have hfm := List.mem_of_getElem? hi
          have hlen := HG.out.len hfm
          have hdone := HG.out.done f hfm
          have hbd : f.b.length ≤ d := by
            obtain ⟨B0, d0, hv, _, hcc, _⟩ := hby
            have := (Value.slice.inj hv).2.2
            omega
          have HLI := Lib.hid (show l[k] = (f, .slice B f.b.length d) from Prod.ext hfe hxx)
          have HBY := Lib.hid hby
          have HI := Lib.hid hi
          have HFK := Lib.hid hf
          have HAD := Lib.hid had
          have hi2 : (k : Int) < (l.length : Int) := by omega
          have hi0 : (0 : Int) ≤ (k : Int) := by omega
          have hmod := Nat.mod_lt K (show 0 < f.b.length - f.d + 1 by omega)
          obtain ⟨t, ht⟩ : ∃ t, t = f.d + K % (f.b.length - f.d + 1) := ⟨_, rfl⟩
          have htl : t ≤ f.b.length := by omega
          have e3 := tear_nat K f.d f.b.length hdone
          rw [← ht] at e3
          obtain ⟨y, hy⟩ : ∃ y : Int, y = (f.b.length : Int) - (f.d : Int) := ⟨_, rfl⟩
          rw [← hy] at e3
          obtain ⟨u, hu⟩ : ∃ u, u = Int.tmod (K : Int) (y + 1) := ⟨_, rfl⟩
          rw [← hu] at e3
          have hu0 : 0 ≤ u := by omega
          have hu1 : u ≤ 4194304 := by omega
          have hy0 : 0 ≤ y := by omega
          have hy1 : y ≤ 4194304 := by omega
          have hw1 : IntKind.i64.wrap ((f.b.length : Int) - (f.d : Int)) = y := by rw [← hy]; exact wrap64 (by omega) (by omega)
          have hw1' : (f.b.length : Int) - (f.d : Int) = y := hy.symm
          have hw2 : IntKind.i64.wrap (y + 1) = y + 1 := wrap64 (by omega) (by omega)
          have hw3 : IntKind.i64.wrap ((f.d : Int) + u) = (t : Int) := by rw [e3]; exact wrap64 (by omega) (by omega)
          have hw3' : (f.d : Int) + u = (t : Int) := e3
          have hne1 : ((y + 1) == 0) = false := by rw [beq_eq_false_iff_ne]; omega
          have hne2 : ¬ (y + 1 = 0) := by omega
          have hzz := hu.symm
          have HT := Lib.hid (And.intro ht htl)
          have hsu := fun W => slice_hm B f.b.length d t (by omega) W
          have HM0 : Hid (Blk (wr.alloc (.cells #[.string ⟨f.n.toArray⟩, .slice B f.b.length d, .int .i64 (f.d : Int)] 84)) wr.heap.size 84 #[.string ⟨f.n.toArray⟩, .slice B f.b.length d, .int .i64 (f.d : Int)]) := Lib.hid (Blk.new _ _ _)
          have HBW : Hid (Below wr.heap.size wr (wr.alloc (.cells #[.string ⟨f.n.toArray⟩, .slice B f.b.length d, .int .i64 (f.d : Int)] 84))) := Lib.hid ((Below.refl _ wr).alloc (Nat.le_refl _) _)
          clear hfa hfe hi hby had hxx hfm hmod ht htl e3 hy hu hf
          go_wp2_with fail
          go_quiet (fail)
          have hbq : Below wr.heap.size wr ((wr.alloc (.cells #[.string ⟨f.n.toArray⟩, .slice B f.b.length d, .int .i64 (f.d : Int)] 84)).drewN nq) := below_drewN HBW.out nq
          have hmq : Blk ((wr.alloc (.cells #[.string ⟨f.n.toArray⟩, .slice B f.b.length d, .int .i64 (f.d : Int)] 84)).drewN nq) wr.heap.size 84 #[.string ⟨f.n.toArray⟩, .slice B f.b.length d, .int .i64 (f.d : Int)] := HM0.out
          generalize (wr.alloc (.cells #[.string ⟨f.n.toArray⟩, .slice B f.b.length d, .int .i64 (f.d : Int)] 84)).drewN nq = W2 at hbq hmq ⊢
          have FT := write_facts HP.out HAD.out hlt HLI.out hbq hmq (.slice B t t)
          have m1 := hmq.cell 1
          have g1 := FT.1
          have g2 := FT.2.1
          have g3 := FT.2.2.1
          have g4 : (W2.setCell ⟨(ad.add (k * 3)).block, (ad.add (k * 3)).off + 1, none⟩ (.slice B t t)).drew.cell? ⟨q, 0, none⟩ = some (.slice (some ad) l.length c) := FT.2.2.2.1
          have g6 : (W2.setCell ⟨(ad.add (k * 3)).block, (ad.add (k * 3)).off + 1, none⟩ (.slice B t t)).drew.cell? ⟨(ad.add (k * 3)).block, (ad.add (k * 3)).off + 2, none⟩ = some (.int .i64 (f.d : Int)) := FT.2.2.2.2.2.1
          have g7 : (W2.setCell ⟨(ad.add (k * 3)).block, (ad.add (k * 3)).off + 1, none⟩ (.slice B t t)).drew.frozen? ⟨(ad.add (k * 3)).block, (ad.add (k * 3)).off + 2, none⟩ = false := FT.2.2.2.2.2.2
          simp only [List.getElem?_toArray, List.getElem?_cons_zero, List.getElem?_cons_succ] at m1
          have HBQ := Lib.hid hbq
          have HG4 := Lib.hid (And.intro g4 (And.intro g6 g7))
          clear FT hbq hmq g4 g6 g7 a0 a1 a2 c0 d2 f2
          go_wp2_with fail
          go_still_tail 12, (by kernel_rfl)
          change wpList _ _ _ _ _ W2.drew
          have g4 := HG4.out.1
          have g6 := HG4.out.2.1
          have g7 := HG4.out.2.2
          have q1 : ¬ q = (ad.add (k * 3)).block := by rw [add_block]; exact fun e => hadq e.symm
          have q2 : ¬ (ad.add (k * 3)).block = q := fun e => q1 e.symm
          go_wp2_with fail
          go_roundw
          case rel =>
            have hb2 := sl_capped HBY.out HT.out.2
            have hwk : Sl wr (fun j => ¬ Up (Up S w wr) wr W2 j ∨ j = q ∨ j = ad.block) 1 (.slice B t t) (f.b.take t).length (BVs (f.b.take t)) := hb2.weaken (fun j _ hj => by
              rcases hj with hj | hj | hj
              · exact .inl (fun hs => hj (.inl hs))
              · exact .inr (.inl hj)
              · exact .inr (.inr (by rw [hj]; rfl)))
            have hu := used_le HG.out.nodup (List.mem_of_getElem? HI.out) (b := f.b.take t) (d := t) (by rw [List.length_take]; omega)
            obtain ⟨r1, r2⟩ := rk_set (w := wr) (S := Up S w wr) HL.out (HP.out.later HBQ.out) HI.out (f.b.take t) t (.slice B t t) (puts_two W2 HAD.out k _ _) HBQ.out HG.out (by rw [List.length_take]; have := HT.out.2; omega) (Nat.le_trans hu HG.out.fits) (hwk.after HBQ.out)
            have htear : setf (f.b.take t) t f = tear K f := by unfold setf tear; rw [HT.out.1]
            have hst : upd (torn K L k) f.n (setf (f.b.take t) t) = torn K L (k + 1) := by rw [← set_upd HG.out.nodup HI.out, htear]; exact torn_step HFK.out
            rw [hst] at r1
            exact ⟨k + 1, by omega, by go_num, (r1.weaken (fun j hj => up_two HC.out.size r2.size hj)).drewN 1, (ch_two HC.out r2).drew⟩
          case measure => simp [intOf]; omega
        · have hke : k = L.length := by omega
          subst hke
          clear hlt' hk
          go_wp2_with fail
          go_ret
          have hP := rparts_down HP.out true
          rw [torn_all] at HL
          exact ⟨rfl, ⟨l, _, HL.out, hP.weaken (fun j hj => up_mono (Nat.le_of_eq (by simp [World.setCell])) hj)⟩, HC.out.setCell (fun _ => HP.out.sq.elim id (fun h => absurd h.1 (by have := HQ.out; omega))) _⟩
  · have e : crashS L true z = (L, 32) := rfl
    rw [e]
    clear hz hz'
    go_enter Try.func41, Try.ntmps41
    go_wp2_with fail
    go_ret
    exact rdid_refl H.out

end Go.Proofs.Ytncppflmpfefkaa.Ri

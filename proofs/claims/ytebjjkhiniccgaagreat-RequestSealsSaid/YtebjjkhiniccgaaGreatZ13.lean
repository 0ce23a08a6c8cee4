/-
  Contracts of the program's ledger: Signed, Sign.
-/
import Derived.Test.YtebjjkhiniccgaaGreatZ12
import Derived.StillTailTactics
import Derived.Deep.RegionLaw
import Derived.Test.YtebjjkhiniccgaaGreatZ11
import Derived.Laws.StructEq
namespace Go.Proofs.YtebjjkhiniccgaaGreat.Lb
set_option linter.unusedSimpArgs false
set_option linter.unusedVariables false
set_option maxRecDepth 100000
open Go Go.RowKit Ck Im Kw Ik Ia Ib Ic Lk La
attribute [local go_sem ↓] Go.wp_at_zero Go.wp_at_succ

theorem zero_unit (w : World) : (zeroValue 124).run Tryz.prog w = .ok (.agg #[]) w := by kernel_rfl
/-- The map's look-up. -/
theorem run_known {w : World} {m n : Nat} {D : DataW Unit} {L : List Sg} (h : w.ownsMap Tryz.prog 47 unitElem m n D) (hN : Known D L) (s : Sg) (hs : wfS s) :
    (Instr.lookup 91 (.map (some m)) (GV s) true).run Tryz.prog w = .ok (.tuple #[.agg #[], .bool (isS L s)]) w := by
  obtain ⟨v, ps, hrun, hv⟩ := h.look_ok law_sign Tryz.underlying91 (zero_unit w) (zd := .agg []) (zp := []) unitElem_mk (key_sign s hs)
  obtain ⟨rfl, _⟩ := unitElem_inv hv
  rw [hrun, hN s hs]

set_option maxHeartbeats 1000000 in
theorem signed_yes (w : World) (S : Nat → Prop) (p : Nat) (L : List Sg) (s : Sg) (hs : wfS s) (h : Lg w S p L) :
    Calls Tryz.prog 55 #[.pointer (some ⟨p, 0, none⟩), GV s] w fun e w' => e = .returned (.bool (isS L s)) ∧ Below w.heap.size w w' := by
  have HM : Hid (∀ o, Calls Tryz.prog 79 #[.pointer (some ⟨p, 0, none⟩)] (w.alloc o) fun e w' => e = .returned (.bool true) ∧ w.alloc o = w') :=
    Lib.hid fun o => made_yes _ S p L (h.ch (Ch.of_below (S := fun _ => False) ((Below.refl _ w).alloc (Nat.le_refl _) o) (Nat.le_refl _)) (fun _ _ h => h))
  obtain ⟨m, tv, D, h1, hmap, hN, -⟩ := h
  have c0 : ∀ o, (w.alloc o).cell? ⟨p, 0, none⟩ = some (.map (some m)) := fun o => (h1.alloc o).cell 0
  have c0' : ∀ o o', ((w.alloc o).alloc o').cell? ⟨p, 0, none⟩ = some (.map (some m)) := fun o o' => ((h1.alloc o).alloc o').cell 0
  have e2 : ∀ W : World, W.heap[m]? = w.heap[m]? → (Instr.lookup 91 (.map (some m)) (GV s) true).run Tryz.prog W = .ok (.tuple #[.agg #[], .bool (isS L s)]) W := fun W hW => by
    obtain ⟨es, clock, hb, r⟩ := hmap
    exact run_known (w := W) (n := L.length) (D := D) ⟨es, clock, hW.trans hb, r⟩ hN s hs
  have hml := hmap.lt
  have HE := Lib.hid e2
  have hpl := h1.lt
  clear h1 hmap hN e2
  unfold GV at HE ⊢
  go_enter Tryz.func55, Tryz.ntmps55
  go_wp2_with (go_at_call 79; refine (HM.out _).mono ?_; rintro e w' ⟨rfl, rfl⟩)
  have d0 := c0 (.cells #[.int .i64 s.1, .int .i64 s.2] 47)
  have db : Blk (w.alloc (.cells #[.int .i64 s.1, .int .i64 s.2] 47)) w.heap.size 47 #[.int .i64 s.1, .int .i64 s.2] := Blk.new _ _ _
  have d1 := db.cell 0
  have d2 := db.cell 1
  have dm : (w.alloc (.cells #[.int .i64 s.1, .int .i64 s.2] 47)).heap[m]? = w.heap[m]? := Below.heap_alloc w _ m hml
  have f0 := c0' (.cells #[.int .i64 s.1, .int .i64 s.2] 47) (.cells #[] 124)
  have f1 := (db.alloc (.cells #[] 124)).cell 0
  have f2 := (db.alloc (.cells #[] 124)).cell 1
  have fm : ((w.alloc (.cells #[.int .i64 s.1, .int .i64 s.2] 47)).alloc (.cells #[] 124)).heap[m]? = w.heap[m]? := (Below.heap_alloc _ _ m (by simp; omega)).trans dm
  simp only [List.getElem?_toArray, List.getElem?_cons_zero, List.getElem?_cons_succ] at d1 d2 f1 f2
  go_region_held3 (fun w' => w'.cell? ⟨p, 0, none⟩ = some (.map (some m)) ∧ w'.cell? ⟨w.heap.size, 0, none⟩ = some (.int .i64 s.1) ∧ w'.cell? ⟨w.heap.size, 1, none⟩ = some (.int .i64 s.2) ∧
      (Instr.lookup 91 (.map (some m)) (.agg #[.int .i64 s.1, .int .i64 s.2]) true).run Tryz.prog w' = .ok (.tuple #[.agg #[], .bool (isS L s)]) w')
    (first | exact ⟨d0, d1, d2, HE.out _ dm⟩ | exact ⟨f0, f1, f2, HE.out _ fm⟩) (fail)
  all_goals
    clear c0 c0' d0 d1 d2 dm f0 f1 f2 fm
    go_wp2
    go_ret
    exact ⟨rfl, below_drewN (((Below.refl _ w).alloc (Nat.le_refl _) _).alloc (by simp) _) 1⟩

end Go.Proofs.YtebjjkhiniccgaaGreat.Lb

/-
  Contract of the program's ledger: Sign.
-/
namespace Go.Proofs.YtebjjkhiniccgaaGreat.Lc
set_option linter.unusedSimpArgs false
set_option linter.unusedVariables false
set_option maxRecDepth 100000
open Go Go.RowKit Ck Im Kw Ik Ia Ib Ic Lk La Lb
attribute [local go_sem ↓] Go.wp_at_zero Go.wp_at_succ

theorem size_sign : (Tryz.prog.info? 47).map (·.size) = some 2 := by kernel_rfl

/-- The world when Signed is asked: the result's cells, and the signature's. -/
def W1 (w : World) (x y : Int) : World := (w.alloc (.cells #[.int .i64 0, .int .i64 0] 47)).alloc (.cells #[.int .i64 x, .int .i64 y] 47)
theorem W1_size (w : World) (x y : Int) : (W1 w x y).heap.size = w.heap.size + 1 + 1 := by simp [W1]
theorem W1_below (w : World) (x y : Int) : Below w.heap.size w (W1 w x y) := ((Below.refl _ w).alloc (Nat.le_refl _) _).alloc (by simp) _
theorem W1_zero (w : World) (x y : Int) : Blk (W1 w x y) w.heap.size 47 #[.int .i64 0, .int .i64 0] := (Blk.new w _ _).alloc _
theorem W1_sign (w : World) (x y : Int) : Blk (W1 w x y) (w.heap.size + 1) 47 #[.int .i64 x, .int .i64 y] := Blk.new_at (by simp) rfl
theorem blk_two {w : World} {g : Nat} {x y u v : Value} (h : Blk w g 47 #[u, v]) : Blk ((w.setCell ⟨g, 0, none⟩ x).setCell ⟨g, 1, none⟩ y) g 47 #[x, y] := by
  have := (h.set_ 0 x).set_ 1 y
  simpa using this

theorem two_sv (w : World) (X : Nat → Prop) (t : TypeId) (x y : Int) (hX : ¬ X w.heap.size) : Sl (w.alloc (.cells #[.int .i64 x, .int .i64 y] t)) X 2 (.slice (some ⟨w.heap.size, 0, none⟩) 1 1) 1 (GVs [(x, y)]) :=
  ⟨_, _, rfl, rfl, Nat.le_refl _, by simp only [maxLen]; omega, fun _ => ⟨_, rfl, by simp, hX, fun j u hu => by
    have ha : (⟨w.heap.size, 0, none⟩ : Addr).add j = ⟨w.heap.size, j, none⟩ := by unfold Addr.add; split <;> simp_all
    rw [ha, Blk.cell (Blk.new w t _) j]
    simpa [GVs] using hu⟩⟩

/-- What stands behind the map's store, ahead of the append. -/
def Mid (w wd : World) (S : Nat → Prop) (p m : Nat) (v : Value) (x y : Int) (D : DataW Unit) (L : List Sg) : Prop :=
  Blk wd w.heap.size 47 #[.int .i64 0, .int .i64 0] ∧ Blk wd (w.heap.size + 1) 47 #[.int .i64 x, .int .i64 y] ∧ Blk wd p 93 #[.map (some m), v] ∧
    wd.ownsMap Tryz.prog 47 unitElem m (L.length + 1) (D.put (KL (x, y)) (.agg [])) ∧ wd.ownsRow 0 47 2 v L.length (GVs L) ∧ Ch S w wd
theorem mid_of {w w2 w3 : World} {S : Nat → Prop} {p m n : Nat} {v : Value} {x y : Int} {D D' : DataW Unit} {L : List Sg} (k0 : Blk w2 w.heap.size 47 #[.int .i64 0, .int .i64 0]) (k1 : Blk w2 (w.heap.size + 1) 47 #[.int .i64 x, .int .i64 y])
    (q1 : Blk w2 p 93 #[.map (some m), v]) (hm2 : w2.ownsMap Tryz.prog 47 unitElem m n D') (hm3 : w3.ownsMap Tryz.prog 47 unitElem m (L.length + 1) (D.put (KL (x, y)) (.agg []))) (hown : w.ownsRow 0 47 2 v L.length (GVs L))
    (hmap : w.ownsMap Tryz.prog 47 unitElem m L.length D) (hS : S m) (hb : Below w.heap.size w w2) (hg : w2.grownBy w3 (some m)) : Mid w w3 S p m v x y D L := by
  have far : ∀ {g : Nat} {cs : Array Value} {t : TypeId}, Blk w2 g t cs → some g ≠ some m := fun h e => by
    injection e with e
    exact map_far hm2 h e.symm
  have c : Ch (fun k => k = m) w w3 := (Ch.of_below (S := fun k => k = m) hb (Nat.le_refl _)).trans (Ch.of_grown hg (S := fun k => k = m) (fun g hg _ => by injection hg with hg; exact hg.symm)) (fun _ _ h => h)
  have a0 : Blk w3 w.heap.size 47 #[.int .i64 0, .int .i64 0] := k0.grown hg (far k0)
  have a1 : Blk w3 (w.heap.size + 1) 47 #[.int .i64 x, .int .i64 y] := k1.grown hg (far k1)
  have a2 : Blk w3 p 93 #[.map (some m), v] := q1.grown hg (far q1)
  have a3 : w3.ownsRow 0 47 2 v L.length (GVs L) := own_ch hown c (fun g hg2 e => by subst e; exact map_row hmap hown hg2)
  exact ⟨a0, a1, a2, hm3, a3, c.mono (fun k _ e => by subst e; exact hS)⟩
theorem fin_of {w wd w4 : World} {S : Nat → Prop} {p m n : Nat} {v v4 : Value} {x y : Int} {D : DataW Unit} {L : List Sg} {o : Obj} {xs : List Value} (h : Mid w wd S p m v x y D L) (hown : w.ownsRow 0 47 2 v L.length (GVs L))
    (happ : Appended (wd.alloc o) 0 47 2 v n xs v4 w4) : Blk w4 w.heap.size 47 #[.int .i64 0, .int .i64 0] ∧ Blk w4 (w.heap.size + 1) 47 #[.int .i64 x, .int .i64 y] ∧ Blk w4 p 93 #[.map (some m), v] := by
  obtain ⟨k0, k1, q1, hm, ho, hc⟩ := h
  have far : ∀ g, w.heap.size ≤ g → some g ≠ v.ownBlock := fun g hg e => by
    have := (hown.lt g e.symm).2
    omega
  exact ⟨(k0.alloc o).grown happ.2.1 (far _ (Nat.le_refl _)), (k1.alloc o).grown happ.2.1 (far _ (by omega)), (q1.alloc o).grown happ.2.1 (Ne.symm (own_far ho q1 (by decide)))⟩
theorem sign_end {w wd w4 : World} {S : Nat → Prop} {p m : Nat} {v v4 : Value} {x y : Int} {D : DataW Unit} {L : List Sg} {o : Obj} (h : Mid w wd S p m v x y D L) (hw : wfS (x, y)) (hq : Blk w p 93 #[.map (some m), v]) (hown : w.ownsRow 0 47 2 v L.length (GVs L)) (hmap : w.ownsMap Tryz.prog 47 unitElem m L.length D)
    (hN : Known D L) (hp : S p) (hS : S m) (hg : ∀ g, v.ownBlock = some g → S g)
    (happ : Appended (wd.alloc o) 0 47 2 v (L.length + 1) (GVs L ++ GVs [(x, y)]) v4 w4) (W5 : World) (hW : W5 = ((w4.setCell ⟨p, 1, none⟩ v4).setCell ⟨w.heap.size, 0, none⟩ (.int .i64 x)).setCell ⟨w.heap.size, 1, none⟩ (.int .i64 y)) :
    Blk W5 w.heap.size 47 #[.int .i64 x, .int .i64 y] ∧ Lg W5 (Up S w W5) p (L ++ [(x, y)]) ∧ Ch S w W5 := by
  have hF := fin_of h hown happ
  obtain ⟨k0, k1, q1, hm, ho, hc⟩ := h
  have hpl := hq.lt
  have hml := hmap.lt
  have hrow : ∀ g, v4.ownBlock = some g → S g ∨ (w.heap.size + 1 < g ∧ g < w4.heap.size) := fun g hg4 => by
    rcases happ.2.2 with h2 | h2
    · exact .inl (hg g (by rw [← h2]; exact hg4))
    · refine .inr ⟨?_, (happ.1.lt g hg4).2⟩
      rw [h2] at hg4
      injection hg4 with hg4
      have := k1.lt
      simp at hg4
      omega
  have hrow2 : ∀ g, v4.ownBlock = some g → g ≠ w.heap.size := fun g hg4 e => by
    subst e
    rcases happ.2.2 with h2 | h2
    · have := (hown.lt w.heap.size (by rw [← h2]; exact hg4)).2
      omega
    · rw [h2] at hg4
      injection hg4 with hg4
      have := k1.lt
      simp at hg4
      omega
  have c4 : Ch S w w4 := (hc.alloc o).trans (Ch.of_grown happ.2.1 (S := S) (fun g hg' _ => hg g hg')) (fun _ _ h => h)
  have c5 : Ch S w W5 := by
    rw [hW]
    exact ((c4.setCell (p := ⟨p, 1, none⟩) (fun _ => hp) v4).setCell (p := ⟨w.heap.size, 0, none⟩) (fun h => absurd h (Nat.lt_irrefl _)) _).setCell (p := ⟨w.heap.size, 1, none⟩) (fun h => absurd h (Nat.lt_irrefl _)) _
  have c45 : Ch (fun k => k = p ∨ k = w.heap.size) w4 W5 := by
    rw [hW]
    exact (((Ch.refl _ w4).setCell (p := ⟨p, 1, none⟩) (fun _ => .inl rfl) v4).setCell (p := ⟨w.heap.size, 0, none⟩) (fun _ => .inr rfl) _).setCell (p := ⟨w.heap.size, 1, none⟩) (fun _ => .inr rfl) _
  have hs : W5.heap.size = w4.heap.size := by rw [hW]; simp [World.setCell]
  have hm4 : w4.ownsMap Tryz.prog 47 unitElem m (L.length + 1) (D.put (KL (x, y)) (.agg [])) := (hm.alloc o).kept happ.2.1 (Ne.symm (map_row hmap hown))
  refine ⟨?_, ⟨m, v4, D.put (KL (x, y)) (.agg []), ?_, ?_, hN.put hmap.isMap hw _, ?_, .inl hp, .inl hS, fun g hg4 => ?_⟩, c5⟩
  · rw [hW]
    exact blk_two (hF.1.far (by simp only; omega) _)
  · have e1 := ((hF.2.2.set_ 1 v4).far (p := ⟨w.heap.size, 0, none⟩) (by simp only; omega) (.int .i64 x)).far (p := ⟨w.heap.size, 1, none⟩) (by simp only; omega) (.int .i64 y)
    rw [hW]
    simpa using e1
  · rw [List.length_append]
    exact map_ch hm4 c45 (by rintro (rfl | rfl); exact map_far hmap hq rfl; omega)
  · rw [List.length_append, GVs_app]
    refine own_ch happ.1 c45 (fun g hg4 => ?_)
    rintro (rfl | rfl)
    · exact own_far happ.1 hF.2.2 (by decide) hg4
    · exact hrow2 _ hg4 rfl
  · rcases hrow g hg4 with h | h
    · exact .inl h
    · exact .inr ⟨by omega, by rw [hs]; exact h.2⟩
/-- What Sign leaves. -/
def Signd (S : Nat → Prop) (p : Nat) (L : List Sg) (s : Sg) (w : World) (e : Ending) (w' : World) : Prop :=
  e = .returned (.tuple #[GV (ans s), .int .i64 (code s)]) ∧ Lg w' (Up S w w') p (pay L s) ∧ Ch S w w'
theorem Lg.up {w w' : World} {S : Nat → Prop} {p : Nat} {L : List Sg} (h : Lg w S p L) (b : Below w.heap.size w w') : Lg w' (Up S w w') p L :=
  (h.ch (Ch.of_below (S := fun _ => False) b (Nat.le_refl _)) (fun _ _ h => h)).weaken (fun _ hk => .inl hk)

set_option maxHeartbeats 1000000 in
theorem sign_key (w : World) (S : Nat → Prop) (p : Nat) (L : List Sg) (s : Sg) (h : Lg w S p L) (hc : s.1 < 0 ∨ 21 ≤ s.1) :
    Calls Tryz.prog 46 #[.pointer (some ⟨p, 0, none⟩), .int .i64 s.1, .int .i64 s.2] w (Signd S p L s w) := by
  have hcode : code s = 20 := by rw [code, if_pos hc]
  have hans : ans s = (0, 0) := by rw [ans, hcode]; rfl
  have hpay : pay L s = L := by rw [pay, hcode]; rfl
  have HC := Lib.hid (And.intro hcode (And.intro hans hpay))
  have HM : Hid (∀ o, Calls Tryz.prog 79 #[.pointer (some ⟨p, 0, none⟩)] (w.alloc o) fun e w' => e = .returned (.bool true) ∧ w.alloc o = w') :=
    Lib.hid fun o => made_yes _ S p L (h.ch (Ch.of_below (S := fun _ => False) ((Below.refl _ w).alloc (Nat.le_refl _) o) (Nat.le_refl _)) (fun _ _ h => h))
  have HT := Lib.hid h
  clear hcode hans hpay h
  obtain ⟨x, y⟩ := s
  simp only at hc ⊢
  by_cases h1 : x < 0
  · clear hc
    go_enter Tryz.func46, Tryz.ntmps46
    go_wp2_with (go_at_call 79; refine (HM.out _).mono ?_; rintro e w' ⟨rfl, rfl⟩)
    refine bodyPost_ret (results_row_tmp rfl _ _ w.heap.size 47 #[.int .i64 0, .int .i64 0] (0, 0) _ rfl (heap_alloc_new w _) Tryz.underlying47 rfl size_sign) rfl ?_
    refine ⟨by rw [HC.out.1, HC.out.2.1]; rfl, ?_, Ch.of_below ((Below.refl _ w).alloc (Nat.le_refl _) _) (Nat.le_refl _)⟩
    rw [HC.out.2.2]
    exact Lg.up HT.out ((Below.refl _ w).alloc (Nat.le_refl _) _)
  · have h2 : 21 ≤ x := by omega
    clear hc
    go_enter Tryz.func46, Tryz.ntmps46
    go_wp2_with (go_at_call 79; refine (HM.out _).mono ?_; rintro e w' ⟨rfl, rfl⟩)
    refine bodyPost_ret (results_row_tmp rfl _ _ w.heap.size 47 #[.int .i64 0, .int .i64 0] (0, 0) _ rfl (heap_alloc_new w _) Tryz.underlying47 rfl size_sign) rfl ?_
    refine ⟨by rw [HC.out.1, HC.out.2.1]; rfl, ?_, Ch.of_below ((Below.refl _ w).alloc (Nat.le_refl _) _) (Nat.le_refl _)⟩
    rw [HC.out.2.2]
    exact Lg.up HT.out ((Below.refl _ w).alloc (Nat.le_refl _) _)

set_option maxHeartbeats 1000000 in
theorem sign_dig (w : World) (S : Nat → Prop) (p : Nat) (L : List Sg) (s : Sg) (h : Lg w S p L) (hk : ¬ (s.1 < 0 ∨ 21 ≤ s.1)) (hd : s.2 < 1) :
    Calls Tryz.prog 46 #[.pointer (some ⟨p, 0, none⟩), .int .i64 s.1, .int .i64 s.2] w (Signd S p L s w) := by
  have hcode : code s = 1 := by rw [code, if_neg hk, if_pos hd]
  have hans : ans s = (0, 0) := by rw [ans, hcode]; rfl
  have hpay : pay L s = L := by rw [pay, hcode]; rfl
  have HC := Lib.hid (And.intro hcode (And.intro hans hpay))
  have HM : Hid (∀ o, Calls Tryz.prog 79 #[.pointer (some ⟨p, 0, none⟩)] (w.alloc o) fun e w' => e = .returned (.bool true) ∧ w.alloc o = w') :=
    Lib.hid fun o => made_yes _ S p L (h.ch (Ch.of_below (S := fun _ => False) ((Below.refl _ w).alloc (Nat.le_refl _) o) (Nat.le_refl _)) (fun _ _ h => h))
  have HT := Lib.hid h
  clear hcode hans hpay h
  obtain ⟨x, y⟩ := s
  simp only at hk hd ⊢
  have h1 : 0 ≤ x := by omega
  have h2 : x < 21 := by omega
  clear hk
  go_enter Tryz.func46, Tryz.ntmps46
  go_wp2_with (go_at_call 79; refine (HM.out _).mono ?_; rintro e w' ⟨rfl, rfl⟩)
  refine bodyPost_ret (results_row_tmp rfl _ _ w.heap.size 47 #[.int .i64 0, .int .i64 0] (0, 0) _ rfl (heap_alloc_new w _) Tryz.underlying47 rfl size_sign) rfl ?_
  refine ⟨by rw [HC.out.1, HC.out.2.1]; rfl, ?_, Ch.of_below ((Below.refl _ w).alloc (Nat.le_refl _) _) (Nat.le_refl _)⟩
  rw [HC.out.2.2]
  exact Lg.up HT.out ((Below.refl _ w).alloc (Nat.le_refl _) _)

set_option maxHeartbeats 1000000 in
theorem sign_old (w : World) (S : Nat → Prop) (p : Nat) (L : List Sg) (s : Sg) (hs : wfS s) (h : Lg w S p L) (hk : ¬ (s.1 < 0 ∨ 21 ≤ s.1)) (hd : ¬ s.2 < 1) (hm : s ∈ L) :
    Calls Tryz.prog 46 #[.pointer (some ⟨p, 0, none⟩), .int .i64 s.1, .int .i64 s.2] w (Signd S p L s w) := by
  have hcode : code s = 0 := by rw [code, if_neg hk, if_neg hd]
  have hans : ans s = s := by rw [ans, hcode]; rfl
  have hpay : pay L s = L := by rw [pay, hcode, if_pos rfl, if_pos hm]
  have HC := Lib.hid (And.intro hcode (And.intro hans hpay))
  have HM : Hid (∀ o, Calls Tryz.prog 79 #[.pointer (some ⟨p, 0, none⟩)] (w.alloc o) fun e w' => e = .returned (.bool true) ∧ w.alloc o = w') :=
    Lib.hid fun o => made_yes _ S p L (h.ch (Ch.of_below (S := fun _ => False) ((Below.refl _ w).alloc (Nat.le_refl _) o) (Nat.le_refl _)) (fun _ _ h => h))
  have HT := Lib.hid h
  have HI := Lib.hid (isS_true hm)
  have HS : Hid (∀ W, Below w.heap.size w W → Calls Tryz.prog 55 #[.pointer (some ⟨p, 0, none⟩), GV s] W fun e w' => e = .returned (.bool true) ∧ Below W.heap.size W w') :=
    Lib.hid fun W hb => (signed_yes W S p L s hs (h.ch (Ch.of_below (S := fun _ => False) hb (Nat.le_refl _)) (fun _ _ h => h))).mono fun e w' he => ⟨by rw [he.1, HI.out], he.2⟩
  clear hcode hans hpay h hs hm
  obtain ⟨x, y⟩ := s
  simp only at hk hd ⊢
  unfold GV at HS
  have h1 : 0 ≤ x := by omega
  have h2 : x < 21 := by omega
  clear hk
  go_enter Tryz.func46, Tryz.ntmps46
  go_wp2_with (go_at_call 79; refine (HM.out _).mono ?_; rintro e w' ⟨rfl, rfl⟩)
  refine (HS.out _ (W1_below w x y)).mono ?_
  rintro e w2 ⟨rfl, hb2⟩
  have hb2 : Below (W1 w x y).heap.size (W1 w x y) w2 := hb2
  have hB2 : Below w.heap.size w w2 := (W1_below w x y).trans (hb2.mono (by rw [W1_size]; omega))
  have k0 : Blk w2 w.heap.size 47 #[.int .i64 0, .int .i64 0] := (W1_zero w x y).below hb2 (W1_zero w x y).lt
  have k1 : Blk w2 (w.heap.size + 1) 47 #[.int .i64 x, .int .i64 y] := (W1_sign w x y).below hb2 (W1_sign w x y).lt
  have a0 := k0.cell 0
  have a1 := k0.cell 1
  have a2 := k0.frozen 0
  have a3 := k0.frozen 1
  have b0 := k1.cell 0
  have b1 := k1.cell 1
  have K0 := Lib.hid k0
  have HB2 := Lib.hid hB2
  simp only [List.getElem?_toArray, List.getElem?_cons_zero, List.getElem?_cons_succ] at a0 a1 b0 b1
  clear k0 k1 hb2 hB2
  go_wp2
  refine bodyPost_ret (results_row_tmp rfl _ _ w.heap.size 47 #[.int .i64 x, .int .i64 y] (0, 0) _ rfl (blk_two K0.out) Tryz.underlying47 rfl size_sign) rfl ?_
  have hC : Ch (fun _ => False) w ((w2.setCell ⟨w.heap.size, 0, none⟩ (.int .i64 x)).setCell ⟨w.heap.size, 1, none⟩ (.int .i64 y)) := ((Ch.of_below HB2.out (Nat.le_refl _)).setCell (p := ⟨w.heap.size, 0, none⟩) (fun h => absurd h (Nat.lt_irrefl _)) _).setCell (p := ⟨w.heap.size, 1, none⟩) (fun h => absurd h (Nat.lt_irrefl _)) _
  refine ⟨by rw [HC.out.1, HC.out.2.1]; rfl, ?_, hC.mono (fun _ _ h => h.elim)⟩
  rw [HC.out.2.2]
  exact (HT.out.ch hC (fun _ _ h => h)).weaken (fun _ hk => .inl hk)

set_option maxHeartbeats 1000000 in
theorem sign_new (w : World) (S : Nat → Prop) (p : Nat) (L : List Sg) (s : Sg) (hs : wfS s) (h : Lg w S p L) (hk : ¬ (s.1 < 0 ∨ 21 ≤ s.1)) (hd : ¬ s.2 < 1) (hm : ¬ s ∈ L) (hL : (L.length + 1) * 16 ≤ 140737488355328) :
    Calls Tryz.prog 46 #[.pointer (some ⟨p, 0, none⟩), .int .i64 s.1, .int .i64 s.2] w (Signd S p L s w) := by
  have hcode : code s = 0 := by rw [code, if_neg hk, if_neg hd]
  have hans : ans s = s := by rw [ans, hcode]; rfl
  have hpay : pay L s = L ++ [s] := by rw [pay, hcode, if_pos rfl, if_neg hm]
  have HC := Lib.hid (And.intro hcode (And.intro hans hpay))
  have HM : Hid (∀ o, Calls Tryz.prog 79 #[.pointer (some ⟨p, 0, none⟩)] (w.alloc o) fun e w' => e = .returned (.bool true) ∧ w.alloc o = w') :=
    Lib.hid fun o => made_yes _ S p L (h.ch (Ch.of_below (S := fun _ => False) ((Below.refl _ w).alloc (Nat.le_refl _) o) (Nat.le_refl _)) (fun _ _ h => h))
  have HI := Lib.hid (isS_false hm)
  have HS : Hid (∀ W, Below w.heap.size w W → Calls Tryz.prog 55 #[.pointer (some ⟨p, 0, none⟩), GV s] W fun e w' => e = .returned (.bool false) ∧ Below W.heap.size W w') :=
    Lib.hid fun W hb => (signed_yes W S p L s hs (h.ch (Ch.of_below (S := fun _ => False) hb (Nat.le_refl _)) (fun _ _ h => h))).mono fun e w' he => ⟨by rw [he.1, HI.out], he.2⟩
  have HW := Lib.hid hs
  have HL := Lib.hid hL
  obtain ⟨m, ov, D, q1, hmap, hN, hown, hp, hmS, hg⟩ := h
  obtain ⟨A', c', rfl⟩ := own_shape hown
  have HH := Lib.hid (And.intro q1 (And.intro hmap (And.intro hN (And.intro hown (And.intro hp (And.intro hmS hg))))))
  clear hcode hans hpay hs hm hL q1 hmap hN hown hp hmS hg
  obtain ⟨x, y⟩ := s
  simp only at hk hd ⊢
  unfold GV at HS
  have h1 : 0 ≤ x := by omega
  have h2 : x < 21 := by omega
  clear hk
  go_enter Tryz.func46, Tryz.ntmps46
  go_wp2_with (go_at_call 79; refine (HM.out _).mono ?_; rintro e w' ⟨rfl, rfl⟩)
  refine (HS.out _ (W1_below w x y)).mono ?_
  rintro e w2 ⟨rfl, hb2⟩
  have hb2 : Below (W1 w x y).heap.size (W1 w x y) w2 := hb2
  have hB2 : Below w.heap.size w w2 := (W1_below w x y).trans (hb2.mono (by rw [W1_size]; omega))
  have k0 : Blk w2 w.heap.size 47 #[.int .i64 0, .int .i64 0] := (W1_zero w x y).below hb2 (W1_zero w x y).lt
  have k1 : Blk w2 (w.heap.size + 1) 47 #[.int .i64 x, .int .i64 y] := (W1_sign w x y).below hb2 (W1_sign w x y).lt
  have q1 : Blk w2 p 93 #[.map (some m), .slice A' L.length c'] := HH.out.1.below hB2 HH.out.1.lt
  have b0 := k1.cell 0
  have b1 := k1.cell 1
  have p0 := q1.cell 0
  have p1 := q1.cell 1
  have hm2 : w2.ownsMap Tryz.prog 47 unitElem m L.length D := map_ch HH.out.2.1 (Ch.of_below (S := fun _ => False) hB2 (Nat.le_refl _)) (fun h => h)
  have K0 := Lib.hid k0
  have K1 := Lib.hid k1
  have Q1 := Lib.hid q1
  have HB2 := Lib.hid hB2
  have HM2 := Lib.hid hm2
  simp only [List.getElem?_toArray, List.getElem?_cons_zero, List.getElem?_cons_succ] at b0 b1 p0 p1
  clear k0 k1 hb2 hB2 q1 hm2
  go_wp2
  go_still_tail 6, (by kernel_rfl)
  change wpList _ _ _ _ _ w2.drew
  have hlen : L.length ≤ 140737488355328 := by have := HL.out; omega
  go_wp2_with (at_mapUpdate; refine wpList_mapUpdate_own (H := Unit) _ rfl _ _ _ 91 rfl 47 124 law_sign Tryz.underlying91 unitElem m L.length D rfl (by exact HM2.out) (by simp only [maxLen]; omega) _ _ (KL (x, y)) rfl rfl (key_sign (x, y) HW.out) (.agg []) [] unitElem_mk ?_; intro w3 hm3 hg3)
  have hg3' : w2.grownBy w3 (some m) := ⟨hg3.os, hg3.tape, hg3.output, hg3.size, hg3.block⟩
  clear hg3
  have hmp : m ≠ p := map_far HM2.out Q1.out
  have hmid : Mid w w3 S p m (.slice A' L.length c') x y D L := mid_of K0.out K1.out Q1.out HM2.out hm3 HH.out.2.2.2.1 HH.out.2.1 HH.out.2.2.2.2.2.1 HB2.out hg3'
  have b0 := hmid.2.1.cell 0
  have b1 := hmid.2.1.cell 1
  have p0 := hmid.2.2.1.cell 0
  have p1 := hmid.2.2.1.cell 1
  have p1' := (hmid.2.2.1.alloc (.cells #[.int .i64 x, .int .i64 y] 47)).cell 1
  have HMID := Lib.hid hmid
  simp only [List.getElem?_toArray, List.getElem?_cons_zero, List.getElem?_cons_succ] at b0 b1 p0 p1 p1'
  clear hg3' hm3 hmp hmid
  obtain ⟨i0, hi0, hz0, hz1, hz2⟩ := info_parts info_sign
  have hpl := HH.out.1.lt
  have n0 : ¬ p = w.heap.size := by omega
  have n1 : ¬ p = w.heap.size + 1 := by omega
  have n2 : ¬ w.heap.size = p := by omega
  have n3 : ¬ w.heap.size + 1 = p := by omega
  go_wp2
  go_region_law ((refine step_append_sh (by rfl) (.tmp 40) (.tmp 42) _ (by rfl) 0 47 i0 _ 2 16 Tryz.underlying63 hi0 hz0 hz1 hz2 rfl (by omega) (.slice A' L.length c') L.length (GVs L) (by rfl) (show (w3.alloc (.cells #[.int .i64 x, .int .i64 y] 47)).drew.ownsRow 0 47 2 (.slice A' L.length c') L.length (GVs L) from HMID.out.2.2.2.2.1.alloc _) (fun _ => False) _ 1 (GVs [(x, y)]) (by rfl) (show Sl (w3.alloc (.cells #[.int .i64 x, .int .i64 y] 47)).drew (fun _ => False) _ _ _ _ from two_sv w3 (fun _ => False) _ x y (fun h => h)) (GVs_one _) (by have := HL.out; simp only [maxLen]; omega) HL.out (Nat.zero_le _) ?_; intro A4 c4 w4 happ; have happ := appended_drew happ; have hF := fin_of HMID.out HH.out.2.2.2.1 happ; have g0 := hF.1.cell 0; have g1 := hF.1.cell 1; have g2 := hF.1.frozen 0; have g3 := hF.1.frozen 1; have g4 := hF.2.1.cell 0; have g5 := hF.2.1.cell 1; have g6 := hF.2.2.cell 1; have g7 := hF.2.2.frozen 1; simp only [List.getElem?_toArray, List.getElem?_cons_zero, List.getElem?_cons_succ] at g0 g1 g4 g5 g6; clear hF))
  all_goals
    go_wp2
    have R := sign_end HMID.out HW.out HH.out.1 HH.out.2.2.2.1 HH.out.2.1 HH.out.2.2.1 HH.out.2.2.2.2.1 HH.out.2.2.2.2.2.1 HH.out.2.2.2.2.2.2 happ _ rfl
    refine bodyPost_ret (results_row_tmp rfl _ _ w.heap.size 47 #[.int .i64 x, .int .i64 y] (0, 0) _ rfl R.1 Tryz.underlying47 rfl size_sign) rfl ?_
    refine ⟨by rw [HC.out.1, HC.out.2.1]; rfl, ?_, R.2.2⟩
    rw [HC.out.2.2]
    exact R.2.1

theorem sign_any (w : World) (S : Nat → Prop) (p : Nat) (L : List Sg) (s : Sg) (hs : wfS s) (h : Lg w S p L) (hL : (L.length + 1) * 16 ≤ 140737488355328) :
    Calls Tryz.prog 46 #[.pointer (some ⟨p, 0, none⟩), .int .i64 s.1, .int .i64 s.2] w (Signd S p L s w) := by
  by_cases hk : s.1 < 0 ∨ 21 ≤ s.1
  · exact sign_key w S p L s h hk
  · by_cases hd : s.2 < 1
    · exact sign_dig w S p L s h hk hd
    · by_cases hm : s ∈ L
      · exact sign_old w S p L s hs h hk hd hm
      · exact sign_new w S p L s hs h hk hd hm hL

end Go.Proofs.YtebjjkhiniccgaaGreat.Lc

/-
  Layer 8 (request): a table beside its ledger; the contracts of madeTable, madeLedger, clone.
-/
namespace Go.Proofs.YtebjjkhiniccgaaGreat.Jf
set_option linter.unusedSimpArgs false
open Go Go.RowKit Ck Kw Ga Kf Pm Pe Pg Pk Py Qb Qg Ik Lk Jm Ja Jb Jd
attribute [local go_sem ↓] Go.wp_at_zero Go.wp_at_succ
set_option linter.unusedVariables false
set_option maxRecDepth 100000

/-- A table and a ledger, apart, all of them in blocks of S that are there. -/
def TL (w : World) (S : Nat → Prop) (p g : Nat) (L : List (List UInt8)) (G : List Sg) : Prop :=
  ∃ S1 S2, Tb w S1 p L ∧ Lg w S2 g G ∧ (∀ k, S1 k → S2 k → False) ∧ (∀ k, S1 k → S k ∧ k < w.heap.size) ∧ (∀ k, S2 k → S k ∧ k < w.heap.size)
section
variable {w w' : World} {S T : Nat → Prop} {p g : Nat} {L L' : List (List UInt8)} {G G' : List Sg}
theorem TL.ch {X : Nat → Prop} (h : TL w S p g L G) (c : Ch X w w') (hd : ∀ k, S k → X k → False) : TL w' S p g L G := by
  obtain ⟨S1, S2, h1, h2, h3, h4, h5⟩ := h
  exact ⟨S1, S2, h1.ch c (fun k hk hx => hd k (h4 k hk).1 hx), h2.ch c (fun k hk hx => hd k (h5 k hk).1 hx), h3, fun k hk => ⟨(h4 k hk).1, Nat.lt_of_lt_of_le (h4 k hk).2 c.size⟩, fun k hk => ⟨(h5 k hk).1, Nat.lt_of_lt_of_le (h5 k hk).2 c.size⟩⟩
theorem TL.later (h : TL w S p g L G) (b : Below w.heap.size w w') : TL w' S p g L G := h.ch (Ch.of_below (S := fun _ => False) b (Nat.le_refl _)) (fun _ _ h => h)
theorem TL.weaken (h : TL w S p g L G) (hk : ∀ k, k < w.heap.size → S k → T k) : TL w T p g L G := by
  obtain ⟨S1, S2, h1, h2, h3, h4, h5⟩ := h
  exact ⟨S1, S2, h1, h2, h3, fun k hk' => ⟨hk k (h4 k hk').2 (h4 k hk').1, (h4 k hk').2⟩, fun k hk' => ⟨hk k (h5 k hk').2 (h5 k hk').1, (h5 k hk').2⟩⟩
theorem TL.lt (h : TL w S p g L G) : p < w.heap.size ∧ g < w.heap.size := by
  obtain ⟨S1, S2, ⟨m, tv, D, h1, -⟩, ⟨m2, tv2, D2, h2, -⟩, _⟩ := h
  exact ⟨h1.lt, h2.lt⟩
/-- S, and what is new. -/
def Nw (S : Nat → Prop) (a b : Nat) (k : Nat) : Prop := S k ∨ (a ≤ k ∧ k < b)
theorem nw_two {a b c : Nat} (h : a ≤ b) (h' : b ≤ c) {k : Nat} (hk : Nw (Nw S a b) b c k) : Nw S a c k := by
  rcases hk with (hk | hk) | hk
  · exact .inl hk
  · exact .inr ⟨hk.1, by omega⟩
  · exact .inr ⟨by omega, hk.2⟩
end

set_option maxHeartbeats 1000000 in
theorem madet_any (w : World) (S : Nat → Prop) (p : Nat) (L : List (List UInt8)) (h : Tb w S p L) :
    Calls Tryz.prog 44 #[.pointer (some ⟨p, 0, none⟩)] w fun e w' => e = .returned (.bool true) ∧ Below w.heap.size w w' := by
  have HL := Lib.hid (Ia.len_yes w S p L h)
  have HT := Lib.hid (Ig.tclone_any w S p L h)
  clear h
  generalize L.length = n at *
  by_cases h0 : 0 < n
  · have hd : decide (0 < (n : Int)) = true := decide_eq_true (by omega)
    have hd2 : decide (0 < n) = true := decide_eq_true h0
    clear h0
    go_enter Tryz.func44, Tryz.ntmps44
    go_wp2_with fail
    refine HL.out.mono ?_
    rintro e w1 ⟨rfl, rfl⟩
    go_wp2_with fail
    go_ret
    exact ⟨rfl, Below.refl _ _⟩
  · have hd : decide (0 < (n : Int)) = false := decide_eq_false (by omega)
    have hd2 : decide (0 < n) = false := decide_eq_false h0
    clear h0
    go_enter Tryz.func44, Tryz.ntmps44
    go_wp2_with fail
    refine HL.out.mono ?_
    rintro e w1 ⟨rfl, rfl⟩
    go_wp2_with fail
    refine HT.out.mono ?_
    rintro e w2 ⟨p', rfl, -, hb⟩
    have HB := Lib.hid hb
    clear hb
    go_wp2_with fail
    go_ret
    exact ⟨rfl, HB.out⟩
set_option maxHeartbeats 1000000 in
theorem madel_any (w : World) (S : Nat → Prop) (p : Nat) (G : List Sg) (h : Lg w S p G) (hG : G.length * 16 ≤ 140737488355328) :
    Calls Tryz.prog 45 #[.pointer (some ⟨p, 0, none⟩)] w fun e w' => e = .returned (.bool true) ∧ Below w.heap.size w w' := by
  have HL := Lib.hid (La.len_yes w S p G h)
  have HT := Lib.hid (La.lclone_any w S p G h hG)
  clear h hG
  generalize G.length = n at *
  by_cases h0 : 0 < n
  · have hd : decide (0 < (n : Int)) = true := decide_eq_true (by omega)
    have hd2 : decide (0 < n) = true := decide_eq_true h0
    clear h0
    go_enter Tryz.func45, Tryz.ntmps45
    go_wp2_with fail
    refine HL.out.mono ?_
    rintro e w1 ⟨rfl, rfl⟩
    go_wp2_with fail
    go_ret
    exact ⟨rfl, Below.refl _ _⟩
  · have hd : decide (0 < (n : Int)) = false := decide_eq_false (by omega)
    have hd2 : decide (0 < n) = false := decide_eq_false h0
    clear h0
    go_enter Tryz.func45, Tryz.ntmps45
    go_wp2_with fail
    refine HL.out.mono ?_
    rintro e w1 ⟨rfl, rfl⟩
    go_wp2_with fail
    refine HT.out.mono ?_
    rintro e w2 ⟨p', rfl, -, hb⟩
    have HB := Lib.hid hb
    clear hb
    go_wp2_with fail
    go_ret
    exact ⟨rfl, HB.out⟩

theorem size_req : (Tryz.prog.info? 27).map (·.size) = some 7 := by kernel_rfl
/-- The cells of no request, of no signed one. -/
def Z7 : Array Value := #[.int .i64 0, .int .i64 0, .int .i64 0, .string ⟨#[]⟩, .string ⟨#[]⟩, .int .i64 0, .slice none 0 0]
def Z9 : Array Value := #[.int .i64 0, .int .i64 0, .int .i64 0, .string ⟨#[]⟩, .string ⟨#[]⟩, .int .i64 0, .slice none 0 0, .int .i64 0, .int .i64 0]
theorem blk7 {w : World} {g : Nat} {t : TypeId} {a b c d e f h x0 x1 x2 x3 x4 x5 x6 : Value} (hb : Blk w g t #[a, b, c, d, e, f, h]) :
    Blk (((((((w.setCell ⟨g, 0, none⟩ x0).setCell ⟨g, 1, none⟩ x1).setCell ⟨g, 2, none⟩ x2).setCell ⟨g, 3, none⟩ x3).setCell ⟨g, 4, none⟩ x4).setCell ⟨g, 5, none⟩ x5).setCell ⟨g, 6, none⟩ x6) g t #[x0, x1, x2, x3, x4, x5, x6] := by
  have := ((((((hb.set_ 0 x0).set_ 1 x1).set_ 2 x2).set_ 3 x3).set_ 4 x4).set_ 5 x5).set_ 6 x6
  simpa using this
theorem blk9 {w : World} {g : Nat} {t : TypeId} {a b c d e f h i j x0 x1 x2 x3 x4 x5 x6 x7 x8 : Value} (hb : Blk w g t #[a, b, c, d, e, f, h, i, j]) :
    Blk (((((((((w.setCell ⟨g, 0, none⟩ x0).setCell ⟨g, 1, none⟩ x1).setCell ⟨g, 2, none⟩ x2).setCell ⟨g, 3, none⟩ x3).setCell ⟨g, 4, none⟩ x4).setCell ⟨g, 5, none⟩ x5).setCell ⟨g, 6, none⟩ x6).setCell ⟨g, 7, none⟩ x7).setCell ⟨g, 8, none⟩ x8) g t #[x0, x1, x2, x3, x4, x5, x6, x7, x8] := by
  have := ((((((((hb.set_ 0 x0).set_ 1 x1).set_ 2 x2).set_ 3 x3).set_ 4 x4).set_ 5 x5).set_ 6 x6).set_ 7 x7).set_ 8 x8
  simpa using this
theorem ch5 {a w : World} {g : Nat} {x2 x3 x4 x5 x6 : Value} (h : Ch (fun k => k = g) a w) :
    Ch (fun k => k = g) a (((((w.setCell ⟨g, 2, none⟩ x2).setCell ⟨g, 3, none⟩ x3).setCell ⟨g, 4, none⟩ x4).setCell ⟨g, 5, none⟩ x5).setCell ⟨g, 6, none⟩ x6) :=
  ((((h.setCell (fun _ => rfl) _).setCell (fun _ => rfl) _).setCell (fun _ => rfl) _).setCell (fun _ => rfl) _).setCell (fun _ => rfl) _
theorem ch7 {a w : World} {g : Nat} {x0 x1 x2 x3 x4 x5 x6 : Value} (h : Ch (fun k => k = g) a w) :
    Ch (fun k => k = g) a (((((((w.setCell ⟨g, 0, none⟩ x0).setCell ⟨g, 1, none⟩ x1).setCell ⟨g, 2, none⟩ x2).setCell ⟨g, 3, none⟩ x3).setCell ⟨g, 4, none⟩ x4).setCell ⟨g, 5, none⟩ x5).setCell ⟨g, 6, none⟩ x6) :=
  ((((((h.setCell (fun _ => rfl) _).setCell (fun _ => rfl) _).setCell (fun _ => rfl) _).setCell (fun _ => rfl) _).setCell (fun _ => rfl) _).setCell (fun _ => rfl) _).setCell (fun _ => rfl) _
theorem ch9 {a w : World} {g : Nat} {x0 x1 x2 x3 x4 x5 x6 x7 x8 : Value} (h : Ch (fun k => k = g) a w) :
    Ch (fun k => k = g) a (((((((((w.setCell ⟨g, 0, none⟩ x0).setCell ⟨g, 1, none⟩ x1).setCell ⟨g, 2, none⟩ x2).setCell ⟨g, 3, none⟩ x3).setCell ⟨g, 4, none⟩ x4).setCell ⟨g, 5, none⟩ x5).setCell ⟨g, 6, none⟩ x6).setCell ⟨g, 7, none⟩ x7).setCell ⟨g, 8, none⟩ x8) :=
  ((((((((h.setCell (fun _ => rfl) _).setCell (fun _ => rfl) _).setCell (fun _ => rfl) _).setCell (fun _ => rfl) _).setCell (fun _ => rfl) _).setCell (fun _ => rfl) _).setCell (fun _ => rfl) _).setCell (fun _ => rfl) _).setCell (fun _ => rfl) _
theorem Blk.cells7 {W : World} {g : Nat} {t : TypeId} {a b c d e f h : Value} (hb : Blk W g t #[a, b, c, d, e, f, h]) :
    (W.cell? ⟨g, 0, none⟩ = some a ∧ W.cell? ⟨g, 1, none⟩ = some b ∧ W.cell? ⟨g, 2, none⟩ = some c ∧ W.cell? ⟨g, 3, none⟩ = some d ∧ W.cell? ⟨g, 4, none⟩ = some e ∧ W.cell? ⟨g, 5, none⟩ = some f ∧ W.cell? ⟨g, 6, none⟩ = some h) ∧
    (W.frozen? ⟨g, 0, none⟩ = false ∧ W.frozen? ⟨g, 1, none⟩ = false ∧ W.frozen? ⟨g, 2, none⟩ = false ∧ W.frozen? ⟨g, 3, none⟩ = false ∧ W.frozen? ⟨g, 4, none⟩ = false ∧ W.frozen? ⟨g, 5, none⟩ = false ∧ W.frozen? ⟨g, 6, none⟩ = false) :=
  ⟨⟨hb.cell 0, hb.cell 1, hb.cell 2, hb.cell 3, hb.cell 4, hb.cell 5, hb.cell 6⟩, ⟨hb.frozen 0, hb.frozen 1, hb.frozen 2, hb.frozen 3, hb.frozen 4, hb.frozen 5, hb.frozen 6⟩⟩
theorem Blk.cells9 {W : World} {g : Nat} {t : TypeId} {a b c d e f h i j : Value} (hb : Blk W g t #[a, b, c, d, e, f, h, i, j]) :
    (W.cell? ⟨g, 0, none⟩ = some a ∧ W.cell? ⟨g, 1, none⟩ = some b ∧ W.cell? ⟨g, 2, none⟩ = some c ∧ W.cell? ⟨g, 3, none⟩ = some d ∧ W.cell? ⟨g, 4, none⟩ = some e ∧ W.cell? ⟨g, 5, none⟩ = some f ∧ W.cell? ⟨g, 6, none⟩ = some h ∧ W.cell? ⟨g, 7, none⟩ = some i ∧ W.cell? ⟨g, 8, none⟩ = some j) ∧
    (W.frozen? ⟨g, 0, none⟩ = false ∧ W.frozen? ⟨g, 1, none⟩ = false ∧ W.frozen? ⟨g, 2, none⟩ = false ∧ W.frozen? ⟨g, 3, none⟩ = false ∧ W.frozen? ⟨g, 4, none⟩ = false ∧ W.frozen? ⟨g, 5, none⟩ = false ∧ W.frozen? ⟨g, 6, none⟩ = false ∧ W.frozen? ⟨g, 7, none⟩ = false ∧ W.frozen? ⟨g, 8, none⟩ = false) :=
  ⟨⟨hb.cell 0, hb.cell 1, hb.cell 2, hb.cell 3, hb.cell 4, hb.cell 5, hb.cell 6, hb.cell 7, hb.cell 8⟩, ⟨hb.frozen 0, hb.frozen 1, hb.frozen 2, hb.frozen 3, hb.frozen 4, hb.frozen 5, hb.frozen 6, hb.frozen 7, hb.frozen 8⟩⟩

/-- A request's clone. -/
def ClonedQ (w : World) (q : Q) (e : Ending) (w' : World) : Prop := ∃ A c, e = .returned (QV q A c) ∧ Ls w' (fun k => k < w.heap.size) (.slice A q.o.recs.length c) q.o.recs ∧ Below w.heap.size w w'
theorem fin {w w2 w3 : World} {q : Q} {A : Option Addr} {c : Nat} (h : Ls w2 (fun k => k < w.heap.size + 2) (.slice A q.o.recs.length c) q.o.recs) (b : Below w.heap.size w w2) (hc : Ch (fun k => w.heap.size ≤ k ∧ k < w.heap.size + 2) w2 w3) :
    ClonedQ w q (.returned (QV q A c)) w3 :=
  ⟨A, c, rfl, (h.ch hc (fun k _ hk => hk.2)).weaken (fun k _ hk => by omega), b.trans (hc.below (fun k hk h => by omega) b.size)⟩
set_option maxHeartbeats 2000000 in
theorem qclone_any (w : World) (q : Q) (X : Nat → Prop) (A : Option Addr) (c : Nat) (hls : Ls w X (.slice A q.o.recs.length c) q.o.recs) (hlo : far q.o 140737488351232) :
    Calls Tryz.prog 49 #[QV q A c] w (ClonedQ w q) := by
  have b1 := op_below w (.cells (QC q A c) 27)
  have b2 : Below w.heap.size w ((w.alloc (.cells (QC q A c) 27)).alloc (.cells Z7 27)) := b1.alloc b1.size _
  have k0 : QB ((w.alloc (.cells (QC q A c) 27)).alloc (.cells Z7 27)) w.heap.size q A c := Blk.alloc (Blk.new w _ _) _
  have k1 : Blk ((w.alloc (.cells (QC q A c) 27)).alloc (.cells Z7 27)) (w.heap.size + 1) 27 Z7 := Blk.new_at (by simp) rfl
  have HC := Lib.hid (Qg.clone_any _ q.o X A c (hls.after b2) hlo)
  obtain ⟨a0, a1, a2, a3, a4, a5, a6⟩ := k0.cells
  have HB := Lib.hid b2
  have HK0 := Lib.hid k0
  have HK1 := Lib.hid k1
  clear b1 b2 k0 k1 hls hlo
  unfold QV
  unfold OV at HC
  unfold QC Z7 at HC HB HK0 HK1 a0 a1 a2 a3 a4 a5 a6
  unfold QC
  go_enter Tryz.func49, Tryz.ntmps49
  go_wp2_with fail
  refine HC.out.mono ?_
  rintro e w2 ⟨A2, c2, vals, rfl, hcl⟩
  have HLS : Hid (Ls w2 (fun k => k < w.heap.size + 2) (.slice A2 q.o.recs.length c2) q.o.recs) := Lib.hid (hcl.ls.weaken (fun k _ h => by simp at h ⊢; omega))
  have hb2 := hcl.below
  have HB2 := Lib.hid (HB.out.trans (hb2.mono HB.out.size))
  have hq2 : Blk w2 w.heap.size 27 _ := Blk.below HK0.out hb2 (Blk.lt HK0.out)
  have hr2 : Blk w2 (w.heap.size + 1) 27 _ := Blk.below HK1.out hb2 (Blk.lt HK1.out)
  clear hcl hb2 a0 a1 a2 a3 a4 a5 a6
  unfold QC at hq2
  obtain ⟨⟨a0, a1, a2, a3, a4, a5, a6⟩, ⟨f0, f1, f2, f3, f4, f5, f6⟩⟩ := Blk.cells7 hq2
  obtain ⟨⟨z0, z1, z2, z3, z4, z5, z6⟩, ⟨y0, y1, y2, y3, y4, y5, y6⟩⟩ := Blk.cells7 hr2
  have HQ2 := Lib.hid hq2
  have HR2 := Lib.hid hr2
  clear hq2 hr2
  unfold OV
  go_wp2_with fail
  refine bodyPost_ret (results_row1 rfl _ _ (w.heap.size + 1) 27 #[.int .i64 q.client, .int .i64 q.time, .int .i64 q.o.kind, .string ⟨q.o.topic.toArray⟩, .string ⟨q.o.group.toArray⟩, .int .i64 q.o.off, .slice A2 q.o.recs.length c2] (0, 0) _ rfl (blk7 (Blk.ch HR2.out (ch5 (Ch.refl _ _)) (by omega))) Tryz.underlying27 rfl size_req) rfl ?_
  exact fin HLS.out HB2.out (((ch5 (g := w.heap.size) (Ch.refl _ w2)).mono (fun k _ hk => by omega)).trans (ch7 (g := w.heap.size + 1) (Ch.refl _ _)) (fun k _ hk => by omega))
end Go.Proofs.YtebjjkhiniccgaaGreat.Jf

/-
  Contracts of the document's ledger: Signed; slices.Equal of signatures.
-/
namespace Go.Proofs.YtebjjkhiniccgaaGreat.Ld
set_option linter.unusedSimpArgs false
set_option linter.unusedVariables false
set_option maxRecDepth 100000
open Go Go.RowKit Ck Im Kw Ik Ia Ib Ic Lk La Lb Lc

/-- Are two signatures the same? (A word of its own.) -/
def sgB (s t : Sg) : Bool := decide (s = t)
theorem sgB_yes (s : Sg) : sgB s s = true := by simp [sgB]
theorem sgB_no {s t : Sg} (h : s ≠ t) : sgB s t = false := by simp [sgB, h]
theorem guard_sign : Tryz.prog.eqGuardType Tryz.prog.depth 47 = false := by kernel_rfl
theorem stood_sign : Tryz.prog.stoodInHeld 47 = false := by kernel_rfl
theorem fields_sign : Tryz.prog.underlying 47 = some (.struct (Tryz.prog.fieldsOf 47)) := by kernel_rfl
theorem run_equalIn_sign (W : World) (d : Nat) (a b c e : Int) : (Op.equalIn (d + 1 + 1) 47 (.agg #[.int .i64 a, .int .i64 b]) (.agg #[.int .i64 c, .int .i64 e])).run Tryz.prog W = .ok (sgB (a, b) (c, e)) W := by
  rw [run_equalIn_struct W (d + 1) 47 _ _ fields_sign stood_sign]
  have hf : (Tryz.prog.fieldsOf 47).toList = [{ name := "Key", type := 3, offset := 0, embedded := false, tag := "", pkgPath := "", byteOffset := 0 }, { name := "Digest", type := 45, offset := 1, embedded := false, tag := "", pkgPath := "", byteOffset := 8 }] := by kernel_rfl
  rw [hf]
  have h1 := fun (x y : Int) (W : World) => run_equalIn_int (P := Tryz.prog) W d 3 .i64 .i64 x y Tryz.underlying3
  have h2 := fun (x y : Int) (W : World) => run_equalIn_int (P := Tryz.prog) W d 45 .i64 .i64 x y Tryz.underlying45
  have p1 : ∀ (u v : Value) (W : World), (part 3 #[u, v] 0).run Tryz.prog W = .ok u W := fun u v W => by simp [part, isAgg, run_underlying Tryz.underlying3]
  have p2 : ∀ (u v : Value) (W : World), (part 45 #[u, v] 1).run Tryz.prog W = .ok v W := fun u v W => by simp [part, isAgg, run_underlying Tryz.underlying45]
  by_cases hac : a = c
  · by_cases hbe : b = e
    · subst hac; subst hbe
      simp [Op.eqFields, p1, p2, h1, h2, Result.andThen, sgB]
    · subst hac
      simp [Op.eqFields, p1, p2, h1, h2, Result.andThen, sgB, hbe]
  · simp [Op.eqFields, p1, h1, Result.andThen, sgB, hac]
theorem run_eql_sign (W : World) (a b c e : Int) : (binOp .eql 47 (.agg #[.int .i64 a, .int .i64 b]) (.agg #[.int .i64 c, .int .i64 e])).run Tryz.prog W = .ok (.bool (sgB (a, b) (c, e))) W := by
  rw [run_eql_struct, show (10000 : Nat) = 9998 + 1 + 1 from rfl, run_equalIn_sign]
  rfl
theorem run_neq_sign (W : World) (a b c e : Int) : (binOp .neq 47 (.agg #[.int .i64 a, .int .i64 b]) (.agg #[.int .i64 c, .int .i64 e])).run Tryz.prog W = .ok (.bool (!sgB (a, b) (c, e))) W := by
  rw [run_neq_struct, show (10000 : Nat) = 9998 + 1 + 1 from rfl, run_equalIn_sign]
  rfl

/-- A signature's two cells in a slice. -/
theorem sig_at {w : World} {X : Nat → Prop} {A : Option Addr} {c : Nat} {L : List Sg} (h : Sl w X 2 (.slice A L.length c) L.length (GVs L)) {i : Nat} (hi : i < L.length) :
    ∃ ad, A = some ad ∧ w.cell? (ad.add (i * 2)) = some (.int .i64 L[i].1) ∧ w.cell? ⟨(ad.add (i * 2)).block, (ad.add (i * 2)).off + 1, none⟩ = some (.int .i64 L[i].2) ∧ L.length ≤ c := by
  obtain ⟨A0, c0, hv, hl, hc, hm, hx⟩ := h
  injection hv with e1 e2 e3
  subst e1; subst e3
  obtain ⟨ad, hA, hb, hX, hcell⟩ := hx (by omega)
  obtain ⟨g1, g2⟩ := GVs_get L i hi
  refine ⟨ad, hA, hcell _ _ g1, ?_, hc⟩
  have := hcell _ _ g2
  rw [← Ck.add_add] at this
  generalize ad.add (i * 2) = ak at this ⊢
  unfold Addr.add at this
  rw [if_neg (by omega)] at this
  exact this

set_option maxHeartbeats 1000000 in
theorem rsigned_any (w : World) (S : Nat → Prop) (p : Nat) (L : List Sg) (s : Sg) (h : Rl w S p L) (hL : L.length ≤ 140737488355328) :
    Calls Tryz.prog 57 #[.pointer (some ⟨p, 0, none⟩), GV s] w fun e w' => e = .returned (.bool (isS L s)) ∧ Below w.heap.size w w' := by
  obtain ⟨lv, q1, hp, hsl⟩ := h
  have hsl' := hsl
  obtain ⟨A, c, rfl, -⟩ := hsl'
  obtain ⟨x, y⟩ := s
  have hq := run_eql_sign
  have hg := guard_sign
  have q2 := q1.alloc (.cells #[.int .i64 x, .int .i64 y] 47)
  have s2 := hsl.alloc (.cells #[.int .i64 x, .int .i64 y] 47)
  have k2 : Blk (w.alloc (.cells #[.int .i64 x, .int .i64 y] 47)) w.heap.size 47 #[.int .i64 x, .int .i64 y] := Blk.new _ _ _
  have hb : Below w.heap.size w (w.alloc (.cells #[.int .i64 x, .int .i64 y] 47)) := (Below.refl _ _).alloc (Nat.le_refl _) _
  clear q1 hsl hp
  unfold GV
  have HL := Lib.hid hL
  clear hL
  have hL2 : L.length ≤ 9007199254740992 := by have := HL.out; omega
  go_enter Tryz.func57, Tryz.ntmps57
  go_wp2
  generalize hW : w.alloc (.cells #[.int .i64 x, .int .i64 y] 47) = W at *
  have HW := Lib.hid hW
  have HB := Lib.hid hb
  clear hW hb
  go_loopw [5] (fun i wr => ∃ k : Nat, k ≤ L.length ∧ i = .int .i64 k ∧ (x, y) ∉ L.take k ∧ ∃ n, wr = W.drewN n) (fun i _ => L.length - (intOf i).toNat)
  case atStart => exact ⟨0, Nat.zero_le _, rfl, by simp, 0, rfl⟩
  case round =>
    obtain ⟨k, hk, rfl, hz, nd, rfl⟩ := hrel
    have HZ := Lib.hid hz
    clear hz
    have c0 : (W.drewN nd).cell? ⟨p, 0, none⟩ = some (.slice A L.length c) := q2.cell 0
    by_cases hlt : k < L.length
    · obtain ⟨ad, rfl, a0, a1, hLc⟩ := sig_at s2 hlt
      have a0' : (W.drewN nd).cell? (ad.add (k * 2)) = some (.int .i64 L[k].1) := a0
      have a1' : (W.drewN nd).cell? ⟨(ad.add (k * 2)).block, (ad.add (k * 2)).off + 1, none⟩ = some (.int .i64 L[k].2) := a1
      have b0 : (W.drewN nd).cell? ⟨w.heap.size, 0, none⟩ = some (.int .i64 x) := k2.cell 0
      have b1 : (W.drewN nd).cell? ⟨w.heap.size, 1, none⟩ = some (.int .i64 y) := k2.cell 1
      have HK2 := Lib.hid k2
      have HQ2 := Lib.hid q2
      have HS2 := Lib.hid s2
      clear a0 a1 k2 q2 s2
      generalize hWd : W.drewN nd = wr at *
      have HWd := Lib.hid hWd
      clear hWd
      by_cases heq : L[k] = (x, y)
      · have hs : sgB (L[k].1, L[k].2) (x, y) = true := by rw [heq]; exact sgB_yes _
        have HE := Lib.hid heq
        clear heq
        go_wp2
        go_quiet (fail)
        go_wp2
        go_ret
        rw [isS_true (HE.out ▸ List.getElem_mem hlt)]
        refine ⟨rfl, ?_⟩
        rw [← HWd.out]
        exact below_drewN (below_drewN HB.out _) _
      · have hs : sgB (L[k].1, L[k].2) (x, y) = false := sgB_no (by exact heq)
        have HE := Lib.hid heq
        clear heq
        go_wp2
        go_quiet (fail)
        go_wp2
        go_roundw
        case rel =>
          refine ⟨k + 1, by omega, by go_num, ?_, ?_⟩
          · rw [List.take_succ_eq_append_getElem hlt]
            intro hm
            rcases List.mem_append.1 hm with hm | hm
            · exact HZ.out hm
            · simp only [List.mem_cons, List.not_mem_nil, or_false] at hm
              exact HE.out hm.symm
          · rw [← HWd.out]
            exact ⟨_, by rw [World.drewN_drewN]⟩
        case measure => simp [intOf]; omega
    · have hke : k = L.length := by omega
      have hz : (x, y) ∉ L := by have := HZ.out; rw [hke, List.take_length] at this; exact this
      have H0 := Lib.hid hz
      clear hz
      go_wp2
      go_ret
      rw [isS_false H0.out]
      exact ⟨rfl, below_drewN HB.out _⟩


end Go.Proofs.YtebjjkhiniccgaaGreat.Ld

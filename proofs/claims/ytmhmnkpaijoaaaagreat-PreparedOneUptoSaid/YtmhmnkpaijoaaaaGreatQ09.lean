/-
  Contracts of slices.Clone at three types, of maps.Clone at two.
-/
import Derived.Test.YtmhmnkpaijoaaaaGreatQ08
import Derived.Shelf.SlMaps.Clone
import Derived.Test.YtmhmnkpaijoaaaaGreatQ07
import Derived.StillTailTactics
import Derived.Deep.RegionLaw
import Derived.Laws.StructEq
import Derived.Deep.RegionHeld3
namespace Go.Proofs.YtmhmnkpaijoaaaaGreat.Ic
set_option linter.unusedSimpArgs false
set_option linter.unusedVariables false
set_option maxRecDepth 100000
open Go Go.RowKit Ck Im Kw Ik Ia Ib

theorem info_sign : (Tryz.prog.info? 36).map (fun i => (i.zero, i.size, i.bytes)) = some (some (.agg #[.int .i64 0, .int .i64 0]), 2, 16) := by kernel_rfl

set_option maxHeartbeats 400000 in
theorem clone_signs (X : Nat → Prop) (v : Value) (n : Nat) (xs : List Value) (w : World) (hv : Sl w X 2 v n xs) (h1 : ∀ u ∈ xs, u.oneCell' = true) (hn : n * 16 ≤ 140737488355328) :
    Calls Tryz.prog 92 #[v] w fun e w' => ∃ A c, e = .returned (.slice A n c) ∧ w'.ownsRow w.heap.size 36 2 (.slice A n c) n xs ∧ Below w.heap.size w w' := by
  obtain ⟨i0, hi0, hz0, hz1, hz2⟩ := info_parts info_sign
  have hv' := hv
  obtain ⟨A, c, rfl, hxl, -⟩ := hv'
  have heq := fun (W : World) => Lib.run_eql_slice_nil (P := Tryz.prog) W 37 36 A n c 0 0 Tryz.underlying37
  rcases A with _ | ad
  · obtain ⟨h0, rfl⟩ := hv.none_
    subst h0
    clear hv h1 hxl
    go_enter Tryz.func92, Tryz.ntmps92
    go_wp2
    go_ret
    exact ⟨_, _, rfl, World.ownsRow_nil _ _ _ _, Below.refl _ _⟩
  · have HX := Lib.hid hxl
    clear hxl
    go_enter Tryz.func92, Tryz.ntmps92
    go_wp2_with (at_builtin; refine wpList_append_sh _ rfl (.tmp 5) (.tmp 6) _ rfl w.heap.size 36 i0 _ 2 16 Tryz.underlying37 hi0 hz0 hz1 hz2 rfl (by omega) (.slice (some ⟨w.heap.size, 0, none⟩) 0 0) 0 [] rfl (World.ownsRow_made w #[] 0 (Nat.le_refl _) (by simp only [maxLen]; omega) rfl) X _ n xs rfl (hv.alloc _) h1 (by simp only [maxLen]; omega) (by omega) (by simp) ?_; intro A2 c2 w2 happ)
    go_ret
    obtain ⟨ho, hg, hr⟩ := happ
    rw [Nat.zero_add] at hr
    refine ⟨A2, c2, by simp, by simpa using ho, ?_⟩
    exact ((Below.refl _ _).alloc (Nat.le_refl _) _).grown hg (by simp) (by simp [Value.ownBlock])

end Go.Proofs.YtmhmnkpaijoaaaaGreat.Ic

/-
  Contracts of the program's table: Plain, From.
-/
namespace Go.Proofs.YtmhmnkpaijoaaaaGreat.Ie
set_option linter.unusedSimpArgs false
set_option linter.unusedVariables false
set_option maxRecDepth 100000
open Go Go.RowKit Ck Im Kw Ik Ia Ib Ic

/-- v is a new list of new bytes. -/
def Pl (w : World) (base : Nat) (v : Value) (L : List Tx) : Prop :=
  ∃ vals, w.ownsRow base 32 1 v L.length vals ∧ ∀ i (h : i < L.length), ∃ u, vals[i]? = some u ∧ Out w base u L[i]
theorem Pl.ls {w : World} {base : Nat} {v : Value} {L : List Tx} {X : Nat → Prop} (h : Pl w base v L) (hX : ∀ k, base ≤ k → k < w.heap.size → ¬ X k) : Ls w X v L := by
  obtain ⟨vals, ho, hx⟩ := h
  exact ⟨vals, Sl.of_own ho hX, fun i hi => by obtain ⟨u, hu, hout⟩ := hx i hi; exact ⟨u, hu, hout.sl hX⟩⟩

theorem one_slice (A : Option Addr) (n c : Nat) : ∀ u ∈ [Value.slice A n c], u.oneCell' = true := by
  intro u hu
  simp only [List.mem_cons, List.not_mem_nil, or_false] at hu
  subst hu; rfl
end Go.Proofs.YtmhmnkpaijoaaaaGreat.Ie

/-
  Contracts of bytes.Equal and of the document's table: Same, SameAll, Look, Open, Sum.
-/
namespace Go.Proofs.YtmhmnkpaijoaaaaGreat.Ih
set_option linter.unusedSimpArgs false
set_option linter.unusedVariables false
set_option maxRecDepth 100000
open Go Go.RowKit Ck Im Kw Ik Ia Ib Ic Ie

theorem equal_any (w : World) (X Y : Nat → Prop) (va vb : Value) (n m : Nat) (l k : List UInt8) (ha : Sl w X 1 va n (BVs l)) (hb : Sl w Y 1 vb m (BVs k)) :
    Calls Tryz.prog 157 #[va, vb] w fun e w' => e = .returned (.bool (l == k)) ∧ w = w' := by
  have hn : n = l.length := by obtain ⟨A, c, _, h, _⟩ := ha; rw [BVs_len] at h; omega
  have hm : m = k.length := by obtain ⟨A, c, _, h, _⟩ := hb; rw [BVs_len] at h; omega
  subst hn; subst hm
  have ha' := ha
  have hb' := hb
  obtain ⟨A, c, rfl, -⟩ := ha'
  obtain ⟨B, d, rfl, -⟩ := hb'
  have c1 := run_convert_sl (P := Tryz.prog) w X 32 9 5 A c l Tryz.underlying32 Tryz.underlying5 Tryz.underlying9 ha
  have c2 := run_convert_sl (P := Tryz.prog) w Y 32 9 5 B d k Tryz.underlying32 Tryz.underlying5 Tryz.underlying9 hb
  clear ha hb
  go_enter Tryz.func157, Tryz.ntmps157
  go_wp2
  go_ret
  exact ⟨rfl, rfl⟩
theorem same_any (w : World) (X Y : Nat → Prop) (va vb : Value) (n m : Nat) (l k : List UInt8) (ha : Sl w X 1 va n (BVs l)) (hb : Sl w Y 1 vb m (BVs k)) :
    Calls Tryz.prog 87 #[va, vb] w fun e w' => e = .returned (.bool (l == k)) ∧ w = w' := by
  have hn : n = l.length := by obtain ⟨A, c, _, h, _⟩ := ha; rw [BVs_len] at h; omega
  have hm : m = k.length := by obtain ⟨A, c, _, h, _⟩ := hb; rw [BVs_len] at h; omega
  subst hn; subst hm
  have ha' := ha
  have hb' := hb
  obtain ⟨A, c, rfl, -⟩ := ha'
  obtain ⟨B, d, rfl, -⟩ := hb'
  have c1 := run_convert_sl (P := Tryz.prog) w X 32 9 5 A c l Tryz.underlying32 Tryz.underlying5 Tryz.underlying9 ha
  have c2 := run_convert_sl (P := Tryz.prog) w Y 32 9 5 B d k Tryz.underlying32 Tryz.underlying5 Tryz.underlying9 hb
  clear ha hb
  go_enter Tryz.func87, Tryz.ntmps87
  go_wp2
  go_ret
  exact ⟨rfl, rfl⟩

theorem Ls.shape {w : World} {X : Nat → Prop} {v : Value} {ls : List (List UInt8)} (h : Ls w X v ls) : ∃ A c, v = .slice A ls.length c := by
  obtain ⟨vals, ⟨A, c, hv, _⟩, _⟩ := h
  exact ⟨A, c, hv⟩

set_option maxHeartbeats 400000 in
theorem rlook_any (w : World) (S X : Nat → Prop) (p : Nat) (L : List Tx) (v : Value) (n : Nat) (b : Tx) (h : Rf w S p L) (hb : Sl w X 1 v n (BVs b)) :
    Calls Tryz.prog 51 #[.pointer (some ⟨p, 0, none⟩), v] w fun e w' => e = .returned (.tuple #[.int .i64 (num L b : Int), .bool (isIn L b)]) ∧ w = w' := by
  obtain ⟨lv, h1, hp, hls, hall, hL⟩ := h
  obtain ⟨A, c, rfl⟩ := Ls.shape hls
  have c0 : w.cell? ⟨p, 0, none⟩ = some (.slice A L.length c) := h1.cell 0
  have hL2 : L.length ≤ 2000000 := by omega
  clear h1 hp hall hL
  go_enter Tryz.func51, Tryz.ntmps51
  go_wp2
  go_loop [6] (fun i => ∃ k : Nat, k ≤ L.length ∧ i = .int .i64 k ∧ num (L.take k) b = 0) (fun i => L.length - (intOf i).toNat)
  case atStart => exact ⟨0, Nat.zero_le _, rfl, rfl⟩
  case round =>
    obtain ⟨k, hk, rfl, hz⟩ := hrel
    have HZ := Lib.hid hz
    clear hz
    by_cases hlt : k < L.length
    · obtain ⟨ad, B, d, rfl, hcell, hx⟩ := hls.at_ hlt
      have hsn := num_snoc (L.take k) L[k] b
      rw [HZ.out, ← List.take_succ_eq_append_getElem hlt, if_neg (by simp)] at hsn
      by_cases heq : L[k] = b
      · have hbq : (L[k] == b) = true := by rw [heq]; exact beq_self_eq_true _
        rw [if_pos heq, List.length_take, Nat.min_eq_left hk] at hsn
        have hn := num_left (L.take (k + 1)) (L.drop (k + 1)) b (by omega)
        rw [List.take_append_drop, hsn] at hn
        have HN := Lib.hid hn
        have HQ := Lib.hid hbq
        have HX := Lib.hid hx
        clear hsn hn heq hx hbq
        go_wp2_with (go_at_call 87; refine (same_any _ _ X _ _ _ _ L[k] b HX.out hb).mono ?_; rintro e w' ⟨he, rfl⟩; rw [HQ.out] at he; subst he)
        go_ret2
        rw [HN.out, isIn_true (by rw [HN.out]; omega)]
        exact ⟨rfl, rfl⟩
      · have hbq : (L[k] == b) = false := by rw [beq_eq_false_iff_ne]; exact heq
        rw [if_neg heq] at hsn
        have HN := Lib.hid hsn
        have HQ := Lib.hid hbq
        have HX := Lib.hid hx
        clear hsn heq hx hbq
        go_wp2_with (go_at_call 87; refine (same_any _ _ X _ _ _ _ L[k] b HX.out hb).mono ?_; rintro e w' ⟨he, rfl⟩; rw [HQ.out] at he; subst he)
        go_round
        case rel => exact ⟨k + 1, by omega, by go_num, HN.out⟩
        case measure => simp [intOf]; omega
    · have hke : k = L.length := by omega
      have hz : num L b = 0 := by have := HZ.out; rw [hke, List.take_length] at this; exact this
      have H0 := Lib.hid hz
      clear hz
      go_wp2
      go_ret2
      rw [H0.out, isIn_false H0.out]
      exact ⟨rfl, rfl⟩

end Go.Proofs.YtmhmnkpaijoaaaaGreat.Ih

/-
  Contracts of the program's ledger: made, NewLedger, Len, Signs, Clone, Signed.
-/
namespace Go.Proofs.YtmhmnkpaijoaaaaGreat.La
set_option linter.unusedSimpArgs false
set_option linter.unusedVariables false
set_option maxRecDepth 100000
open Go Go.RowKit Ck Im Kw Ik Ia Ib Ic Lk
attribute [local go_sem ↓] Go.wp_at_zero Go.wp_at_succ

theorem made_yes (w : World) (S : Nat → Prop) (p : Nat) (L : List Sg) (h : Lg w S p L) :
    Calls Tryz.prog 57 #[.pointer (some ⟨p, 0, none⟩)] w fun e w' => e = .returned (.bool true) ∧ w = w' := by
  obtain ⟨m, tv, D, h1, -⟩ := h
  have c0 : w.cell? ⟨p, 0, none⟩ = some (.map (some m)) := h1.cell 0
  have hq := fun W => run_neq_map_nil (P := Tryz.prog) W 137 36 157 (some m) Tryz.underlying137
  clear h1
  go_enter Tryz.func57, Tryz.ntmps57
  go_wp2
  go_ret
  exact ⟨rfl, rfl⟩
theorem made_nil (w : World) : Calls Tryz.prog 57 #[.pointer none] w fun e w' => e = .returned (.bool false) ∧ w = w' := by
  go_enter Tryz.func57, Tryz.ntmps57
  go_wp2
  go_ret
  exact ⟨rfl, rfl⟩
theorem len_yes (w : World) (S : Nat → Prop) (p : Nat) (L : List Sg) (h : Lg w S p L) :
    Calls Tryz.prog 17 #[.pointer (some ⟨p, 0, none⟩)] w fun e w' => e = .returned (.int .i64 L.length) ∧ w = w' := by
  have hm := made_yes w S p L h
  obtain ⟨m, tv, D, h1, -, -, hown, -⟩ := h
  obtain ⟨A, c, rfl⟩ := own_shape hown
  have c1 : w.cell? ⟨p, 1, none⟩ = some (.slice A L.length c) := h1.cell 1
  have HM := Lib.hid hm
  clear h1 hm hown
  go_enter Tryz.func17, Tryz.ntmps17
  go_wp2_with (go_at_call 57; refine HM.out.mono ?_; rintro e w' ⟨rfl, rfl⟩)
  go_ret
  exact ⟨rfl, rfl⟩
theorem newledger_any (w : World) :
    Calls Tryz.prog 38 #[] w fun e w' => ∃ p, e = .returned (.pointer (some ⟨p, 0, none⟩)) ∧ Lg w' (New w w') p [] ∧ Below w.heap.size w w' := by
  have hmm := @run_makeMap Tryz.prog
  go_enter Tryz.func38, Tryz.ntmps38
  go_wp2
  go_ret
  refine ⟨_, rfl, ⟨w.heap.size, .slice none 0 0, .map [], ?_, ?_, Known.empty, World.ownsRow_nil _ _ _ _, ⟨by simp, by simp⟩, ⟨by simp, by simp; omega⟩, by simp [Value.ownBlock]⟩, ((Below.refl _ w).alloc (Nat.le_refl _) _).alloc (by simp) _⟩
  · exact Blk.new_at (by simp) rfl
  · exact (World.ownsMap_made _ _ _ _).alloc _

end Go.Proofs.YtmhmnkpaijoaaaaGreat.La

/-
  Contracts of the program's ledger: Signed, Sign.
-/
namespace Go.Proofs.YtmhmnkpaijoaaaaGreat.Lb
set_option linter.unusedSimpArgs false
set_option linter.unusedVariables false
set_option maxRecDepth 100000
open Go Go.RowKit Ck Im Kw Ik Ia Ib Ic Lk La
attribute [local go_sem ↓] Go.wp_at_zero Go.wp_at_succ

theorem zero_unit (w : World) : (zeroValue 157).run Tryz.prog w = .ok (.agg #[]) w := by kernel_rfl
/-- The map's look-up. -/
theorem run_known {w : World} {m n : Nat} {D : DataW Unit} {L : List Sg} (h : w.ownsMap Tryz.prog 36 unitElem m n D) (hN : Known D L) (s : Sg) (hs : wfS s) :
    (Instr.lookup 137 (.map (some m)) (GV s) true).run Tryz.prog w = .ok (.tuple #[.agg #[], .bool (isS L s)]) w := by
  obtain ⟨v, ps, hrun, hv⟩ := h.look_ok law_sign Tryz.underlying137 (zero_unit w) (zd := .agg []) (zp := []) unitElem_mk (key_sign s hs)
  obtain ⟨rfl, _⟩ := unitElem_inv hv
  rw [hrun, hN s hs]

set_option maxHeartbeats 1000000 in
theorem signed_yes (w : World) (S : Nat → Prop) (p : Nat) (L : List Sg) (s : Sg) (hs : wfS s) (h : Lg w S p L) :
    Calls Tryz.prog 77 #[.pointer (some ⟨p, 0, none⟩), GV s] w fun e w' => e = .returned (.bool (isS L s)) ∧ Below w.heap.size w w' := by
  have HM : Hid (∀ o, Calls Tryz.prog 57 #[.pointer (some ⟨p, 0, none⟩)] (w.alloc o) fun e w' => e = .returned (.bool true) ∧ w.alloc o = w') :=
    Lib.hid fun o => made_yes _ S p L (h.ch (Ch.of_below (S := fun _ => False) ((Below.refl _ w).alloc (Nat.le_refl _) o) (Nat.le_refl _)) (fun _ _ h => h))
  obtain ⟨m, tv, D, h1, hmap, hN, -⟩ := h
  have c0 : ∀ o, (w.alloc o).cell? ⟨p, 0, none⟩ = some (.map (some m)) := fun o => (h1.alloc o).cell 0
  have c0' : ∀ o o', ((w.alloc o).alloc o').cell? ⟨p, 0, none⟩ = some (.map (some m)) := fun o o' => ((h1.alloc o).alloc o').cell 0
  have e2 : ∀ W : World, W.heap[m]? = w.heap[m]? → (Instr.lookup 137 (.map (some m)) (GV s) true).run Tryz.prog W = .ok (.tuple #[.agg #[], .bool (isS L s)]) W := fun W hW => by
    obtain ⟨es, clock, hb, r⟩ := hmap
    exact run_known (w := W) (n := L.length) (D := D) ⟨es, clock, hW.trans hb, r⟩ hN s hs
  have hml := hmap.lt
  have HE := Lib.hid e2
  have hpl := h1.lt
  clear h1 hmap hN e2
  unfold GV at HE ⊢
  go_enter Tryz.func77, Tryz.ntmps77
  go_wp2_with (go_at_call 57; refine (HM.out _).mono ?_; rintro e w' ⟨rfl, rfl⟩)
  have d0 := c0 (.cells #[.int .i64 s.1, .int .i64 s.2] 36)
  have db : Blk (w.alloc (.cells #[.int .i64 s.1, .int .i64 s.2] 36)) w.heap.size 36 #[.int .i64 s.1, .int .i64 s.2] := Blk.new _ _ _
  have d1 := db.cell 0
  have d2 := db.cell 1
  have dm : (w.alloc (.cells #[.int .i64 s.1, .int .i64 s.2] 36)).heap[m]? = w.heap[m]? := Below.heap_alloc w _ m hml
  have f0 := c0' (.cells #[.int .i64 s.1, .int .i64 s.2] 36) (.cells #[] 157)
  have f1 := (db.alloc (.cells #[] 157)).cell 0
  have f2 := (db.alloc (.cells #[] 157)).cell 1
  have fm : ((w.alloc (.cells #[.int .i64 s.1, .int .i64 s.2] 36)).alloc (.cells #[] 157)).heap[m]? = w.heap[m]? := (Below.heap_alloc _ _ m (by simp; omega)).trans dm
  simp only [List.getElem?_toArray, List.getElem?_cons_zero, List.getElem?_cons_succ] at d1 d2 f1 f2
  go_region_held3 (fun w' => w'.cell? ⟨p, 0, none⟩ = some (.map (some m)) ∧ w'.cell? ⟨w.heap.size, 0, none⟩ = some (.int .i64 s.1) ∧ w'.cell? ⟨w.heap.size, 1, none⟩ = some (.int .i64 s.2) ∧
      (Instr.lookup 137 (.map (some m)) (.agg #[.int .i64 s.1, .int .i64 s.2]) true).run Tryz.prog w' = .ok (.tuple #[.agg #[], .bool (isS L s)]) w')
    (first | exact ⟨d0, d1, d2, HE.out _ dm⟩ | exact ⟨f0, f1, f2, HE.out _ fm⟩) (fail)
  all_goals
    clear c0 c0' d0 d1 d2 dm f0 f1 f2 fm
    go_wp2
    go_ret
    exact ⟨rfl, below_drewN (((Below.refl _ w).alloc (Nat.le_refl _) _).alloc (by simp) _) 1⟩

end Go.Proofs.YtmhmnkpaijoaaaaGreat.Lb

/-
  Contract of the program's ledger: Sign.
-/
namespace Go.Proofs.YtmhmnkpaijoaaaaGreat.Lc
set_option linter.unusedSimpArgs false
set_option linter.unusedVariables false
set_option maxRecDepth 100000
open Go Go.RowKit Ck Im Kw Ik Ia Ib Ic Lk La Lb
attribute [local go_sem ↓] Go.wp_at_zero Go.wp_at_succ

theorem size_sign : (Tryz.prog.info? 36).map (·.size) = some 2 := by kernel_rfl

/-- The world when Signed is asked: the result's cells, and the signature's. -/
def W1 (w : World) (x y : Int) : World := (w.alloc (.cells #[.int .i64 0, .int .i64 0] 36)).alloc (.cells #[.int .i64 x, .int .i64 y] 36)
theorem W1_size (w : World) (x y : Int) : (W1 w x y).heap.size = w.heap.size + 1 + 1 := by simp [W1]
theorem W1_below (w : World) (x y : Int) : Below w.heap.size w (W1 w x y) := ((Below.refl _ w).alloc (Nat.le_refl _) _).alloc (by simp) _
theorem W1_zero (w : World) (x y : Int) : Blk (W1 w x y) w.heap.size 36 #[.int .i64 0, .int .i64 0] := (Blk.new w _ _).alloc _
theorem W1_sign (w : World) (x y : Int) : Blk (W1 w x y) (w.heap.size + 1) 36 #[.int .i64 x, .int .i64 y] := Blk.new_at (by simp) rfl
theorem blk_two {w : World} {g : Nat} {x y u v : Value} (h : Blk w g 36 #[u, v]) : Blk ((w.setCell ⟨g, 0, none⟩ x).setCell ⟨g, 1, none⟩ y) g 36 #[x, y] := by
  have := (h.set_ 0 x).set_ 1 y
  simpa using this

theorem two_sv (w : World) (X : Nat → Prop) (t : TypeId) (x y : Int) (hX : ¬ X w.heap.size) : Sl (w.alloc (.cells #[.int .i64 x, .int .i64 y] t)) X 2 (.slice (some ⟨w.heap.size, 0, none⟩) 1 1) 1 (GVs [(x, y)]) :=
  ⟨_, _, rfl, rfl, Nat.le_refl _, by simp only [maxLen]; omega, fun _ => ⟨_, rfl, by simp, hX, fun j u hu => by
    have ha : (⟨w.heap.size, 0, none⟩ : Addr).add j = ⟨w.heap.size, j, none⟩ := by unfold Addr.add; split <;> simp_all
    rw [ha, Blk.cell (Blk.new w t _) j]
    simpa [GVs] using hu⟩⟩

/-- What stands behind the map's store, ahead of the append. -/
def Mid (w wd : World) (S : Nat → Prop) (p m : Nat) (v : Value) (x y : Int) (D : DataW Unit) (L : List Sg) : Prop :=
  Blk wd w.heap.size 36 #[.int .i64 0, .int .i64 0] ∧ Blk wd (w.heap.size + 1) 36 #[.int .i64 x, .int .i64 y] ∧ Blk wd p 139 #[.map (some m), v] ∧
    wd.ownsMap Tryz.prog 36 unitElem m (L.length + 1) (D.put (KL (x, y)) (.agg [])) ∧ wd.ownsRow 0 36 2 v L.length (GVs L) ∧ Ch S w wd
theorem mid_of {w w2 w3 : World} {S : Nat → Prop} {p m n : Nat} {v : Value} {x y : Int} {D D' : DataW Unit} {L : List Sg} (k0 : Blk w2 w.heap.size 36 #[.int .i64 0, .int .i64 0]) (k1 : Blk w2 (w.heap.size + 1) 36 #[.int .i64 x, .int .i64 y])
    (q1 : Blk w2 p 139 #[.map (some m), v]) (hm2 : w2.ownsMap Tryz.prog 36 unitElem m n D') (hm3 : w3.ownsMap Tryz.prog 36 unitElem m (L.length + 1) (D.put (KL (x, y)) (.agg []))) (hown : w.ownsRow 0 36 2 v L.length (GVs L))
    (hmap : w.ownsMap Tryz.prog 36 unitElem m L.length D) (hS : S m) (hb : Below w.heap.size w w2) (hg : w2.grownBy w3 (some m)) : Mid w w3 S p m v x y D L := by
  have far : ∀ {g : Nat} {cs : Array Value} {t : TypeId}, Blk w2 g t cs → some g ≠ some m := fun h e => by
    injection e with e
    exact map_far hm2 h e.symm
  have c : Ch (fun k => k = m) w w3 := (Ch.of_below (S := fun k => k = m) hb (Nat.le_refl _)).trans (Ch.of_grown hg (S := fun k => k = m) (fun g hg _ => by injection hg with hg; exact hg.symm)) (fun _ _ h => h)
  have a0 : Blk w3 w.heap.size 36 #[.int .i64 0, .int .i64 0] := k0.grown hg (far k0)
  have a1 : Blk w3 (w.heap.size + 1) 36 #[.int .i64 x, .int .i64 y] := k1.grown hg (far k1)
  have a2 : Blk w3 p 139 #[.map (some m), v] := q1.grown hg (far q1)
  have a3 : w3.ownsRow 0 36 2 v L.length (GVs L) := own_ch hown c (fun g hg2 e => by subst e; exact map_row hmap hown hg2)
  exact ⟨a0, a1, a2, hm3, a3, c.mono (fun k _ e => by subst e; exact hS)⟩
theorem fin_of {w wd w4 : World} {S : Nat → Prop} {p m n : Nat} {v v4 : Value} {x y : Int} {D : DataW Unit} {L : List Sg} {o : Obj} {xs : List Value} (h : Mid w wd S p m v x y D L) (hown : w.ownsRow 0 36 2 v L.length (GVs L))
    (happ : Appended (wd.alloc o) 0 36 2 v n xs v4 w4) : Blk w4 w.heap.size 36 #[.int .i64 0, .int .i64 0] ∧ Blk w4 (w.heap.size + 1) 36 #[.int .i64 x, .int .i64 y] ∧ Blk w4 p 139 #[.map (some m), v] := by
  obtain ⟨k0, k1, q1, hm, ho, hc⟩ := h
  have far : ∀ g, w.heap.size ≤ g → some g ≠ v.ownBlock := fun g hg e => by
    have := (hown.lt g e.symm).2
    omega
  exact ⟨(k0.alloc o).grown happ.2.1 (far _ (Nat.le_refl _)), (k1.alloc o).grown happ.2.1 (far _ (by omega)), (q1.alloc o).grown happ.2.1 (Ne.symm (own_far ho q1 (by decide)))⟩
theorem sign_end {w wd w4 : World} {S : Nat → Prop} {p m : Nat} {v v4 : Value} {x y : Int} {D : DataW Unit} {L : List Sg} {o : Obj} (h : Mid w wd S p m v x y D L) (hw : wfS (x, y)) (hq : Blk w p 139 #[.map (some m), v]) (hown : w.ownsRow 0 36 2 v L.length (GVs L)) (hmap : w.ownsMap Tryz.prog 36 unitElem m L.length D)
    (hN : Known D L) (hp : S p) (hS : S m) (hg : ∀ g, v.ownBlock = some g → S g)
    (happ : Appended (wd.alloc o) 0 36 2 v (L.length + 1) (GVs L ++ GVs [(x, y)]) v4 w4) (W5 : World) (hW : W5 = ((w4.setCell ⟨p, 1, none⟩ v4).setCell ⟨w.heap.size, 0, none⟩ (.int .i64 x)).setCell ⟨w.heap.size, 1, none⟩ (.int .i64 y)) :
    Blk W5 w.heap.size 36 #[.int .i64 x, .int .i64 y] ∧ Lg W5 (Up S w W5) p (L ++ [(x, y)]) ∧ Ch S w W5 := by
  have hF := fin_of h hown happ
  obtain ⟨k0, k1, q1, hm, ho, hc⟩ := h
  have hpl := hq.lt
  have hml := hmap.lt
  have hrow : ∀ g, v4.ownBlock = some g → S g ∨ (w.heap.size + 1 < g ∧ g < w4.heap.size) := fun g hg4 => by
    rcases happ.2.2 with h2 | h2
    · exact .inl (hg g (by rw [← h2]; exact hg4))
    · refine .inr ⟨?_, (happ.1.lt g hg4).2⟩
      rw [h2] at hg4
      injection hg4 with hg4
      have := k1.lt
      simp at hg4
      omega
  have hrow2 : ∀ g, v4.ownBlock = some g → g ≠ w.heap.size := fun g hg4 e => by
    subst e
    rcases happ.2.2 with h2 | h2
    · have := (hown.lt w.heap.size (by rw [← h2]; exact hg4)).2
      omega
    · rw [h2] at hg4
      injection hg4 with hg4
      have := k1.lt
      simp at hg4
      omega
  have c4 : Ch S w w4 := (hc.alloc o).trans (Ch.of_grown happ.2.1 (S := S) (fun g hg' _ => hg g hg')) (fun _ _ h => h)
  have c5 : Ch S w W5 := by
    rw [hW]
    exact ((c4.setCell (p := ⟨p, 1, none⟩) (fun _ => hp) v4).setCell (p := ⟨w.heap.size, 0, none⟩) (fun h => absurd h (Nat.lt_irrefl _)) _).setCell (p := ⟨w.heap.size, 1, none⟩) (fun h => absurd h (Nat.lt_irrefl _)) _
  have c45 : Ch (fun k => k = p ∨ k = w.heap.size) w4 W5 := by
    rw [hW]
    exact (((Ch.refl _ w4).setCell (p := ⟨p, 1, none⟩) (fun _ => .inl rfl) v4).setCell (p := ⟨w.heap.size, 0, none⟩) (fun _ => .inr rfl) _).setCell (p := ⟨w.heap.size, 1, none⟩) (fun _ => .inr rfl) _
  have hs : W5.heap.size = w4.heap.size := by rw [hW]; simp [World.setCell]
  have hm4 : w4.ownsMap Tryz.prog 36 unitElem m (L.length + 1) (D.put (KL (x, y)) (.agg [])) := (hm.alloc o).kept happ.2.1 (Ne.symm (map_row hmap hown))
  refine ⟨?_, ⟨m, v4, D.put (KL (x, y)) (.agg []), ?_, ?_, hN.put hmap.isMap hw _, ?_, .inl hp, .inl hS, fun g hg4 => ?_⟩, c5⟩
  · rw [hW]
    exact blk_two (hF.1.far (by simp only; omega) _)
  · have e1 := ((hF.2.2.set_ 1 v4).far (p := ⟨w.heap.size, 0, none⟩) (by simp only; omega) (.int .i64 x)).far (p := ⟨w.heap.size, 1, none⟩) (by simp only; omega) (.int .i64 y)
    rw [hW]
    simpa using e1
  · rw [List.length_append]
    exact map_ch hm4 c45 (by rintro (rfl | rfl); exact map_far hmap hq rfl; omega)
  · rw [List.length_append, GVs_app]
    refine own_ch happ.1 c45 (fun g hg4 => ?_)
    rintro (rfl | rfl)
    · exact own_far happ.1 hF.2.2 (by decide) hg4
    · exact hrow2 _ hg4 rfl
  · rcases hrow g hg4 with h | h
    · exact .inl h
    · exact .inr ⟨by omega, by rw [hs]; exact h.2⟩
/-- What Sign leaves. -/
def Signd (S : Nat → Prop) (p : Nat) (L : List Sg) (s : Sg) (w : World) (e : Ending) (w' : World) : Prop :=
  e = .returned (.tuple #[GV (ans s), .int .i64 (code s)]) ∧ Lg w' (Up S w w') p (pay L s) ∧ Ch S w w'
theorem Lg.up {w w' : World} {S : Nat → Prop} {p : Nat} {L : List Sg} (h : Lg w S p L) (b : Below w.heap.size w w') : Lg w' (Up S w w') p L :=
  (h.ch (Ch.of_below (S := fun _ => False) b (Nat.le_refl _)) (fun _ _ h => h)).weaken (fun _ hk => .inl hk)

set_option maxHeartbeats 1000000 in
theorem sign_key (w : World) (S : Nat → Prop) (p : Nat) (L : List Sg) (s : Sg) (h : Lg w S p L) (hc : s.1 < 0 ∨ 21 ≤ s.1) :
    Calls Tryz.prog 44 #[.pointer (some ⟨p, 0, none⟩), .int .i64 s.1, .int .i64 s.2] w (Signd S p L s w) := by
  have hcode : code s = 20 := by rw [code, if_pos hc]
  have hans : ans s = (0, 0) := by rw [ans, hcode]; rfl
  have hpay : pay L s = L := by rw [pay, hcode]; rfl
  have HC := Lib.hid (And.intro hcode (And.intro hans hpay))
  have HM : Hid (∀ o, Calls Tryz.prog 57 #[.pointer (some ⟨p, 0, none⟩)] (w.alloc o) fun e w' => e = .returned (.bool true) ∧ w.alloc o = w') :=
    Lib.hid fun o => made_yes _ S p L (h.ch (Ch.of_below (S := fun _ => False) ((Below.refl _ w).alloc (Nat.le_refl _) o) (Nat.le_refl _)) (fun _ _ h => h))
  have HT := Lib.hid h
  clear hcode hans hpay h
  obtain ⟨x, y⟩ := s
  simp only at hc ⊢
  by_cases h1 : x < 0
  · clear hc
    go_enter Tryz.func44, Tryz.ntmps44
    go_wp2_with (go_at_call 57; refine (HM.out _).mono ?_; rintro e w' ⟨rfl, rfl⟩)
    refine bodyPost_ret (results_row_tmp rfl _ _ w.heap.size 36 #[.int .i64 0, .int .i64 0] (0, 0) _ rfl (heap_alloc_new w _) Tryz.underlying36 rfl size_sign) rfl ?_
    refine ⟨by rw [HC.out.1, HC.out.2.1]; rfl, ?_, Ch.of_below ((Below.refl _ w).alloc (Nat.le_refl _) _) (Nat.le_refl _)⟩
    rw [HC.out.2.2]
    exact Lg.up HT.out ((Below.refl _ w).alloc (Nat.le_refl _) _)
  · have h2 : 21 ≤ x := by omega
    clear hc
    go_enter Tryz.func44, Tryz.ntmps44
    go_wp2_with (go_at_call 57; refine (HM.out _).mono ?_; rintro e w' ⟨rfl, rfl⟩)
    refine bodyPost_ret (results_row_tmp rfl _ _ w.heap.size 36 #[.int .i64 0, .int .i64 0] (0, 0) _ rfl (heap_alloc_new w _) Tryz.underlying36 rfl size_sign) rfl ?_
    refine ⟨by rw [HC.out.1, HC.out.2.1]; rfl, ?_, Ch.of_below ((Below.refl _ w).alloc (Nat.le_refl _) _) (Nat.le_refl _)⟩
    rw [HC.out.2.2]
    exact Lg.up HT.out ((Below.refl _ w).alloc (Nat.le_refl _) _)

set_option maxHeartbeats 1000000 in
theorem sign_dig (w : World) (S : Nat → Prop) (p : Nat) (L : List Sg) (s : Sg) (h : Lg w S p L) (hk : ¬ (s.1 < 0 ∨ 21 ≤ s.1)) (hd : s.2 < 1) :
    Calls Tryz.prog 44 #[.pointer (some ⟨p, 0, none⟩), .int .i64 s.1, .int .i64 s.2] w (Signd S p L s w) := by
  have hcode : code s = 1 := by rw [code, if_neg hk, if_pos hd]
  have hans : ans s = (0, 0) := by rw [ans, hcode]; rfl
  have hpay : pay L s = L := by rw [pay, hcode]; rfl
  have HC := Lib.hid (And.intro hcode (And.intro hans hpay))
  have HM : Hid (∀ o, Calls Tryz.prog 57 #[.pointer (some ⟨p, 0, none⟩)] (w.alloc o) fun e w' => e = .returned (.bool true) ∧ w.alloc o = w') :=
    Lib.hid fun o => made_yes _ S p L (h.ch (Ch.of_below (S := fun _ => False) ((Below.refl _ w).alloc (Nat.le_refl _) o) (Nat.le_refl _)) (fun _ _ h => h))
  have HT := Lib.hid h
  clear hcode hans hpay h
  obtain ⟨x, y⟩ := s
  simp only at hk hd ⊢
  have h1 : 0 ≤ x := by omega
  have h2 : x < 21 := by omega
  clear hk
  go_enter Tryz.func44, Tryz.ntmps44
  go_wp2_with (go_at_call 57; refine (HM.out _).mono ?_; rintro e w' ⟨rfl, rfl⟩)
  refine bodyPost_ret (results_row_tmp rfl _ _ w.heap.size 36 #[.int .i64 0, .int .i64 0] (0, 0) _ rfl (heap_alloc_new w _) Tryz.underlying36 rfl size_sign) rfl ?_
  refine ⟨by rw [HC.out.1, HC.out.2.1]; rfl, ?_, Ch.of_below ((Below.refl _ w).alloc (Nat.le_refl _) _) (Nat.le_refl _)⟩
  rw [HC.out.2.2]
  exact Lg.up HT.out ((Below.refl _ w).alloc (Nat.le_refl _) _)

set_option maxHeartbeats 1000000 in
theorem sign_old (w : World) (S : Nat → Prop) (p : Nat) (L : List Sg) (s : Sg) (hs : wfS s) (h : Lg w S p L) (hk : ¬ (s.1 < 0 ∨ 21 ≤ s.1)) (hd : ¬ s.2 < 1) (hm : s ∈ L) :
    Calls Tryz.prog 44 #[.pointer (some ⟨p, 0, none⟩), .int .i64 s.1, .int .i64 s.2] w (Signd S p L s w) := by
  have hcode : code s = 0 := by rw [code, if_neg hk, if_neg hd]
  have hans : ans s = s := by rw [ans, hcode]; rfl
  have hpay : pay L s = L := by rw [pay, hcode, if_pos rfl, if_pos hm]
  have HC := Lib.hid (And.intro hcode (And.intro hans hpay))
  have HM : Hid (∀ o, Calls Tryz.prog 57 #[.pointer (some ⟨p, 0, none⟩)] (w.alloc o) fun e w' => e = .returned (.bool true) ∧ w.alloc o = w') :=
    Lib.hid fun o => made_yes _ S p L (h.ch (Ch.of_below (S := fun _ => False) ((Below.refl _ w).alloc (Nat.le_refl _) o) (Nat.le_refl _)) (fun _ _ h => h))
  have HT := Lib.hid h
  have HI := Lib.hid (isS_true hm)
  have HS : Hid (∀ W, Below w.heap.size w W → Calls Tryz.prog 77 #[.pointer (some ⟨p, 0, none⟩), GV s] W fun e w' => e = .returned (.bool true) ∧ Below W.heap.size W w') :=
    Lib.hid fun W hb => (signed_yes W S p L s hs (h.ch (Ch.of_below (S := fun _ => False) hb (Nat.le_refl _)) (fun _ _ h => h))).mono fun e w' he => ⟨by rw [he.1, HI.out], he.2⟩
  clear hcode hans hpay h hs hm
  obtain ⟨x, y⟩ := s
  simp only at hk hd ⊢
  unfold GV at HS
  have h1 : 0 ≤ x := by omega
  have h2 : x < 21 := by omega
  clear hk
  go_enter Tryz.func44, Tryz.ntmps44
  go_wp2_with (go_at_call 57; refine (HM.out _).mono ?_; rintro e w' ⟨rfl, rfl⟩)
  refine (HS.out _ (W1_below w x y)).mono ?_
  rintro e w2 ⟨rfl, hb2⟩
  have hb2 : Below (W1 w x y).heap.size (W1 w x y) w2 := hb2
  have hB2 : Below w.heap.size w w2 := (W1_below w x y).trans (hb2.mono (by rw [W1_size]; omega))
  have k0 : Blk w2 w.heap.size 36 #[.int .i64 0, .int .i64 0] := (W1_zero w x y).below hb2 (W1_zero w x y).lt
  have k1 : Blk w2 (w.heap.size + 1) 36 #[.int .i64 x, .int .i64 y] := (W1_sign w x y).below hb2 (W1_sign w x y).lt
  have a0 := k0.cell 0
  have a1 := k0.cell 1
  have a2 := k0.frozen 0
  have a3 := k0.frozen 1
  have b0 := k1.cell 0
  have b1 := k1.cell 1
  have K0 := Lib.hid k0
  have HB2 := Lib.hid hB2
  simp only [List.getElem?_toArray, List.getElem?_cons_zero, List.getElem?_cons_succ] at a0 a1 b0 b1
  clear k0 k1 hb2 hB2
  go_wp2
  refine bodyPost_ret (results_row_tmp rfl _ _ w.heap.size 36 #[.int .i64 x, .int .i64 y] (0, 0) _ rfl (blk_two K0.out) Tryz.underlying36 rfl size_sign) rfl ?_
  have hC : Ch (fun _ => False) w ((w2.setCell ⟨w.heap.size, 0, none⟩ (.int .i64 x)).setCell ⟨w.heap.size, 1, none⟩ (.int .i64 y)) := ((Ch.of_below HB2.out (Nat.le_refl _)).setCell (p := ⟨w.heap.size, 0, none⟩) (fun h => absurd h (Nat.lt_irrefl _)) _).setCell (p := ⟨w.heap.size, 1, none⟩) (fun h => absurd h (Nat.lt_irrefl _)) _
  refine ⟨by rw [HC.out.1, HC.out.2.1]; rfl, ?_, hC.mono (fun _ _ h => h.elim)⟩
  rw [HC.out.2.2]
  exact (HT.out.ch hC (fun _ _ h => h)).weaken (fun _ hk => .inl hk)

set_option maxHeartbeats 1000000 in
theorem sign_new (w : World) (S : Nat → Prop) (p : Nat) (L : List Sg) (s : Sg) (hs : wfS s) (h : Lg w S p L) (hk : ¬ (s.1 < 0 ∨ 21 ≤ s.1)) (hd : ¬ s.2 < 1) (hm : ¬ s ∈ L) (hL : (L.length + 1) * 16 ≤ 140737488355328) :
    Calls Tryz.prog 44 #[.pointer (some ⟨p, 0, none⟩), .int .i64 s.1, .int .i64 s.2] w (Signd S p L s w) := by
  have hcode : code s = 0 := by rw [code, if_neg hk, if_neg hd]
  have hans : ans s = s := by rw [ans, hcode]; rfl
  have hpay : pay L s = L ++ [s] := by rw [pay, hcode, if_pos rfl, if_neg hm]
  have HC := Lib.hid (And.intro hcode (And.intro hans hpay))
  have HM : Hid (∀ o, Calls Tryz.prog 57 #[.pointer (some ⟨p, 0, none⟩)] (w.alloc o) fun e w' => e = .returned (.bool true) ∧ w.alloc o = w') :=
    Lib.hid fun o => made_yes _ S p L (h.ch (Ch.of_below (S := fun _ => False) ((Below.refl _ w).alloc (Nat.le_refl _) o) (Nat.le_refl _)) (fun _ _ h => h))
  have HI := Lib.hid (isS_false hm)
  have HS : Hid (∀ W, Below w.heap.size w W → Calls Tryz.prog 77 #[.pointer (some ⟨p, 0, none⟩), GV s] W fun e w' => e = .returned (.bool false) ∧ Below W.heap.size W w') :=
    Lib.hid fun W hb => (signed_yes W S p L s hs (h.ch (Ch.of_below (S := fun _ => False) hb (Nat.le_refl _)) (fun _ _ h => h))).mono fun e w' he => ⟨by rw [he.1, HI.out], he.2⟩
  have HW := Lib.hid hs
  have HL := Lib.hid hL
  obtain ⟨m, ov, D, q1, hmap, hN, hown, hp, hmS, hg⟩ := h
  obtain ⟨A', c', rfl⟩ := own_shape hown
  have HH := Lib.hid (And.intro q1 (And.intro hmap (And.intro hN (And.intro hown (And.intro hp (And.intro hmS hg))))))
  clear hcode hans hpay hs hm hL q1 hmap hN hown hp hmS hg
  obtain ⟨x, y⟩ := s
  simp only at hk hd ⊢
  unfold GV at HS
  have h1 : 0 ≤ x := by omega
  have h2 : x < 21 := by omega
  clear hk
  go_enter Tryz.func44, Tryz.ntmps44
  go_wp2_with (go_at_call 57; refine (HM.out _).mono ?_; rintro e w' ⟨rfl, rfl⟩)
  refine (HS.out _ (W1_below w x y)).mono ?_
  rintro e w2 ⟨rfl, hb2⟩
  have hb2 : Below (W1 w x y).heap.size (W1 w x y) w2 := hb2
  have hB2 : Below w.heap.size w w2 := (W1_below w x y).trans (hb2.mono (by rw [W1_size]; omega))
  have k0 : Blk w2 w.heap.size 36 #[.int .i64 0, .int .i64 0] := (W1_zero w x y).below hb2 (W1_zero w x y).lt
  have k1 : Blk w2 (w.heap.size + 1) 36 #[.int .i64 x, .int .i64 y] := (W1_sign w x y).below hb2 (W1_sign w x y).lt
  have q1 : Blk w2 p 139 #[.map (some m), .slice A' L.length c'] := HH.out.1.below hB2 HH.out.1.lt
  have b0 := k1.cell 0
  have b1 := k1.cell 1
  have p0 := q1.cell 0
  have p1 := q1.cell 1
  have hm2 : w2.ownsMap Tryz.prog 36 unitElem m L.length D := map_ch HH.out.2.1 (Ch.of_below (S := fun _ => False) hB2 (Nat.le_refl _)) (fun h => h)
  have K0 := Lib.hid k0
  have K1 := Lib.hid k1
  have Q1 := Lib.hid q1
  have HB2 := Lib.hid hB2
  have HM2 := Lib.hid hm2
  simp only [List.getElem?_toArray, List.getElem?_cons_zero, List.getElem?_cons_succ] at b0 b1 p0 p1
  clear k0 k1 hb2 hB2 q1 hm2
  go_wp2
  go_still_tail 6, (by kernel_rfl)
  change wpList _ _ _ _ _ w2.drew
  have hlen : L.length ≤ 140737488355328 := by have := HL.out; omega
  go_wp2_with (at_mapUpdate; refine wpList_mapUpdate_own (H := Unit) _ rfl _ _ _ 137 rfl 36 157 law_sign Tryz.underlying137 unitElem m L.length D rfl (by exact HM2.out) (by simp only [maxLen]; omega) _ _ (KL (x, y)) rfl rfl (key_sign (x, y) HW.out) (.agg []) [] unitElem_mk ?_; intro w3 hm3 hg3)
  have hg3' : w2.grownBy w3 (some m) := ⟨hg3.os, hg3.tape, hg3.output, hg3.size, hg3.block⟩
  clear hg3
  have hmp : m ≠ p := map_far HM2.out Q1.out
  have hmid : Mid w w3 S p m (.slice A' L.length c') x y D L := mid_of K0.out K1.out Q1.out HM2.out hm3 HH.out.2.2.2.1 HH.out.2.1 HH.out.2.2.2.2.2.1 HB2.out hg3'
  have b0 := hmid.2.1.cell 0
  have b1 := hmid.2.1.cell 1
  have p0 := hmid.2.2.1.cell 0
  have p1 := hmid.2.2.1.cell 1
  have p1' := (hmid.2.2.1.alloc (.cells #[.int .i64 x, .int .i64 y] 36)).cell 1
  have HMID := Lib.hid hmid
  simp only [List.getElem?_toArray, List.getElem?_cons_zero, List.getElem?_cons_succ] at b0 b1 p0 p1 p1'
  clear hg3' hm3 hmp hmid
  obtain ⟨i0, hi0, hz0, hz1, hz2⟩ := info_parts info_sign
  have hpl := HH.out.1.lt
  have n0 : ¬ p = w.heap.size := by omega
  have n1 : ¬ p = w.heap.size + 1 := by omega
  have n2 : ¬ w.heap.size = p := by omega
  have n3 : ¬ w.heap.size + 1 = p := by omega
  go_wp2
  go_region_law ((refine step_append_sh (by rfl) (.tmp 40) (.tmp 42) _ (by rfl) 0 36 i0 _ 2 16 Tryz.underlying37 hi0 hz0 hz1 hz2 rfl (by omega) (.slice A' L.length c') L.length (GVs L) (by rfl) (show (w3.alloc (.cells #[.int .i64 x, .int .i64 y] 36)).drew.ownsRow 0 36 2 (.slice A' L.length c') L.length (GVs L) from HMID.out.2.2.2.2.1.alloc _) (fun _ => False) _ 1 (GVs [(x, y)]) (by rfl) (show Sl (w3.alloc (.cells #[.int .i64 x, .int .i64 y] 36)).drew (fun _ => False) _ _ _ _ from two_sv w3 (fun _ => False) _ x y (fun h => h)) (GVs_one _) (by have := HL.out; simp only [maxLen]; omega) HL.out (Nat.zero_le _) ?_; intro A4 c4 w4 happ; have happ := appended_drew happ; have hF := fin_of HMID.out HH.out.2.2.2.1 happ; have g0 := hF.1.cell 0; have g1 := hF.1.cell 1; have g2 := hF.1.frozen 0; have g3 := hF.1.frozen 1; have g4 := hF.2.1.cell 0; have g5 := hF.2.1.cell 1; have g6 := hF.2.2.cell 1; have g7 := hF.2.2.frozen 1; simp only [List.getElem?_toArray, List.getElem?_cons_zero, List.getElem?_cons_succ] at g0 g1 g4 g5 g6; clear hF))
  all_goals
    go_wp2
    have R := sign_end HMID.out HW.out HH.out.1 HH.out.2.2.2.1 HH.out.2.1 HH.out.2.2.1 HH.out.2.2.2.2.1 HH.out.2.2.2.2.2.1 HH.out.2.2.2.2.2.2 happ _ rfl
    refine bodyPost_ret (results_row_tmp rfl _ _ w.heap.size 36 #[.int .i64 x, .int .i64 y] (0, 0) _ rfl R.1 Tryz.underlying36 rfl size_sign) rfl ?_
    refine ⟨by rw [HC.out.1, HC.out.2.1]; rfl, ?_, R.2.2⟩
    rw [HC.out.2.2]
    exact R.2.1

theorem sign_any (w : World) (S : Nat → Prop) (p : Nat) (L : List Sg) (s : Sg) (hs : wfS s) (h : Lg w S p L) (hL : (L.length + 1) * 16 ≤ 140737488355328) :
    Calls Tryz.prog 44 #[.pointer (some ⟨p, 0, none⟩), .int .i64 s.1, .int .i64 s.2] w (Signd S p L s w) := by
  by_cases hk : s.1 < 0 ∨ 21 ≤ s.1
  · exact sign_key w S p L s h hk
  · by_cases hd : s.2 < 1
    · exact sign_dig w S p L s h hk hd
    · by_cases hm : s ∈ L
      · exact sign_old w S p L s hs h hk hd hm
      · exact sign_new w S p L s hs h hk hd hm hL

end Go.Proofs.YtmhmnkpaijoaaaaGreat.Lc

/-
  Contracts of the document's ledger: Signed; slices.Equal of signatures.
-/
namespace Go.Proofs.YtmhmnkpaijoaaaaGreat.Ld
set_option linter.unusedSimpArgs false
set_option linter.unusedVariables false
set_option maxRecDepth 100000
open Go Go.RowKit Ck Im Kw Ik Ia Ib Ic Lk La Lb Lc

/-- Are two signatures the same? (A word of its own.) -/
def sgB (s t : Sg) : Bool := decide (s = t)
theorem sgB_yes (s : Sg) : sgB s s = true := by simp [sgB]
theorem sgB_no {s t : Sg} (h : s ≠ t) : sgB s t = false := by simp [sgB, h]
theorem guard_sign : Tryz.prog.eqGuardType Tryz.prog.depth 36 = false := by kernel_rfl
theorem stood_sign : Tryz.prog.stoodInHeld 36 = false := by kernel_rfl
theorem fields_sign : Tryz.prog.underlying 36 = some (.struct (Tryz.prog.fieldsOf 36)) := by kernel_rfl
theorem run_equalIn_sign (W : World) (d : Nat) (a b c e : Int) : (Op.equalIn (d + 1 + 1) 36 (.agg #[.int .i64 a, .int .i64 b]) (.agg #[.int .i64 c, .int .i64 e])).run Tryz.prog W = .ok (sgB (a, b) (c, e)) W := by
  rw [run_equalIn_struct W (d + 1) 36 _ _ fields_sign stood_sign]
  have hf : (Tryz.prog.fieldsOf 36).toList = [{ name := "Key", type := 3, offset := 0, embedded := false, tag := "", pkgPath := "", byteOffset := 0 }, { name := "Digest", type := 31, offset := 1, embedded := false, tag := "", pkgPath := "", byteOffset := 8 }] := by kernel_rfl
  rw [hf]
  have h1 := fun (x y : Int) (W : World) => run_equalIn_int (P := Tryz.prog) W d 3 .i64 .i64 x y Tryz.underlying3
  have h2 := fun (x y : Int) (W : World) => run_equalIn_int (P := Tryz.prog) W d 31 .i64 .i64 x y Tryz.underlying31
  have p1 : ∀ (u v : Value) (W : World), (part 3 #[u, v] 0).run Tryz.prog W = .ok u W := fun u v W => by simp [part, isAgg, run_underlying Tryz.underlying3]
  have p2 : ∀ (u v : Value) (W : World), (part 31 #[u, v] 1).run Tryz.prog W = .ok v W := fun u v W => by simp [part, isAgg, run_underlying Tryz.underlying31]
  by_cases hac : a = c
  · by_cases hbe : b = e
    · subst hac; subst hbe
      simp [Op.eqFields, p1, p2, h1, h2, Result.andThen, sgB]
    · subst hac
      simp [Op.eqFields, p1, p2, h1, h2, Result.andThen, sgB, hbe]
  · simp [Op.eqFields, p1, h1, Result.andThen, sgB, hac]
theorem run_eql_sign (W : World) (a b c e : Int) : (binOp .eql 36 (.agg #[.int .i64 a, .int .i64 b]) (.agg #[.int .i64 c, .int .i64 e])).run Tryz.prog W = .ok (.bool (sgB (a, b) (c, e))) W := by
  rw [run_eql_struct, show (10000 : Nat) = 9998 + 1 + 1 from rfl, run_equalIn_sign]
  rfl
theorem run_neq_sign (W : World) (a b c e : Int) : (binOp .neq 36 (.agg #[.int .i64 a, .int .i64 b]) (.agg #[.int .i64 c, .int .i64 e])).run Tryz.prog W = .ok (.bool (!sgB (a, b) (c, e))) W := by
  rw [run_neq_struct, show (10000 : Nat) = 9998 + 1 + 1 from rfl, run_equalIn_sign]
  rfl

/-- A signature's two cells in a slice. -/
theorem sig_at {w : World} {X : Nat → Prop} {A : Option Addr} {c : Nat} {L : List Sg} (h : Sl w X 2 (.slice A L.length c) L.length (GVs L)) {i : Nat} (hi : i < L.length) :
    ∃ ad, A = some ad ∧ w.cell? (ad.add (i * 2)) = some (.int .i64 L[i].1) ∧ w.cell? ⟨(ad.add (i * 2)).block, (ad.add (i * 2)).off + 1, none⟩ = some (.int .i64 L[i].2) ∧ L.length ≤ c := by
  obtain ⟨A0, c0, hv, hl, hc, hm, hx⟩ := h
  injection hv with e1 e2 e3
  subst e1; subst e3
  obtain ⟨ad, hA, hb, hX, hcell⟩ := hx (by omega)
  obtain ⟨g1, g2⟩ := GVs_get L i hi
  refine ⟨ad, hA, hcell _ _ g1, ?_, hc⟩
  have := hcell _ _ g2
  rw [← Ck.add_add] at this
  generalize ad.add (i * 2) = ak at this ⊢
  unfold Addr.add at this
  rw [if_neg (by omega)] at this
  exact this

set_option maxHeartbeats 1000000 in
theorem rsigned_any (w : World) (S : Nat → Prop) (p : Nat) (L : List Sg) (s : Sg) (h : Rl w S p L) (hL : L.length ≤ 140737488355328) :
    Calls Tryz.prog 101 #[.pointer (some ⟨p, 0, none⟩), GV s] w fun e w' => e = .returned (.bool (isS L s)) ∧ Below w.heap.size w w' := by
  obtain ⟨lv, q1, hp, hsl⟩ := h
  have hsl' := hsl
  obtain ⟨A, c, rfl, -⟩ := hsl'
  obtain ⟨x, y⟩ := s
  have hq := run_eql_sign
  have hg := guard_sign
  have q2 := q1.alloc (.cells #[.int .i64 x, .int .i64 y] 36)
  have s2 := hsl.alloc (.cells #[.int .i64 x, .int .i64 y] 36)
  have k2 : Blk (w.alloc (.cells #[.int .i64 x, .int .i64 y] 36)) w.heap.size 36 #[.int .i64 x, .int .i64 y] := Blk.new _ _ _
  have hb : Below w.heap.size w (w.alloc (.cells #[.int .i64 x, .int .i64 y] 36)) := (Below.refl _ _).alloc (Nat.le_refl _) _
  clear q1 hsl hp
  unfold GV
  have HL := Lib.hid hL
  clear hL
  have hL2 : L.length ≤ 9007199254740992 := by have := HL.out; omega
  go_enter Tryz.func101, Tryz.ntmps101
  go_wp2
  generalize hW : w.alloc (.cells #[.int .i64 x, .int .i64 y] 36) = W at *
  have HW := Lib.hid hW
  have HB := Lib.hid hb
  clear hW hb
  go_loopw [5] (fun i wr => ∃ k : Nat, k ≤ L.length ∧ i = .int .i64 k ∧ (x, y) ∉ L.take k ∧ ∃ n, wr = W.drewN n) (fun i _ => L.length - (intOf i).toNat)
  case atStart => exact ⟨0, Nat.zero_le _, rfl, by simp, 0, rfl⟩
  case round =>
    obtain ⟨k, hk, rfl, hz, nd, rfl⟩ := hrel
    have HZ := Lib.hid hz
    clear hz
    have c0 : (W.drewN nd).cell? ⟨p, 0, none⟩ = some (.slice A L.length c) := q2.cell 0
    by_cases hlt : k < L.length
    · obtain ⟨ad, rfl, a0, a1, hLc⟩ := sig_at s2 hlt
      have a0' : (W.drewN nd).cell? (ad.add (k * 2)) = some (.int .i64 L[k].1) := a0
      have a1' : (W.drewN nd).cell? ⟨(ad.add (k * 2)).block, (ad.add (k * 2)).off + 1, none⟩ = some (.int .i64 L[k].2) := a1
      have b0 : (W.drewN nd).cell? ⟨w.heap.size, 0, none⟩ = some (.int .i64 x) := k2.cell 0
      have b1 : (W.drewN nd).cell? ⟨w.heap.size, 1, none⟩ = some (.int .i64 y) := k2.cell 1
      have HK2 := Lib.hid k2
      have HQ2 := Lib.hid q2
      have HS2 := Lib.hid s2
      clear a0 a1 k2 q2 s2
      generalize hWd : W.drewN nd = wr at *
      have HWd := Lib.hid hWd
      clear hWd
      by_cases heq : L[k] = (x, y)
      · have hs : sgB (L[k].1, L[k].2) (x, y) = true := by rw [heq]; exact sgB_yes _
        have HE := Lib.hid heq
        clear heq
        go_wp2
        go_quiet (fail)
        go_wp2
        go_ret
        rw [isS_true (HE.out ▸ List.getElem_mem hlt)]
        refine ⟨rfl, ?_⟩
        rw [← HWd.out]
        exact below_drewN (below_drewN HB.out _) _
      · have hs : sgB (L[k].1, L[k].2) (x, y) = false := sgB_no (by exact heq)
        have HE := Lib.hid heq
        clear heq
        go_wp2
        go_quiet (fail)
        go_wp2
        go_roundw
        case rel =>
          refine ⟨k + 1, by omega, by go_num, ?_, ?_⟩
          · rw [List.take_succ_eq_append_getElem hlt]
            intro hm
            rcases List.mem_append.1 hm with hm | hm
            · exact HZ.out hm
            · simp only [List.mem_cons, List.not_mem_nil, or_false] at hm
              exact HE.out hm.symm
          · rw [← HWd.out]
            exact ⟨_, by rw [World.drewN_drewN]⟩
        case measure => simp [intOf]; omega
    · have hke : k = L.length := by omega
      have hz : (x, y) ∉ L := by have := HZ.out; rw [hke, List.take_length] at this; exact this
      have H0 := Lib.hid hz
      clear hz
      go_wp2
      go_ret
      rw [isS_false H0.out]
      exact ⟨rfl, below_drewN HB.out _⟩


set_option maxHeartbeats 1000000 in
theorem sequal_any (w : World) (X Y : Nat → Prop) (A B : Option Addr) (c d : Nat) (ls ks : List Sg) (ha : Sl w X 2 (.slice A ls.length c) ls.length (GVs ls)) (hb : Sl w Y 2 (.slice B ks.length d) ks.length (GVs ks)) (hl : ls.length ≤ 140737488355328) :
    Calls Tryz.prog 63 #[.slice A ls.length c, .slice B ks.length d] w fun e w' => e = .returned (.bool (decide (ls = ks))) ∧ ∃ n, w' = w.drewN n := by
  have hq := run_neq_sign
  have hg := guard_sign
  by_cases hn : ls.length = ks.length
  · go_enter Tryz.func63, Tryz.ntmps63
    go_wp2
    go_loopw [13] (fun i wr => ∃ k : Nat, k ≤ ls.length ∧ i = .int .i64 k ∧ ls.take k = ks.take k ∧ ∃ n, wr = w.drewN n)
      (fun i _ => ls.length - (intOf i).toNat)
    case atStart => exact ⟨0, Nat.zero_le _, rfl, rfl, 0, rfl⟩
    case round =>
      obtain ⟨k, hk, rfl, htk, nd, rfl⟩ := hrel
      have HT := Lib.hid htk
      have HN := Lib.hid hn
      by_cases hlt : k < ls.length
      · have hlt2 : k < ks.length := by omega
        clear htk hn
        obtain ⟨ad, rfl, a0, a1, hLc⟩ := sig_at ha hlt
        obtain ⟨ad2, rfl, b0, b1, hKc⟩ := sig_at hb hlt2
        have a0' : (w.drewN nd).cell? (ad.add (k * 2)) = some (.int .i64 ls[k].1) := a0
        have a1' : (w.drewN nd).cell? ⟨(ad.add (k * 2)).block, (ad.add (k * 2)).off + 1, none⟩ = some (.int .i64 ls[k].2) := a1
        have b0' : (w.drewN nd).cell? (ad2.add (k * 2)) = some (.int .i64 ks[k].1) := b0
        have b1' : (w.drewN nd).cell? ⟨(ad2.add (k * 2)).block, (ad2.add (k * 2)).off + 1, none⟩ = some (.int .i64 ks[k].2) := b1
        clear a0 a1 b0 b1
        generalize hW : w.drewN nd = wr at *
        have HW := Lib.hid hW
        clear hW
        by_cases heq : ls[k] = ks[k]
        · have q1 : sgB (ls[k].1, ls[k].2) (ks[k].1, ks[k].2) = true := by rw [heq]; exact sgB_yes _
          have HE := Lib.hid heq
          clear heq
          go_wp2
          go_quiet (fail)
          go_wp2
          go_roundw
          case rel =>
            refine ⟨k + 1, by omega, by go_num, ?_, ?_⟩
            · rw [List.take_succ_eq_append_getElem hlt, List.take_succ_eq_append_getElem hlt2, HT.out, HE.out]
            · rw [← HW.out]
              exact ⟨_, by rw [World.drewN_drewN]⟩
          case measure => simp [intOf]; omega
        · have q1 : sgB (ls[k].1, ls[k].2) (ks[k].1, ks[k].2) = false := sgB_no (by exact heq)
          have HE := Lib.hid heq
          clear heq
          go_wp2
          go_quiet (fail)
          go_wp2
          go_ret
          have hne : decide (ls = ks) = false := by
            rw [decide_eq_false_iff_not]; rintro rfl; exact HE.out rfl
          rw [hne]
          refine ⟨rfl, ?_⟩
          rw [← HW.out]
          exact ⟨_, by rw [World.drewN_drewN]⟩
      · have hke : k = ls.length := by omega
        have hd : decide (ls = ks) = true := by
          have h1 := htk
          rw [hke, List.take_length, hn, List.take_length] at h1
          rw [h1]; simp
        have HD := Lib.hid hd
        clear htk hd
        go_wp2
        go_ret
        exact ⟨by rw [HD.out]; rfl, _, rfl⟩
  · have hne : decide (ls = ks) = false := by
      rw [decide_eq_false_iff_not]; rintro rfl; exact hn rfl
    rw [hne]
    have hni : ((ls.length : Int) == (ks.length : Int)) = false := by rw [beq_eq_false_iff_ne]; omega
    clear hne
    go_enter Tryz.func63, Tryz.ntmps63
    go_wp2
    go_ret
    exact ⟨rfl, 0, rfl⟩

end Go.Proofs.YtmhmnkpaijoaaaaGreat.Ld

/-
  Layer 15 (prepared): whether a signature stands over bytes (layer 11, the document's).
-/
namespace Go.Proofs.YtmhmnkpaijoaaaaGreat.Prk
set_option linter.unusedSimpArgs false
open Go Go.RowKit Ck Kw Ik Lk Pra Prh Pri Prj
open Im (num isIn)
attribute [local go_sem ↓] Go.wp_at_zero Go.wp_at_succ
set_option linter.unusedVariables false
set_option maxRecDepth 100000

def signedB (L : List (List UInt8)) (G : List Sg) (s : Sg) (key : Int) (b : List UInt8) : Bool := isIn L b && decide (s.1 = key) && decide (s.2 = (num L b : Int)) && isS G s
set_option maxHeartbeats 2000000 in
theorem signed_any (w : World) (X : Nat → Prop) (p g : Nat) (L : List (List UInt8)) (G : List Sg) (s : Sg) (key : Int) (v : Value) (n : Nat) (b : List UInt8)
    (ht : ∀ W, Below w.heap.size w W → ∃ S1, Rf W S1 p L) (hg : ∀ W, Below w.heap.size w W → ∃ S2, Rl W S2 g G) (hG : G.length ≤ 140737488355328) (hb : Sl w X 1 v n (BVs b)) :
    Calls Tryz.prog 91 #[.pointer (some ⟨p, 0, none⟩), .pointer (some ⟨g, 0, none⟩), GV s, .int .i64 key, v] w fun e w' => e = .returned (.bool (signedB L G s key b)) ∧ Below w.heap.size w w' := by
  have hb0 : Below w.heap.size w (w.alloc (.cells #[.int .i64 s.1, .int .i64 s.2] 36)) := (Below.refl _ w).alloc (Nat.le_refl _) _
  have hbk : Blk (w.alloc (.cells #[.int .i64 s.1, .int .i64 s.2] 36)) w.heap.size 36 #[.int .i64 s.1, .int .i64 s.2] := Blk.new w _ _
  have k0 := hbk.cell 0
  have k1 := hbk.cell 1
  simp only [List.getElem?_toArray, List.getElem?_cons_zero, List.getElem?_cons_succ] at k0 k1
  obtain ⟨A, c, rfl, -⟩ := id hb
  have HLK : Hid (Calls Tryz.prog 51 #[.pointer (some ⟨p, 0, none⟩), .slice A n c] (w.alloc (.cells #[.int .i64 s.1, .int .i64 s.2] 36)) fun e w' => e = .returned (.tuple #[.int .i64 (num L b : Int), .bool (isIn L b)]) ∧ (w.alloc (.cells #[.int .i64 s.1, .int .i64 s.2] 36)) = w') := Lib.hid (by
    obtain ⟨S1, h1⟩ := ht _ hb0
    exact Ih.rlook_any _ S1 X p L _ _ b h1 (hb.alloc _))
  have HSG : Hid (Calls Tryz.prog 101 #[.pointer (some ⟨g, 0, none⟩), GV s] (w.alloc (.cells #[.int .i64 s.1, .int .i64 s.2] 36)) fun e w' => e = .returned (.bool (isS G s)) ∧ Below w.heap.size w w') := Lib.hid (by
    obtain ⟨S2, h2⟩ := hg _ hb0
    exact (Ld.rsigned_any _ S2 g G s h2 hG).mono (fun e w' h => ⟨h.1, hb0.trans (h.2.mono hb0.size)⟩))
  have HB0 := Lib.hid hb0
  have HV : Hid (signedB L G s key b = (isIn L b && decide (s.1 = key) && decide (s.2 = (num L b : Int)) && isS G s)) := Lib.hid rfl
  unfold GV at HSG ⊢
  clear ht hg hb hbk hb0 hG
  generalize isIn L b = known at *
  generalize (num L b : Int) = dg at *
  generalize isS G s = sg at *
  cases known with
  | false =>
    go_enter Tryz.func91, Tryz.ntmps91
    go_wp2_with fail
    refine HLK.out.mono ?_
    rintro e w' ⟨rfl, rfl⟩
    go_wp2_with fail
    go_ret
    exact ⟨by rw [HV.out]; rfl, HB0.out⟩
  | true =>
    by_cases h1 : s.1 = key
    · have e1 : (s.1 == key) = true := by simp [h1]
      by_cases h2 : s.2 = dg
      · have e2 : (s.2 == dg) = true := by simp [h2]
        have HV2 : Hid (signedB L G s key b = sg) := Lib.hid (by rw [HV.out, decide_eq_true h1, decide_eq_true h2]; rfl)
        clear h1 h2 HV
        go_enter Tryz.func91, Tryz.ntmps91
        go_wp2_with fail
        refine HLK.out.mono ?_
        rintro e w' ⟨rfl, rfl⟩
        go_wp2_with fail
        refine HSG.out.mono ?_
        rintro e w' ⟨rfl, hb2⟩
        have HB2 := Lib.hid hb2
        clear hb2
        go_wp2_with fail
        go_ret
        exact ⟨by rw [HV2.out]; rfl, HB2.out⟩
      · have e2 : (s.2 == dg) = false := by rw [beq_eq_false_iff_ne]; exact h2
        have HV2 : Hid (signedB L G s key b = false) := Lib.hid (by rw [HV.out, decide_eq_false h2]; simp)
        clear h1 h2 HV
        go_enter Tryz.func91, Tryz.ntmps91
        go_wp2_with fail
        refine HLK.out.mono ?_
        rintro e w' ⟨rfl, rfl⟩
        go_wp2_with fail
        go_ret
        exact ⟨by rw [HV2.out]; rfl, HB0.out⟩
    · have e1 : (s.1 == key) = false := by rw [beq_eq_false_iff_ne]; exact h1
      have HV2 : Hid (signedB L G s key b = false) := Lib.hid (by rw [HV.out, decide_eq_false h1]; simp)
      clear h1 HV
      go_enter Tryz.func91, Tryz.ntmps91
      go_wp2_with fail
      refine HLK.out.mono ?_
      rintro e w' ⟨rfl, rfl⟩
      go_wp2_with fail
      go_ret
      exact ⟨by rw [HV2.out]; rfl, HB0.out⟩
end Go.Proofs.YtmhmnkpaijoaaaaGreat.Prk

/-
  Layer 15 (prepared): whether a vote's signature is valid (layer 11, the document's).
-/
namespace Go.Proofs.YtmhmnkpaijoaaaaGreat.Prl
set_option linter.unusedSimpArgs false
open Go Go.RowKit Ck Kw Ga Ik Lk Pra Prh Pri Prj Prk
open Im (num isIn)
attribute [local go_sem ↓] Go.wp_at_zero Go.wp_at_succ
set_option linter.unusedVariables false
set_option maxRecDepth 100000

def validVoteB (L : List (List UInt8)) (G : List Sg) (s : Sg) (key k v q d : Int) : Bool := mayP k v q d && signedB L G s key (voteB k.toNat v.toNat q.toNat d.toNat)
set_option maxHeartbeats 2000000 in
theorem validvote_no (w : World) (p g : Value) (s : Sg) (key k v q d : Int) (hm : mayP k v q d = false) :
    Calls Tryz.prog 54 #[p, g, GV s, .int .i64 key, .int .i64 k, .int .i64 v, .int .i64 q, .int .i64 d] w fun e w' => e = .returned (.bool false) ∧ Below w.heap.size w w' := by
  have hb0 : Below w.heap.size w (w.alloc (.cells #[.int .i64 s.1, .int .i64 s.2] 36)) := (Below.refl _ w).alloc (Nat.le_refl _) _
  have HB0 := Lib.hid hb0
  have HM : Hid (∀ W, Calls Tryz.prog 73 #[.int .i64 k, .int .i64 v, .int .i64 q, .int .i64 d] W fun e w' => e = .returned (.bool false) ∧ W = w') := Lib.hid fun W => by
    have := may_any W k v q d
    rw [hm] at this
    exact this
  have HQ : Hid (∀ n, Calls Tryz.prog 73 #[.int .i64 k, .int .i64 v, .int .i64 q, .int .i64 d] ((w.alloc (.cells #[.int .i64 s.1, .int .i64 s.2] 36)).drewN n) fun e w' => e = .returned (.bool false) ∧ ∃ m, w' = (w.alloc (.cells #[.int .i64 s.1, .int .i64 s.2] 36)).drewN m) := Lib.hid fun n => Calls.quiet_of_same ((HM.out _).mono fun _ _ h => ⟨h.1, h.2.symm⟩)
  clear hb0 hm
  unfold GV
  go_enter Tryz.func54, Tryz.ntmps54
  go_wp2_with fail
  go_quiet ((go_at_call 73; exact HQ.out _))
  all_goals
    go_wp2_with fail
    go_ret
    exact ⟨rfl, below_drewN HB0.out _⟩
end Go.Proofs.YtmhmnkpaijoaaaaGreat.Prl

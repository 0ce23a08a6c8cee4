/-
  Contracts of the program's table that make memory: Open, roomyTable, NewTable, Sum.
-/
import Derived.Test.YtobphijbhghgmaaGreatP11
import Derived.RegionTactic
import Derived.Lib.ConvBytes
import Derived.BigRegion
import Derived.Shelf.SlMaps.Clone
import Derived.Deep.RegionWith
import Derived.Deep.RegionHeld3
import Derived.Deep.DrawnRows
import Derived.Test.YtobphijbhghgmaaGreatP06
import Derived.Deep.QuietTactic
import Derived.Deep.MidRow
namespace Go.Proofs.YtobphijbhghgmaaGreat.Ib
set_option linter.unusedSimpArgs false
set_option linter.unusedVariables false
set_option maxRecDepth 100000
open Go Go.RowKit Ck Im Kw Ik Ia

theorem info_u8 : (Tryz.prog.info? 5).map (fun i => (i.zero, i.size, i.bytes)) = some (some (.int .u8 0), 1, 1) := by kernel_rfl
theorem info_str : (Tryz.prog.info? 9).map (fun i => (i.zero, i.size, i.bytes)) = some (some (.string ⟨#[]⟩), 1, 16) := by kernel_rfl
theorem info_sl : (Tryz.prog.info? 25).map (fun i => (i.zero, i.size, i.bytes)) = some (some (.slice none 0 0), 1, 24) := by kernel_rfl

/-- v is new bytes, made out of a text. -/
def Out (w : World) (base : Nat) (v : Value) (l : Tx) : Prop :=
  ∃ (g cap : Nat) (cs : Array Value) (z : Nat), v = .slice (some ⟨g, 0, none⟩) l.length cap ∧ base ≤ g ∧ w.heap[g]? = some (.cells cs 5 (z, z + 1)) ∧ l.length ≤ z ∧ l.length ≤ cap ∧ cap ≤ maxLen ∧ ∀ (j : Nat) (u : Value), (BVs l)[j]? = some u → cs[j]? = some u
theorem Out.sl {w : World} {base : Nat} {v : Value} {l : Tx} {X : Nat → Prop} (h : Out w base v l) (hX : ∀ k, base ≤ k → k < w.heap.size → ¬ X k) : Sl w X 1 v l.length (BVs l) := by
  obtain ⟨g, cap, cs, z, rfl, hb, hg, hz, hc, hm, hx⟩ := h
  have hlt := (Array.getElem?_eq_some_iff.1 hg).1
  refine ⟨_, _, rfl, by simp [BVs_len], hc, hm, fun _ => ⟨_, rfl, hlt, hX g hb hlt, fun j u hu => ?_⟩⟩
  have ha : (⟨g, 0, none⟩ : Addr).add j = ⟨g, j, none⟩ := by unfold Addr.add; split <;> simp_all
  rw [ha]
  simp only [World.cell?, hg]
  exact hx j u hu
theorem Out.ch {w w' : World} {base : Nat} {v : Value} {l : Tx} {S : Nat → Prop} (h : Out w base v l) (c : Ch S w w') (hS : ∀ k, base ≤ k → k < w.heap.size → ¬ S k) : Out w' base v l := by
  obtain ⟨g, cap, cs, z, rfl, hb, hg, r⟩ := h
  exact ⟨g, cap, cs, z, rfl, hb, (c.block g (Array.getElem?_eq_some_iff.1 hg).1 (hS g hb (Array.getElem?_eq_some_iff.1 hg).1)).trans hg, r⟩
theorem Out.base {w : World} {base b' : Nat} {v : Value} {l : Tx} (h : Out w base v l) (hb : b' ≤ base) : Out w b' v l := by
  obtain ⟨g, cap, cs, z, hv, h1, r⟩ := h
  exact ⟨g, cap, cs, z, hv, Nat.le_trans hb h1, r⟩
theorem bytesWorld_below (w : World) (e : TypeId) (s : ByteArray) : Below w.heap.size w (Lib.bytesWorld w e s) := by
  refine ⟨?_, ?_, ?_, by rw [Lib.bytesWorld_size]; omega, fun k hk => Lib.bytesWorld_at_old w e s k hk⟩ <;>
    (unfold Lib.bytesWorld World.freeze; split <;> rfl)
theorem bytesWorld_out (w : World) (l : Tx) (hl : l.length ≤ 140737488355328) : Out (Lib.bytesWorld w 5 ⟨l.toArray⟩) w.heap.size (.slice (some ⟨w.heap.size, 0, none⟩) l.length (grownCap w l.length 0 5)) l := by
  have hge := grownCap_ge w l.length 0 5
  refine ⟨w.heap.size, _, _, _, rfl, Nat.le_refl _, Lib.bytesWorld_at_new w 5 ⟨l.toArray⟩, ?_, hge, grownCap_le_maxLen w _ _ _ (by simp only [maxLen]; omega), fun j u hu => ?_⟩
  · show l.length ≤ ((l.toArray.map fun b : UInt8 => Value.int .u8 b.toNat) ++ Array.replicate _ _).size
    simp
  · have hj : j < l.length := by have := (List.getElem?_eq_some_iff.1 hu).1; rwa [BVs_len] at this
    show ((l.toArray.map fun b : UInt8 => Value.int .u8 b.toNat) ++ Array.replicate _ _)[j]? = some u
    rw [Array.getElem?_append_left (by simpa using hj)]
    rw [BVs_get hj] at hu
    simpa [hj] using hu

theorem three (w : World) (a b c : Obj) : (((w.alloc a).alloc b).alloc c).heap[w.heap.size]? = some a ∧ (((w.alloc a).alloc b).alloc c).heap[w.heap.size + 1]? = some b ∧ (((w.alloc a).alloc b).alloc c).heap[w.heap.size + 1 + 1]? = some c := by
  refine ⟨?_, ?_, ?_⟩
  · rw [Below.heap_alloc _ _ _ (by simp; omega), Below.heap_alloc _ _ _ (by simp)]
    exact heap_alloc_new w a
  · rw [Below.heap_alloc _ _ _ (by simp)]
    have := heap_alloc_new (w.alloc a) b
    simpa using this
  · have := heap_alloc_new ((w.alloc a).alloc b) c
    simpa using this
theorem three_below (w : World) (a b c : Obj) : Below w.heap.size w (((w.alloc a).alloc b).alloc c) := (((Below.refl _ w).alloc (Nat.le_refl _) _).alloc (by simp) _).alloc (by simp; omega) _
theorem tb_new {w : World} {S : Nat → Prop} {p m g n : Nat} {cs : Array Value} (h1 : Blk w p 58 #[.map (some m), .slice (some ⟨g, 0, none⟩) 0 n]) (h2 : w.heap[m]? = some (.map #[] 0))
    (h3 : w.heap[g]? = some (.cells cs 9 (0, 0))) (hs : cs.size = n) (hn : n ≤ maxLen) (sp : S p) (sm : S m) (sg : S g) : Tb w S p [] := by
  refine ⟨m, _, .map [], h1, ⟨#[], 0, h2, ⟨by simp, MapKept.stamped_empty 0, by simp⟩, Nat.le_refl _, rfl⟩, Nums.empty, ⟨rfl, .inr ⟨g, n, cs, rfl, Nat.zero_le _, h3, Nat.zero_le _, hn, by omega, by simp⟩⟩, sp, sm, ?_, by simp, by simp⟩
  intro k hk
  have hk : g = k := by simpa [Value.ownBlock] using hk
  subst hk
  exact sg

set_option maxHeartbeats 400000 in
theorem roomy_any (w : World) (n : Nat) (hn : n ≤ 1048576) :
    Calls Tryz.prog 40 #[.int .i64 n] w fun e w' => ∃ p, e = .returned (.pointer (some ⟨p, 0, none⟩)) ∧ Tb w' (New w w') p [] ∧ Below w.heap.size w w' := by
  have hmm : ∀ W : World, (Instr.makeMap 55 (some (.int .i64 (n : Int)))).run Tryz.prog W = .ok (.map (some W.heap.size)) (W.alloc (.map #[] 0)) := fun W => by
    simp [Instr.makeMap, run_underlying Tryz.underlying55, asInt, asIntOf]
  obtain ⟨i0, hi0, hz0, hz1, hz2⟩ := info_parts info_str
  have hms : ∀ W : World, (Instr.makeSlice 56 (.int .i64 0) (.int .i64 (n : Int))).run Tryz.prog W = .ok (.slice (some ⟨W.heap.size, 0, none⟩) 0 n) (W.alloc (.cells (madeCells (Value.string ⟨#[]⟩).cells n) 9)) := fun W => by
    have := run_make (P := Tryz.prog) W 56 9 i0 _ Tryz.underlying56 hi0 hz0 .i64 .i64 0 n (by omega) (by omega) (by rw [hz2]; omega) (by omega)
    rw [hz1] at this
    simpa using this
  clear hi0 hz0 hz1 hz2
  go_enter Tryz.func40, Tryz.ntmps40
  go_wp2
  go_region
  all_goals
    go_wp2
    go_ret
    refine ⟨_, rfl, ?_, below_drewN (three_below w _ _ _) 1⟩
    first
    | exact tb_new (m := w.heap.size) (g := w.heap.size + 1) (three w _ _ _).2.2 (three w _ _ _).1 (three w _ _ _).2.1 (size_madeCells _ _) (by simp only [maxLen]; omega) ⟨by omega, by simp; try omega⟩ ⟨by omega, by simp; try omega⟩ ⟨by omega, by simp; try omega⟩
    | exact tb_new (m := w.heap.size + 1) (g := w.heap.size) (three w _ _ _).2.2 (three w _ _ _).2.1 (three w _ _ _).1 (size_madeCells _ _) (by simp only [maxLen]; omega) ⟨by omega, by simp; try omega⟩ ⟨by omega, by simp; try omega⟩ ⟨by omega, by simp; try omega⟩

theorem newtable_any (w : World) :
    Calls Tryz.prog 13 #[] w fun e w' => ∃ p, e = .returned (.pointer (some ⟨p, 0, none⟩)) ∧ Tb w' (New w w') p [] ∧ Below w.heap.size w w' := by
  go_enter Tryz.func13, Tryz.ntmps13
  go_wp2_with (go_at_call 40; refine (roomy_any _ 0 (by omega)).mono ?_; rintro e w' ⟨p, rfl, h1, h2⟩)
  go_ret
  exact ⟨_, rfl, h1, h2⟩

theorem one_sv (w : World) (X : Nat → Prop) (t : TypeId) (u : Value) (hX : ¬ X w.heap.size) : Sl (w.alloc (.cells #[u] t)) X 1 (.slice (some ⟨w.heap.size, 0, none⟩) 1 1) 1 [u] :=
  ⟨_, _, rfl, rfl, Nat.le_refl _, by simp only [maxLen]; omega, fun _ => ⟨_, rfl, by simp, hX, fun j x hx => by
    have ha : (⟨w.heap.size, 0, none⟩ : Addr).add j = ⟨w.heap.size, j, none⟩ := by unfold Addr.add; split <;> simp_all
    rw [ha, Blk.cell (Blk.new w t _) j]
    simpa using hx⟩⟩
theorem svs_one (l : List Tx) : ∀ u ∈ l.map SV, u.oneCell' = true := by
  intro u hu
  simp only [List.mem_map] at hu
  obtain ⟨c, _, rfl⟩ := hu
  rfl

/-- What Sum leaves of the program's table. -/
def Summed (S : Nat → Prop) (p : Nat) (L : List Tx) (b : Tx) (w : World) (e : Ending) (w' : World) : Prop :=
  e = .returned (.int .i64 (sum L b : Int)) ∧ Tb w' (Up S w w') p (add L b) ∧ Ch S w w'

/-- The table's parts, for the walk. -/
def Parts (w : World) (S : Nat → Prop) (p m : Nat) (tv : Value) (D : DataW Unit) (L : List Tx) : Prop :=
  Blk w p 58 #[.map (some m), tv] ∧ w.ownsMap Tryz.prog 9 (plainElem Tryz.prog 22) m L.length D ∧ Nums D L ∧ w.ownsRow 0 9 1 tv L.length (L.map SV) ∧
    S p ∧ S m ∧ (∀ g, tv.ownBlock = some g → S g) ∧ ∀ l ∈ L, l.length ≤ 140737488355328
theorem tb_snoc {w w1 w2 : World} {S : Nat → Prop} {n p m : Nat} {tv tv1 : Value} {D : DataW Unit} {L : List Tx} {b : Tx} {o : Obj} (h : Parts (w.drewN n) S p m tv D L) (hk : num L b = 0) (hl : (L.length : Int) < 1048576) (hb : b.length ≤ 140737488355328)
    (happ : Appended ((w.drewN n).alloc o) 0 9 1 tv (L.length + 1) (L.map SV ++ [SV b]) tv1 w1)
    (hmap2 : w2.ownsMap Tryz.prog 9 (plainElem Tryz.prog 22) m (L.length + 1) (D.put (.string b) (.lit (.int .i64 ((L.length : Int) + 1)))))
    (hg2 : (w1.setCell ⟨p, 1, none⟩ tv1).grownBy w2 (some m)) : Tb w2 (Up S w w2) p (L ++ [b]) := by
  obtain ⟨h1, hmap, hN, hown, hp, hm, hg, hall⟩ := h
  have k0 := (h1.alloc o).grown happ.2.1 (Ne.symm (own_far hown h1 (by decide)))
  have hpm : m ≠ p := map_far hmap h1
  have hm1 := (hmap.alloc o).kept happ.2.1 (Ne.symm (map_row hmap hown))
  have c2 : Ch (fun k => k = p ∨ k = m) w1 w2 := ((Ch.refl _ w1).setCell (p := ⟨p, 1, none⟩) (fun _ => .inl rfl) tv1).trans (Ch.of_grown hg2 (S := fun k => k = m) (fun g hg _ => by injection hg with hg; exact hg.symm)) (fun _ _ h => .inr h)
  refine ⟨m, tv1, _, ?_, ?_, hN.put hmap.isMap (strKey b) hk, ?_, .inl hp, .inl hm, ?_, ?_, ?_⟩
  · exact (k0.set_ 1 tv1).grown hg2 (by simp; exact fun e => hpm e.symm)
  · rw [List.length_append]; exact hmap2
  · rw [List.length_append, List.map_append]
    refine own_ch happ.1 c2 (fun g hg' => ?_)
    rintro (rfl | rfl)
    · exact own_far happ.1 k0 (by decide) hg'
    · exact map_row hm1 happ.1 hg'
  · intro g hg'
    rcases happ.2.2 with h2 | h2
    · exact .inl (hg g (by rw [← h2]; exact hg'))
    · refine .inr ⟨?_, Nat.lt_of_lt_of_le (happ.1.lt g hg').2 c2.size⟩
      rw [h2] at hg'
      injection hg' with hg'
      subst hg'
      simp
  · intro l hl2
    rcases List.mem_append.1 hl2 with h2 | h2
    · exact hall l h2
    · simp only [List.mem_cons, List.not_mem_nil, or_false] at h2
      subst h2; exact hb
  · simp only [List.length_append, List.length_cons, List.length_nil]; omega
theorem ch_snoc {w w1 w2 : World} {S : Nat → Prop} {n p m : Nat} {tv tv1 : Value} {D : DataW Unit} {L : List Tx} {xs : List Value} {o : Obj} {k : Nat} (h : Parts (w.drewN n) S p m tv D L)
    (happ : Appended ((w.drewN n).alloc o) 0 9 1 tv k xs tv1 w1) (hg2 : (w1.setCell ⟨p, 1, none⟩ tv1).grownBy w2 (some m)) : Ch S w w2 := by
  obtain ⟨h1, hmap, hN, hown, hp, hm, hg, hall⟩ := h
  refine ((((Ch.refl S w).drewN n).alloc o).trans (Ch.of_grown happ.2.1 (S := S) (fun g hg' _ => hg g hg')) (fun _ _ h => h)).setCell (p := ⟨p, 1, none⟩) (fun _ => hp) tv1 |>.trans (Ch.of_grown hg2 (S := S) (fun g hg' _ => ?_)) (fun _ _ h => h)
  injection hg' with hg'
  subst hg'
  exact hm
theorem key_str (b : Tx) (hb : b.length ≤ maxLen) : keyOf Tryz.prog 9 (.string ⟨b.toArray⟩) = some (.string b) := by
  have := _root_.Go.WideMaps.keyOf_string_mk (P := Tryz.prog) Tryz.underlying9 (s := ⟨b.toArray⟩) (show b.toArray.size ≤ maxLen by simpa using hb)
  simpa using this

set_option maxRecDepth 100000 in
set_option maxHeartbeats 1000000 in
theorem sum_yes (w : World) (S X : Nat → Prop) (p : Nat) (L : List Tx) (A : Option Addr) (c : Nat) (b : Tx) (h : Tb w S p L) (hb : Sl w X 1 (.slice A b.length c) b.length (BVs b)) (hl : b.length ≤ 140737488355328) :
    Calls Tryz.prog 39 #[.pointer (some ⟨p, 0, none⟩), .slice A b.length c] w (Summed S p L b w) := by
  have HL := Lib.hid (look_yes w S X p L A c b h hb hl)
  have HM := fun n => made_yes (w.drewN n) S p L (h.drewN n)
  have HM := Lib.hid HM
  by_cases hk : num L b = 0
  · have hin := isIn_false hk
    obtain ⟨m, tv, D, h1, hmap, hN, hown, hp, hm, hg, hall, hL⟩ := h
    obtain ⟨A', c', rfl⟩ := own_shape hown
    by_cases hf : 1048576 ≤ L.length
    · obtain ⟨ha, hs⟩ := add_full hk hf
      have c1 : ∀ n, (w.drewN n).cell? ⟨p, 1, none⟩ = some (.slice A' L.length c') := fun _ => h1.cell 1
      have hT : Tb w S p L := ⟨m, _, D, h1, hmap, hN, hown, hp, hm, hg, hall, hL⟩
      have HT := Lib.hid hT
      have HA := Lib.hid ha
      have HS := Lib.hid hs
      have hk0 : (num L b : Int) = 0 := by omega
      have hf' : decide ((1048576 : Int) ≤ (L.length : Int)) = true := by rw [decide_eq_true_eq]; omega
      clear h1 hmap hN hown hp hm hg hall ha hs hT hk hf hL hl hb
      go_enter Tryz.func39, Tryz.ntmps39
      go_wp2_with (first
        | (go_at_call 59; refine HL.out.mono ?_; rintro e w' ⟨rfl, n, rfl⟩)
        | (go_at_call 60; refine (HM.out _).mono ?_; rintro e w' ⟨rfl, rfl⟩))
      go_ret
      refine ⟨by rw [HS.out]; rfl, ?_, (Ch.refl S w).drewN _⟩
      rw [HA.out]
      exact (HT.out.drewN _).weaken (fun k hk => .inl hk)
    · obtain ⟨ha, hs⟩ := add_new hk hf
      have HA := Lib.hid ha
      have HS := Lib.hid hs
      have e1 := fun n : Nat => run_convert_sl (P := Tryz.prog) (w.drewN n) X 25 9 5 A c b Tryz.underlying25 Tryz.underlying5 Tryz.underlying9 (hb.drewN n)
      have HH : Hid (∀ n, Parts (w.drewN n) S p m (.slice A' L.length c') D L) := Lib.hid fun n => ⟨h1, hmap, hN, hown, hp, hm, hg, hall⟩
      have hf' : decide ((1048576 : Int) ≤ (L.length : Int)) = false := by rw [decide_eq_false_iff_not]; omega
      have hlt : L.length ≤ 2000000 := by omega
      have HK := Lib.hid hk
      have HB := Lib.hid hl
      have HK2 : Hid (keyOf Tryz.prog 9 (.string ⟨b.toArray⟩) = some (.string b)) := Lib.hid (key_str b (by simp only [maxLen]; omega))
      have c1 : ∀ n, (w.drewN n).cell? ⟨p, 1, none⟩ = some (.slice A' L.length c') := fun _ => h1.cell 1
      obtain ⟨i0, hi0, hz0, hz1, hz2⟩ := info_parts info_str
      have hk0 : (num L b : Int) = 0 := by omega
      clear ha hs hk hf h1 hmap hN hown hp hm hg hall hL hl hb
      go_enter Tryz.func39, Tryz.ntmps39
      go_wp2_with (first
        | (go_at_call 59; refine HL.out.mono ?_; rintro e w' ⟨rfl, n, rfl⟩)
        | (go_at_call 60; refine (HM.out _).mono ?_; rintro e w' ⟨rfl, rfl⟩)
        | (at_builtin; refine wpList_append_sh _ rfl (.tmp 41) (.tmp 43) _ rfl 0 9 i0 _ 1 16 Tryz.underlying56 hi0 hz0 hz1 hz2 rfl (by omega) (.slice A' L.length c') L.length (L.map SV) rfl ((HH.out n).2.2.2.1.alloc _) (fun _ => False) _ 1 [SV b] rfl (one_sv (w.drewN n) _ _ _ (fun h => h)) (svs_one [b]) (by simp only [maxLen]; omega) (by omega) (Nat.zero_le _) ?_; intro A1 d1 w1 happ; have k0 := ((HH.out n).1.alloc (.cells #[SV b] 9)).grown happ.2.1 (Ne.symm (own_far (HH.out n).2.2.2.1 (HH.out n).1 (by decide))); have k1 := k0.cell 1; have k2 := k0.frozen 1; have k3 := k0.cell 0; simp only [List.getElem?_toArray, List.getElem?_cons_zero, List.getElem?_cons_succ] at k1 k3)
        | (at_mapUpdate; refine wpList_mapUpdate_own (H := Unit) _ rfl _ _ _ 55 rfl 9 22 law_str Tryz.underlying55 (plainElem Tryz.prog 22) m L.length D rfl ((((HH.out n).2.1.alloc _).kept happ.2.1 (Ne.symm (map_row (HH.out n).2.1 (HH.out n).2.2.2.1))).setCell (map_far (HH.out n).2.1 (HH.out n).1) _) (by simp only [maxLen]; omega) _ _ (.string b) rfl rfl HK2.out (.lit (.int .i64 ((L.length : Int) + 1))) [] (plainElem_int Tryz.underlying22 (WalkArith.wf_i64 (by omega))) ?_; intro w2 hmap2 hgrow2))
      go_ret
      refine ⟨by rw [HS.out]; rfl, ?_, ?_⟩
      · rw [HA.out]
        exact tb_snoc (HH.out n) HK.out (by rw [decide_eq_false_iff_not] at hf'; omega) HB.out happ hmap2 hgrow2
      · exact ch_snoc (HH.out n) happ hgrow2
  · have hin := isIn_true hk
    obtain ⟨ha, hs⟩ := add_known hk
    have HT := Lib.hid h
    have HA := Lib.hid ha
    have HS := Lib.hid hs
    clear h ha hs
    go_enter Tryz.func39, Tryz.ntmps39
    go_wp2_with (go_at_call 59; refine HL.out.mono ?_; rintro e w' ⟨rfl, n, rfl⟩)
    go_ret
    refine ⟨by rw [HS.out]; rfl, ?_, (Ch.refl S w).drewN _⟩
    rw [HA.out]
    exact (HT.out.drewN _).weaken (fun k hk => .inl hk)

end Go.Proofs.YtobphijbhghgmaaGreat.Ib

/-
  Contracts of slices.Clone at three types, of maps.Clone at two.
-/
namespace Go.Proofs.YtobphijbhghgmaaGreat.Ic
set_option linter.unusedSimpArgs false
set_option linter.unusedVariables false
set_option maxRecDepth 100000
open Go Go.RowKit Ck Im Kw Ik Ia Ib

set_option maxHeartbeats 400000 in
theorem clone_strs (X : Nat → Prop) (v : Value) (n : Nat) (xs : List Value) (w : World) (hv : Sl w X 1 v n xs) (h1 : ∀ u ∈ xs, u.oneCell' = true) (hn : n * 16 ≤ 140737488355328) :
    Calls Tryz.prog 115 #[v] w fun e w' => ∃ A c, e = .returned (.slice A n c) ∧ w'.ownsRow w.heap.size 9 1 (.slice A n c) n xs ∧ Below w.heap.size w w' := by
  obtain ⟨i0, hi0, hz0, hz1, hz2⟩ := info_parts info_str
  have hv' := hv
  obtain ⟨A, c, rfl, hxl, -⟩ := hv'
  have heq := fun (W : World) => Lib.run_eql_slice_nil (P := Tryz.prog) W 56 9 A n c 0 0 Tryz.underlying56
  rcases A with _ | ad
  · obtain ⟨h0, rfl⟩ := hv.none_
    subst h0
    clear hv h1 hxl
    go_enter Tryz.func115, Tryz.ntmps115
    go_wp2
    go_ret
    exact ⟨_, _, rfl, World.ownsRow_nil _ _ _ _, Below.refl _ _⟩
  · have HX := Lib.hid hxl
    clear hxl
    go_enter Tryz.func115, Tryz.ntmps115
    go_wp2_with (at_builtin; refine wpList_append_sh _ rfl (.tmp 5) (.tmp 6) _ rfl w.heap.size 9 i0 _ 1 16 Tryz.underlying56 hi0 hz0 hz1 hz2 rfl (by omega) (.slice (some ⟨w.heap.size, 0, none⟩) 0 0) 0 [] rfl (World.ownsRow_made w #[] 0 (Nat.le_refl _) (by simp only [maxLen]; omega) rfl) X _ n xs rfl (hv.alloc _) h1 (by simp only [maxLen]; omega) (by omega) (by simp) ?_; intro A2 c2 w2 happ)
    go_ret
    obtain ⟨ho, hg, hr⟩ := happ
    rw [Nat.zero_add] at hr
    refine ⟨A2, c2, by simp, by simpa using ho, ?_⟩
    exact ((Below.refl _ _).alloc (Nat.le_refl _) _).grown hg (by simp) (by simp [Value.ownBlock])

set_option maxHeartbeats 400000 in
set_option maxRecDepth 100000 in
theorem mclone_strs (w : World) (b : Nat) (es : Array MapEntry) (clock : Nat) (hb : w.heap[b]? = some (.map es clock)) :
    Calls Tryz.prog 114 #[.map (some b)] w fun e w' => e = .returned (.map (some w.heap.size)) ∧ w.alloc (.map es clock) = w' := by
  have hq := fun W => run_eql_map_nil_sl (P := Tryz.prog) W 55 _ _ (some b) Tryz.underlying55
  have HB := Lib.hid hb
  clear hb
  go_enter Tryz.func114, Tryz.ntmps114
  go_wp2
  rw [run_callFunc_extern Tryz.func143 (by kernel_rfl) (by kernel_rfl) (by kernel_rfl) (e := Extern.MapsClone.clone) (by kernel_rfl), run_maps_clone_sl w 55 HB.out]
  simp only [Result.andThen]
  rw [Oper.upon_value]
  go_wp2
  rw [run_typeAssert_map_sl _ 55 20 _ _ _ Tryz.underlying55]
  simp only [Result.andThen]
  rw [Oper.upon_value]
  go_wp2
  go_ret
  exact ⟨rfl, rfl⟩

end Go.Proofs.YtobphijbhghgmaaGreat.Ic

/-
  Contracts of the program's table: Clone, Plain, From.
-/
namespace Go.Proofs.YtobphijbhghgmaaGreat.Ig
set_option linter.unusedSimpArgs false
set_option linter.unusedVariables false
set_option maxRecDepth 100000
open Go Go.RowKit Ck Im Kw Ik Ia Ib Ic
attribute [local go_sem ↓] Go.wp_at_zero Go.wp_at_succ

theorem tclone_end {w w2 : World} {L : List Tx} {D : DataW Unit} {es : Array MapEntry} {clock : Nat} {tv : Value} (hN : Nums D L) (hF : WideElems.Fit Tryz.prog 9 (plainElem (H := Unit) Tryz.prog 22) es clock) (hsz : es.size ≤ L.length)
    (hD : D = .map ((es.toList.map (WideElems.rg Tryz.prog 9 (plainElem Tryz.prog 22))).foldr DataW.insert [])) (hall : ∀ l ∈ L, l.length ≤ 140737488355328) (hL : L.length ≤ 1048576)
    (ho : w2.ownsRow (w.alloc (.map es clock)).drew.heap.size 9 1 tv L.length (L.map SV)) (hb : Below (w.alloc (.map es clock)).drew.heap.size (w.alloc (.map es clock)).drew w2) :
    Tb (w2.alloc (.cells #[.map (some w.heap.size), tv] 58)) (New w (w2.alloc (.cells #[.map (some w.heap.size), tv] 58))) w2.heap.size L ∧ Below w.heap.size w (w2.alloc (.cells #[.map (some w.heap.size), tv] 58)) := by
  have b1 : Below w.heap.size w (w.alloc (.map es clock)).drew := below_drewN ((Below.refl _ w).alloc (Nat.le_refl _) _) 1
  have hs : (w.alloc (.map es clock)).drew.heap.size = w.heap.size + 1 := by simp
  rw [hs] at ho hb
  have hs2 := hb.size
  rw [hs] at hs2
  have b2 : Below w.heap.size w w2 := b1.trans (hb.mono (by omega))
  have hm : w2.heap[w.heap.size]? = some (.map es clock) := (hb.block w.heap.size (by omega)).trans (heap_alloc_new w _)
  refine ⟨⟨w.heap.size, tv, D, Blk.new _ _ _, ?_, hN, own_base (ho.alloc _) (Nat.zero_le _), ⟨by omega, by simp⟩, ⟨by omega, by simp; omega⟩, fun g hg => ?_, hall, hL⟩, b2.alloc b2.size _⟩
  · exact ⟨es, clock, (Below.heap_alloc w2 _ _ (by omega)).trans hm, hF, hsz, hD⟩
  · have := ho.lt g hg
    exact ⟨by omega, by simp; omega⟩

set_option maxHeartbeats 1000000 in
theorem tclone_any (w : World) (S : Nat → Prop) (p : Nat) (L : List Tx) (h : Tb w S p L) :
    Calls Tryz.prog 94 #[.pointer (some ⟨p, 0, none⟩)] w fun e w' => ∃ p', e = .returned (.pointer (some ⟨p', 0, none⟩)) ∧ Tb w' (New w w') p' L ∧ Below w.heap.size w w' := by
  have HM := Lib.hid (made_yes w S p L h)
  obtain ⟨m, tv, D, h1, hmap, hN, hown, hp, hm, hg, hall, hL⟩ := h
  obtain ⟨es, clock, hb, hF, hsz, hD⟩ := hmap
  obtain ⟨A', c', rfl⟩ := own_shape hown
  have c0 : w.cell? ⟨p, 0, none⟩ = some (.map (some m)) := h1.cell 0
  have c1 : w.cell? ⟨p, 1, none⟩ = some (.slice A' L.length c') := h1.cell 1
  have HB := Lib.hid hb
  have HO := Lib.hid hown
  have H1 := Lib.hid h1
  have HR := Lib.hid (And.intro hN (And.intro hF (And.intro hsz (And.intro hD hall))))
  have HL := Lib.hid hL
  clear h1 hb hF hsz hD hown hp hm hg hN hall hL
  go_enter Tryz.func94, Tryz.ntmps94
  go_wp2_with (go_at_call 60; refine HM.out.mono ?_; rintro e w' ⟨rfl, rfl⟩)
  have HS : Hid (Sl (w.drew.alloc (.map es clock)) (fun _ => False) 1 (.slice A' L.length c') L.length (L.map SV)) := Lib.hid ((show Sl w.drew _ _ _ _ _ from Sl.of_own HO.out (fun _ _ _ h => h)).alloc _)
  have k0 : (w.drew.alloc (.map es clock)).cell? ⟨p, 0, none⟩ = some (.map (some m)) := (show Blk w.drew _ _ _ from H1.out).alloc _ |>.cell 0
  have k1 : (w.drew.alloc (.map es clock)).cell? ⟨p, 1, none⟩ = some (.slice A' L.length c') := (show Blk w.drew _ _ _ from H1.out).alloc _ |>.cell 1
  go_region_held3 (fun w' => w'.cell? ⟨p, 0, none⟩ = some (.map (some m)) ∧ w'.cell? ⟨p, 1, none⟩ = some (.slice A' L.length c')) (first | exact ⟨c0, c1⟩ | exact ⟨k0, k1⟩ | exact ⟨j0, j1⟩ | go_keep)
   (first
    | (go_at_call 114; refine (mclone_strs _ m es clock (by exact HB.out)).mono ?_; rintro e w1 ⟨rfl, rfl⟩)
    | (go_at_call 115; refine (clone_strs (fun _ => False) _ L.length (L.map SV) _ (by exact HS.out) (svs_one L) (by have := HL.out; omega)).mono ?_; rintro e w2 ⟨A2, c2, rfl, ho2, hb2⟩; have j0 := (hb2.cell (World.block_lt_of_cell? _ _ k0)).trans k0; have j1 := (hb2.cell (World.block_lt_of_cell? _ _ k1)).trans k1))
  go_wp2
  go_ret
  exact ⟨_, rfl, tclone_end HR.out.1 HR.out.2.1 HR.out.2.2.1 HR.out.2.2.2.1 HR.out.2.2.2.2 HL.out ho2 hb2⟩

end Go.Proofs.YtobphijbhghgmaaGreat.Ig

/-
  Layer 9: a table beside topics, apart, all of it in blocks of S.
-/
namespace Go.Proofs.YtobphijbhghgmaaGreat.Zt
set_option linter.unusedSimpArgs false
open Go Go.RowKit Ck Kw Ga Kf Pm Pe Tm Tn Tq Ik Aa Ab Ag Ah Ai Aj Al An
attribute [local go_sem ↓] Go.wp_at_zero Go.wp_at_succ
set_option linter.unusedVariables false

/-- A table at p and topics at t, apart. -/
def TS (w : World) (S : Nat → Prop) (p t : Nat) (L : List Tx) (s : St) : Prop :=
  ∃ S1 S2 R, Tb w S1 p L ∧ Tz w S2 R t s ∧ (∀ k, S1 k → ¬ S2 k ∧ ¬ R k) ∧ (∀ k, S1 k → S k ∧ k < w.heap.size) ∧ (∀ k, S2 k → S k ∧ k < w.heap.size) ∧ (∀ k, R k → S k ∧ k < w.heap.size)
section
variable {w w' : World} {S X : Nat → Prop} {p t : Nat} {L L' : List Tx} {s s' : St}
theorem TS.ch (h : TS w S p t L s) (c : Ch X w w') (hx : ∀ k, S k → ¬ X k) : TS w' S p t L s := by
  obtain ⟨S1, S2, R, h1, h2, h3, h4, h5, h6⟩ := h
  have hs := c.size
  exact ⟨S1, S2, R, h1.ch c (fun k hk hX => hx k (h4 k hk).1 hX), h2.ch c (fun k hk => hx k (h5 k hk).1) (fun k hk => hx k (h6 k hk).1), h3, fun k hk => ⟨(h4 k hk).1, Nat.lt_of_lt_of_le (h4 k hk).2 hs⟩, fun k hk => ⟨(h5 k hk).1, Nat.lt_of_lt_of_le (h5 k hk).2 hs⟩, fun k hk => ⟨(h6 k hk).1, Nat.lt_of_lt_of_le (h6 k hk).2 hs⟩⟩
theorem TS.later (h : TS w S p t L s) (b : Below w.heap.size w w') : TS w' S p t L s := h.ch (Ch.of_below (S := fun _ => False) b (Nat.le_refl _)) (fun _ _ h => h)
theorem TS.good (h : TS w S p t L s) : GoodS s := by
  obtain ⟨S1, S2, R, h1, h2, h3⟩ := h
  exact h2.good
theorem TS.len (h : TS w S p t L s) : L.length ≤ 1048576 := by
  obtain ⟨S1, S2, R, ⟨m, tv, D, _, _, _, _, _, _, _, _, h⟩, _⟩ := h
  exact h
theorem TS.tight (h : TS w S p t L s) : TS w (fun k => S k ∧ k < w.heap.size) p t L s := by
  obtain ⟨S1, S2, R, h1, h2, h3, h4, h5, h6⟩ := h
  exact ⟨S1, S2, R, h1, h2, h3, fun k hk => ⟨h4 k hk, (h4 k hk).2⟩, fun k hk => ⟨h5 k hk, (h5 k hk).2⟩, fun k hk => ⟨h6 k hk, (h6 k hk).2⟩⟩
theorem TS.weaken {T : Nat → Prop} (h : TS w S p t L s) (hk : ∀ k, k < w.heap.size → S k → T k) : TS w T p t L s := by
  obtain ⟨S1, S2, R, h1, h2, h3, h4, h5, h6⟩ := h
  exact ⟨S1, S2, R, h1, h2, h3, fun k hk' => ⟨hk k (h4 k hk').2 (h4 k hk').1, (h4 k hk').2⟩, fun k hk' => ⟨hk k (h5 k hk').2 (h5 k hk').1, (h5 k hk').2⟩, fun k hk' => ⟨hk k (h6 k hk').2 (h6 k hk').1, (h6 k hk').2⟩⟩
/-- A request was done. -/
theorem TS.apply {X : Nat → Prop} {client time : Int} {o : O} {A : Option Addr} {c : Nat} {k off : Int} {b : Bool} {pl : List (Tx × Int × Tx)} (h : TS w S p t L s) (hls : Ls w X (.slice A o.recs.length c) o.recs) (hl : o.recs.length ≤ 140737488355328) (ha : appS s client time o = ((k, off), pl, b, s')) :
    Calls Tryz.prog 70 #[.pointer (some ⟨t, 0, none⟩), RV client time o A c] w fun e w' => ∃ v B, e = .returned (.tuple #[.agg #[.int .i64 k, .int .i64 off], v, .bool b]) ∧ w.heap.size ≤ B ∧ Ps w' B v pl ∧ TS w' (fun k => (S k ∧ k < w.heap.size) ∨ (w.heap.size ≤ k ∧ k < B)) p t L s' ∧ Ch (fun k => S k ∧ k < w.heap.size) w w' := by
  obtain ⟨S1, S2, R, h1, h2, h3, h4, h5, h6⟩ := h
  refine (apply_any w S2 R t s client time o X A c h2 hls hl).mono ?_
  intro e w' he
  unfold Asked at he
  rw [ha] at he
  obtain ⟨v, B, hv, hB, hp, S', R', g1, g2, g3, g4⟩ := he
  have hs := g4.size
  refine ⟨v, B, hv, hB, hp, ⟨S1, _, R', h1.ch g4 (fun k hk hX => (h3 k hk).1 hX), Tz.bound g1, ?_, ?_, ?_, ?_⟩, g4.mono (fun k _ hk => h5 k hk)⟩
  · intro k hk
    have hlt := (h4 k hk).2
    refine ⟨fun h => ?_, fun h => ?_⟩
    · rcases (g2 k h.1).1 with q | q
      · exact (h3 k hk).1 q
      · omega
    · rcases (g3 k h).1 with q | q
      · exact (h3 k hk).2 q
      · omega
  · exact fun k hk => ⟨.inl (h4 k hk), by have := (h4 k hk).2; omega⟩
  · intro k hk
    refine ⟨?_, hk.2⟩
    obtain ⟨q1, q2⟩ := g2 k hk.1
    rcases q1 with q | q
    · exact .inl (h5 k q)
    · exact .inr ⟨by omega, q2⟩
  · intro k hk
    refine ⟨?_, (Tz.rlt g1 k hk).2⟩
    obtain ⟨q1, q2⟩ := g3 k hk
    rcases q1 with q | q
    · exact .inl (h6 k q)
    · exact .inr ⟨by omega, q2⟩
end
end Go.Proofs.YtobphijbhghgmaaGreat.Zt

/-
  Layer 8 (request): the contracts of isTwice and CheckBatch.
-/
namespace Go.Proofs.YtobphijbhghgmaaGreat.Jc
set_option linter.unusedSimpArgs false
open Go Go.RowKit Ck Kw Ga Kf Pm Pe Pg Ph Qb Lk Jm Ja Jb
attribute [local go_sem ↓] Go.wp_at_zero Go.wp_at_succ
set_option linter.unusedVariables false

theorem slice_upto (A : Option Addr) (n c k : Nat) (hk : k ≤ c) (W : World) : (Instr.slice 52 (.slice A n c) none (some (.int .i64 (k : Int))) none).run Tryz.prog W = .ok (.slice A k c) W := by
  have he : ∀ W : World, (sizeOf (Tryz.prog.elem 52)).run Tryz.prog W = .ok 9 W := fun _ => by kernel_rfl
  rw [run_slice_h W 52 A n c (by kernel_rfl) .i64 k (by omega) (by omega), he]
  simp only [Result.andThen_ok, sliced, Int.toNat_natCast]
  congr 2
  by_cases h0 : c = 0
  · simp [h0]
  · cases A <;> simp [h0, Addr.add]
theorem hasM_of {l : List Sd} {i k : Nat} (hk : k < i) (hl : k < l.length) {x : Sd} (h : (mom x == mom l[k]) = true) : hasM (l.take i) x = true := by
  unfold hasM
  rw [List.any_eq_true]
  refine ⟨l[k], ?_, h⟩
  rw [List.mem_take_iff_getElem]
  exact ⟨k, by omega, rfl⟩
/-- A signed request lies there. -/
structure K1 (w0 : World) (g : Nat) (d : Sd) (A : Option Addr) (c : Nat) (W : World) : Prop where
  below : Below w0.heap.size w0 W
  new : w0.heap.size ≤ g
  one : DK W g d A c
theorem K1.later {w0 W W' : World} {g : Nat} {d : Sd} {A : Option Addr} {c : Nat} (h : K1 w0 g d A c W) (b : Below W.heap.size W W') : K1 w0 g d A c W' := ⟨h.below.trans (b.mono h.below.size), h.new, h.one.below b h.one.lt⟩
theorem k1_new {w0 W : World} (h : Below w0.heap.size w0 W) (d : Sd) (A : Option Addr) (c : Nat) : K1 w0 W.heap.size d A c (W.alloc (.cells (DC d A c) 104)) := ⟨h.alloc h.size _, h.size, Blk.new W _ _⟩
structure K2 (w0 : World) (g1 g2 : Nat) (x y : Sd) (A B : Option Addr) (c d : Nat) (W : World) : Prop where
  one : K1 w0 g1 x A c W
  two : DK W g2 y B d
theorem K2.later {w0 W W' : World} {g1 g2 : Nat} {x y : Sd} {A B : Option Addr} {c d : Nat} (h : K2 w0 g1 g2 x y A B c d W) (b : Below W.heap.size W W') : K2 w0 g1 g2 x y A B c d W' := ⟨h.one.later b, h.two.below b h.two.lt⟩
theorem K2.drew {w0 W : World} {g1 g2 : Nat} {x y : Sd} {A B : Option Addr} {c d : Nat} (h : K2 w0 g1 g2 x y A B c d W) : K2 w0 g1 g2 x y A B c d W.drew := h.later ⟨rfl, rfl, rfl, Nat.le_refl _, fun _ _ => rfl⟩

set_option maxRecDepth 100000 in
set_option maxHeartbeats 8000000 in
theorem twice_any (w : World) (X : Nat → Prop) (A : Option Addr) (c : Nat) (l : List Sd) (h : BI w X (.slice A l.length c) l) (h4 : l.length ≤ 4) :
    Calls Tryz.prog 107 #[.slice A l.length c] w fun e w' => e = .returned (.bool (twice l)) ∧ Below w.heap.size w w' := by
  obtain ⟨_, _, e, hc⟩ := h.shape
  injection e with e1 _ e2
  subst e1; subst e2
  have HB := Lib.hid h
  have HT : Hid (twI (l.take 0) (l.drop 0) = twice l) := Lib.hid rfl
  have hq := run_eql_moment
  have hg := guard_moment
  have HCC := Lib.hid hc
  clear h hc
  go_enter Tryz.func107, Tryz.ntmps107
  go_wp2_with fail
  go_loopw [9] (fun j wr => ∃ i : Nat, i ≤ l.length ∧ j = .int .i64 i ∧ twI (l.take i) (l.drop i) = twice l ∧ Below w.heap.size w wr) (fun j _ => l.length - (intOf j).toNat)
  case atStart => exact ⟨0, Nat.zero_le _, rfl, HT.out, Below.refl _ w⟩
  case round =>
    obtain ⟨i, hi, rfl, htw, hb⟩ := hrel
    clear HT
    by_cases hlt : i < l.length
    · rw [twI_step hlt] at htw
      obtain ⟨ad, Ar, cr, rfl, ⟨a0, a1, a2, a3, a4, a5, a6, a7, a8⟩, hls⟩ := (HB.out.after hb).at_ hlt
      have HTW := Lib.hid htw
      have hk1 := k1_new hb l[i] Ar cr
      have HLT := Lib.hid hlt
      have HBB := Lib.hid hb
      clear htw hls hb
      have hsl := slice_upto (some ad) l.length c i (by have := HCC.out; omega)
      generalize hx : l[i] = x at *
      have HX := Lib.hid hx
      clear hx
      unfold DC at hk1
      go_wp2_with fail
      generalize wr.alloc (.cells #[.int .i64 x.q.client, .int .i64 x.q.time, .int .i64 x.q.o.kind, .string ⟨x.q.o.topic.toArray⟩, .string ⟨x.q.o.group.toArray⟩, .int .i64 x.q.o.off, .slice Ar x.q.o.recs.length cr, .int .i64 x.s.1, .int .i64 x.s.2] 104) = w1 at *
      generalize wr.heap.size = g1 at *
      have HK := Lib.hid hk1
      clear hk1 a0 a1 a2 a3 a4 a5 a6 a7 a8
      have HM0 : Hid (hasM (l.take 0) x = false) := Lib.hid rfl
      go_loopw [18] (fun j wr => ∃ k : Nat, k ≤ i ∧ j = .int .i64 k ∧ hasM (l.take k) x = false ∧ K1 w g1 x Ar cr wr) (fun j _ => i - (intOf j).toNat)
      case atStart => exact ⟨0, Nat.zero_le _, rfl, HM0.out, HK.out⟩
      case round =>
        obtain ⟨k, hk, rfl, hm, hk1⟩ := hrel
        clear HM0 HK
        by_cases hlt2 : k < i
        · have hl2 : k < l.length := by omega
          obtain ⟨ad', Ar2, cr2, hA, ⟨a0, a1, a2, a3, a4, a5, a6, a7, a8⟩, hls⟩ := (HB.out.after hk1.below).at_ hl2
          obtain rfl : ad = ad' := Option.some.inj hA
          have hst := hasM_take (x := x) hl2
          have hof : (mom x == mom l[k]) = true → hasM (l.take i) x = true := fun e => hasM_of hlt2 hl2 e
          generalize hy : l[k] = y at *
          have HHM : Hid (hasM (l.take (k + 1)) x = (mom x == mom y)) := Lib.hid (by rw [hst, hm, Bool.false_or])
          have HOF := Lib.hid hof
          have hk2 : K2 w g1 wr.heap.size x y Ar Ar2 cr cr2 (wr.alloc (.cells (DC y Ar2 cr2) 104)) := ⟨hk1.later (op_below _ _), Blk.new wr _ _⟩
          clear hst hm hls hA hy hof hk1 hl2
          unfold DC at hk2
          go_wp2_with fail
          generalize wr.alloc (.cells #[.int .i64 y.q.client, .int .i64 y.q.time, .int .i64 y.q.o.kind, .string ⟨y.q.o.topic.toArray⟩, .string ⟨y.q.o.group.toArray⟩, .int .i64 y.q.o.off, .slice Ar2 y.q.o.recs.length cr2, .int .i64 y.s.1, .int .i64 y.s.2] 104) = w2 at *
          generalize wr.heap.size = g2 at *
          clear a0 a1 a2 a3 a4 a5 a6 a7 a8
          have HK2 := Lib.hid hk2
          have HMX := fun W : World => Lib.hid (moment_any x Ar cr W)
          have HMY := fun W : World => Lib.hid (moment_any y Ar2 cr2 W)
          unfold DV DC MV at HMX HMY
          clear hk2
          by_cases heq : (mom x == mom y) = true
          · rw [heq] at HHM HOF
            have hqq : ∀ W : World, (binOp .eql 201 (MV x) (MV y)).run Tryz.prog W = .ok (.bool true) W := fun W => by rw [hq, heq]
            unfold MV at hqq
            clear heq hq
            have tok1 : True := trivial
            go_region_held3 (fun w' => (w'.cell? ⟨g1, 0, none⟩ = some (.int .i64 x.q.client) ∧ w'.cell? ⟨g1, 1, none⟩ = some (.int .i64 x.q.time) ∧ w'.cell? ⟨g1, 2, none⟩ = some (.int .i64 x.q.o.kind) ∧ w'.cell? ⟨g1, 3, none⟩ = some (.string ⟨x.q.o.topic.toArray⟩) ∧ w'.cell? ⟨g1, 4, none⟩ = some (.string ⟨x.q.o.group.toArray⟩) ∧ w'.cell? ⟨g1, 5, none⟩ = some (.int .i64 x.q.o.off) ∧ w'.cell? ⟨g1, 6, none⟩ = some (.slice Ar x.q.o.recs.length cr) ∧ w'.cell? ⟨g1, 7, none⟩ = some (.int .i64 x.s.1) ∧ w'.cell? ⟨g1, 8, none⟩ = some (.int .i64 x.s.2)) ∧ (w'.cell? ⟨g2, 0, none⟩ = some (.int .i64 y.q.client) ∧ w'.cell? ⟨g2, 1, none⟩ = some (.int .i64 y.q.time) ∧ w'.cell? ⟨g2, 2, none⟩ = some (.int .i64 y.q.o.kind) ∧ w'.cell? ⟨g2, 3, none⟩ = some (.string ⟨y.q.o.topic.toArray⟩) ∧ w'.cell? ⟨g2, 4, none⟩ = some (.string ⟨y.q.o.group.toArray⟩) ∧ w'.cell? ⟨g2, 5, none⟩ = some (.int .i64 y.q.o.off) ∧ w'.cell? ⟨g2, 6, none⟩ = some (.slice Ar2 y.q.o.recs.length cr2) ∧ w'.cell? ⟨g2, 7, none⟩ = some (.int .i64 y.s.1) ∧ w'.cell? ⟨g2, 8, none⟩ = some (.int .i64 y.s.2))) (first | exact ⟨DK.cells HK2.out.one.one, DK.cells HK2.out.two⟩ | exact ⟨DK.cells HK3.out.one.one, DK.cells HK3.out.two⟩ | exact ⟨DK.cells HK4.out.one.one, DK.cells HK4.out.two⟩)
              (first
              | (go_at_call 127; have _t := tok1; clear tok1 _t; refine (HMX _).out.mono ?_; rintro e w3 ⟨rfl, hb3⟩; have HK3 := Lib.hid (HK2.out.drew.later hb3); clear hb3)
              | (go_at_call 127; refine (HMY _).out.mono ?_; rintro e w4 ⟨rfl, hb4⟩; have HK4 := Lib.hid (HK3.out.later hb4); clear hb4))
            all_goals
              go_wp2_with fail
              go_ret
              exact ⟨by rw [← HTW.out, HOF.out trivial]; rfl, HK4.out.one.below⟩
          · have heq := Bool.eq_false_iff.2 heq
            rw [heq] at HHM
            have hqq : ∀ W : World, (binOp .eql 201 (MV x) (MV y)).run Tryz.prog W = .ok (.bool false) W := fun W => by rw [hq, heq]
            unfold MV at hqq
            clear heq hq
            have tok1 : True := trivial
            go_region_held3 (fun w' => (w'.cell? ⟨g1, 0, none⟩ = some (.int .i64 x.q.client) ∧ w'.cell? ⟨g1, 1, none⟩ = some (.int .i64 x.q.time) ∧ w'.cell? ⟨g1, 2, none⟩ = some (.int .i64 x.q.o.kind) ∧ w'.cell? ⟨g1, 3, none⟩ = some (.string ⟨x.q.o.topic.toArray⟩) ∧ w'.cell? ⟨g1, 4, none⟩ = some (.string ⟨x.q.o.group.toArray⟩) ∧ w'.cell? ⟨g1, 5, none⟩ = some (.int .i64 x.q.o.off) ∧ w'.cell? ⟨g1, 6, none⟩ = some (.slice Ar x.q.o.recs.length cr) ∧ w'.cell? ⟨g1, 7, none⟩ = some (.int .i64 x.s.1) ∧ w'.cell? ⟨g1, 8, none⟩ = some (.int .i64 x.s.2)) ∧ (w'.cell? ⟨g2, 0, none⟩ = some (.int .i64 y.q.client) ∧ w'.cell? ⟨g2, 1, none⟩ = some (.int .i64 y.q.time) ∧ w'.cell? ⟨g2, 2, none⟩ = some (.int .i64 y.q.o.kind) ∧ w'.cell? ⟨g2, 3, none⟩ = some (.string ⟨y.q.o.topic.toArray⟩) ∧ w'.cell? ⟨g2, 4, none⟩ = some (.string ⟨y.q.o.group.toArray⟩) ∧ w'.cell? ⟨g2, 5, none⟩ = some (.int .i64 y.q.o.off) ∧ w'.cell? ⟨g2, 6, none⟩ = some (.slice Ar2 y.q.o.recs.length cr2) ∧ w'.cell? ⟨g2, 7, none⟩ = some (.int .i64 y.s.1) ∧ w'.cell? ⟨g2, 8, none⟩ = some (.int .i64 y.s.2))) (first | exact ⟨DK.cells HK2.out.one.one, DK.cells HK2.out.two⟩ | exact ⟨DK.cells HK3.out.one.one, DK.cells HK3.out.two⟩ | exact ⟨DK.cells HK4.out.one.one, DK.cells HK4.out.two⟩)
              (first
              | (go_at_call 127; have _t := tok1; clear tok1 _t; refine (HMX _).out.mono ?_; rintro e w3 ⟨rfl, hb3⟩; have HK3 := Lib.hid (HK2.out.drew.later hb3); clear hb3)
              | (go_at_call 127; refine (HMY _).out.mono ?_; rintro e w4 ⟨rfl, hb4⟩; have HK4 := Lib.hid (HK3.out.later hb4); clear hb4))
            all_goals
              go_wp2_with fail
              go_roundw
              case rel => exact ⟨k + 1, by omega, by go_num, HHM.out, HK4.out.one⟩
              case measure => simp [intOf]; omega
        · have hke : k = i := by omega
          subst hke
          have HN := Lib.hid hm
          have HK1 := Lib.hid hk1
          clear hm hk1
          go_wp2_with fail
          go_roundw
          case rel => exact ⟨k + 1, by omega, by go_num, by rw [← HTW.out, HN.out]; rfl, HK1.out.below⟩
          case measure => simp [intOf]; omega
    · have hz : l.drop i = [] := List.drop_eq_nil_iff.2 (by omega)
      rw [hz] at htw
      have HN : Hid (twice l = false) := Lib.hid htw.symm
      have HBB := Lib.hid hb
      clear htw hz hb
      go_wp2_with fail
      go_ret
      exact ⟨by rw [HN.out]; rfl, HBB.out⟩

set_option maxRecDepth 100000 in
set_option maxHeartbeats 4000000 in
theorem cbatch_any (w : World) (X : Nat → Prop) (v : Value) (l : List Sd) (h : BI w X v l) (hr : ∀ x ∈ l, x.q.o.recs.length ≤ 140737488355328) (hl63 : l.length ≤ 140737488355328) :
    Calls Tryz.prog 88 #[v] w fun e w' => e = .returned (.int .i64 (bcheck l)) ∧ Below w.heap.size w w' := by
  obtain ⟨A, c, rfl, -⟩ := h.shape
  by_cases h4 : 4 < l.length
  · have hd : decide (4 < (l.length : Int)) = true := decide_eq_true (by omega)
    have HN : Hid (bcheck l = 3) := Lib.hid (by rw [bcheck, if_pos h4])
    clear h
    go_enter Tryz.func88, Tryz.ntmps88
    go_wp2_with fail
    go_ret
    exact ⟨by rw [HN.out]; rfl, Below.refl _ w⟩
  · have hd : decide (4 < (l.length : Int)) = false := decide_eq_false (by omega)
    have h4' : l.length ≤ 4 := by omega
    have HB := Lib.hid h
    have HR := Lib.hid hr
    have HQ : Hid (bcheck l = if lcheck l ≠ 0 then lcheck l else if twice l then 5 else 0) := Lib.hid (by rw [bcheck, if_neg h4])
    clear h hr h4
    go_enter Tryz.func88, Tryz.ntmps88
    go_wp2_with fail
    go_loopw [11] (fun j wr => ∃ i : Nat, i ≤ l.length ∧ j = .int .i64 i ∧ lcheck (l.drop i) = lcheck l ∧ Below w.heap.size w wr) (fun j _ => l.length - (intOf j).toNat)
    case atStart => exact ⟨0, Nat.zero_le _, rfl, rfl, Below.refl _ w⟩
    case round =>
      obtain ⟨i, hi, rfl, hlc, hb⟩ := hrel
      by_cases hlt : i < l.length
      · rw [lcheck_drop hlt] at hlc
        obtain ⟨ad, Ar, cr, rfl, ⟨a0, a1, a2, a3, a4, a5, a6, a7, a8⟩, hls⟩ := (HB.out.after hb).at_ hlt
        have hrl := HR.out _ (List.getElem_mem hlt)
        generalize hx : l[i] = x at *
        have hk1 := k1_new hb x Ar cr
        have HC := Lib.hid (signed_any x Ar cr X _ (hls.after (op_below wr (.cells (DC x Ar cr) 104))) hrl)
        have HBB := Lib.hid hb
        have HLC := Lib.hid hlc
        clear hlc hls hb hx
        unfold DV at HC
        unfold DC at hk1 HC
        go_wp2_with fail
        generalize wr.alloc (.cells #[.int .i64 x.q.client, .int .i64 x.q.time, .int .i64 x.q.o.kind, .string ⟨x.q.o.topic.toArray⟩, .string ⟨x.q.o.group.toArray⟩, .int .i64 x.q.o.off, .slice Ar x.q.o.recs.length cr, .int .i64 x.s.1, .int .i64 x.s.2] 104) = w1 at *
        generalize wr.heap.size = g1 at *
        have HK := Lib.hid hk1
        clear hk1 a0 a1 a2 a3 a4 a5 a6 a7 a8
        refine HC.out.mono ?_
        rintro e w2 ⟨he, hb2⟩
        have HK2 := Lib.hid (HK.out.later hb2)
        clear hb2
        by_cases hd0 : dcheck x = 0
        · rw [hd0] at he
          subst he
          have HN := Lib.hid (show lcheck (l.drop (i + 1)) = lcheck l by rw [← HLC.out, if_neg (by rw [hd0]; simp)])
          clear hd0
          go_wp2_with fail
          go_roundw
          case rel => exact ⟨i + 1, by omega, by go_num, HN.out, HK2.out.below⟩
          case measure => simp [intOf]; omega
        · subst he
          have HN := Lib.hid (show bcheck l = dcheck x by
            have e : dcheck x = lcheck l := by have := HLC.out; rwa [if_pos hd0] at this
            rw [HQ.out, ← e, if_pos hd0])
          have hne : (dcheck x != 0) = true := by simpa using hd0
          have hne2 : (dcheck x == 0) = false := by simpa using hd0
          clear hd0
          go_wp2_with fail
          go_ret
          exact ⟨by rw [HN.out]; rfl, HK2.out.below⟩
      · have hz : l.drop i = [] := List.drop_eq_nil_iff.2 (by omega)
        rw [hz] at hlc
        have HN : Hid (bcheck l = if twice l then 5 else 0) := Lib.hid (by rw [HQ.out, ← hlc]; rfl)
        have HBB := Lib.hid hb
        have HTA := Lib.hid (twice_any wr X A c l (HB.out.after hb) h4')
        clear hlc hz hb
        go_wp2_with fail
        refine HTA.out.mono ?_
        rintro e w2 ⟨he, hb2⟩
        have HB2 := Lib.hid (HBB.out.trans (hb2.mono HBB.out.size))
        clear hb2
        by_cases ht : twice l = true
        · rw [ht] at he HN
          subst he
          clear ht
          go_wp2_with fail
          go_ret
          exact ⟨by rw [HN.out]; rfl, HB2.out⟩
        · have ht := Bool.eq_false_iff.2 ht
          rw [ht] at he HN
          subst he
          clear ht
          go_wp2_with fail
          go_ret
          exact ⟨by rw [HN.out]; rfl, HB2.out⟩
end Go.Proofs.YtobphijbhghgmaaGreat.Jc

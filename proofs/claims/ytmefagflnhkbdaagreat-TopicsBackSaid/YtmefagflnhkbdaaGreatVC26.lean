/-
  Contracts of the program's table that make memory: Open, roomyTable, NewTable, Sum.
-/
import Derived.Test.YtmefagflnhkbdaaGreatVC25
import Derived.RegionTactic
import Derived.Lib.ConvBytes
import Derived.BigRegion
namespace Go.Proofs.YtmefagflnhkbdaaGreat.Ib
set_option linter.unusedSimpArgs false
set_option linter.unusedVariables false
set_option maxRecDepth 100000
open Go Go.RowKit Ck Im Kw Ik Ia

theorem info_u8 : (Tryz.prog.info? 5).map (fun i => (i.zero, i.size, i.bytes)) = some (some (.int .u8 0), 1, 1) := by kernel_rfl
theorem info_str : (Tryz.prog.info? 9).map (fun i => (i.zero, i.size, i.bytes)) = some (some (.string ⟨#[]⟩), 1, 16) := by kernel_rfl
theorem info_sl : (Tryz.prog.info? 49).map (fun i => (i.zero, i.size, i.bytes)) = some (some (.slice none 0 0), 1, 24) := by kernel_rfl

/-- v is new bytes, made out of a text. -/
def Out (w : World) (base : Nat) (v : Value) (l : Tx) : Prop :=
  ∃ (g cap : Nat) (cs : Array Value) (z : Nat), v = .slice (some ⟨g, 0, none⟩) l.length cap ∧ base ≤ g ∧ w.heap[g]? = some (.cells cs 5 (z, z + 1)) ∧ l.length ≤ z ∧ l.length ≤ cap ∧ cap ≤ maxLen ∧ ∀ (j : Nat) (u : Value), (BVs l)[j]? = some u → cs[j]? = some u
theorem Out.sl {w : World} {base : Nat} {v : Value} {l : Tx} {X : Nat → Prop} (h : Out w base v l) (hX : ∀ k, base ≤ k → k < w.heap.size → ¬ X k) : Sl w X 1 v l.length (BVs l) := by
  obtain ⟨g, cap, cs, z, rfl, hb, hg, hz, hc, hm, hx⟩ := h
  have hlt := (Array.getElem?_eq_some_iff.1 hg).1
  refine ⟨_, _, rfl, by simp [BVs_len], hc, hm, fun _ => ⟨_, rfl, hlt, hX g hb hlt, fun j u hu => ?_⟩⟩
  have ha : (⟨g, 0, none⟩ : Addr).add j = ⟨g, j, none⟩ := by unfold Addr.add; split <;> simp_all
  rw [ha]
  simp only [World.cell?, hg]
  exact hx j u hu
theorem Out.ch {w w' : World} {base : Nat} {v : Value} {l : Tx} {S : Nat → Prop} (h : Out w base v l) (c : Ch S w w') (hS : ∀ k, base ≤ k → k < w.heap.size → ¬ S k) : Out w' base v l := by
  obtain ⟨g, cap, cs, z, rfl, hb, hg, r⟩ := h
  exact ⟨g, cap, cs, z, rfl, hb, (c.block g (Array.getElem?_eq_some_iff.1 hg).1 (hS g hb (Array.getElem?_eq_some_iff.1 hg).1)).trans hg, r⟩
theorem Out.base {w : World} {base b' : Nat} {v : Value} {l : Tx} (h : Out w base v l) (hb : b' ≤ base) : Out w b' v l := by
  obtain ⟨g, cap, cs, z, hv, h1, r⟩ := h
  exact ⟨g, cap, cs, z, hv, Nat.le_trans hb h1, r⟩
theorem bytesWorld_below (w : World) (e : TypeId) (s : ByteArray) : Below w.heap.size w (Lib.bytesWorld w e s) := by
  refine ⟨?_, ?_, ?_, by rw [Lib.bytesWorld_size]; omega, fun k hk => Lib.bytesWorld_at_old w e s k hk⟩ <;>
    (unfold Lib.bytesWorld World.freeze; split <;> rfl)
theorem bytesWorld_out (w : World) (l : Tx) (hl : l.length ≤ 140737488355328) : Out (Lib.bytesWorld w 5 ⟨l.toArray⟩) w.heap.size (.slice (some ⟨w.heap.size, 0, none⟩) l.length (grownCap w l.length 0 5)) l := by
  have hge := grownCap_ge w l.length 0 5
  refine ⟨w.heap.size, _, _, _, rfl, Nat.le_refl _, Lib.bytesWorld_at_new w 5 ⟨l.toArray⟩, ?_, hge, grownCap_le_maxLen w _ _ _ (by simp only [maxLen]; omega), fun j u hu => ?_⟩
  · show l.length ≤ ((l.toArray.map fun b : UInt8 => Value.int .u8 b.toNat) ++ Array.replicate _ _).size
    simp
  · have hj : j < l.length := by have := (List.getElem?_eq_some_iff.1 hu).1; rwa [BVs_len] at this
    show ((l.toArray.map fun b : UInt8 => Value.int .u8 b.toNat) ++ Array.replicate _ _)[j]? = some u
    rw [Array.getElem?_append_left (by simpa using hj)]
    rw [BVs_get hj] at hu
    simpa [hj] using hu

theorem three (w : World) (a b c : Obj) : (((w.alloc a).alloc b).alloc c).heap[w.heap.size]? = some a ∧ (((w.alloc a).alloc b).alloc c).heap[w.heap.size + 1]? = some b ∧ (((w.alloc a).alloc b).alloc c).heap[w.heap.size + 1 + 1]? = some c := by
  refine ⟨?_, ?_, ?_⟩
  · rw [Below.heap_alloc _ _ _ (by simp; omega), Below.heap_alloc _ _ _ (by simp)]
    exact heap_alloc_new w a
  · rw [Below.heap_alloc _ _ _ (by simp)]
    have := heap_alloc_new (w.alloc a) b
    simpa using this
  · have := heap_alloc_new ((w.alloc a).alloc b) c
    simpa using this
theorem three_below (w : World) (a b c : Obj) : Below w.heap.size w (((w.alloc a).alloc b).alloc c) := (((Below.refl _ w).alloc (Nat.le_refl _) _).alloc (by simp) _).alloc (by simp; omega) _
theorem tb_new {w : World} {S : Nat → Prop} {p m g n : Nat} {cs : Array Value} (h1 : Blk w p 163 #[.map (some m), .slice (some ⟨g, 0, none⟩) 0 n]) (h2 : w.heap[m]? = some (.map #[] 0))
    (h3 : w.heap[g]? = some (.cells cs 9 (0, 0))) (hs : cs.size = n) (hn : n ≤ maxLen) (sp : S p) (sm : S m) (sg : S g) : Tb w S p [] := by
  refine ⟨m, _, .map [], h1, ⟨#[], 0, h2, ⟨by simp, MapKept.stamped_empty 0, by simp⟩, Nat.le_refl _, rfl⟩, Nums.empty, ⟨rfl, .inr ⟨g, n, cs, rfl, Nat.zero_le _, h3, Nat.zero_le _, hn, by omega, by simp⟩⟩, sp, sm, ?_, by simp, by simp⟩
  intro k hk
  have hk : g = k := by simpa [Value.ownBlock] using hk
  subst hk
  exact sg

set_option maxHeartbeats 400000 in
theorem roomy_any (w : World) (n : Nat) (hn : n ≤ 1048576) :
    Calls Tryz.prog 53 #[.int .i64 n] w fun e w' => ∃ p, e = .returned (.pointer (some ⟨p, 0, none⟩)) ∧ Tb w' (New w w') p [] ∧ Below w.heap.size w w' := by
  have hmm : ∀ W : World, (Instr.makeMap 161 (some (.int .i64 (n : Int)))).run Tryz.prog W = .ok (.map (some W.heap.size)) (W.alloc (.map #[] 0)) := fun W => by
    simp [Instr.makeMap, run_underlying Tryz.underlying161, asInt, asIntOf]
  obtain ⟨i0, hi0, hz0, hz1, hz2⟩ := info_parts info_str
  have hms : ∀ W : World, (Instr.makeSlice 86 (.int .i64 0) (.int .i64 (n : Int))).run Tryz.prog W = .ok (.slice (some ⟨W.heap.size, 0, none⟩) 0 n) (W.alloc (.cells (madeCells (Value.string ⟨#[]⟩).cells n) 9)) := fun W => by
    have := run_make (P := Tryz.prog) W 86 9 i0 _ Tryz.underlying86 hi0 hz0 .i64 .i64 0 n (by omega) (by omega) (by rw [hz2]; omega) (by omega)
    rw [hz1] at this
    simpa using this
  clear hi0 hz0 hz1 hz2
  go_enter Tryz.func53, Tryz.ntmps53
  go_wp2
  go_region
  all_goals
    go_wp2
    go_ret
    refine ⟨_, rfl, ?_, below_drewN (three_below w _ _ _) 1⟩
    first
    | exact tb_new (m := w.heap.size) (g := w.heap.size + 1) (three w _ _ _).2.2 (three w _ _ _).1 (three w _ _ _).2.1 (size_madeCells _ _) (by simp only [maxLen]; omega) ⟨by omega, by simp; try omega⟩ ⟨by omega, by simp; try omega⟩ ⟨by omega, by simp; try omega⟩
    | exact tb_new (m := w.heap.size + 1) (g := w.heap.size) (three w _ _ _).2.2 (three w _ _ _).2.1 (three w _ _ _).1 (size_madeCells _ _) (by simp only [maxLen]; omega) ⟨by omega, by simp; try omega⟩ ⟨by omega, by simp; try omega⟩ ⟨by omega, by simp; try omega⟩

theorem newtable_any (w : World) :
    Calls Tryz.prog 18 #[] w fun e w' => ∃ p, e = .returned (.pointer (some ⟨p, 0, none⟩)) ∧ Tb w' (New w w') p [] ∧ Below w.heap.size w w' := by
  go_enter Tryz.func18, Tryz.ntmps18
  go_wp2_with (go_at_call 53; refine (roomy_any _ 0 (by omega)).mono ?_; rintro e w' ⟨p, rfl, h1, h2⟩)
  go_ret
  exact ⟨_, rfl, h1, h2⟩

theorem one_sv (w : World) (X : Nat → Prop) (t : TypeId) (u : Value) (hX : ¬ X w.heap.size) : Sl (w.alloc (.cells #[u] t)) X 1 (.slice (some ⟨w.heap.size, 0, none⟩) 1 1) 1 [u] :=
  ⟨_, _, rfl, rfl, Nat.le_refl _, by simp only [maxLen]; omega, fun _ => ⟨_, rfl, by simp, hX, fun j x hx => by
    have ha : (⟨w.heap.size, 0, none⟩ : Addr).add j = ⟨w.heap.size, j, none⟩ := by unfold Addr.add; split <;> simp_all
    rw [ha, Blk.cell (Blk.new w t _) j]
    simpa using hx⟩⟩
theorem svs_one (l : List Tx) : ∀ u ∈ l.map SV, u.oneCell' = true := by
  intro u hu
  simp only [List.mem_map] at hu
  obtain ⟨c, _, rfl⟩ := hu
  rfl

/-- What Sum leaves of the program's table. -/
def Summed (S : Nat → Prop) (p : Nat) (L : List Tx) (b : Tx) (w : World) (e : Ending) (w' : World) : Prop :=
  e = .returned (.int .i64 (sum L b : Int)) ∧ Tb w' (Up S w w') p (add L b) ∧ Ch S w w'

/-- The table's parts, for the walk. -/
def Parts (w : World) (S : Nat → Prop) (p m : Nat) (tv : Value) (D : DataW Unit) (L : List Tx) : Prop :=
  Blk w p 163 #[.map (some m), tv] ∧ w.ownsMap Tryz.prog 9 (plainElem Tryz.prog 58) m L.length D ∧ Nums D L ∧ w.ownsRow 0 9 1 tv L.length (L.map SV) ∧
    S p ∧ S m ∧ (∀ g, tv.ownBlock = some g → S g) ∧ ∀ l ∈ L, l.length ≤ 140737488355328
theorem tb_snoc {w w1 w2 : World} {S : Nat → Prop} {n p m : Nat} {tv tv1 : Value} {D : DataW Unit} {L : List Tx} {b : Tx} {o : Obj} (h : Parts (w.drewN n) S p m tv D L) (hk : num L b = 0) (hl : (L.length : Int) < 1048576) (hb : b.length ≤ 140737488355328)
    (happ : Appended ((w.drewN n).alloc o) 0 9 1 tv (L.length + 1) (L.map SV ++ [SV b]) tv1 w1)
    (hmap2 : w2.ownsMap Tryz.prog 9 (plainElem Tryz.prog 58) m (L.length + 1) (D.put (.string b) (.lit (.int .i64 ((L.length : Int) + 1)))))
    (hg2 : (w1.setCell ⟨p, 1, none⟩ tv1).grownBy w2 (some m)) : Tb w2 (Up S w w2) p (L ++ [b]) := by
  obtain ⟨h1, hmap, hN, hown, hp, hm, hg, hall⟩ := h
  have k0 := (h1.alloc o).grown happ.2.1 (Ne.symm (own_far hown h1 (by decide)))
  have hpm : m ≠ p := map_far hmap h1
  have hm1 := (hmap.alloc o).kept happ.2.1 (Ne.symm (map_row hmap hown))
  have c2 : Ch (fun k => k = p ∨ k = m) w1 w2 := ((Ch.refl _ w1).setCell (p := ⟨p, 1, none⟩) (fun _ => .inl rfl) tv1).trans (Ch.of_grown hg2 (S := fun k => k = m) (fun g hg _ => by injection hg with hg; exact hg.symm)) (fun _ _ h => .inr h)
  refine ⟨m, tv1, _, ?_, ?_, hN.put hmap.isMap (strKey b) hk, ?_, .inl hp, .inl hm, ?_, ?_, ?_⟩
  · exact (k0.set_ 1 tv1).grown hg2 (by simp; exact fun e => hpm e.symm)
  · rw [List.length_append]; exact hmap2
  · rw [List.length_append, List.map_append]
    refine own_ch happ.1 c2 (fun g hg' => ?_)
    rintro (rfl | rfl)
    · exact own_far happ.1 k0 (by decide) hg'
    · exact map_row hm1 happ.1 hg'
  · intro g hg'
    rcases happ.2.2 with h2 | h2
    · exact .inl (hg g (by rw [← h2]; exact hg'))
    · refine .inr ⟨?_, Nat.lt_of_lt_of_le (happ.1.lt g hg').2 c2.size⟩
      rw [h2] at hg'
      injection hg' with hg'
      subst hg'
      simp
  · intro l hl2
    rcases List.mem_append.1 hl2 with h2 | h2
    · exact hall l h2
    · simp only [List.mem_cons, List.not_mem_nil, or_false] at h2
      subst h2; exact hb
  · simp only [List.length_append, List.length_cons, List.length_nil]; omega
theorem ch_snoc {w w1 w2 : World} {S : Nat → Prop} {n p m : Nat} {tv tv1 : Value} {D : DataW Unit} {L : List Tx} {xs : List Value} {o : Obj} {k : Nat} (h : Parts (w.drewN n) S p m tv D L)
    (happ : Appended ((w.drewN n).alloc o) 0 9 1 tv k xs tv1 w1) (hg2 : (w1.setCell ⟨p, 1, none⟩ tv1).grownBy w2 (some m)) : Ch S w w2 := by
  obtain ⟨h1, hmap, hN, hown, hp, hm, hg, hall⟩ := h
  refine ((((Ch.refl S w).drewN n).alloc o).trans (Ch.of_grown happ.2.1 (S := S) (fun g hg' _ => hg g hg')) (fun _ _ h => h)).setCell (p := ⟨p, 1, none⟩) (fun _ => hp) tv1 |>.trans (Ch.of_grown hg2 (S := S) (fun g hg' _ => ?_)) (fun _ _ h => h)
  injection hg' with hg'
  subst hg'
  exact hm
theorem key_str (b : Tx) (hb : b.length ≤ maxLen) : keyOf Tryz.prog 9 (.string ⟨b.toArray⟩) = some (.string b) := by
  have := _root_.Go.WideMaps.keyOf_string_mk (P := Tryz.prog) Tryz.underlying9 (s := ⟨b.toArray⟩) (show b.toArray.size ≤ maxLen by simpa using hb)
  simpa using this

set_option maxRecDepth 100000 in
set_option maxHeartbeats 1000000 in
theorem sum_yes (w : World) (S X : Nat → Prop) (p : Nat) (L : List Tx) (A : Option Addr) (c : Nat) (b : Tx) (h : Tb w S p L) (hb : Sl w X 1 (.slice A b.length c) b.length (BVs b)) (hl : b.length ≤ 140737488355328) :
    Calls Tryz.prog 54 #[.pointer (some ⟨p, 0, none⟩), .slice A b.length c] w (Summed S p L b w) := by
  have HL := Lib.hid (look_yes w S X p L A c b h hb hl)
  have HM := fun n => made_yes (w.drewN n) S p L (h.drewN n)
  have HM := Lib.hid HM
  by_cases hk : num L b = 0
  · have hin := isIn_false hk
    obtain ⟨m, tv, D, h1, hmap, hN, hown, hp, hm, hg, hall, hL⟩ := h
    obtain ⟨A', c', rfl⟩ := own_shape hown
    by_cases hf : 1048576 ≤ L.length
    · obtain ⟨ha, hs⟩ := add_full hk hf
      have c1 : ∀ n, (w.drewN n).cell? ⟨p, 1, none⟩ = some (.slice A' L.length c') := fun _ => h1.cell 1
      have hT : Tb w S p L := ⟨m, _, D, h1, hmap, hN, hown, hp, hm, hg, hall, hL⟩
      have HT := Lib.hid hT
      have HA := Lib.hid ha
      have HS := Lib.hid hs
      have hk0 : (num L b : Int) = 0 := by omega
      have hf' : decide ((1048576 : Int) ≤ (L.length : Int)) = true := by rw [decide_eq_true_eq]; omega
      clear h1 hmap hN hown hp hm hg hall ha hs hT hk hf hL hl hb
      go_enter Tryz.func54, Tryz.ntmps54
      go_wp2_with (first
        | (go_at_call 92; refine HL.out.mono ?_; rintro e w' ⟨rfl, n, rfl⟩)
        | (go_at_call 93; refine (HM.out _).mono ?_; rintro e w' ⟨rfl, rfl⟩))
      go_ret
      refine ⟨by rw [HS.out]; rfl, ?_, (Ch.refl S w).drewN _⟩
      rw [HA.out]
      exact (HT.out.drewN _).weaken (fun k hk => .inl hk)
    · obtain ⟨ha, hs⟩ := add_new hk hf
      have HA := Lib.hid ha
      have HS := Lib.hid hs
      have e1 := fun n : Nat => run_convert_sl (P := Tryz.prog) (w.drewN n) X 49 9 5 A c b Tryz.underlying49 Tryz.underlying5 Tryz.underlying9 (hb.drewN n)
      have HH : Hid (∀ n, Parts (w.drewN n) S p m (.slice A' L.length c') D L) := Lib.hid fun n => ⟨h1, hmap, hN, hown, hp, hm, hg, hall⟩
      have hf' : decide ((1048576 : Int) ≤ (L.length : Int)) = false := by rw [decide_eq_false_iff_not]; omega
      have hlt : L.length ≤ 2000000 := by omega
      have HK := Lib.hid hk
      have HB := Lib.hid hl
      have HK2 : Hid (keyOf Tryz.prog 9 (.string ⟨b.toArray⟩) = some (.string b)) := Lib.hid (key_str b (by simp only [maxLen]; omega))
      have c1 : ∀ n, (w.drewN n).cell? ⟨p, 1, none⟩ = some (.slice A' L.length c') := fun _ => h1.cell 1
      obtain ⟨i0, hi0, hz0, hz1, hz2⟩ := info_parts info_str
      have hk0 : (num L b : Int) = 0 := by omega
      clear ha hs hk hf h1 hmap hN hown hp hm hg hall hL hl hb
      go_enter Tryz.func54, Tryz.ntmps54
      go_wp2_with (first
        | (go_at_call 92; refine HL.out.mono ?_; rintro e w' ⟨rfl, n, rfl⟩)
        | (go_at_call 93; refine (HM.out _).mono ?_; rintro e w' ⟨rfl, rfl⟩)
        | (at_builtin; refine wpList_append_sh _ rfl (.tmp 41) (.tmp 43) _ rfl 0 9 i0 _ 1 16 Tryz.underlying86 hi0 hz0 hz1 hz2 rfl (by omega) (.slice A' L.length c') L.length (L.map SV) rfl ((HH.out n).2.2.2.1.alloc _) (fun _ => False) _ 1 [SV b] rfl (one_sv (w.drewN n) _ _ _ (fun h => h)) (svs_one [b]) (by simp only [maxLen]; omega) (by omega) (Nat.zero_le _) ?_; intro A1 d1 w1 happ; have k0 := ((HH.out n).1.alloc (.cells #[SV b] 9)).grown happ.2.1 (Ne.symm (own_far (HH.out n).2.2.2.1 (HH.out n).1 (by decide))); have k1 := k0.cell 1; have k2 := k0.frozen 1; have k3 := k0.cell 0; simp only [List.getElem?_toArray, List.getElem?_cons_zero, List.getElem?_cons_succ] at k1 k3)
        | (at_mapUpdate; refine wpList_mapUpdate_own (H := Unit) _ rfl _ _ _ 161 rfl 9 58 law_str Tryz.underlying161 (plainElem Tryz.prog 58) m L.length D rfl ((((HH.out n).2.1.alloc _).kept happ.2.1 (Ne.symm (map_row (HH.out n).2.1 (HH.out n).2.2.2.1))).setCell (map_far (HH.out n).2.1 (HH.out n).1) _) (by simp only [maxLen]; omega) _ _ (.string b) rfl rfl HK2.out (.lit (.int .i64 ((L.length : Int) + 1))) [] (plainElem_int Tryz.underlying58 (WalkArith.wf_i64 (by omega))) ?_; intro w2 hmap2 hgrow2))
      go_ret
      refine ⟨by rw [HS.out]; rfl, ?_, ?_⟩
      · rw [HA.out]
        exact tb_snoc (HH.out n) HK.out (by rw [decide_eq_false_iff_not] at hf'; omega) HB.out happ hmap2 hgrow2
      · exact ch_snoc (HH.out n) happ hgrow2
  · have hin := isIn_true hk
    obtain ⟨ha, hs⟩ := add_known hk
    have HT := Lib.hid h
    have HA := Lib.hid ha
    have HS := Lib.hid hs
    clear h ha hs
    go_enter Tryz.func54, Tryz.ntmps54
    go_wp2_with (go_at_call 92; refine HL.out.mono ?_; rintro e w' ⟨rfl, n, rfl⟩)
    go_ret
    refine ⟨by rw [HS.out]; rfl, ?_, (Ch.refl S w).drewN _⟩
    rw [HA.out]
    exact (HT.out.drewN _).weaken (fun k hk => .inl hk)

end Go.Proofs.YtmefagflnhkbdaaGreat.Ib

/-
  Contracts of the program's table: Plain, From.
-/
namespace Go.Proofs.YtmefagflnhkbdaaGreat.Ie
set_option linter.unusedSimpArgs false
set_option linter.unusedVariables false
set_option maxRecDepth 100000
open Go Go.RowKit Ck Im Kw Ik Ia Ib

/-- v is a new list of new bytes. -/
def Pl (w : World) (base : Nat) (v : Value) (L : List Tx) : Prop :=
  ∃ vals, w.ownsRow base 49 1 v L.length vals ∧ ∀ i (h : i < L.length), ∃ u, vals[i]? = some u ∧ Out w base u L[i]
theorem Pl.ls {w : World} {base : Nat} {v : Value} {L : List Tx} {X : Nat → Prop} (h : Pl w base v L) (hX : ∀ k, base ≤ k → k < w.heap.size → ¬ X k) : Ls w X v L := by
  obtain ⟨vals, ho, hx⟩ := h
  exact ⟨vals, Sl.of_own ho hX, fun i hi => by obtain ⟨u, hu, hout⟩ := hx i hi; exact ⟨u, hu, hout.sl hX⟩⟩

theorem one_slice (A : Option Addr) (n c : Nat) : ∀ u ∈ [Value.slice A n c], u.oneCell' = true := by
  intro u hu
  simp only [List.mem_cons, List.not_mem_nil, or_false] at hu
  subst hu; rfl
end Go.Proofs.YtmefagflnhkbdaaGreat.Ie

/-
  Contracts of bytes.Equal and of the document's table: Same, SameAll, Look, Open, Sum.
-/
namespace Go.Proofs.YtmefagflnhkbdaaGreat.Ih
set_option linter.unusedSimpArgs false
set_option linter.unusedVariables false
set_option maxRecDepth 100000
open Go Go.RowKit Ck Im Kw Ik Ia Ib Ie

theorem equal_any (w : World) (X Y : Nat → Prop) (va vb : Value) (n m : Nat) (l k : List UInt8) (ha : Sl w X 1 va n (BVs l)) (hb : Sl w Y 1 vb m (BVs k)) :
    Calls Tryz.prog 21 #[va, vb] w fun e w' => e = .returned (.bool (l == k)) ∧ w = w' := by
  have hn : n = l.length := by obtain ⟨A, c, _, h, _⟩ := ha; rw [BVs_len] at h; omega
  have hm : m = k.length := by obtain ⟨A, c, _, h, _⟩ := hb; rw [BVs_len] at h; omega
  subst hn; subst hm
  have ha' := ha
  have hb' := hb
  obtain ⟨A, c, rfl, -⟩ := ha'
  obtain ⟨B, d, rfl, -⟩ := hb'
  have c1 := run_convert_sl (P := Tryz.prog) w X 49 9 5 A c l Tryz.underlying49 Tryz.underlying5 Tryz.underlying9 ha
  have c2 := run_convert_sl (P := Tryz.prog) w Y 49 9 5 B d k Tryz.underlying49 Tryz.underlying5 Tryz.underlying9 hb
  clear ha hb
  go_enter Tryz.func21, Tryz.ntmps21
  go_wp2
  go_ret
  exact ⟨rfl, rfl⟩
theorem same_any (w : World) (X Y : Nat → Prop) (va vb : Value) (n m : Nat) (l k : List UInt8) (ha : Sl w X 1 va n (BVs l)) (hb : Sl w Y 1 vb m (BVs k)) :
    Calls Tryz.prog 94 #[va, vb] w fun e w' => e = .returned (.bool (l == k)) ∧ w = w' := by
  have hn : n = l.length := by obtain ⟨A, c, _, h, _⟩ := ha; rw [BVs_len] at h; omega
  have hm : m = k.length := by obtain ⟨A, c, _, h, _⟩ := hb; rw [BVs_len] at h; omega
  subst hn; subst hm
  have ha' := ha
  have hb' := hb
  obtain ⟨A, c, rfl, -⟩ := ha'
  obtain ⟨B, d, rfl, -⟩ := hb'
  have c1 := run_convert_sl (P := Tryz.prog) w X 49 9 5 A c l Tryz.underlying49 Tryz.underlying5 Tryz.underlying9 ha
  have c2 := run_convert_sl (P := Tryz.prog) w Y 49 9 5 B d k Tryz.underlying49 Tryz.underlying5 Tryz.underlying9 hb
  clear ha hb
  go_enter Tryz.func94, Tryz.ntmps94
  go_wp2
  go_ret
  exact ⟨rfl, rfl⟩

theorem Ls.shape {w : World} {X : Nat → Prop} {v : Value} {ls : List (List UInt8)} (h : Ls w X v ls) : ∃ A c, v = .slice A ls.length c := by
  obtain ⟨vals, ⟨A, c, hv, _⟩, _⟩ := h
  exact ⟨A, c, hv⟩

set_option maxHeartbeats 400000 in
theorem rlook_any (w : World) (S X : Nat → Prop) (p : Nat) (L : List Tx) (v : Value) (n : Nat) (b : Tx) (h : Rf w S p L) (hb : Sl w X 1 v n (BVs b)) :
    Calls Tryz.prog 55 #[.pointer (some ⟨p, 0, none⟩), v] w fun e w' => e = .returned (.tuple #[.int .i64 (num L b : Int), .bool (isIn L b)]) ∧ w = w' := by
  obtain ⟨lv, h1, hp, hls, hall, hL⟩ := h
  obtain ⟨A, c, rfl⟩ := Ls.shape hls
  have c0 : w.cell? ⟨p, 0, none⟩ = some (.slice A L.length c) := h1.cell 0
  have hL2 : L.length ≤ 2000000 := by omega
  clear h1 hp hall hL
  go_enter Tryz.func55, Tryz.ntmps55
  go_wp2
  go_loop [6] (fun i => ∃ k : Nat, k ≤ L.length ∧ i = .int .i64 k ∧ num (L.take k) b = 0) (fun i => L.length - (intOf i).toNat)
  case atStart => exact ⟨0, Nat.zero_le _, rfl, rfl⟩
  case round =>
    obtain ⟨k, hk, rfl, hz⟩ := hrel
    have HZ := Lib.hid hz
    clear hz
    by_cases hlt : k < L.length
    · obtain ⟨ad, B, d, rfl, hcell, hx⟩ := hls.at_ hlt
      have hsn := num_snoc (L.take k) L[k] b
      rw [HZ.out, ← List.take_succ_eq_append_getElem hlt, if_neg (by simp)] at hsn
      by_cases heq : L[k] = b
      · have hbq : (L[k] == b) = true := by rw [heq]; exact beq_self_eq_true _
        rw [if_pos heq, List.length_take, Nat.min_eq_left hk] at hsn
        have hn := num_left (L.take (k + 1)) (L.drop (k + 1)) b (by omega)
        rw [List.take_append_drop, hsn] at hn
        have HN := Lib.hid hn
        have HQ := Lib.hid hbq
        have HX := Lib.hid hx
        clear hsn hn heq hx hbq
        go_wp2_with (go_at_call 94; refine (same_any _ _ X _ _ _ _ L[k] b HX.out hb).mono ?_; rintro e w' ⟨he, rfl⟩; rw [HQ.out] at he; subst he)
        go_ret2
        rw [HN.out, isIn_true (by rw [HN.out]; omega)]
        exact ⟨rfl, rfl⟩
      · have hbq : (L[k] == b) = false := by rw [beq_eq_false_iff_ne]; exact heq
        rw [if_neg heq] at hsn
        have HN := Lib.hid hsn
        have HQ := Lib.hid hbq
        have HX := Lib.hid hx
        clear hsn heq hx hbq
        go_wp2_with (go_at_call 94; refine (same_any _ _ X _ _ _ _ L[k] b HX.out hb).mono ?_; rintro e w' ⟨he, rfl⟩; rw [HQ.out] at he; subst he)
        go_round
        case rel => exact ⟨k + 1, by omega, by go_num, HN.out⟩
        case measure => simp [intOf]; omega
    · have hke : k = L.length := by omega
      have hz : num L b = 0 := by have := HZ.out; rw [hke, List.take_length] at this; exact this
      have H0 := Lib.hid hz
      clear hz
      go_wp2
      go_ret2
      rw [H0.out, isIn_false H0.out]
      exact ⟨rfl, rfl⟩

end Go.Proofs.YtmefagflnhkbdaaGreat.Ih

/-
  Contract of the document's table: Sum.
-/
namespace Go.Proofs.YtmefagflnhkbdaaGreat.Ij
set_option linter.unusedSimpArgs false
set_option linter.unusedVariables false
set_option maxRecDepth 100000
open Go Go.RowKit Ck Im Kw Ik Ia Ib Ie Ih

theorem own_apart {w : World} {b b' n n' s s' : Nat} {e e' : TypeId} {v v' : Value} {xs xs' : List Value} (h : w.ownsRow b e s v n xs) (h' : w.ownsRow b' e' s' v' n' xs') (he : e ≠ e') : v.ownBlock = none ∨ v.ownBlock ≠ v'.ownBlock := by
  rcases h.2 with ⟨rfl, _⟩ | ⟨g, cap, cur, rfl, _, hr, _⟩
  · exact .inl rfl
  · refine .inr ?_
    rcases h'.2 with ⟨rfl, _⟩ | ⟨g', cap', cur', rfl, _, hr', _⟩
    · simp [Value.ownBlock]
    · intro h2
      have h2 : g = g' := by simpa [Value.ownBlock] using h2
      subst h2
      rw [hr] at hr'
      injection hr' with hr'
      injection hr' with _ h3
      exact he h3

/-- What the document's table holds, behind a text more. -/
theorem rf_snoc {w w1 w2 w3 : World} {S : Nat → Prop} {p : Nat} {L : List Tx} {lv v1 v2 v3 : Value} {b : Tx} {vals : List Value} {t : TypeId} (hblk : Blk w p 63 #[lv]) (hp : S p)
    (hvl : vals.length = L.length) (hels : ∀ i (h : i < L.length), ∃ u, vals[i]? = some u ∧ Sl w (fun k => ¬ S k ∨ k = p) 1 u L[i].length (BVs L[i])) (hall : ∀ l ∈ L, l.length ≤ 140737488355328) (hL : L.length < 1048576) (hb : b.length ≤ 140737488355328)
    (h1 : w1.ownsRow w.heap.size 49 1 v1 L.length vals) (b1 : Below w.heap.size w w1) (h2 : w2.ownsRow w1.heap.size 5 1 v2 b.length (BVs b)) (b2 : Below w1.heap.size w1 w2)
    (h3 : Appended (w2.alloc (.cells #[v2] t)) w.heap.size 49 1 v1 (L.length + 1) (vals ++ [v2]) v3 w3) :
    Rf (w3.setCell ⟨p, 0, none⟩ v3) (Up S w (w3.setCell ⟨p, 0, none⟩ v3)) p (L ++ [b]) ∧ Ch S w (w3.setCell ⟨p, 0, none⟩ v3) ∧ Below w.heap.size w w3 := by
  have hpl := hblk.lt
  have b2' : Below w.heap.size w w2 := b1.trans (b2.mono b1.size)
  have b3 : Below w.heap.size w (w2.alloc (.cells #[v2] t)) := b2'.alloc b2'.size _
  have b4 : Below w.heap.size w w3 := b3.grown h3.2.1 b3.size (fun g hg => (h1.lt g hg).1)
  have c5 : Ch S w (w3.setCell ⟨p, 0, none⟩ v3) := (Ch.of_below b4 (Nat.le_refl _)).setCell (p := ⟨p, 0, none⟩) (fun _ => hp) v3
  have hs3 : (w3.setCell ⟨p, 0, none⟩ v3).heap.size = w3.heap.size := by simp [World.setCell]
  have hx : ∀ k, w.heap.size ≤ k → k < w3.heap.size → ¬ (¬ Up S w (w3.setCell ⟨p, 0, none⟩ v3) k ∨ k = p) := by
    rintro k h h' (hn | rfl)
    · exact hn (.inr ⟨h, by rw [hs3]; exact h'⟩)
    · omega
  have o2 : w3.ownsRow w.heap.size 5 1 v2 b.length (BVs b) := by
    exact own_base ((h2.alloc (.cells #[v2] t)).kept h3.2.1 (own_apart h2 (own_below h1 b2) (by decide))) b1.size
  have hw3 := b4.size
  refine ⟨⟨v3, ?_, .inl hp, ⟨vals ++ [v2], ?_, fun i hi => ?_⟩, ?_, ?_⟩, c5, b4⟩
  · have := (hblk.below b4 hpl).set_ 0 v3
    simpa using this
  · have h3' : w3.ownsRow w.heap.size 49 1 v3 (L ++ [b]).length (vals ++ [v2]) := by simpa using h3.1
    exact (Sl.of_own h3' (X := fun k => ¬ Up S w (w3.setCell ⟨p, 0, none⟩ v3) k ∨ k = p) hx).setCell (p := ⟨p, 0, none⟩) (fun _ => .inr rfl) v3
  · by_cases he : i < L.length
    · obtain ⟨u, hu, hsl⟩ := hels i he
      refine ⟨u, by rw [List.getElem?_append_left (by omega)]; exact hu, ?_⟩
      rw [List.getElem_append_left he]
      refine ((hsl.below b4 (fun k h1 h2 => absurd h1 (by omega))).weaken' (Y := fun k => ¬ Up S w (w3.setCell ⟨p, 0, none⟩ v3) k ∨ k = p) ?_).setCell (p := ⟨p, 0, none⟩) (fun _ => .inr rfl) v3
      rintro k _ hX (hn | rfl)
      · exact hX (.inl fun hs => hn (.inl hs))
      · exact hX (.inr rfl)
    · have hie : i = L.length := by simp only [List.length_append, List.length_cons, List.length_nil] at hi; omega
      subst hie
      refine ⟨v2, by rw [List.getElem?_append_right (by omega), hvl, Nat.sub_self]; rfl, ?_⟩
      rw [List.getElem_append_right (Nat.le_refl _)]
      simp only [Nat.sub_self, List.getElem_cons_zero]
      exact (Sl.of_own o2 (X := fun k => ¬ Up S w (w3.setCell ⟨p, 0, none⟩ v3) k ∨ k = p) hx).setCell (p := ⟨p, 0, none⟩) (fun _ => .inr rfl) v3
  · intro l hl
    rcases List.mem_append.1 hl with h2 | h2
    · exact hall l h2
    · simp only [List.mem_cons, List.not_mem_nil, or_false] at h2
      subst h2; exact hb
  · simp only [List.length_append, List.length_cons, List.length_nil]; omega

theorem two_size {w w1 w2 : World} (b1 : Below w.heap.size w w1) (b2 : Below w1.heap.size w1 w2) (o : Obj) : w.heap.size ≤ (w2.alloc o).heap.size := Nat.le_trans b1.size (Nat.le_trans b2.size (by simp))
theorem rf_below {w w1 w2 w3 : World} {o : Obj} {e : TypeId} {n m : Nat} {xs ys : List Value} {v1 v3 : Value} (b1 : Below w.heap.size w w1) (b2 : Below w1.heap.size w1 w2) (h1 : w1.ownsRow w.heap.size e 1 v1 n xs) (h3 : Appended (w2.alloc o) w.heap.size e 1 v1 m ys v3 w3) : Below w.heap.size w w3 := by
  have b2' : Below w.heap.size w w2 := b1.trans (b2.mono b1.size)
  have b3 : Below w.heap.size w (w2.alloc o) := b2'.alloc b2'.size _
  exact b3.grown h3.2.1 b3.size (fun g hg => (h1.lt g hg).1)

/-- What Sum leaves of the document's table. -/
def RSummed (S : Nat → Prop) (p : Nat) (L : List Tx) (b : Tx) (w : World) (e : Ending) (w' : World) : Prop :=
  e = .returned (.int .i64 (sum L b : Int)) ∧ Rf w' (Up S w w') p (add L b) ∧ Ch S w w'

theorem Rf.up {w w' : World} {S : Nat → Prop} {p : Nat} {L : List Tx} (h : Rf w' S p L) : Rf w' (Up S w w') p L := by
  obtain ⟨lv, h1, h2, h3, h4⟩ := h
  refine ⟨lv, h1, .inl h2, h3.weaken ?_, h4⟩
  rintro k _ (hn | rfl)
  · exact .inl fun hs => hn (.inl hs)
  · exact .inr rfl

theorem vals_one {w : World} {X : Nat → Prop} {L : List Tx} {vals : List Value} (hvl : vals.length = L.length) (hels : ∀ i (h : i < L.length), ∃ u, vals[i]? = some u ∧ Sl w X 1 u L[i].length (BVs L[i])) : ∀ u ∈ vals, u.oneCell' = true := by
  intro u hu
  obtain ⟨i, hi, rfl⟩ := List.getElem_of_mem hu
  obtain ⟨u, h1, ⟨A, c, rfl, _⟩⟩ := hels i (by omega)
  rw [List.getElem?_eq_getElem hi] at h1
  injection h1 with h1
  rw [h1]
  rfl

set_option maxRecDepth 100000 in
set_option maxHeartbeats 1000000 in
theorem rsum_any (w : World) (S X : Nat → Prop) (p : Nat) (L : List Tx) (A : Option Addr) (c : Nat) (b : Tx) (h : Rf w S p L) (hb : Sl w X 1 (.slice A b.length c) b.length (BVs b)) (hl : b.length ≤ 140737488355328) :
    Calls Tryz.prog 20 #[.pointer (some ⟨p, 0, none⟩), .slice A b.length c] w (RSummed S p L b w) := by
  have HL := Lib.hid (rlook_any w S X p L _ _ b h hb)
  by_cases hk : num L b = 0
  · have hin := isIn_false hk
    have HT := Lib.hid h
    obtain ⟨lv, h1, hp, hls, hall, hL⟩ := h
    obtain ⟨A', c', rfl⟩ := Ls.shape hls
    by_cases hf : 1048576 ≤ L.length
    · obtain ⟨ha, hs⟩ := add_full hk hf
      have c1 : w.cell? ⟨p, 0, none⟩ = some (.slice A' L.length c') := h1.cell 0
      have HA := Lib.hid ha
      have HS := Lib.hid hs
      have hk0 : (num L b : Int) = 0 := by omega
      have hf' : decide ((1048576 : Int) ≤ (L.length : Int)) = true := by rw [decide_eq_true_eq]; omega
      clear h1 hls hp hall ha hs hk hf hL hl hb
      go_enter Tryz.func20, Tryz.ntmps20
      go_wp2_with (go_at_call 55; refine HL.out.mono ?_; rintro e w' ⟨rfl, rfl⟩)
      go_ret
      refine ⟨by rw [HS.out]; rfl, ?_, Ch.refl S w⟩
      rw [HA.out]
      exact Rf.up HT.out
    · obtain ⟨ha, hs⟩ := add_new hk hf
      have HA := Lib.hid ha
      have HS := Lib.hid hs
      have hf' : decide ((1048576 : Int) ≤ (L.length : Int)) = false := by rw [decide_eq_false_iff_not]; omega
      have hlt : L.length ≤ 2000000 := by omega
      have hlt2 : L.length < 1048576 := by omega
      have HB := Lib.hid hl
      have HBS := Lib.hid hb
      have c1 : w.cell? ⟨p, 0, none⟩ = some (.slice A' L.length c') := h1.cell 0
      obtain ⟨i0, hi0, hz0, hz1, hz2⟩ := info_parts info_sl
      obtain ⟨j0, hj0, hy0, hy1, hy2⟩ := info_parts info_u8
      have hk0 : (num L b : Int) = 0 := by omega
      obtain ⟨vals, hsl, hels⟩ := hls
      have hvl : vals.length = L.length := by obtain ⟨_, _, _, h, _⟩ := hsl; omega
      have hone := vals_one hvl hels
      have H1 := Lib.hid h1
      have HP := Lib.hid (And.intro hp (And.intro hvl (And.intro hels (And.intro hall hlt2))))
      have HSL := Lib.hid hsl
      have HONE := Lib.hid hone
      have hfl : L.length ≤ 140737488355328 := by omega
      have hpl := h1.lt
      clear ha hs hk hf h1 hp hall hL hl hb hsl hels hvl hone hlt2
      go_enter Tryz.func20, Tryz.ntmps20
      go_wp2_with (first
        | (go_at_call 55; refine HL.out.mono ?_; rintro e w' ⟨rfl, rfl⟩)
        | (at_builtin; refine wpList_append_new _ rfl (.const (.slice none 0 0)) (.tmp 25) _ rfl 49 i0 _ 1 24 Tryz.underlying61 hi0 hz0 hz1 hz2 rfl (by omega) rfl _ _ L.length vals rfl HSL.out HONE.out (by simp only [maxLen]; omega) (by omega) ?_; intro A1 d1 w1 ho1 b1)
        | (at_builtin; refine wpList_append_new _ rfl (.const (.slice none 0 0)) (.tmp 27) _ rfl 5 j0 _ 1 1 Tryz.underlying49 hj0 hy0 hy1 hy2 rfl (by omega) rfl _ _ b.length (BVs b) rfl (HBS.out.after b1) (BVs_one _) (by have := HB.out; simp only [maxLen]; omega) (by have := HB.out; omega) ?_; intro A2 d2 w2 ho2 b2)
        | (at_builtin; refine wpList_append_sh _ rfl (.tmp 26) (.tmp 29) _ rfl w.heap.size 49 i0 _ 1 24 Tryz.underlying61 hi0 hz0 hz1 hz2 rfl (by omega) (.slice A1 L.length d1) L.length vals rfl ((own_below ho1 b2).alloc _) (fun _ => False) _ 1 [.slice A2 b.length d2] rfl (one_sv w2 _ _ _ (fun h => h)) (one_slice _ _ _) (by simp only [maxLen]; omega) (by omega) (two_size b1 b2 _) ?_; intro A3 d3 w3 happ3; have k0 := H1.out.below (rf_below b1 b2 ho1 happ3) hpl; have k1 := k0.cell 0; have k2 := k0.frozen 0; simp only [List.getElem?_toArray, List.getElem?_cons_zero] at k1))
      go_ret
      have R := rf_snoc H1.out HP.out.1 HP.out.2.1 HP.out.2.2.1 HP.out.2.2.2.1 HP.out.2.2.2.2 HB.out ho1 b1 ho2 b2 happ3
      refine ⟨by rw [HS.out]; simp, ?_, R.2.1⟩
      rw [HA.out]
      exact R.1
  · have hin := isIn_true hk
    obtain ⟨ha, hs⟩ := add_known hk
    have HT := Lib.hid h
    have HA := Lib.hid ha
    have HS := Lib.hid hs
    clear h ha hs
    go_enter Tryz.func20, Tryz.ntmps20
    go_wp2_with (go_at_call 55; refine HL.out.mono ?_; rintro e w' ⟨rfl, rfl⟩)
    go_ret
    refine ⟨by rw [HS.out]; rfl, ?_, Ch.refl S w⟩
    rw [HA.out]
    exact Rf.up HT.out

end Go.Proofs.YtmefagflnhkbdaaGreat.Ij

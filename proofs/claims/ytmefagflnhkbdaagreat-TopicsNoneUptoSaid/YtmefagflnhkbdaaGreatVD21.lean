/-
  Contracts of the program's table that make memory: Open, roomyTable, NewTable, Sum.
-/
import Derived.Test.YtmefagflnhkbdaaGreatVD20
import Derived.RegionTactic
import Derived.Lib.ConvBytes
import Derived.BigRegion
import Derived.Test.YtmefagflnhkbdaaGreatVD15
import Derived.Deep.DeepCutAuto
namespace Go.Proofs.YtmefagflnhkbdaaGreat.Ib
set_option linter.unusedSimpArgs false
set_option linter.unusedVariables false
set_option maxRecDepth 100000
open Go Go.RowKit Ck Im Kw Ik Ia

theorem info_u8 : (Tryz.prog.info? 5).map (fun i => (i.zero, i.size, i.bytes)) = some (some (.int .u8 0), 1, 1) := by kernel_rfl
theorem info_str : (Tryz.prog.info? 9).map (fun i => (i.zero, i.size, i.bytes)) = some (some (.string ⟨#[]⟩), 1, 16) := by kernel_rfl
/-- v is new bytes, made out of a text. -/
def Out (w : World) (base : Nat) (v : Value) (l : Tx) : Prop :=
  ∃ (g cap : Nat) (cs : Array Value) (z : Nat), v = .slice (some ⟨g, 0, none⟩) l.length cap ∧ base ≤ g ∧ w.heap[g]? = some (.cells cs 5 (z, z + 1)) ∧ l.length ≤ z ∧ l.length ≤ cap ∧ cap ≤ maxLen ∧ ∀ (j : Nat) (u : Value), (BVs l)[j]? = some u → cs[j]? = some u
theorem Out.sl {w : World} {base : Nat} {v : Value} {l : Tx} {X : Nat → Prop} (h : Out w base v l) (hX : ∀ k, base ≤ k → k < w.heap.size → ¬ X k) : Sl w X 1 v l.length (BVs l) := by
  obtain ⟨g, cap, cs, z, rfl, hb, hg, hz, hc, hm, hx⟩ := h
  have hlt := (Array.getElem?_eq_some_iff.1 hg).1
  refine ⟨_, _, rfl, by simp [BVs_len], hc, hm, fun _ => ⟨_, rfl, hlt, hX g hb hlt, fun j u hu => ?_⟩⟩
  have ha : (⟨g, 0, none⟩ : Addr).add j = ⟨g, j, none⟩ := by unfold Addr.add; split <;> simp_all
  rw [ha]
  simp only [World.cell?, hg]
  exact hx j u hu
theorem Out.ch {w w' : World} {base : Nat} {v : Value} {l : Tx} {S : Nat → Prop} (h : Out w base v l) (c : Ch S w w') (hS : ∀ k, base ≤ k → k < w.heap.size → ¬ S k) : Out w' base v l := by
  obtain ⟨g, cap, cs, z, rfl, hb, hg, r⟩ := h
  exact ⟨g, cap, cs, z, rfl, hb, (c.block g (Array.getElem?_eq_some_iff.1 hg).1 (hS g hb (Array.getElem?_eq_some_iff.1 hg).1)).trans hg, r⟩
theorem Out.base {w : World} {base b' : Nat} {v : Value} {l : Tx} (h : Out w base v l) (hb : b' ≤ base) : Out w b' v l := by
  obtain ⟨g, cap, cs, z, hv, h1, r⟩ := h
  exact ⟨g, cap, cs, z, hv, Nat.le_trans hb h1, r⟩
theorem bytesWorld_below (w : World) (e : TypeId) (s : ByteArray) : Below w.heap.size w (Lib.bytesWorld w e s) := by
  refine ⟨?_, ?_, ?_, by rw [Lib.bytesWorld_size]; omega, fun k hk => Lib.bytesWorld_at_old w e s k hk⟩ <;>
    (unfold Lib.bytesWorld World.freeze; split <;> rfl)
theorem bytesWorld_out (w : World) (l : Tx) (hl : l.length ≤ 140737488355328) : Out (Lib.bytesWorld w 5 ⟨l.toArray⟩) w.heap.size (.slice (some ⟨w.heap.size, 0, none⟩) l.length (grownCap w l.length 0 5)) l := by
  have hge := grownCap_ge w l.length 0 5
  refine ⟨w.heap.size, _, _, _, rfl, Nat.le_refl _, Lib.bytesWorld_at_new w 5 ⟨l.toArray⟩, ?_, hge, grownCap_le_maxLen w _ _ _ (by simp only [maxLen]; omega), fun j u hu => ?_⟩
  · show l.length ≤ ((l.toArray.map fun b : UInt8 => Value.int .u8 b.toNat) ++ Array.replicate _ _).size
    simp
  · have hj : j < l.length := by have := (List.getElem?_eq_some_iff.1 hu).1; rwa [BVs_len] at this
    show ((l.toArray.map fun b : UInt8 => Value.int .u8 b.toNat) ++ Array.replicate _ _)[j]? = some u
    rw [Array.getElem?_append_left (by simpa using hj)]
    rw [BVs_get hj] at hu
    simpa [hj] using hu

theorem three (w : World) (a b c : Obj) : (((w.alloc a).alloc b).alloc c).heap[w.heap.size]? = some a ∧ (((w.alloc a).alloc b).alloc c).heap[w.heap.size + 1]? = some b ∧ (((w.alloc a).alloc b).alloc c).heap[w.heap.size + 1 + 1]? = some c := by
  refine ⟨?_, ?_, ?_⟩
  · rw [Below.heap_alloc _ _ _ (by simp; omega), Below.heap_alloc _ _ _ (by simp)]
    exact heap_alloc_new w a
  · rw [Below.heap_alloc _ _ _ (by simp)]
    have := heap_alloc_new (w.alloc a) b
    simpa using this
  · have := heap_alloc_new ((w.alloc a).alloc b) c
    simpa using this
theorem three_below (w : World) (a b c : Obj) : Below w.heap.size w (((w.alloc a).alloc b).alloc c) := (((Below.refl _ w).alloc (Nat.le_refl _) _).alloc (by simp) _).alloc (by simp; omega) _
theorem tb_new {w : World} {S : Nat → Prop} {p m g n : Nat} {cs : Array Value} (h1 : Blk w p 163 #[.map (some m), .slice (some ⟨g, 0, none⟩) 0 n]) (h2 : w.heap[m]? = some (.map #[] 0))
    (h3 : w.heap[g]? = some (.cells cs 9 (0, 0))) (hs : cs.size = n) (hn : n ≤ maxLen) (sp : S p) (sm : S m) (sg : S g) : Tb w S p [] := by
  refine ⟨m, _, .map [], h1, ⟨#[], 0, h2, ⟨by simp, MapKept.stamped_empty 0, by simp⟩, Nat.le_refl _, rfl⟩, Nums.empty, ⟨rfl, .inr ⟨g, n, cs, rfl, Nat.zero_le _, h3, Nat.zero_le _, hn, by omega, by simp⟩⟩, sp, sm, ?_, by simp, by simp⟩
  intro k hk
  have hk : g = k := by simpa [Value.ownBlock] using hk
  subst hk
  exact sg

set_option maxHeartbeats 400000 in
theorem roomy_any (w : World) (n : Nat) (hn : n ≤ 1048576) :
    Calls Tryz.prog 53 #[.int .i64 n] w fun e w' => ∃ p, e = .returned (.pointer (some ⟨p, 0, none⟩)) ∧ Tb w' (New w w') p [] ∧ Below w.heap.size w w' := by
  have hmm : ∀ W : World, (Instr.makeMap 161 (some (.int .i64 (n : Int)))).run Tryz.prog W = .ok (.map (some W.heap.size)) (W.alloc (.map #[] 0)) := fun W => by
    simp [Instr.makeMap, run_underlying Tryz.underlying161, asInt, asIntOf]
  obtain ⟨i0, hi0, hz0, hz1, hz2⟩ := info_parts info_str
  have hms : ∀ W : World, (Instr.makeSlice 86 (.int .i64 0) (.int .i64 (n : Int))).run Tryz.prog W = .ok (.slice (some ⟨W.heap.size, 0, none⟩) 0 n) (W.alloc (.cells (madeCells (Value.string ⟨#[]⟩).cells n) 9)) := fun W => by
    have := run_make (P := Tryz.prog) W 86 9 i0 _ Tryz.underlying86 hi0 hz0 .i64 .i64 0 n (by omega) (by omega) (by rw [hz2]; omega) (by omega)
    rw [hz1] at this
    simpa using this
  clear hi0 hz0 hz1 hz2
  go_enter Tryz.func53, Tryz.ntmps53
  go_wp2
  go_region
  all_goals
    go_wp2
    go_ret
    refine ⟨_, rfl, ?_, below_drewN (three_below w _ _ _) 1⟩
    first
    | exact tb_new (m := w.heap.size) (g := w.heap.size + 1) (three w _ _ _).2.2 (three w _ _ _).1 (three w _ _ _).2.1 (size_madeCells _ _) (by simp only [maxLen]; omega) ⟨by omega, by simp; try omega⟩ ⟨by omega, by simp; try omega⟩ ⟨by omega, by simp; try omega⟩
    | exact tb_new (m := w.heap.size + 1) (g := w.heap.size) (three w _ _ _).2.2 (three w _ _ _).2.1 (three w _ _ _).1 (size_madeCells _ _) (by simp only [maxLen]; omega) ⟨by omega, by simp; try omega⟩ ⟨by omega, by simp; try omega⟩ ⟨by omega, by simp; try omega⟩

theorem newtable_any (w : World) :
    Calls Tryz.prog 18 #[] w fun e w' => ∃ p, e = .returned (.pointer (some ⟨p, 0, none⟩)) ∧ Tb w' (New w w') p [] ∧ Below w.heap.size w w' := by
  go_enter Tryz.func18, Tryz.ntmps18
  go_wp2_with (go_at_call 53; refine (roomy_any _ 0 (by omega)).mono ?_; rintro e w' ⟨p, rfl, h1, h2⟩)
  go_ret
  exact ⟨_, rfl, h1, h2⟩

theorem key_str (b : Tx) (hb : b.length ≤ maxLen) : keyOf Tryz.prog 9 (.string ⟨b.toArray⟩) = some (.string b) := by
  have := _root_.Go.WideMaps.keyOf_string_mk (P := Tryz.prog) Tryz.underlying9 (s := ⟨b.toArray⟩) (show b.toArray.size ≤ maxLen by simpa using hb)
  simpa using this

end Go.Proofs.YtmefagflnhkbdaaGreat.Ib

/-
  Layer 7: the walk of the statement TopicsNone.
-/
namespace Go.Proofs.YtmefagflnhkbdaaGreat.Xp
set_option linter.unusedSimpArgs false
open Go Go.RowKit Ck Kw Ga Kf Pm Pe Tm Tn Tq Aa Ab Ag Aj Am An To Br Xk Xl Xn Xo
attribute [local go_sem ↓] Go.wp_at_zero Go.wp_at_succ
set_option linter.unusedVariables false
set_option maxRecDepth 100000

/-- The second topics' cells: nothing. -/
abbrev zc : Array Value := #[.map none, .int .i64 0, .int .i64 0, .int .i64 0, .int .i64 0, .int .i64 0, .int .i64 0, .int .i64 0, .int .i64 0, .int .i64 0, .int .i64 0, .int .i64 0, .int .i64 0, .int .i64 0, .int .i64 0, .int .i64 0, .int .i64 0, .int .i64 0, .int .i64 0, .int .i64 0, .int .i64 0, .int .i64 0, .int .i64 0, .int .i64 0, .int .i64 0]
/-- The two arguments, two pointers, and what the second one points to. -/
structure NK (w : World) (cs ds : Array Value) (gs p : Nat) (W : World) : Prop where
  below : Below w.heap.size w W
  req : Blk W w.heap.size 40 cs
  pl : Blk W (w.heap.size + 1) 69 ds
  arr : Blk W gs 24 #[.pointer none, .pointer (some ⟨p, 0, none⟩)]
  zero : Blk W p 75 #[.map none, .int .i64 0, .int .i64 0, .int .i64 0, .int .i64 0, .int .i64 0, .int .i64 0, .int .i64 0, .int .i64 0, .int .i64 0, .int .i64 0, .int .i64 0, .int .i64 0, .int .i64 0, .int .i64 0, .int .i64 0, .int .i64 0, .int .i64 0, .int .i64 0, .int .i64 0, .int .i64 0, .int .i64 0, .int .i64 0, .int .i64 0, .int .i64 0]
section
variable {w W W' : World} {cs ds : Array Value} {gs p : Nat}
theorem NK.later (k : NK w cs ds gs p W) (b : Below W.heap.size W W') : NK w cs ds gs p W' := ⟨k.below.trans (b.mono k.below.size), k.req.below b k.req.lt, k.pl.below b k.pl.lt, k.arr.below b k.arr.lt, k.zero.below b k.zero.lt⟩
theorem NK.at_ (k : NK w cs ds gs p W) {i : Nat} (hi : i < 2) : ∃ v, W.cell? ⟨gs, i, none⟩ = some (.pointer v) ∧ Un W (.pointer v) := by
  have : i = 0 ∨ i = 1 := by omega
  rcases this with rfl | rfl
  · exact ⟨_, k.arr.cell 0, .inl rfl⟩
  · exact ⟨_, k.arr.cell 1, .inr ⟨p, _, rfl, k.zero⟩⟩
theorem nk_new (hb : Below w.heap.size w W) (h1 : Blk W w.heap.size 40 cs) (h2 : Blk W (w.heap.size + 1) 69 ds) :
    NK w cs ds (W.heap.size + 1) W.heap.size ((W.alloc (.cells zc 75)).alloc (.cells #[.pointer none, .pointer (some ⟨W.heap.size, 0, none⟩)] 24)) := by
  have b : Below W.heap.size W ((W.alloc (.cells zc 75)).alloc (.cells #[.pointer none, .pointer (some ⟨W.heap.size, 0, none⟩)] 24)) := (op_below W _).trans ((op_below _ _).mono (by simp))
  exact ⟨hb.trans (b.mono hb.size), h1.below b h1.lt, h2.below b h2.lt, Blk.new_at (by simp) rfl, Blk.alloc (Blk.new W _ _) _⟩
end
theorem own_blk {w : World} {B n s : Nat} {e : TypeId} {v : Value} {xs : List Value} (h : w.ownsRow B e s v n xs) (hn : 0 < n) : ∃ g c cur, v = .slice (some ⟨g, 0, none⟩) n c ∧ B ≤ g ∧ Blk w g e cur ∧ ∀ (j : Nat) (u : Value), xs[j]? = some u → cur[j]? = some u := by
  obtain ⟨h1, h2⟩ := h
  rcases h2 with ⟨-, h2⟩ | ⟨g, c, cur, hv, hB, hb, -, -, -, ht⟩
  · omega
  · refine ⟨g, c, cur, hv, hB, hb, fun j u hu => ?_⟩
    rw [← ht] at hu
    rw [List.getElem?_take] at hu
    split at hu
    · rw [← Array.getElem?_toList]; exact hu
    · simp at hu
theorem first_rec {w : World} {B : Nat} {v : Value} {n : Tx} {x : Tx} {i : Int} (h : Ah.Ps w B v [(n, i, x)]) (hx : 0 < x.length) : ∃ g c g' c' cur cur', v = .slice (some ⟨g, 0, none⟩) 1 c ∧ B ≤ g ∧ Blk w g 69 cur ∧ cur[2]? = some (.slice (some ⟨g', 0, none⟩) x.length c') ∧ B ≤ g' ∧ Blk w g' 5 cur' ∧ ∀ (j : Nat) (u : Value), (BVs x)[j]? = some u → cur'[j]? = some u := by
  obtain ⟨l, hl, hr, hx'⟩ := h
  match l, hl with
  | [a], hl =>
    simp only [List.map_cons, List.map_nil, List.cons.injEq, and_true] at hl
    obtain ⟨g, c, cur, hv, hB, hb, hc⟩ := own_blk hr (by simp)
    have ha := hx' a (by simp)
    rw [hl] at ha
    obtain ⟨g', c', cur', hv', hB', hb', hc'⟩ := own_blk ha hx
    exact ⟨g, c, g', c', cur, cur', hv, hB, hb, by rw [← hv']; exact hc 2 _ (by simp [Ah.PCs, Ah.PC]), hB', hb', hc'⟩
theorem sl_blk {w : World} {g : Nat} {t : TypeId} {cs : List Value} (h : Blk w g t cs.toArray) (X : Nat → Prop) (hX : ¬ X g) (hm : cs.length ≤ maxLen) : Sl w X 1 (.slice (some ⟨g, 0, none⟩) cs.length cs.length) cs.length cs := by
  refine ⟨_, _, rfl, by simp, Nat.le_refl _, hm, fun _ => ⟨_, rfl, h.lt, hX, fun j u hu => ?_⟩⟩
  have ha : (⟨g, 0, none⟩ : Addr).add j = ⟨g, j, none⟩ := by unfold Addr.add; split <;> simp_all
  rw [ha, h.cell j]
  simpa using hu
theorem one_ls {w : World} {g g2 : Nat} (h : Blk w g 5 #[.int .u8 1, .int .u8 2, .int .u8 3]) (h2 : Blk w g2 67 #[.slice (some ⟨g, 0, none⟩) 3 3]) : Ls w (fun _ => False) (.slice (some ⟨g2, 0, none⟩) 1 1) [[1, 2, 3]] := by
  refine ⟨[.slice (some ⟨g, 0, none⟩) 3 3], sl_blk (cs := [.slice (some ⟨g, 0, none⟩) 3 3]) h2 _ (fun h => h) (by simp [maxLen]), fun i hi => ?_⟩
  match i, hi with
  | 0, _ => exact ⟨_, rfl, sl_blk (cs := BVs [1, 2, 3]) h _ (fun h => h) (by simp [maxLen, BVs])⟩
def oN : O := ⟨2, [116], [], 0, [[1, 2, 3]]⟩
def sN : St := (appS s1 0 2 oN).2.2.2
theorem appN : appS s1 0 2 oN = ((0, 0), [([116], 0, [1, 2, 3])], true, sN) := by decide +kernel
theorem getN : getT sN.L [116] 0 = ([1, 2, 3], 0) := by decide +kernel
set_option maxHeartbeats 8000000 in
theorem none_any (w : World) (client time : Int) (o : O) (A : Option Addr) (c : Nat) (X : Nat → Prop) (x : Pl3) (u : Value) (hu : Sl w X 1 u x.2.2.length (BVs x.2.2)) (h1 : x.1.length ≤ 1048576) (h2 : x.2.2.length ≤ 1048576) (h3 : x.2.1 ≤ 9223372036854775807) :
    Calls Tryz.prog 6 #[RV client time o A c, .agg (P3 x u)] w fun e w' => e = .returned (.bool true) ∧ Below w.heap.size w w' := by
  have hb0 : Below w.heap.size w ((w.alloc (.cells (RC client time o A c) 40)).alloc (.cells (P3 x u) 69)) := (op_below w _).trans ((op_below _ _).mono (by simp))
  have hr0 : Blk ((w.alloc (.cells (RC client time o A c) 40)).alloc (.cells (P3 x u) 69)) w.heap.size 40 (RC client time o A c) := (Blk.new w _ _).alloc _
  have hp0 : Blk ((w.alloc (.cells (RC client time o A c) 40)).alloc (.cells (P3 x u) 69)) (w.heap.size + 1) 69 (P3 x u) := Blk.new_at (by simp) rfl
  have HU := Lib.hid hu
  have H0 := Lib.hid (And.intro hb0 (And.intro hr0 hp0))
  have HAU := Lib.hid fun (W : World) (v : Value) (h : Un W v) => apply_un W v client time o A c h
  have HPB := Lib.hid fun (W : World) (b : Below w.heap.size w W) => plbytes_any W X x u (hu.after b) h1 h2 h3
  have HRB := Lib.hid fun (W : World) (b : Below w.heap.size w W) => rplbytes_any W X x u (hu.after b) h1 h2 h3
  clear hb0 hr0 hp0 hu
  unfold RV at *
  unfold RC at *
  unfold P3 at *
  go_enter Tryz.func6, Tryz.ntmps6
  go_wp2_with fail
  generalize (w.alloc (.cells #[.int .i64 client, .int .i64 time, .int .i64 o.kind, .string ⟨o.topic.toArray⟩, .string ⟨o.group.toArray⟩, .int .i64 o.off, .slice A o.recs.length c] 40)).alloc (.cells #[.string ⟨x.1.toArray⟩, .int .i64 x.2.1, u] 69) = w0 at *
  refine (live_any w0).mono ?_
  rintro e w1 ⟨rfl, hb1⟩
  obtain ⟨hb0, hr0, hp0⟩ := H0.out
  have HN1 := Lib.hid (nk_new (hb0.trans (hb1.mono hb0.size)) (hr0.below hb1 hr0.lt) (hp0.below hb1 hp0.lt))
  clear hb1 hb0 hr0 hp0 H0
  unfold zc at HN1
  go_wp2_with fail
  generalize hwl : (w1.alloc (.cells #[.map none, .int .i64 0, .int .i64 0, .int .i64 0, .int .i64 0, .int .i64 0, .int .i64 0, .int .i64 0, .int .i64 0, .int .i64 0, .int .i64 0, .int .i64 0, .int .i64 0, .int .i64 0, .int .i64 0, .int .i64 0, .int .i64 0, .int .i64 0, .int .i64 0, .int .i64 0, .int .i64 0, .int .i64 0, .int .i64 0, .int .i64 0, .int .i64 0] 75)).alloc (.cells #[.pointer none, .pointer (some ⟨w1.heap.size, 0, none⟩)] 24) = wl at *
  clear hwl
  generalize w1.heap.size + 1 = gs at *
  generalize w1.heap.size = g1 at *
  go_loopw [36] (fun j wr => ∃ i : Nat, i ≤ 2 ∧ j = .int .i64 i ∧ NK w #[.int .i64 client, .int .i64 time, .int .i64 o.kind, .string ⟨o.topic.toArray⟩, .string ⟨o.group.toArray⟩, .int .i64 o.off, .slice A o.recs.length c] #[.string ⟨x.1.toArray⟩, .int .i64 x.2.1, u] gs g1 wr) (fun j _ => 2 - (intOf j).toNat)
  case atStart => exact ⟨0, by omega, rfl, HN1.out⟩
  case round =>
    obtain ⟨i, hi, rfl, hn⟩ := hrel
    have HN := Lib.hid hn
    clear hn HN1
    by_cases hlt : i < 2
    · obtain ⟨v, a0, hun⟩ := HN.out.at_ hlt
      have hin : (i : Int) < 2 := by omega
      have q0 := HN.out.req.cell 0
      have q1 := HN.out.req.cell 1
      have q2 := HN.out.req.cell 2
      have q3 := HN.out.req.cell 3
      have q4 := HN.out.req.cell 4
      have q5 := HN.out.req.cell 5
      have q6 := HN.out.req.cell 6
      simp only [List.getElem?_toArray, List.getElem?_cons_zero, List.getElem?_cons_succ] at q0 q1 q2 q3 q4 q5 q6
      have HUN := Lib.hid hun
      clear hun
      go_wp2_with fail
      refine (HAU.out _ _ HUN.out).mono ?_
      rintro e w2 ⟨rfl, hb2⟩
      have HN2 := Lib.hid (HN.out.later hb2)
      have HUN2 := Lib.hid (HUN.out.later hb2)
      clear hb2 q0 q1 q2 q3 q4 q5 q6 a0 HUN HN
      go_wp2_with fail
      have hb3 := op_below w2 (.cells #[.int .i64 2, .int .i64 0] 30)
      have hre : Blk (w2.alloc (.cells #[.int .i64 2, .int .i64 0] 30)) w2.heap.size 30 #[.int .i64 2, .int .i64 0] := Blk.new w2 _ _
      generalize w2.alloc (.cells #[.int .i64 2, .int .i64 0] 30) = w3 at *
      generalize hge : w2.heap.size = ge at *
      have HN3 := Lib.hid (HN2.out.later (hge ▸ hb3))
      have HUN3 := Lib.hid (HUN2.out.later (hge ▸ hb3))
      have HE3 := Lib.hid hre
      clear hb3 hre HN2 HUN2 hge
      refine (last_un w3 _ 0 HUN3.out).mono ?_
      rintro e w4 ⟨rfl, hb4⟩
      have HN4 := Lib.hid (HN3.out.later hb4)
      have HUN4 := Lib.hid (HUN3.out.later hb4)
      have HE4 := Lib.hid (HE3.out.below hb4 HE3.out.lt)
      clear hb4 HN3 HUN3 HE3
      go_wp2_with fail
      have hb5 := op_below w4 (.cells #[.int .i64 0, .int .i64 0] 30)
      have hre : Blk (w4.alloc (.cells #[.int .i64 0, .int .i64 0] 30)) w4.heap.size 30 #[.int .i64 0, .int .i64 0] := Blk.new w4 _ _
      generalize w4.alloc (.cells #[.int .i64 0, .int .i64 0] 30) = w5 at *
      generalize hgf : w4.heap.size = gf at *
      have HN5 := Lib.hid (HN4.out.later (hgf ▸ hb5))
      have HUN5 := Lib.hid (HUN4.out.later (hgf ▸ hb5))
      have HE5 := Lib.hid (And.intro (HE4.out.below (hgf ▸ hb5) HE4.out.lt) hre)
      clear hb5 hre HN4 HUN4 HE4 hgf
      refine (bounds_un w5 _ _ HUN5.out).mono ?_
      rintro e w' ⟨rfl, rfl⟩
      go_wp2_with fail
      refine (get_un w5 _ _ _ HUN5.out).mono ?_
      rintro e w' ⟨rfl, rfl⟩
      go_wp2_with fail
      refine (comm_un w5 _ _ _ HUN5.out).mono ?_
      rintro e w' ⟨rfl, rfl⟩
      go_wp2_with fail
      refine (records_of w5 (.pointer v) [116] (fun _ => False) ⟨[116], 0, [], []⟩ (fun W b => Xj.allof_un W _ _ _ (HUN5.out.later b)) (fun _ h => h.elim) (by decide) (by decide) (by decide) (by simp)).mono ?_
      rintro e w6 ⟨A1, c1, A2, c2, vals, rfl, -, -, -, hb6⟩
      have HN6 := Lib.hid (HN5.out.later hb6)
      have HUN6 := Lib.hid (HUN5.out.later hb6)
      obtain ⟨he1, he2⟩ := HE5.out
      have hk1 := he1.below hb6 he1.lt
      have hk2 := he2.below hb6 he2.lt
      have e0 := hk1.cell 0
      have e1 := hk1.cell 1
      have f0 := hk2.cell 0
      have f1 := hk2.cell 1
      simp only [List.getElem?_toArray, List.getElem?_cons_zero, List.getElem?_cons_succ] at e0 e1 f0 f1
      have heq0 : (offs 0 []).length = 0 := rfl
      simp only [heq0]
      clear hb6 HN5 HUN5 he1 he2 HE5 heq0 hk1 hk2
      go_wp2_with fail
      refine (names_un w6 _ HUN6.out).mono ?_
      rintro e w' ⟨rfl, rfl⟩
      go_wp2_with fail
      refine (groups_un w6 _ _ HUN6.out).mono ?_
      rintro e w' ⟨rfl, rfl⟩
      go_wp2_with fail
      refine (bytes_un w6 _ HUN6.out).mono ?_
      rintro e w' ⟨rfl, rfl⟩
      go_wp2_with fail
      refine (Ib.newtable_any w6).mono ?_
      rintro e w7 ⟨tp, rfl, -, hb7⟩
      have HN7 := Lib.hid (HN6.out.later hb7)
      have HUN7 := Lib.hid (HUN6.out.later hb7)
      clear hb7 HN6 HUN6 e0 e1 f0 f1
      go_wp2_with fail
      refine (digest_un w7 _ _ HUN7.out).mono ?_
      rintro e w' ⟨rfl, rfl⟩
      go_wp2_with fail
      refine (clone_un w7 _ HUN7.out).mono ?_
      rintro e w' ⟨rfl, rfl⟩
      go_wp2_with fail
      go_roundw
      case rel => exact ⟨i + 1, by omega, by go_num, HN7.out⟩
      case measure => simp [intOf]; omega
    · have hke : i = 2 := by omega
      subst hke
      clear hi hlt
      have HB := Lib.hid HN.out.below
      have HPL := Lib.hid HN.out.pl
      clear HN HAU
      go_wp2_with fail
      refine (new_any wr).mono ?_
      rintro e w2 ⟨p, rfl, hz2, hb2⟩
      have HS : Hid (w.heap.size + 2 ≤ wr.heap.size ∧ wr.heap.size ≤ w2.heap.size) := Lib.hid ⟨HPL.out.lt, hb2.size⟩
      have HO2 := Lib.hid (on_new hz2)
      have HB2 := Lib.hid (HB.out.trans (hb2.mono HB.out.size))
      have HP2 := Lib.hid (HPL.out.below hb2 HPL.out.lt)
      clear hz2 hb2 HPL HB
      go_wp2_with fail
      have hba := op_below w2 (.cells #[.int .u8 1, .int .u8 2, .int .u8 3] 5)
      have hg : Blk (w2.alloc (.cells #[.int .u8 1, .int .u8 2, .int .u8 3] 5)) w2.heap.size 5 #[.int .u8 1, .int .u8 2, .int .u8 3] := Blk.new _ _ _
      generalize w2.alloc (.cells #[.int .u8 1, .int .u8 2, .int .u8 3] 5) = w3 at *
      have HO3 : Hid (On (fun k => k < w.heap.size + 2 ∨ k = w2.heap.size) w3 p St.zero) := Lib.hid ((HO2.out.skip hba).weaken (fun k hk => by
        have := HS.out
        have := hg.lt
        rcases hk with h | h
        · exact .inl (by omega)
        · exact .inr (by omega)))
      have HB3 := Lib.hid (HB2.out.trans (hba.mono HB2.out.size))
      have HP3 := Lib.hid (HP2.out.below hba HP2.out.lt)
      have HG3 := Lib.hid hg
      have HS3 : Hid (w.heap.size + 2 ≤ w2.heap.size) := Lib.hid (by have := HS.out; omega)
      clear hba hg HO2 HB2 HP2 HS
      generalize w2.heap.size = g at *
      refine (HO3.out.asked (client := 0) (time := 1) (o := o1) (X := fun _ => False) (A := none) (c := 0) (fun k hk => by have := HP3.out.lt; have := HG3.out.lt; rcases hk with h | h <;> omega) (ls_nil _ _) (by decide) app1).mono ?_
      rintro e w4 ⟨v4, B4, rfl, -, -, ho4, hc4⟩
      have HO4 := Lib.hid (ho4.weaken (N' := fun k => k < w.heap.size + 2 ∨ k = g) (fun k hk => .inl hk))
      have HB4 := Lib.hid (HB3.out.trans (hc4.below (fun k hk h => h.1 (.inl (by omega))) HB3.out.size))
      have HG4 := Lib.hid (HG3.out.ch hc4 (fun h => h.1 (.inr rfl)))
      have HP4 := Lib.hid (HP3.out.ch hc4 (fun h => h.1 (.inl (by omega))))
      clear ho4 hc4 HO3 HB3 HG3 HP3
      go_wp2_with fail
      have hb5 := op_below w4 (.cells #[.slice (some ⟨g, 0, none⟩) 3 3] 67)
      have hk5 : Blk (w4.alloc (.cells #[.slice (some ⟨g, 0, none⟩) 3 3] 67)) w4.heap.size 67 #[.slice (some ⟨g, 0, none⟩) 3 3] := Blk.new _ _ _
      generalize w4.alloc (.cells #[.slice (some ⟨g, 0, none⟩) 3 3] 67) = w5 at *
      have HO5 := Lib.hid (HO4.out.later hb5)
      have HB5 := Lib.hid (HB4.out.trans (hb5.mono HB4.out.size))
      have HG5 := Lib.hid (HG4.out.below hb5 HG4.out.lt)
      have HP5 := Lib.hid (HP4.out.below hb5 HP4.out.lt)
      refine (HO5.out.asked (client := 0) (time := 2) (o := oN) (X := fun _ => False) (A := some ⟨w4.heap.size, 0, none⟩) (c := 1) (fun k hk => by have := HP5.out.lt; have := HG5.out.lt; rcases hk with h | h <;> omega) (one_ls HG5.out hk5) (by decide) appN).mono ?_
      rintro e w6 ⟨v6, B6, rfl, hB6, hp6, ho6, hc6⟩
      obtain ⟨gq, cq, gr, cr, curq, curr, rfl, hq1, hq2, hq3, hr1, hr2, hr3⟩ := first_rec hp6 (by decide)
      have HO6 := Lib.hid ho6
      have HB6 := Lib.hid (HB5.out.trans (hc6.below (fun k hk h => h.1 (.inl (by omega))) HB5.out.size))
      have hg6 := HG5.out.ch hc6 (fun h => h.1 (.inr rfl))
      have HP6 := Lib.hid (HP5.out.ch hc6 (fun h => h.1 (.inl (by omega))))
      have HR6 := Lib.hid hr2
      have hgB : g < B6 := Nat.lt_of_lt_of_le HG5.out.lt hB6
      have m0 := hg6.cell 0
      have mf := hg6.frozen 0
      have r2 := hq2.cell 2
      rw [hq3] at r2
      have s1 := hr2.cell 1
      rw [hr3 1 (.int .u8 2) rfl] at s1
      have sf := hr2.frozen 1
      have n1 : gq ≠ g := by omega
      have n2 : gr ≠ g := by omega
      have n3 : g < w6.heap.size := hg6.lt
      have n4 : gq < w6.heap.size := hq2.lt
      have n5 : gr < w6.heap.size := hr2.lt
      have HRB := Lib.hid hr1
      simp only [List.getElem?_toArray, List.getElem?_cons_zero, List.getElem?_cons_succ] at m0
      simp only [List.length_cons, List.length_nil, Nat.reduceAdd] at r2
      clear hb5 hk5 HO4 HB4 HG4 HP4 HO5 HB5 HG5 HP5 hB6 hp6 ho6 hc6 hq2 hq3 hr2 hr3 hg6
      go_wp2_with fail
      have c7 : Ch (fun k => k = g ∨ k = gr) w6 ((w6.setCell ⟨g, 0, none⟩ (.int .u8 9)).setCell ⟨gr, 1, none⟩ (.int .u8 9)) := ((Ch.refl (fun k => k = g ∨ k = gr) w6).setCell (p := ⟨g, 0, none⟩) (fun _ => .inl rfl) _).setCell (p := ⟨gr, 1, none⟩) (fun _ => .inr rfl) _
      have hs3 := HS3.out
      have hrb := HRB.out
      have hlr := HR6.out.lt
      have HO7 := Lib.hid (((HO6.out.ch c7 (fun k hk => by
        rcases hk with h | h
        · exact .inl (.inr h)
        · exact .inr (by omega))).weaken (N' := fun k => k < w.heap.size + 2) (fun k hk => .inl (.inl hk))).later (op_below _ (.cells #[.int .i64 0, .int .i64 0] 30)))
      have HB7 := Lib.hid ((HB6.out.trans (c7.below (B := w.heap.size) (fun k hk h => by omega) HB6.out.size)).alloc (Nat.le_trans HB6.out.size c7.size) (.cells #[.int .i64 0, .int .i64 0] 30))
      have HP7 := Lib.hid ((HP6.out.ch c7 (fun h => by omega)).alloc (.cells #[.int .i64 0, .int .i64 0] 30))
      clear c7 HO6 HB6 HP6 HRB HR6 hgB m0 mf r2 s1 sf n1 n2 n3 n4 n5 hrb hlr hq1 hr1
      generalize ((w6.setCell ⟨g, 0, none⟩ (.int .u8 9)).setCell ⟨gr, 1, none⟩ (.int .u8 9)).alloc (.cells #[.int .i64 0, .int .i64 0] 30) = w7 at *
      refine (HO7.out.get [116] 0 (by decide)).mono ?_
      intro e w8 hgot
      rw [getN] at hgot
      obtain ⟨v8, rfl, hown8, hb8⟩ := hgot
      obtain ⟨g8, c8, cur8, rfl, hB8, hk8, hc8⟩ := own_blk hown8 (by decide)
      have HO8 := Lib.hid (HO7.out.skip hb8)
      have HB8 := Lib.hid (HB7.out.trans (hb8.mono HB7.out.size))
      have HP8 := Lib.hid (HP7.out.below hb8 HP7.out.lt)
      have m2 := hk8.cell 2
      rw [hc8 2 (.int .u8 3) rfl] at m2
      have mf := hk8.frozen 2
      have HK8 := Lib.hid (And.intro hB8 hk8.lt)
      have HS8 := Lib.hid HP7.out.lt
      simp only [List.length_cons, List.length_nil, Nat.reduceAdd]
      clear hown8 hb8 hB8 hk8 hc8 HO7 HB7 HP7 hs3
      go_wp2_with fail
      have c9 : Ch (fun k => k = g8) w8 (w8.setCell ⟨g8, 2, none⟩ (.int .u8 9)) := (Ch.refl (fun k => k = g8) w8).setCell (p := ⟨g8, 2, none⟩) (fun _ => rfl) _
      have hg8 := HK8.out
      have hs8 := HS8.out
      have HO9 := Lib.hid (HO8.out.ch c9 (fun k hk => .inr (by omega)))
      have HB9 := Lib.hid (HB8.out.trans (c9.below (B := w.heap.size) (fun k hk h => by omega) HB8.out.size))
      have HP9 := Lib.hid (HP8.out.ch c9 (fun h => by omega))
      clear c9 HO8 HB8 HP8 HK8 HS8 hg8 hs8 m2 mf
      generalize w8.setCell ⟨g8, 2, none⟩ (.int .u8 9) = w9 at *
      refine (HO9.out.get [116] 0 (by decide)).mono ?_
      intro e wa hgot
      rw [getN] at hgot
      obtain ⟨va, rfl, howna, hba⟩ := hgot
      obtain ⟨Av, cv, rfl⟩ := own_shape howna
      have HVA := Lib.hid (Sl.of_own (X := fun _ => False) howna (fun _ _ _ h => h))
      have HBA := Lib.hid (HB9.out.trans (hba.mono HB9.out.size))
      have HPA := Lib.hid (HP9.out.below hba HP9.out.lt)
      simp only [List.length_cons, List.length_nil, Nat.reduceAdd] at HVA ⊢
      clear howna hba HO9 HB9 HP9
      go_wp2_with fail
      have hka : Blk (wa.drew.alloc (.cells #[.int .u8 1, .int .u8 2, .int .u8 3] 5)) (w.heap.size + 1) 69 #[.string ⟨x.1.toArray⟩, .int .i64 x.2.1, u] := Blk.alloc (show Blk wa.drew _ _ _ from HPA.out) _
      have hbl : Below wa.heap.size wa (wa.drew.alloc (.cells #[.int .u8 1, .int .u8 2, .int .u8 3] 5)) := (Xj.below_drew0 wa).trans (op_below wa.drew _)
      have HQ1 : Hid (Calls Tryz.prog 21 #[.slice Av 3 cv, .slice (some ⟨wa.heap.size, 0, none⟩) 3 3] (wa.drew.alloc (.cells #[.int .u8 1, .int .u8 2, .int .u8 3] 5)) fun e wb => e = .returned (.bool true) ∧ Below w.heap.size w wb ∧ Blk wb (w.heap.size + 1) 69 #[.string ⟨x.1.toArray⟩, .int .i64 x.2.1, u]) := Lib.hid ((equal_any _ (fun _ => False) (fun _ => False) (.slice Av 3 cv) (.slice (some ⟨wa.heap.size, 0, none⟩) 3 3) 3 3 [1, 2, 3] [1, 2, 3] (HVA.out.after hbl) (sl_blk (cs := BVs [1, 2, 3]) (Blk.new_at rfl rfl) _ (fun h => h) (by simp [maxLen, BVs]))).mono (by
        rintro e w' ⟨rfl, rfl⟩
        exact ⟨rfl, HBA.out.trans (hbl.mono HBA.out.size), hka⟩))
      have HQ2 := Lib.hid fun (W : World) (v v' : Value) (h : Sl W (fun _ => False) 1 v (plQ x).length (BVs (plQ x))) (h' : Sl W (fun _ => False) 1 v' (plQ x).length (BVs (plQ x))) => equal_any W (fun _ => False) (fun _ => False) v v' _ _ (plQ x) (plQ x) h h'
      have hee : (plQ x == plQ x) = true := beq_self_eq_true _
      simp only [hee] at HQ2
      have z := HPA.out
      have a0 : wa.cell? ⟨w.heap.size + 1, 0, none⟩ = some (.string ⟨x.1.toArray⟩) := z.cell 0
      have a1 : wa.cell? ⟨w.heap.size + 1, 1, none⟩ = some (.int .i64 x.2.1) := z.cell 1
      have a2 : wa.cell? ⟨w.heap.size + 1, 2, none⟩ = some u := z.cell 2
      have b0 : wa.drew.cell? ⟨w.heap.size + 1, 0, none⟩ = some (.string ⟨x.1.toArray⟩) := a0
      have b1 : wa.drew.cell? ⟨w.heap.size + 1, 1, none⟩ = some (.int .i64 x.2.1) := a1
      have b2 : wa.drew.cell? ⟨w.heap.size + 1, 2, none⟩ = some u := a2
      have l0 : (wa.drew.alloc (.cells #[.int .u8 1, .int .u8 2, .int .u8 3] 5)).cell? ⟨w.heap.size + 1, 0, none⟩ = some (.string ⟨x.1.toArray⟩) := hka.cell 0
      have l1 : (wa.drew.alloc (.cells #[.int .u8 1, .int .u8 2, .int .u8 3] 5)).cell? ⟨w.heap.size + 1, 1, none⟩ = some (.int .i64 x.2.1) := hka.cell 1
      have l2 : (wa.drew.alloc (.cells #[.int .u8 1, .int .u8 2, .int .u8 3] 5)).cell? ⟨w.heap.size + 1, 2, none⟩ = some u := hka.cell 2
      have k0 : (wa.alloc (.cells #[.int .u8 1, .int .u8 2, .int .u8 3] 5)).drew.cell? ⟨w.heap.size + 1, 0, none⟩ = some (.string ⟨x.1.toArray⟩) := l0
      have k1 : (wa.alloc (.cells #[.int .u8 1, .int .u8 2, .int .u8 3] 5)).drew.cell? ⟨w.heap.size + 1, 1, none⟩ = some (.int .i64 x.2.1) := l1
      have k2 : (wa.alloc (.cells #[.int .u8 1, .int .u8 2, .int .u8 3] 5)).drew.cell? ⟨w.heap.size + 1, 2, none⟩ = some u := l2
      clear hka hbl z hee HVA HBA HPA
      go_region_held3 (fun w' => w'.cell? ⟨w.heap.size + 1, 0, none⟩ = some (.string ⟨x.1.toArray⟩) ∧ w'.cell? ⟨w.heap.size + 1, 1, none⟩ = some (.int .i64 x.2.1) ∧ w'.cell? ⟨w.heap.size + 1, 2, none⟩ = some u) (first | with_reducible exact ⟨a0, a1, a2⟩ | with_reducible exact ⟨b0, b1, b2⟩ | with_reducible exact ⟨l0, l1, l2⟩ | with_reducible exact ⟨k0, k1, k2⟩ | with_reducible exact ⟨e0, e1, e2⟩ | with_reducible exact ⟨f0, f1, f2⟩ | with_reducible exact ⟨h0', h1', h2'⟩)
        (first
          | (go_at_call 21; refine HQ1.out.mono ?_; rintro e wb ⟨rfl, hbb, hkb⟩; have e0 : wb.cell? ⟨w.heap.size + 1, 0, none⟩ = some (.string ⟨x.1.toArray⟩) := hkb.cell 0; have e1 : wb.cell? ⟨w.heap.size + 1, 1, none⟩ = some (.int .i64 x.2.1) := hkb.cell 1; have e2 : wb.cell? ⟨w.heap.size + 1, 2, none⟩ = some u := hkb.cell 2)
          | (go_at_call 28; refine Calls.mono (HPB.out wb hbb) ?_; rintro e wc ⟨vc, rfl, hoc, hbc⟩; have hkc := hkb.below hbc hkb.lt; have hbc' := hbb.trans (hbc.mono hbb.size); have f0 : wc.cell? ⟨w.heap.size + 1, 0, none⟩ = some (.string ⟨x.1.toArray⟩) := hkc.cell 0; have f1 : wc.cell? ⟨w.heap.size + 1, 1, none⟩ = some (.int .i64 x.2.1) := hkc.cell 1; have f2 : wc.cell? ⟨w.heap.size + 1, 2, none⟩ = some u := hkc.cell 2)
          | (go_at_call 29; refine Calls.mono (HRB.out wc hbc') ?_; rintro e wd ⟨vd, rfl, hod, hbd⟩; have hkd := hkc.below hbd hkc.lt; have hbd' := hbc'.trans (hbd.mono hbc'.size); have h0' : wd.cell? ⟨w.heap.size + 1, 0, none⟩ = some (.string ⟨x.1.toArray⟩) := hkd.cell 0; have h1' : wd.cell? ⟨w.heap.size + 1, 1, none⟩ = some (.int .i64 x.2.1) := hkd.cell 1; have h2' : wd.cell? ⟨w.heap.size + 1, 2, none⟩ = some u := hkd.cell 2)
          | (go_at_call 21; refine Calls.mono (HQ2.out wd vc vd ((Sl.of_own (X := fun _ => False) hoc (fun _ _ _ h => h)).after hbd) (Sl.of_own (X := fun _ => False) hod (fun _ _ _ h => h))) ?_; rintro e we ⟨rfl, rfl⟩))
      all_goals
        have HE := Lib.hid hbd'
        clear hbd' hbc' hoc hod hbc hbd hbb hkb hkc hkd e0 e1 e2 f0 f1 f2
        go_wp2_with fail
        go_ret
        exact ⟨rfl, HE.out⟩
end Go.Proofs.YtmefagflnhkbdaaGreat.Xp

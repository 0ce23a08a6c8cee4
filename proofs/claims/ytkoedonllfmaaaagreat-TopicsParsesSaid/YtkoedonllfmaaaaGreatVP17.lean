/-
  Contracts of the program's topics: Bounds, Get.
-/
import Derived.Test.YtkoedonllfmaaaaGreatVP05
import Derived.Test.YtkoedonllfmaaaaGreatVP16
import Derived.Test.YtkoedonllfmaaaaGreatVP03
import Derived.Test.YtkoedonllfmaaaaGreatBulk
namespace Go.Proofs.YtkoedonllfmaaaaGreat.Am
set_option linter.unusedSimpArgs false
open Go Go.RowKit Ck Kw Ga Kf Km Pm Pz Tm Tn Tq To Aa Ab Ac
attribute [local go_sem ↓] Go.wp_at_zero Go.wp_at_succ
set_option linter.unusedVariables false

set_option maxRecDepth 100000 in
set_option maxHeartbeats 1000000 in
theorem bounds_any (w : World) (S R : Nat → Prop) (p : Nat) (s : St) (x : Tx) (hx : x.length ≤ 140737488355328) (h : Tz w S R p s) :
    Calls Tryz.prog 52 #[.pointer (some ⟨p, 0, none⟩), .string ⟨x.toArray⟩] w fun e w' => e = .returned (.tuple #[.int .i64 (boundsT s.L x).1, .int .i64 (boundsT s.L x).2.1, .int .i64 (boundsT s.L x).2.2]) ∧ Below w.heap.size w w' := by
  obtain ⟨m, D, G, V, M, F, hP⟩ := h
  have HF := Lib.hid (find_on w S R p m s D G V M F x hx hP)
  cases hf : findT s.L x with
  | none =>
    have e : boundsT s.L x = (0, 0, 4) := by rw [boundsT, hf]
    rw [e]
    rw [hf] at HF
    unfold PV at HF
    simp only [Option.map_none, Option.isSome_none] at HF
    clear hP hf e hx
    go_enter Tryz.func52, Tryz.ntmps52
    go_wp2_with fail
    refine HF.out.mono ?_
    rintro e w2 ⟨rfl, rfl⟩
    go_wp2_with fail
    go_ret3
    exact ⟨rfl, Below.refl _ _⟩
  | some t =>
    have e : boundsT s.L x = (t.base, t.next, 0) := by rw [boundsT, hf]
    rw [e]
    obtain ⟨ht, hn⟩ := findT_some hf
    have hT := hP.top t ht
    have hfit := hP.good.L.fit t ht
    have HN := Lib.hid (next_any w.drew _ R _ t _ _ (Tg.later hT (below_drewN (Below.refl _ w) 1)) hfit.base hfit.next)
    have c0 : w.cell? ⟨G t.n, 0, none⟩ = some (.int .i64 t.base) := hT.blk.cell 0
    have HT := Lib.hid hT
    rw [hf] at HF
    unfold PV at HF
    simp only [Option.map_some, Option.isSome_some] at HF
    clear hP hf e hx hT hfit ht hn
    go_enter Tryz.func52, Tryz.ntmps52
    go_wp2_with fail
    refine HF.out.mono ?_
    rintro e w2 ⟨rfl, rfl⟩
    go_wp2_with fail
    go_region_held3 (fun w' => w'.cell? ⟨G t.n, 0, none⟩ = some (.int .i64 t.base)) (first | exact c0 | exact j0)
      (first
        | (go_at_call 40; refine HN.out.mono ?_; rintro e w3 ⟨rfl, hb3⟩; have hb3' := below_of_drew hb3; have j0 : w3.cell? ⟨G t.n, 0, none⟩ = some (.int .i64 t.base) := (HT.out.blk.below hb3' HT.out.blk.lt).cell 0))
    all_goals
      go_wp2_with fail
      go_ret3
      exact ⟨rfl, hb3'⟩
/-- What Get leaves. -/
def Got (w : World) (r : Tx × Int) (e : Ending) (w' : World) : Prop := ∃ v, e = .returned (.tuple #[v, .int .i64 r.2]) ∧ w'.ownsRow w.heap.size 5 1 v r.1.length (BVs r.1) ∧ Below w.heap.size w w'
set_option maxRecDepth 100000 in
set_option maxHeartbeats 1000000 in
theorem get_any (w : World) (S R : Nat → Prop) (p : Nat) (s : St) (x : Tx) (k : Int) (hx : x.length ≤ 140737488355328) (h : Tz w S R p s) :
    Calls Tryz.prog 15 #[.pointer (some ⟨p, 0, none⟩), .string ⟨x.toArray⟩, .int .i64 k] w (Got w (getT s.L x k)) := by
  obtain ⟨m, D, G, V, M, F, hP⟩ := h
  have HF := Lib.hid (find_on w S R p m s D G V M F x hx hP)
  cases hf : findT s.L x with
  | none =>
    have e : getT s.L x k = ([], 4) := by rw [getT, hf]
    rw [e]
    rw [hf] at HF
    unfold PV at HF
    simp only [Option.map_none, Option.isSome_none] at HF
    clear hP hf e hx
    go_enter Tryz.func15, Tryz.ntmps15
    go_wp2_with fail
    refine HF.out.mono ?_
    rintro e w2 ⟨rfl, rfl⟩
    go_wp2_with fail
    go_ret2
    exact ⟨_, rfl, World.ownsRow_nil _ _ _ _, Below.refl _ _⟩
  | some t =>
    have e : getT s.L x k = if k < t.base ∨ t.next ≤ k then ([], 72) else (t.recs.getD (k - t.base).toNat [], 0) := by rw [getT, hf]
    rw [e]
    obtain ⟨ht, hn⟩ := findT_some hf
    have hT := hP.top t ht
    have hfit := hP.good.L.fit t ht
    have HN := Lib.hid (next_any w _ R _ t _ _ hT hfit.base hfit.next)
    have c0 : w.cell? ⟨G t.n, 0, none⟩ = some (.int .i64 t.base) := hT.blk.cell 0
    have HT := Lib.hid hT
    obtain ⟨vals, h1, h2⟩ := hT.recs
    obtain ⟨Ar, cr, hV⟩ := own_shape h1
    have HV := Lib.hid (And.intro h1 h2)
    have hb0 := hfit.base
    have hb1 := hfit.next
    have hfew := hfit.few
    have heach := hfit.each
    have HNX : Hid (t.next = t.base + (t.recs.length : Int)) := Lib.hid rfl
    simp only [maxNum] at hb1
    have HE := Lib.hid heach
    rw [hf] at HF
    unfold PV at HF
    simp only [Option.map_some, Option.isSome_some] at HF
    clear hP hf e hx hT hfit ht hn h1 h2 heach
    by_cases q1 : k < t.base
    · rw [if_pos (.inl q1)]
      go_enter Tryz.func15, Tryz.ntmps15
      go_wp2_with fail
      refine HF.out.mono ?_
      rintro e w2 ⟨rfl, rfl⟩
      go_wp2_with fail
      go_ret2
      exact ⟨_, rfl, World.ownsRow_nil _ _ _ _, Below.refl _ _⟩
    · have q1' : t.base ≤ k := by omega
      by_cases q2 : t.next ≤ k
      · rw [if_pos (.inr q2)]
        clear q1
        go_enter Tryz.func15, Tryz.ntmps15
        go_wp2_with fail
        refine HF.out.mono ?_
        rintro e w2 ⟨rfl, rfl⟩
        go_wp2_with fail
        refine HN.out.mono ?_
        rintro e w3 ⟨rfl, hb3⟩
        have HB3 := Lib.hid hb3
        clear hb3
        go_wp2_with fail
        go_ret2
        exact ⟨_, rfl, World.ownsRow_nil _ _ _ _, HB3.out⟩
      · have q2' : k < t.next := by omega
        have hj : (k - t.base).toNat < t.recs.length := by have := HNX.out; omega
        rw [if_neg (by omega), List.getD_eq_getElem?_getD, List.getElem?_eq_getElem hj]
        have hk : k = t.base + ((k - t.base).toNat : Int) := by omega
        generalize (k - t.base).toNat = j at *
        subst hk
        simp only [Option.getD_some]
        have hw : IntKind.i64.wrap (t.base + (j : Int) - t.base) = (j : Int) := by
          rw [show t.base + (j : Int) - t.base = (j : Int) from by omega]
          exact Ga.wrap64 (by omega) (by omega)
        have hw2 : t.base + (j : Int) - t.base = (j : Int) := by omega
        have hw3 : IntKind.i64.wrap (j : Int) = (j : Int) := Ga.wrap64 (by omega) (by omega)
        have hj2 : (j : Int) < (t.recs.length : Int) := by omega
        have HJ := Lib.hid hj
        clear q1 q2
        go_enter Tryz.func15, Tryz.ntmps15
        go_wp2_with fail
        refine HF.out.mono ?_
        rintro e w2 ⟨rfl, rfl⟩
        go_wp2_with fail
        refine HN.out.mono ?_
        rintro e w3 ⟨rfl, hb3⟩
        have HB3 := Lib.hid hb3
        have HT3 := Lib.hid (Tg.later HT.out hb3)
        clear hb3 c0
        obtain ⟨u, hu, hs⟩ := HV.out.2 j HJ.out
        have hs3 := hs.after HB3.out
        have hcell : ∃ g, Ar = some ⟨g, 0, none⟩ ∧ w3.cell? ⟨g, j, none⟩ = some u := by
          have ho := own_below HV.out.1 HB3.out
          rw [hV] at ho
          obtain ⟨g, c, hv, hb, hlt⟩ := ho.form (by have := HJ.out; omega)
          obtain ⟨rfl, _, rfl⟩ := Value.slice.inj hv
          exact ⟨g, rfl, by rw [ho.cellAt j (by have := HJ.out; omega), hu]⟩
        obtain ⟨g, rfl, hcell⟩ := hcell
        obtain ⟨Au, cu, rfl, -⟩ := id hs3
        have HCL := Lib.hid (clone_sh _ _ _ t.recs[j] w3.drew hs3.drew (by have := HE.out _ (List.getElem_mem HJ.out); omega))
        have c0 : w3.cell? ⟨G t.n, 0, none⟩ = some (.int .i64 t.base) := HT3.out.blk.cell 0
        have c1 : w3.cell? ⟨G t.n, 1, none⟩ = some (.slice (some ⟨g, 0, none⟩) t.recs.length cr) := by
          have := HT3.out.blk.cell 1
          rw [← hV]
          simpa using this
        clear hs hs3 hu
        go_wp2_with fail
        go_region_held3 (fun w' => w'.cell? ⟨G t.n, 0, none⟩ = some (.int .i64 t.base) ∧ w'.cell? ⟨G t.n, 1, none⟩ = some (.slice (some ⟨g, 0, none⟩) t.recs.length cr) ∧ w'.cell? ⟨g, j, none⟩ = some (.slice Au t.recs[j].length cu)) (first | exact ⟨c0, c1, hcell⟩ | exact ⟨j0, j1, j2⟩)
          (first
            | (go_at_call 41; refine HCL.out.mono ?_; rintro e w4 ⟨A4, c4, rfl, ho4, hb4⟩; have hb4' : Below w3.heap.size w3 w4 := below_of_drew hb4; have j0 : w4.cell? ⟨G t.n, 0, none⟩ = some (.int .i64 t.base) := (hb4'.cell (World.block_lt_of_cell? _ _ c0)).trans c0; have j1 : w4.cell? ⟨G t.n, 1, none⟩ = some (.slice (some ⟨g, 0, none⟩) t.recs.length cr) := (hb4'.cell (World.block_lt_of_cell? _ _ c1)).trans c1; have j2 : w4.cell? ⟨g, j, none⟩ = some (.slice Au t.recs[j].length cu) := (hb4'.cell (World.block_lt_of_cell? _ _ hcell)).trans hcell))
        all_goals
          go_wp2_with fail
          go_ret2
          exact ⟨_, rfl, own_base ho4 HB3.out.size, below_tr HB3.out hb4'⟩
end Go.Proofs.YtkoedonllfmaaaaGreat.Am

/-
  The contract of the laws' live.
-/
namespace Go.Proofs.YtkoedonllfmaaaaGreat.An
set_option linter.unusedSimpArgs false
open Go Go.RowKit Ck Kw Ga Kf Km Kd Pm Pz Pe Pg Py Qb Qg Tm Tn Tq To Aa Ab Ac Ad Ae Af Ag Ah Ai Aj Al Am
attribute [local go_sem ↓] Go.wp_at_zero Go.wp_at_succ
set_option linter.unusedVariables false

def o1 : O := ⟨1, [116], [], 0, []⟩
def o2 : O := ⟨2, [116], [], 0, [[1], [2]]⟩
def o3 : O := ⟨0, [], [], 0, []⟩
def s1 : St := (appS St.zero 0 1 o1).2.2.2
def s2 : St := (appS s1 1 1 o2).2.2.2
theorem app1 : appS St.zero 0 1 o1 = ((0, 0), [], true, s1) := by decide +kernel
theorem app2 : appS s1 1 1 o2 = ((0, 0), [([116], 0, [1]), ([116], 1, [2])], true, s2) := by decide +kernel
theorem app3 : appS s2 1 1 o3 = ((0, 0), [], false, s2) := by decide +kernel
theorem get4 : getT s2.L [116] 1 = ([2], 0) := by decide +kernel
theorem ls_nil (w : World) (X : Nat → Prop) : Ls w X (.slice none 0 0) [] := ⟨[], Sl.nil _ _ _, fun i hi => absurd hi (by simp)⟩
/-- Topics that are in none of the blocks N. -/
def On (N : Nat → Prop) (w : World) (p : Nat) (s : St) : Prop := ∃ S R, Tz w S R p s ∧ (∀ k, S k → ¬ N k ∧ k < w.heap.size) ∧ ∀ k, R k → ¬ N k
section
variable {N N' : Nat → Prop} {p : Nat} {w w' : World} {s s' : St} {X : Nat → Prop}
theorem On.ch (h : On N w p s) (c : Ch X w w') (hx : ∀ k, X k → N k) : On N w' p s := by
  obtain ⟨S, R, h1, h2, h3⟩ := h
  exact ⟨S, R, h1.ch c (fun k hk hX => (h2 k hk).1 (hx k hX)) (fun k hk hX => h3 k hk (hx k hX)), fun k hk => ⟨(h2 k hk).1, Nat.lt_of_lt_of_le (h2 k hk).2 c.size⟩, h3⟩
theorem On.later (h : On N w p s) (b : Below w.heap.size w w') : On N w' p s := h.ch (Ch.of_below (S := fun _ => False) b (Nat.le_refl _)) (fun _ h => h.elim)
theorem On.weaken (h : On N w p s) (hn : ∀ k, N' k → N k) : On N' w p s := by
  obtain ⟨S, R, h1, h2, h3⟩ := h
  exact ⟨S, R, h1, fun k hk => ⟨fun h => (h2 k hk).1 (hn k h), (h2 k hk).2⟩, fun k hk h => h3 k hk (hn k h)⟩
/-- What is made beside them is none of them. -/
theorem On.skip (h : On N w p s) (b : Below w.heap.size w w') : On (fun k => N k ∨ (w.heap.size ≤ k ∧ k < w'.heap.size)) w' p s := by
  obtain ⟨S, R, h1, h2, h3⟩ := h
  refine ⟨S, R, h1.later b, fun k hk => ⟨fun h => ?_, Nat.lt_of_lt_of_le (h2 k hk).2 b.size⟩, fun k hk h => ?_⟩
  · rcases h with h | h
    · exact (h2 k hk).1 h
    · have := (h2 k hk).2; omega
  · rcases h with h | h
    · exact h3 k hk h
    · have := (Tz.rlt h1 k hk).2; omega
theorem On.good (h : On N w p s) : GoodS s := by
  obtain ⟨S, R, h1, h2, h3⟩ := h
  exact h1.good
theorem on_new (h : Tz w' (New w w') (fun _ => False) p s) : On (fun k => k < w.heap.size) w' p s := ⟨_, _, h, fun k hk => ⟨by have := hk.1; omega, hk.2⟩, fun k hk => hk.elim⟩
/-- What a request leaves of topics that are in none of the blocks N. -/
theorem On.asked {client time : Int} {o : O} {A : Option Addr} {c : Nat} {k off : Int} {b : Bool} {pl : List (Tx × Int × Tx)} (h : On N w p s) (hN : ∀ k, N k → k < w.heap.size) (hls : Ls w X (.slice A o.recs.length c) o.recs) (hl : o.recs.length ≤ 140737488355328) (ha : appS s client time o = ((k, off), pl, b, s')) :
    Calls Tryz.prog 7 #[.pointer (some ⟨p, 0, none⟩), RV client time o A c] w fun e w' => ∃ v B, e = .returned (.tuple #[.agg #[.int .i64 k, .int .i64 off], v, .bool b]) ∧ w.heap.size ≤ B ∧ Ps w' B v pl ∧ On (fun k => N k ∨ (B ≤ k ∧ k < w'.heap.size)) w' p s' ∧ Ch (fun k => ¬ N k ∧ k < w.heap.size) w w' := by
  obtain ⟨S, R, h1, h2, h3⟩ := h
  refine (apply_any w S R p s client time o X A c h1 hls hl).mono ?_
  intro e w' he
  unfold Asked at he
  rw [ha] at he
  obtain ⟨v, B, hv, hB, hp, S', R', g1, g2, g3, g4⟩ := he
  have hs := g4.size
  refine ⟨v, B, hv, hB, hp, ⟨_, R', Tz.bound g1, fun k hk => ⟨fun h => ?_, hk.2⟩, fun k hk h => ?_⟩, g4.mono (fun k hk hs => h2 k hs)⟩
  · obtain ⟨q1, q2⟩ := g2 k hk.1
    rcases h with h | h
    · rcases q1 with q | q
      · exact (h2 k q).1 h
      · have := hN k h; omega
    · omega
  · obtain ⟨q1, q2⟩ := g3 k hk
    rcases h with h | h
    · rcases q1 with q | q
      · exact h3 k q h
      · have := hN k h; omega
    · omega
end
theorem On.get {N : Nat → Prop} {p : Nat} {w : World} {s : St} (h : On N w p s) (x : Tx) (k : Int) (hx : x.length ≤ 140737488355328) : Calls Tryz.prog 15 #[.pointer (some ⟨p, 0, none⟩), .string ⟨x.toArray⟩, .int .i64 k] w (Got w (getT s.L x k)) := by
  obtain ⟨S, R, h1, -⟩ := h
  exact get_any w S R p s x k hx h1
theorem second_off {w : World} {B : Nat} {v : Value} {n m : Tx} {x y : Tx} {i j : Int} (h : Ps w B v [(n, i, x), (m, j, y)]) : ∃ g c, v = .slice (some ⟨g, 0, none⟩) 2 c ∧ w.cell? ⟨g, 4, none⟩ = some (.int .i64 j) := by
  obtain ⟨l, hl, hr, -⟩ := h
  obtain ⟨g, c, rfl, hb, hlt⟩ := hr.form (by simp)
  refine ⟨g, c, rfl, ?_⟩
  have hc := hr.cells (g := g) rfl 4 (.int .i64 j)
  have ha : (⟨g, 0, none⟩ : Addr).add 4 = ⟨g, 4, none⟩ := rfl
  rw [ha] at hc
  refine hc ?_
  match l, hl with
  | [a, b], hl =>
    simp only [List.map_cons, List.map_nil, List.cons.injEq, and_true] at hl
    obtain ⟨-, hb⟩ := hl
    simp [PCs, PC, hb]
theorem one_rec (w : World) (x : UInt8) {cs : Array Value} (hc : cs = #[.int .u8 (x.toNat : Int)]) {g : Nat} (hg : g = w.heap.size) : Sl (w.alloc (.cells cs 5)) (fun _ => False) 1 (.slice (some ⟨g, 0, none⟩) 1 1) 1 (BVs [x]) := by
  subst hg
  exact Sl_lit w (fun _ => False) 5 [x] (by rw [hc]; rfl) rfl (by omega) (fun h => h)
/-- Two records of one byte each. -/
theorem two_recs (w : World) (x y : UInt8) {c1 c2 : Array Value} (h1 : c1 = #[.int .u8 (x.toNat : Int)]) (h2 : c2 = #[.int .u8 (y.toNat : Int)]) {g : Nat} (hg : g = w.heap.size) :
    Ls (((w.alloc (.cells c1 5)).alloc (.cells c2 5)).alloc (.cells #[.slice (some ⟨g, 0, none⟩) 1 1, .slice (some ⟨g + 1, 0, none⟩) 1 1] 55)) (fun _ => False) (.slice (some ⟨g + 1 + 1, 0, none⟩) 2 2) [[x], [y]] := by
  have b1 : Below ((w.alloc (.cells c1 5))).heap.size (w.alloc (.cells c1 5)) ((w.alloc (.cells c1 5)).alloc (.cells c2 5)) := op_below _ _
  have s1 := ((one_rec w x h1 hg).after (op_below _ (.cells c2 5))).after (op_below _ (.cells #[.slice (some ⟨g, 0, none⟩) 1 1, .slice (some ⟨g + 1, 0, none⟩) 1 1] 55))
  have s2 := (one_rec (w.alloc (.cells c1 5)) y h2 (g := g + 1) (by simp [hg])).after (op_below _ (.cells #[.slice (some ⟨g, 0, none⟩) 1 1, .slice (some ⟨g + 1, 0, none⟩) 1 1] 55))
  have hb : Blk (((w.alloc (.cells c1 5)).alloc (.cells c2 5)).alloc (.cells #[.slice (some ⟨g, 0, none⟩) 1 1, .slice (some ⟨g + 1, 0, none⟩) 1 1] 55)) (g + 1 + 1) 55 #[.slice (some ⟨g, 0, none⟩) 1 1, .slice (some ⟨g + 1, 0, none⟩) 1 1] := Blk.new_at (by simp [hg]) rfl
  refine ⟨[.slice (some ⟨g, 0, none⟩) 1 1, .slice (some ⟨g + 1, 0, none⟩) 1 1], ⟨_, _, rfl, rfl, Nat.le_refl _, by simp [maxLen], fun _ => ⟨_, rfl, hb.lt, fun h => h, fun j u hu => ?_⟩⟩, fun i hi => ?_⟩
  · have ha : (⟨g + 1 + 1, 0, none⟩ : Addr).add j = ⟨g + 1 + 1, j, none⟩ := by unfold Addr.add; split <;> simp_all
    rw [ha, hb.cell j]
    simpa using hu
  · match i, hi with
    | 0, _ => exact ⟨_, rfl, s1⟩
    | 1, _ => exact ⟨_, rfl, s2⟩
set_option maxRecDepth 100000 in
set_option maxHeartbeats 2000000 in
theorem live_any (w : World) : Calls Tryz.prog 5 #[] w fun e w' => e = .returned (.bool true) ∧ Below w.heap.size w w' := by
  go_enter Tryz.func5, Tryz.ntmps5
  go_wp2_with fail
  refine (new_any w).mono ?_
  rintro e w1 ⟨p, rfl, hz1, hb1⟩
  have HO1 := Lib.hid (on_new hz1)
  have HB1 := Lib.hid hb1
  clear hz1 hb1
  go_wp2_with fail
  refine (HO1.out.asked (client := 0) (time := 1) (o := o1) (X := fun _ => False) (A := none) (c := 0) (fun k hk => by have := HB1.out.size; omega) (ls_nil _ _) (by decide) app1).mono ?_
  rintro e w2 ⟨v2, B2, rfl, hB2, hp2, ho2, hc2⟩
  have hb2 := HB1.out.trans (hc2.below (fun k hk h => h.1 hk) HB1.out.size)
  have HO2 := Lib.hid (ho2.weaken (N' := fun k => k < w.heap.size) (fun k hk => .inl hk))
  have HB2 := Lib.hid hb2
  clear hB2 hp2 ho2 hc2 hb2
  go_wp2_with fail
  have hba : Below w2.heap.size w2 ((((w2.alloc (.cells #[.int .i64 0, .int .i64 0] 30)).alloc (.cells #[.int .u8 1] 5)).alloc (.cells #[.int .u8 2] 5)).alloc (.cells #[.slice (some ⟨w2.heap.size + 1, 0, none⟩) 1 1, .slice (some ⟨w2.heap.size + 1 + 1, 0, none⟩) 1 1] 55)) :=
    (((op_below w2 _).trans ((op_below _ _).mono (by simp))).trans ((op_below _ _).mono (by simp; omega))).trans ((op_below _ _).mono (by simp; omega))
  have hls := two_recs (w2.alloc (.cells #[.int .i64 0, .int .i64 0] 30)) 1 2 (c1 := #[.int .u8 1]) (c2 := #[.int .u8 2]) rfl rfl (g := w2.heap.size + 1) (by simp)
  have hra : Blk ((((w2.alloc (.cells #[.int .i64 0, .int .i64 0] 30)).alloc (.cells #[.int .u8 1] 5)).alloc (.cells #[.int .u8 2] 5)).alloc (.cells #[.slice (some ⟨w2.heap.size + 1, 0, none⟩) 1 1, .slice (some ⟨w2.heap.size + 1 + 1, 0, none⟩) 1 1] 55)) w2.heap.size 30 #[.int .i64 0, .int .i64 0] := (((Blk.new w2 _ _).alloc _).alloc _).alloc _
  generalize ((((w2.alloc (.cells #[.int .i64 0, .int .i64 0] 30)).alloc (.cells #[.int .u8 1] 5)).alloc (.cells #[.int .u8 2] 5)).alloc (.cells #[.slice (some ⟨w2.heap.size + 1, 0, none⟩) 1 1, .slice (some ⟨w2.heap.size + 1 + 1, 0, none⟩) 1 1] 55)) = w3 at hba hls hra ⊢
  have HO3 := Lib.hid (HO2.out.skip hba)
  have HB3 := Lib.hid (HB2.out.trans (hba.mono HB2.out.size))
  have HZ3 := Lib.hid (And.intro hba hra)
  have hN3 : ∀ k, (k < w.heap.size ∨ (w2.heap.size ≤ k ∧ k < w3.heap.size)) → k < w3.heap.size := fun k hk => by have := HB3.out.size; omega
  refine (HO3.out.asked (client := 1) (time := 1) (o := o2) (X := fun _ => False) (A := some ⟨w2.heap.size + 1 + 1 + 1, 0, none⟩) (c := 2) hN3 hls (by decide) app2).mono ?_
  rintro e w4 ⟨v4, B4, rfl, hB4, hp4, ho4, hc4⟩
  have HO4 := Lib.hid ho4
  have HP4 := Lib.hid hp4
  have HB4 := Lib.hid (HB3.out.trans (hc4.below (fun k hk h => h.1 (.inl hk)) HB3.out.size))
  have HR4 := Lib.hid (HZ3.out.2.ch hc4 (fun h => h.1 (.inr ⟨Nat.le_refl _, HZ3.out.2.lt⟩)))
  have HN4 := Lib.hid hB4
  have HS4 := Lib.hid hc4.size
  clear hba hls hra hN3 hB4 hp4 ho4 hc4
  go_wp2_with fail
  have hb5 := op_below w4 (.cells #[.int .i64 0, .int .i64 0] 30)
  have hrb : Blk (w4.alloc (.cells #[.int .i64 0, .int .i64 0] 30)) w4.heap.size 30 #[.int .i64 0, .int .i64 0] := Blk.new w4 _ _
  generalize w4.alloc (.cells #[.int .i64 0, .int .i64 0] 30) = w5 at hb5 hrb ⊢
  have HO5 := Lib.hid (HO4.out.skip hb5)
  have HB5 := Lib.hid (HB4.out.trans (hb5.mono HB4.out.size))
  have HP5 := Lib.hid (HP4.out.later hb5)
  have HR5 := Lib.hid (And.intro (HR4.out.below hb5 HR4.out.lt) hrb)
  have HZ5 := Lib.hid hb5.size
  have hlt := HZ3.out.2.lt
  have hN5 : ∀ k, (((k < w.heap.size ∨ (w2.heap.size ≤ k ∧ k < w3.heap.size)) ∨ (B4 ≤ k ∧ k < w4.heap.size)) ∨ (w4.heap.size ≤ k ∧ k < w5.heap.size)) → k < w5.heap.size := fun k hk => by have := HB3.out.size; have := HS4.out; have := HZ5.out; omega
  refine (HO5.out.asked (client := 1) (time := 1) (o := o3) (X := fun _ => False) (A := none) (c := 0) hN5 (ls_nil _ _) (by decide) app3).mono ?_
  rintro e w6 ⟨v6, B6, rfl, hB6, hp6, ho6, hc6⟩
  have HB6 := Lib.hid (HB5.out.trans (hc6.below (fun k hk h => h.1 (.inl (.inl (.inl hk)))) HB5.out.size))
  have HR6 := Lib.hid (And.intro (HR5.out.1.ch hc6 (fun h => h.1 (.inl (.inl (.inr ⟨Nat.le_refl _, hlt⟩))))) (HR5.out.2.ch hc6 (fun h => h.1 (.inr ⟨Nat.le_refl _, HR5.out.2.lt⟩))))
  have HP6 := Lib.hid (HP5.out.ch hc6 (fun k hk => by
    rcases Nat.lt_or_ge k B4 with h | h
    · exact h
    · refine absurd ?_ hk.1
      rcases Nat.lt_or_ge k w4.heap.size with h' | h'
      · exact .inl (.inr ⟨h, h'⟩)
      · exact .inr ⟨h', hk.2⟩))
  have HO6 := Lib.hid ho6
  clear hlt hN5 hB6 hp6 ho6 hc6 hb5 hrb
  go_wp2_with fail
  have hb7 := op_below w6 (.cells #[.int .i64 0, .int .i64 0] 30)
  have hrc : Blk (w6.alloc (.cells #[.int .i64 0, .int .i64 0] 30)) w6.heap.size 30 #[.int .i64 0, .int .i64 0] := Blk.new w6 _ _
  generalize w6.alloc (.cells #[.int .i64 0, .int .i64 0] 30) = w7 at hb7 hrc ⊢
  refine ((HO6.out.later hb7).get [116] 1 (by decide)).mono ?_
  intro e w8 hgot
  rw [get4] at hgot
  obtain ⟨v8, rfl, hown8, hb8⟩ := hgot
  have HB8 := Lib.hid ((HB6.out.trans (hb7.mono HB6.out.size)).trans (hb8.mono (Nat.le_trans HB6.out.size hb7.size)))
  have HR8 := Lib.hid (And.intro ((HR6.out.1.below hb7 HR6.out.1.lt).below hb8 (Nat.lt_of_lt_of_le HR6.out.1.lt hb7.size)) (And.intro ((HR6.out.2.below hb7 HR6.out.2.lt).below hb8 (Nat.lt_of_lt_of_le HR6.out.2.lt hb7.size)) (hrc.below hb8 hrc.lt)))
  have HP8 := Lib.hid ((HP6.out.later hb7).later hb8)
  have HO8 := Lib.hid hown8
  clear hb7 hrc hown8 hb8
  obtain ⟨Av, cv, rfl⟩ := own_shape HO8.out
  obtain ⟨hq1, hq2, hq3⟩ := HR8.out
  have a0 := hq1.cell 0
  have b0 := hq2.cell 0
  have b1 := hq2.cell 1
  have c0 := hq3.cell 0
  have c1 := hq3.cell 1
  simp only [List.getElem?_toArray, List.getElem?_cons_zero, List.getElem?_cons_succ] at a0 b0 b1 c0 c1
  obtain ⟨g8, c8, rfl, d4⟩ := second_off HP8.out
  have heq := fun W => equal_any W (fun _ => False) (fun _ => False) (.slice Av 1 cv) (.slice (some ⟨w8.heap.size, 0, none⟩) 1 1) 1 1 [2] [2]
  clear hq1 hq2 hq3
  go_wp2_with fail
  refine (heq _ ((Sl.of_own HO8.out (fun _ _ _ h => h)).alloc _) (one_rec w8 2 rfl rfl)).mono ?_
  rintro e w' ⟨rfl, rfl⟩
  go_wp2_with fail
  go_ret
  exact ⟨rfl, HB8.out.alloc HB8.out.size _⟩
end Go.Proofs.YtkoedonllfmaaaaGreat.An

/-
  Words for the walks of layer 7's laws: requests in memory; a map of records by names.
-/
namespace Go.Proofs.YtkoedonllfmaaaaGreat.Ao
set_option linter.unusedSimpArgs false
open Go Go.RowKit Ck Kw Ga Kf Km Kd Pm Pz Pe Pg Py Qb Qg Tm Tn Tq To Aa Ab Ac Ad Ae Af Ag Ah Ai Aj Al Am An
attribute [local go_sem ↓] Go.wp_at_zero Go.wp_at_succ
set_option linter.unusedVariables false

/-- A request. -/
structure Rq where
  client : Int
  time : Int
  o : O
/-- Requests in memory. -/
def Rqs (w : World) (A : Option Addr) (rs : List Rq) : Prop :=
  ∀ i (hi : i < rs.length), ∃ ad Ar cr, A = some ad ∧ (ad.add (i * 7)).block < w.heap.size ∧ w.cell? (ad.add (i * 7)) = some (.int .i64 rs[i].client) ∧ w.cell? ⟨(ad.add (i * 7)).block, (ad.add (i * 7)).off + 1, none⟩ = some (.int .i64 rs[i].time)
    ∧ w.cell? ⟨(ad.add (i * 7)).block, (ad.add (i * 7)).off + 2, none⟩ = some (.int .i64 rs[i].o.kind) ∧ w.cell? ⟨(ad.add (i * 7)).block, (ad.add (i * 7)).off + 3, none⟩ = some (.string ⟨rs[i].o.topic.toArray⟩)
    ∧ w.cell? ⟨(ad.add (i * 7)).block, (ad.add (i * 7)).off + 4, none⟩ = some (.string ⟨rs[i].o.group.toArray⟩) ∧ w.cell? ⟨(ad.add (i * 7)).block, (ad.add (i * 7)).off + 5, none⟩ = some (.int .i64 rs[i].o.off)
    ∧ w.cell? ⟨(ad.add (i * 7)).block, (ad.add (i * 7)).off + 6, none⟩ = some (.slice Ar rs[i].o.recs.length cr) ∧ Ls w (fun k => w.heap.size ≤ k) (.slice Ar rs[i].o.recs.length cr) rs[i].o.recs ∧ rs[i].o.topic.length ≤ 140737488355328 ∧ rs[i].o.recs.length ≤ 140737488355328
theorem Rqs.at_ {w w' : World} {A : Option Addr} {rs : List Rq} (h : Rqs w A rs) (b : Below w.heap.size w w') {i : Nat} (hi : i < rs.length) : ∃ ad Ar cr, A = some ad ∧ w'.cell? (ad.add (i * 7)) = some (.int .i64 rs[i].client) ∧ w'.cell? ⟨(ad.add (i * 7)).block, (ad.add (i * 7)).off + 1, none⟩ = some (.int .i64 rs[i].time)
    ∧ w'.cell? ⟨(ad.add (i * 7)).block, (ad.add (i * 7)).off + 2, none⟩ = some (.int .i64 rs[i].o.kind) ∧ w'.cell? ⟨(ad.add (i * 7)).block, (ad.add (i * 7)).off + 3, none⟩ = some (.string ⟨rs[i].o.topic.toArray⟩)
    ∧ w'.cell? ⟨(ad.add (i * 7)).block, (ad.add (i * 7)).off + 4, none⟩ = some (.string ⟨rs[i].o.group.toArray⟩) ∧ w'.cell? ⟨(ad.add (i * 7)).block, (ad.add (i * 7)).off + 5, none⟩ = some (.int .i64 rs[i].o.off)
    ∧ w'.cell? ⟨(ad.add (i * 7)).block, (ad.add (i * 7)).off + 6, none⟩ = some (.slice Ar rs[i].o.recs.length cr) ∧ Ls w' (fun k => w.heap.size ≤ k) (.slice Ar rs[i].o.recs.length cr) rs[i].o.recs ∧ rs[i].o.topic.length ≤ 140737488355328 ∧ rs[i].o.recs.length ≤ 140737488355328 := by
  obtain ⟨ad, Ar, cr, hA, hlt, a0, a1, a2, a3, a4, a5, a6, hl, h1, h2⟩ := h i hi
  have k : ∀ {a : Addr} {v : Value}, a.block = (ad.add (i * 7)).block → w.cell? a = some v → w'.cell? a = some v := fun {a v} ha hc => by rw [b.cell (by rw [ha]; exact hlt)]; exact hc
  exact ⟨ad, Ar, cr, hA, k rfl a0, k rfl a1, k rfl a2, k rfl a3, k rfl a4, k rfl a5, k rfl a6, hl.below b (fun k _ h => h), h1, h2⟩
/-- Records, in a row of one's own, all of it in K. -/
def RowOk (w : World) (K : Nat → Prop) (v : Value) (rs : List Tx) : Prop :=
  ∃ vals, w.ownsRow 0 55 1 v rs.length vals ∧ (∀ k, v.ownBlock = some k → K k) ∧ ∀ i (hi : i < rs.length), ∃ u, vals[i]? = some u ∧ w.ownsRow 0 5 1 u rs[i].length (BVs rs[i]) ∧ ∀ k, u.ownBlock = some k → K k
/-- A map of records by names: block m, all of it in K. -/
structure AtM (w : World) (K : Nat → Prop) (m n : Nat) (f : Log) (D : DataW Unit) (V : Tx → Value) : Prop where
  own : w.ownsMap Tryz.prog 9 slElem m n D
  km : K m
  nil : ∀ x, f x = [] → Maps.has D (.string x) = false ∧ V x = .slice none 0 0
  val : ∀ x, f x ≠ [] → ∃ z, slElem (V x) = some (z, []) ∧ ∀ zd, D.atKey (.string x) zd = z
  row : ∀ x, f x ≠ [] → RowOk w K (V x) (f x)
  apart : ∀ x y, x ≠ y → f x ≠ [] → f y ≠ [] → ∀ g, (V x).ownBlock = some g → (V y).ownBlock ≠ some g
section
variable {w w' : World} {K K' X : Nat → Prop} {m n : Nat} {f : Log} {D : DataW Unit} {V : Tx → Value} {v : Value} {rs : List Tx}
theorem RowOk.ch (h : RowOk w K v rs) (c : Ch X w w') (hx : ∀ k, K k → ¬ X k) : RowOk w' K v rs := by
  obtain ⟨vals, h1, h2, h3⟩ := h
  refine ⟨vals, own_ch h1 c (fun g hg => hx g (h2 g hg)), h2, fun i hi => ?_⟩
  obtain ⟨u, hu, h4, h5⟩ := h3 i hi
  exact ⟨u, hu, own_ch h4 c (fun g hg => hx g (h5 g hg)), h5⟩
theorem RowOk.more (h : RowOk w K v rs) (hk : ∀ k, K k → K' k) : RowOk w K' v rs := by
  obtain ⟨vals, h1, h2, h3⟩ := h
  refine ⟨vals, h1, fun k hkk => hk k (h2 k hkk), fun i hi => ?_⟩
  obtain ⟨u, hu, h4, h5⟩ := h3 i hi
  exact ⟨u, hu, h4, fun k hkk => hk k (h5 k hkk)⟩
theorem AtM.ch (h : AtM w K m n f D V) (c : Ch X w w') (hx : ∀ k, K k → ¬ X k) : AtM w' K m n f D V :=
  ⟨map_ch h.own c (hx m h.km), h.km, h.nil, h.val, fun x hf => (h.row x hf).ch c hx, h.apart⟩
theorem AtM.more (h : AtM w K m n f D V) (hk : ∀ k, K k → K' k) : AtM w K' m n f D V :=
  ⟨h.own, hk _ h.km, h.nil, h.val, fun x hf => (h.row x hf).more hk, h.apart⟩
theorem AtM.later (h : AtM w K m n f D V) (b : Below w.heap.size w w') : AtM w' K m n f D V := h.ch (Ch.of_below (S := fun _ => False) b (Nat.le_refl _)) (fun _ _ h => h)
/-- What is held of a name: its row. -/
theorem AtM.at_ (h : AtM w K m n f D V) (x : Tx) : RowOk w K (V x) (f x) := by
  by_cases hf : f x = []
  · rw [(h.nil x hf).2, hf]
    exact ⟨[], World.ownsRow_nil _ _ _ _, fun k hk => by simp [Value.ownBlock] at hk, fun i hi => absurd hi (by simp)⟩
  · exact h.row x hf
/-- One record more. -/
theorem AtM.put {w1 w2 w3 : World} {x : Tx × Int × Tx} {u v2 : Value} {z : DataW Unit} {vals : List Value} (h : AtM w K m n f D V) (b1 : Below w.heap.size w w1) (hK : ∀ k, K k → k < w.heap.size) (hr : w1.ownsRow 0 55 1 (V x.1) (f x.1).length vals)
    (he : ∀ i (hi : i < (f x.1).length), ∃ u, vals[i]? = some u ∧ w1.ownsRow 0 5 1 u (f x.1)[i].length (BVs (f x.1)[i]) ∧ ∀ k, u.ownBlock = some k → K k)
    (hu : w1.ownsRow 0 5 1 u x.2.2.length (BVs x.2.2)) (huk : ∀ k, u.ownBlock = some k → K k) {nn : Nat} (hnn : nn = (f x.1).length + 1) (happ : Appended w1 0 55 1 (V x.1) nn (vals ++ [u]) v2 w2) (hz : slElem v2 = some (z, []))
    {n' : Nat} (hm : w3.ownsMap Tryz.prog 9 slElem m n' (D.put (.string x.1) z)) (c3 : Ch (fun k => k = m) w2 w3) :
    AtM w3 (fun k => K k ∨ (w.heap.size ≤ k ∧ k < w3.heap.size)) m n' (note1 f x) (D.put (.string x.1) z) (fun y => if y = x.1 then v2 else V y) := by
  subst hnn
  obtain ⟨ho, hg, hv⟩ := happ
  have s1 := b1.size
  have s2 := hg.size
  have s3 := c3.size
  have hm1 : w1.ownsMap Tryz.prog 9 slElem m n D := map_ch h.own (Ch.of_below (S := fun _ => False) b1 (Nat.le_refl _)) (fun h => h)
  have hm2 : w2.ownsMap Tryz.prog 9 slElem m n D := map_ch hm1 (Ch.of_grown hg (fun g hg _ => hg) : Ch (fun k => (V x.1).ownBlock = some k) w1 w2) (fun e => map_row hm1 hr e)
  have c12 : Ch (fun k => (V x.1).ownBlock = some k) w1 w2 := Ch.of_grown hg (fun g hg _ => hg)
  have hbyte : ∀ {q : Value} {b : Tx}, w1.ownsRow 0 5 1 q b.length (BVs b) → w3.ownsRow 0 5 1 q b.length (BVs b) := fun {q b} hq => by
    have h2 : w2.ownsRow 0 5 1 q b.length (BVs b) := own_ch hq c12 (fun g hg hv => by
      rcases hr.2 with ⟨e, _⟩ | ⟨g1, _, _, e, _, r1, _⟩
      · rw [e] at hv; simp [Value.ownBlock] at hv
      · rcases hq.2 with ⟨rfl, _⟩ | ⟨g2, _, _, rfl, _, r2, _⟩
        · simp [Value.ownBlock] at hg
        · rw [e] at hv
          simp only [Value.ownBlock, Option.some.injEq] at hv hg
          subst hv; subst hg
          rw [r1] at r2
          simp only [Option.some.injEq, Obj.cells.injEq] at r2
          exact absurd r2.2.1 (by decide))
    exact own_ch h2 c3 (fun g hg e => map_row hm2 h2 (by rw [hg, e]))
  have hnew : note1 f x x.1 = f x.1 ++ [x.2.2] := by simp [note1]
  have hold : ∀ y, y ≠ x.1 → note1 f x y = f y := fun y hy => by simp [note1, hy]
  have hv2 : ∀ g, v2.ownBlock = some g → (V x.1).ownBlock = some g ∨ g = w1.heap.size := fun g hg => by
    rcases hv with hv | hv
    · exact .inl (by rw [← hv]; exact hg)
    · rw [hv] at hg; injection hg with hg; exact .inr hg.symm
  have hrow3 : w3.ownsRow 0 55 1 v2 ((f x.1).length + 1) (vals ++ [u]) := own_ch ho c3 (fun g hg e => map_row hm2 ho (by rw [hg, e]))
  have hvl : vals.length = (f x.1).length := by have := hr.1; omega
  have hkx : ∀ g, (V x.1).ownBlock = some g → K g := fun g hg => by
    obtain ⟨_, _, h2, _⟩ := h.at_ x.1
    exact h2 g hg
  refine ⟨hm, .inl h.km, fun y hy => ?_, fun y hy => ?_, fun y hy => ?_, fun y1 y2 hne h1 h2 g hg1 hg2 => ?_⟩
  · by_cases e : y = x.1
    · subst e; rw [hnew] at hy; simp at hy
    · rw [hold y e] at hy
      rw [if_neg e, has_put h.own.isMap]
      have : (x.1 == y) = false := by rw [beq_eq_false_iff_ne]; exact fun h => e h.symm
      rw [this, Bool.false_or]
      exact h.nil y hy
  · by_cases e : y = x.1
    · subst e
      rw [if_pos rfl]
      exact ⟨z, hz, fun zd => at_put_same h.own.isMap _ _ _⟩
    · rw [hold y e] at hy
      rw [if_neg e]
      obtain ⟨zz, h1, h2⟩ := h.val y hy
      exact ⟨zz, h1, fun zd => by rw [at_put_other e]; exact h2 zd⟩
  · by_cases e : y = x.1
    · subst e
      rw [if_pos rfl, hnew]
      refine ⟨vals ++ [u], by rw [List.length_append]; exact hrow3, fun k hk => ?_, fun i hi => ?_⟩
      · rcases hv2 k hk with h1 | h1
        · exact .inl (hkx k h1)
        · have := (ho.lt k hk).2; exact .inr ⟨by omega, by omega⟩
      · by_cases hlt : i < (f x.1).length
        · obtain ⟨q, hq, h4, h5⟩ := he i hlt
          refine ⟨q, by rw [List.getElem?_append_left (by omega)]; exact hq, ?_, fun k hk => .inl (h5 k hk)⟩
          have e : (f x.1 ++ [x.2.2])[i] = (f x.1)[i] := List.getElem_append_left hlt
          simp only [e]
          exact hbyte h4
        · have hi' : i = (f x.1).length := by simp only [List.length_append, List.length_singleton] at hi; omega
          subst hi'
          refine ⟨u, by rw [List.getElem?_append_right (by omega), hvl]; simp, ?_, fun k hk => .inl (huk k hk)⟩
          have e : (f x.1 ++ [x.2.2])[(f x.1).length] = x.2.2 := by simp
          simp only [e]
          exact hbyte hu
    · rw [hold y e] at hy ⊢
      rw [if_neg e]
      have hy' := (h.row y hy).ch (Ch.of_below (S := fun _ => False) b1 (Nat.le_refl _) : Ch _ w w1) (fun _ _ h => h)
      obtain ⟨ys, r1, r2, r3⟩ := hy'
      refine ⟨ys, ?_, fun k hk => .inl (r2 k hk), fun i hi => ?_⟩
      · have q2 : w2.ownsRow 0 55 1 (V y) (f y).length ys := own_ch r1 c12 (fun g hg hx => by
          by_cases hfx : f x.1 = []
          · rw [(h.nil x.1 hfx).2] at hx; simp [Value.ownBlock] at hx
          · exact h.apart y x.1 e hy hfx g hg hx)
        exact own_ch q2 c3 (fun g hg e => map_row hm2 q2 (by rw [hg, e]))
      · obtain ⟨q, hq, h4, h5⟩ := r3 i hi
        exact ⟨q, hq, hbyte h4, fun k hk => .inl (h5 k hk)⟩
  · have hkey : ∀ y, y ≠ x.1 → f y ≠ [] → ∀ g, (V y).ownBlock = some g → v2.ownBlock ≠ some g := fun y hy hfy g hg hg2 => by
      rcases hv2 g hg2 with h3 | h3
      · by_cases hfx : f x.1 = []
        · rw [(h.nil x.1 hfx).2] at h3; simp [Value.ownBlock] at h3
        · exact h.apart y x.1 hy hfy hfx g hg h3
      · obtain ⟨_, _, r2, _⟩ := h.row y hfy
        have := hK g (r2 g hg)
        omega
    by_cases e1 : y1 = x.1
    · by_cases e2 : y2 = x.1
      · exact hne (e1.trans e2.symm)
      · rw [if_pos e1] at hg1
        rw [if_neg e2] at hg2
        rw [hold y2 e2] at h2
        exact hkey y2 e2 h2 g hg2 hg1
    · rw [if_neg e1] at hg1
      rw [hold y1 e1] at h1
      by_cases e2 : y2 = x.1
      · rw [if_pos e2] at hg2
        exact hkey y1 e1 h1 g hg1 hg2
      · rw [if_neg e2] at hg2
        rw [hold y2 e2] at h2
        exact h.apart y1 y2 hne h1 h2 g hg1 hg2
end
end Go.Proofs.YtkoedonllfmaaaaGreat.Ao

/-
  Opening a list of requests under the form's own reach.
-/
namespace Go.Proofs.YtkoedonllfmaaaaGreat.Aq
set_option linter.unusedSimpArgs false
open Go Go.RowKit Go.ChangeShapes Go.WideShapes Go.ChangeAt Go.Deep Ck Kp Pm Pe Py Ao
set_option linter.unusedVariables false

section
variable {H : Type} {enc : TypeId × Value → H}
theorem cells_req : Tryz.prog.cellsOf 40 = 7 := by kernel_rfl
set_option maxRecDepth 100000 in
theorem open_req {w : World} {base : Nat} {fuel : Nat} {cs : List Value} {x : DataW H × List MemPlace} (h : DataW.trod enc Tryz.prog w base (fun _ => true) true fuel 40 cs = some x) :
    ∃ (r : Rq) (A : Option Addr) (c : Nat), cs = [.int .i64 r.client, .int .i64 r.time, .int .i64 r.o.kind, .string ⟨r.o.topic.toArray⟩, .string ⟨r.o.group.toArray⟩, .int .i64 r.o.off, .slice A r.o.recs.length c] ∧ Ls w (fun k => w.heap.size ≤ k) (.slice A r.o.recs.length c) r.o.recs
      ∧ ∀ R, (∀ n ∈ x.1.weights Tryz.prog 40, n ≤ R) → far r.o R := by
  obtain ⟨xs, n', _, hx, hl, hxl, hf⟩ := DataW.trod_struct Tryz.underlying40 h
  rw [cells_req] at hl
  have hxl' : xs.length = 3 := hxl
  match cs, hl with
  | [v0, v1, v2, v3, v4, v5, v6], _ =>
    have f0 : DataW.trod enc Tryz.prog w base (fun _ => true) true n' 3 (([v0, v1, v2, v3, v4, v5, v6].drop 0).take (Tryz.prog.cellsOf 3)) = xs[0]? := hf 0 _ rfl
    have f1 : DataW.trod enc Tryz.prog w base (fun _ => true) true n' 2 (([v0, v1, v2, v3, v4, v5, v6].drop 1).take (Tryz.prog.cellsOf 2)) = xs[1]? := hf 1 _ rfl
    have f2 : DataW.trod enc Tryz.prog w base (fun _ => true) true n' 38 (([v0, v1, v2, v3, v4, v5, v6].drop 2).take (Tryz.prog.cellsOf 38)) = xs[2]? := hf 2 _ rfl
    rw [cells_int] at f0
    rw [cells_i64] at f1
    rw [cells_op] at f2
    simp only [List.drop_zero, List.drop_succ_cons, List.take_succ_cons, List.take_zero] at f0 f1 f2
    obtain ⟨z0, e0, w0⟩ := one_int Tryz.underlying3 (by omega) f0
    obtain ⟨z1, e1, w1⟩ := one_int Tryz.underlying2 (by omega) f1
    rw [List.getElem?_eq_getElem (by omega)] at f2
    obtain ⟨o, A, c, e2, hls, _, hfar⟩ := open_op f2
    simp only [List.cons.injEq, and_true] at e0 e1 e2
    obtain ⟨rfl, rfl, rfl, rfl, rfl⟩ := e2
    refine ⟨⟨z0, z1, o⟩, A, c, by rw [e0, e1], hls, fun R hR => hfar R fun n hn => ?_⟩
    refine hR n ?_
    rw [hx]
    simp only [DataW.weights, Tryz.underlying40]
    exact DataW.weights_mem_each (ts := [3, 2, 38]) (j := 2) (t := 38) rfl (by simp [List.getElem?_eq_getElem (show 2 < xs.length by omega)]) n hn
end
end Go.Proofs.YtkoedonllfmaaaaGreat.Aq

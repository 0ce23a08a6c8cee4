/-
  The contract of the laws' live.
-/
import Derived.Test.YtcmknopgoiabbaaAl
import Derived.Test.YtcmknopgoiabbaaAm
namespace Go.Proofs.Ytcmknopgoiabbaa.An
set_option linter.unusedSimpArgs false
open Go Go.RowKit Ck Kw Ga Kf Km Kd Pm Pz Pe Pg Py Qb Qg Tm Tn Tq To Aa Ab Ac Ad Ae Af Ag Ah Ai Aj Al Am
attribute [local go_sem ↓] Go.wp_at_zero Go.wp_at_succ
set_option linter.unusedVariables false

def o1 : O := ⟨1, [116], [], 0, []⟩
def o2 : O := ⟨2, [116], [], 0, [[1], [2]]⟩
def o3 : O := ⟨0, [], [], 0, []⟩
def s1 : St := (appS St.zero 0 1 o1).2.2.2
def s2 : St := (appS s1 1 1 o2).2.2.2
theorem app1 : appS St.zero 0 1 o1 = ((0, 0), [], true, s1) := by decide +kernel
theorem app2 : appS s1 1 1 o2 = ((0, 0), [([116], 0, [1]), ([116], 1, [2])], true, s2) := by decide +kernel
theorem app3 : appS s2 1 1 o3 = ((0, 0), [], false, s2) := by decide +kernel
theorem get4 : getT s2.L [116] 1 = ([2], 0) := by decide +kernel
theorem ls_nil (w : World) (X : Nat → Prop) : Ls w X (.slice none 0 0) [] := ⟨[], Sl.nil _ _ _, fun i hi => absurd hi (by simp)⟩
/-- Topics that are in none of the blocks N. -/
def On (N : Nat → Prop) (w : World) (p : Nat) (s : St) : Prop := ∃ S R, Tz w S R p s ∧ (∀ k, S k → ¬ N k ∧ k < w.heap.size) ∧ ∀ k, R k → ¬ N k
section
variable {N N' : Nat → Prop} {p : Nat} {w w' : World} {s s' : St} {X : Nat → Prop}
theorem On.ch (h : On N w p s) (c : Ch X w w') (hx : ∀ k, X k → N k) : On N w' p s := by
  obtain ⟨S, R, h1, h2, h3⟩ := h
  exact ⟨S, R, h1.ch c (fun k hk hX => (h2 k hk).1 (hx k hX)) (fun k hk hX => h3 k hk (hx k hX)), fun k hk => ⟨(h2 k hk).1, Nat.lt_of_lt_of_le (h2 k hk).2 c.size⟩, h3⟩
theorem On.later (h : On N w p s) (b : Below w.heap.size w w') : On N w' p s := h.ch (Ch.of_below (S := fun _ => False) b (Nat.le_refl _)) (fun _ h => h.elim)
theorem On.weaken (h : On N w p s) (hn : ∀ k, N' k → N k) : On N' w p s := by
  obtain ⟨S, R, h1, h2, h3⟩ := h
  exact ⟨S, R, h1, fun k hk => ⟨fun h => (h2 k hk).1 (hn k h), (h2 k hk).2⟩, fun k hk h => h3 k hk (hn k h)⟩
/-- What is made beside them is none of them. -/
theorem On.skip (h : On N w p s) (b : Below w.heap.size w w') : On (fun k => N k ∨ (w.heap.size ≤ k ∧ k < w'.heap.size)) w' p s := by
  obtain ⟨S, R, h1, h2, h3⟩ := h
  refine ⟨S, R, h1.later b, fun k hk => ⟨fun h => ?_, Nat.lt_of_lt_of_le (h2 k hk).2 b.size⟩, fun k hk h => ?_⟩
  · rcases h with h | h
    · exact (h2 k hk).1 h
    · have := (h2 k hk).2; omega
  · rcases h with h | h
    · exact h3 k hk h
    · have := (Tz.rlt h1 k hk).2; omega
theorem On.good (h : On N w p s) : GoodS s := by
  obtain ⟨S, R, h1, h2, h3⟩ := h
  exact h1.good
theorem on_new (h : Tz w' (New w w') (fun _ => False) p s) : On (fun k => k < w.heap.size) w' p s := ⟨_, _, h, fun k hk => ⟨by have := hk.1; omega, hk.2⟩, fun k hk => hk.elim⟩
/-- What a request leaves of topics that are in none of the blocks N. -/
theorem On.asked {client time : Int} {o : O} {A : Option Addr} {c : Nat} {k off : Int} {b : Bool} {pl : List (Tx × Int × Tx)} (h : On N w p s) (hN : ∀ k, N k → k < w.heap.size) (hls : Ls w X (.slice A o.recs.length c) o.recs) (hl : o.recs.length ≤ 140737488355328) (ha : appS s client time o = ((k, off), pl, b, s')) :
    Calls Try.prog 7 #[.pointer (some ⟨p, 0, none⟩), RV client time o A c] w fun e w' => ∃ v B, e = .returned (.tuple #[.agg #[.int .i64 k, .int .i64 off], v, .bool b]) ∧ w.heap.size ≤ B ∧ Ps w' B v pl ∧ On (fun k => N k ∨ (B ≤ k ∧ k < w'.heap.size)) w' p s' ∧ Ch (fun k => ¬ N k ∧ k < w.heap.size) w w' := by
  obtain ⟨S, R, h1, h2, h3⟩ := h
  refine (apply_any w S R p s client time o X A c h1 hls hl).mono ?_
  intro e w' he
  unfold Asked at he
  rw [ha] at he
  obtain ⟨v, B, hv, hB, hp, S', R', g1, g2, g3, g4⟩ := he
  have hs := g4.size
  refine ⟨v, B, hv, hB, hp, ⟨_, R', Tz.bound g1, fun k hk => ⟨fun h => ?_, hk.2⟩, fun k hk h => ?_⟩, g4.mono (fun k hk hs => h2 k hs)⟩
  · obtain ⟨q1, q2⟩ := g2 k hk.1
    rcases h with h | h
    · rcases q1 with q | q
      · exact (h2 k q).1 h
      · have := hN k h; omega
    · omega
  · obtain ⟨q1, q2⟩ := g3 k hk
    rcases h with h | h
    · rcases q1 with q | q
      · exact h3 k q h
      · have := hN k h; omega
    · omega
end
theorem On.get {N : Nat → Prop} {p : Nat} {w : World} {s : St} (h : On N w p s) (x : Tx) (k : Int) (hx : x.length ≤ 140737488355328) : Calls Try.prog 11 #[.pointer (some ⟨p, 0, none⟩), .string ⟨x.toArray⟩, .int .i64 k] w (Got w (getT s.L x k)) := by
  obtain ⟨S, R, h1, -⟩ := h
  exact get_any w S R p s x k hx h1
theorem second_off {w : World} {B : Nat} {v : Value} {n m : Tx} {x y : Tx} {i j : Int} (h : Ps w B v [(n, i, x), (m, j, y)]) : ∃ g c, v = .slice (some ⟨g, 0, none⟩) 2 c ∧ w.cell? ⟨g, 4, none⟩ = some (.int .i64 j) := by
  obtain ⟨l, hl, hr, -⟩ := h
  obtain ⟨g, c, rfl, hb, hlt⟩ := hr.form (by simp)
  refine ⟨g, c, rfl, ?_⟩
  have hc := hr.cells (g := g) rfl 4 (.int .i64 j)
  have ha : (⟨g, 0, none⟩ : Addr).add 4 = ⟨g, 4, none⟩ := rfl
  rw [ha] at hc
  refine hc ?_
  match l, hl with
  | [a, b], hl =>
    simp only [List.map_cons, List.map_nil, List.cons.injEq, and_true] at hl
    obtain ⟨-, hb⟩ := hl
    simp [PCs, PC, hb]
theorem one_rec (w : World) (x : UInt8) {cs : Array Value} (hc : cs = #[.int .u8 (x.toNat : Int)]) {g : Nat} (hg : g = w.heap.size) : Sl (w.alloc (.cells cs 5)) (fun _ => False) 1 (.slice (some ⟨g, 0, none⟩) 1 1) 1 (BVs [x]) := by
  subst hg
  exact Sl_lit w (fun _ => False) 5 [x] (by rw [hc]; rfl) rfl (by omega) (fun h => h)
/-- Two records of one byte each. -/
theorem two_recs (w : World) (x y : UInt8) {c1 c2 : Array Value} (h1 : c1 = #[.int .u8 (x.toNat : Int)]) (h2 : c2 = #[.int .u8 (y.toNat : Int)]) {g : Nat} (hg : g = w.heap.size) :
    Ls (((w.alloc (.cells c1 5)).alloc (.cells c2 5)).alloc (.cells #[.slice (some ⟨g, 0, none⟩) 1 1, .slice (some ⟨g + 1, 0, none⟩) 1 1] 44)) (fun _ => False) (.slice (some ⟨g + 1 + 1, 0, none⟩) 2 2) [[x], [y]] := by
  have b1 : Below ((w.alloc (.cells c1 5))).heap.size (w.alloc (.cells c1 5)) ((w.alloc (.cells c1 5)).alloc (.cells c2 5)) := op_below _ _
  have s1 := ((one_rec w x h1 hg).after (op_below _ (.cells c2 5))).after (op_below _ (.cells #[.slice (some ⟨g, 0, none⟩) 1 1, .slice (some ⟨g + 1, 0, none⟩) 1 1] 44))
  have s2 := (one_rec (w.alloc (.cells c1 5)) y h2 (g := g + 1) (by simp [hg])).after (op_below _ (.cells #[.slice (some ⟨g, 0, none⟩) 1 1, .slice (some ⟨g + 1, 0, none⟩) 1 1] 44))
  have hb : Blk (((w.alloc (.cells c1 5)).alloc (.cells c2 5)).alloc (.cells #[.slice (some ⟨g, 0, none⟩) 1 1, .slice (some ⟨g + 1, 0, none⟩) 1 1] 44)) (g + 1 + 1) 44 #[.slice (some ⟨g, 0, none⟩) 1 1, .slice (some ⟨g + 1, 0, none⟩) 1 1] := Blk.new_at (by simp [hg]) rfl
  refine ⟨[.slice (some ⟨g, 0, none⟩) 1 1, .slice (some ⟨g + 1, 0, none⟩) 1 1], ⟨_, _, rfl, rfl, Nat.le_refl _, by simp [maxLen], fun _ => ⟨_, rfl, hb.lt, fun h => h, fun j u hu => ?_⟩⟩, fun i hi => ?_⟩
  · have ha : (⟨g + 1 + 1, 0, none⟩ : Addr).add j = ⟨g + 1 + 1, j, none⟩ := by unfold Addr.add; split <;> simp_all
    rw [ha, hb.cell j]
    simpa using hu
  · match i, hi with
    | 0, _ => exact ⟨_, rfl, s1⟩
    | 1, _ => exact ⟨_, rfl, s2⟩
set_option maxRecDepth 100000 in
set_option maxHeartbeats 2000000 in
theorem live_any (w : World) : Calls Try.prog 5 #[] w fun e w' => e = .returned (.bool true) ∧ Below w.heap.size w w' := by
  go_enter Try.func5, Try.ntmps5
  go_wp2_with fail
  refine (new_any w).mono ?_
  rintro e w1 ⟨p, rfl, hz1, hb1⟩
  have HO1 := Lib.hid (on_new hz1)
  have HB1 := Lib.hid hb1
  clear hz1 hb1
  go_wp2_with fail
  refine (HO1.out.asked (client := 0) (time := 1) (o := o1) (X := fun _ => False) (A := none) (c := 0) (fun k hk => by have := HB1.out.size; omega) (ls_nil _ _) (by decide) app1).mono ?_
  rintro e w2 ⟨v2, B2, rfl, hB2, hp2, ho2, hc2⟩
  have hb2 := HB1.out.trans (hc2.below (fun k hk h => h.1 hk) HB1.out.size)
  have HO2 := Lib.hid (ho2.weaken (N' := fun k => k < w.heap.size) (fun k hk => .inl hk))
  have HB2 := Lib.hid hb2
  clear hB2 hp2 ho2 hc2 hb2
  go_wp2_with fail
  have hba : Below w2.heap.size w2 ((((w2.alloc (.cells #[.int .i64 0, .int .i64 0] 34)).alloc (.cells #[.int .u8 1] 5)).alloc (.cells #[.int .u8 2] 5)).alloc (.cells #[.slice (some ⟨w2.heap.size + 1, 0, none⟩) 1 1, .slice (some ⟨w2.heap.size + 1 + 1, 0, none⟩) 1 1] 44)) :=
    (((op_below w2 _).trans ((op_below _ _).mono (by simp))).trans ((op_below _ _).mono (by simp; omega))).trans ((op_below _ _).mono (by simp; omega))
  have hls := two_recs (w2.alloc (.cells #[.int .i64 0, .int .i64 0] 34)) 1 2 (c1 := #[.int .u8 1]) (c2 := #[.int .u8 2]) rfl rfl (g := w2.heap.size + 1) (by simp)
  have hra : Blk ((((w2.alloc (.cells #[.int .i64 0, .int .i64 0] 34)).alloc (.cells #[.int .u8 1] 5)).alloc (.cells #[.int .u8 2] 5)).alloc (.cells #[.slice (some ⟨w2.heap.size + 1, 0, none⟩) 1 1, .slice (some ⟨w2.heap.size + 1 + 1, 0, none⟩) 1 1] 44)) w2.heap.size 34 #[.int .i64 0, .int .i64 0] := (((Blk.new w2 _ _).alloc _).alloc _).alloc _
  generalize ((((w2.alloc (.cells #[.int .i64 0, .int .i64 0] 34)).alloc (.cells #[.int .u8 1] 5)).alloc (.cells #[.int .u8 2] 5)).alloc (.cells #[.slice (some ⟨w2.heap.size + 1, 0, none⟩) 1 1, .slice (some ⟨w2.heap.size + 1 + 1, 0, none⟩) 1 1] 44)) = w3 at hba hls hra ⊢
  have HO3 := Lib.hid (HO2.out.skip hba)
  have HB3 := Lib.hid (HB2.out.trans (hba.mono HB2.out.size))
  have HZ3 := Lib.hid (And.intro hba hra)
  have hN3 : ∀ k, (k < w.heap.size ∨ (w2.heap.size ≤ k ∧ k < w3.heap.size)) → k < w3.heap.size := fun k hk => by have := HB3.out.size; omega
  refine (HO3.out.asked (client := 1) (time := 1) (o := o2) (X := fun _ => False) (A := some ⟨w2.heap.size + 1 + 1 + 1, 0, none⟩) (c := 2) hN3 hls (by decide) app2).mono ?_
  rintro e w4 ⟨v4, B4, rfl, hB4, hp4, ho4, hc4⟩
  have HO4 := Lib.hid ho4
  have HP4 := Lib.hid hp4
  have HB4 := Lib.hid (HB3.out.trans (hc4.below (fun k hk h => h.1 (.inl hk)) HB3.out.size))
  have HR4 := Lib.hid (HZ3.out.2.ch hc4 (fun h => h.1 (.inr ⟨Nat.le_refl _, HZ3.out.2.lt⟩)))
  have HN4 := Lib.hid hB4
  have HS4 := Lib.hid hc4.size
  clear hba hls hra hN3 hB4 hp4 ho4 hc4
  go_wp2_with fail
  have hb5 := op_below w4 (.cells #[.int .i64 0, .int .i64 0] 34)
  have hrb : Blk (w4.alloc (.cells #[.int .i64 0, .int .i64 0] 34)) w4.heap.size 34 #[.int .i64 0, .int .i64 0] := Blk.new w4 _ _
  generalize w4.alloc (.cells #[.int .i64 0, .int .i64 0] 34) = w5 at hb5 hrb ⊢
  have HO5 := Lib.hid (HO4.out.skip hb5)
  have HB5 := Lib.hid (HB4.out.trans (hb5.mono HB4.out.size))
  have HP5 := Lib.hid (HP4.out.later hb5)
  have HR5 := Lib.hid (And.intro (HR4.out.below hb5 HR4.out.lt) hrb)
  have HZ5 := Lib.hid hb5.size
  have hlt := HZ3.out.2.lt
  have hN5 : ∀ k, (((k < w.heap.size ∨ (w2.heap.size ≤ k ∧ k < w3.heap.size)) ∨ (B4 ≤ k ∧ k < w4.heap.size)) ∨ (w4.heap.size ≤ k ∧ k < w5.heap.size)) → k < w5.heap.size := fun k hk => by have := HB3.out.size; have := HS4.out; have := HZ5.out; omega
  refine (HO5.out.asked (client := 1) (time := 1) (o := o3) (X := fun _ => False) (A := none) (c := 0) hN5 (ls_nil _ _) (by decide) app3).mono ?_
  rintro e w6 ⟨v6, B6, rfl, hB6, hp6, ho6, hc6⟩
  have HB6 := Lib.hid (HB5.out.trans (hc6.below (fun k hk h => h.1 (.inl (.inl (.inl hk)))) HB5.out.size))
  have HR6 := Lib.hid (And.intro (HR5.out.1.ch hc6 (fun h => h.1 (.inl (.inl (.inr ⟨Nat.le_refl _, hlt⟩))))) (HR5.out.2.ch hc6 (fun h => h.1 (.inr ⟨Nat.le_refl _, HR5.out.2.lt⟩))))
  have HP6 := Lib.hid (HP5.out.ch hc6 (fun k hk => by
    rcases Nat.lt_or_ge k B4 with h | h
    · exact h
    · refine absurd ?_ hk.1
      rcases Nat.lt_or_ge k w4.heap.size with h' | h'
      · exact .inl (.inr ⟨h, h'⟩)
      · exact .inr ⟨h', hk.2⟩))
  have HO6 := Lib.hid ho6
  clear hlt hN5 hB6 hp6 ho6 hc6 hb5 hrb
  go_wp2_with fail
  have hb7 := op_below w6 (.cells #[.int .i64 0, .int .i64 0] 34)
  have hrc : Blk (w6.alloc (.cells #[.int .i64 0, .int .i64 0] 34)) w6.heap.size 34 #[.int .i64 0, .int .i64 0] := Blk.new w6 _ _
  generalize w6.alloc (.cells #[.int .i64 0, .int .i64 0] 34) = w7 at hb7 hrc ⊢
  refine ((HO6.out.later hb7).get [116] 1 (by decide)).mono ?_
  intro e w8 hgot
  rw [get4] at hgot
  obtain ⟨v8, rfl, hown8, hb8⟩ := hgot
  have HB8 := Lib.hid ((HB6.out.trans (hb7.mono HB6.out.size)).trans (hb8.mono (Nat.le_trans HB6.out.size hb7.size)))
  have HR8 := Lib.hid (And.intro ((HR6.out.1.below hb7 HR6.out.1.lt).below hb8 (Nat.lt_of_lt_of_le HR6.out.1.lt hb7.size)) (And.intro ((HR6.out.2.below hb7 HR6.out.2.lt).below hb8 (Nat.lt_of_lt_of_le HR6.out.2.lt hb7.size)) (hrc.below hb8 hrc.lt)))
  have HP8 := Lib.hid ((HP6.out.later hb7).later hb8)
  have HO8 := Lib.hid hown8
  clear hb7 hrc hown8 hb8
  obtain ⟨Av, cv, rfl⟩ := own_shape HO8.out
  obtain ⟨hq1, hq2, hq3⟩ := HR8.out
  have a0 := hq1.cell 0
  have b0 := hq2.cell 0
  have b1 := hq2.cell 1
  have c0 := hq3.cell 0
  have c1 := hq3.cell 1
  simp only [List.getElem?_toArray, List.getElem?_cons_zero, List.getElem?_cons_succ] at a0 b0 b1 c0 c1
  obtain ⟨g8, c8, rfl, d4⟩ := second_off HP8.out
  have heq := fun W => equal_any W (fun _ => False) (fun _ => False) (.slice Av 1 cv) (.slice (some ⟨w8.heap.size, 0, none⟩) 1 1) 1 1 [2] [2]
  clear hq1 hq2 hq3
  go_wp2_with fail
  refine (heq _ ((Sl.of_own HO8.out (fun _ _ _ h => h)).alloc _) (one_rec w8 2 rfl rfl)).mono ?_
  rintro e w' ⟨rfl, rfl⟩
  go_wp2_with fail
  go_ret
  exact ⟨rfl, HB8.out.alloc HB8.out.size _⟩
end Go.Proofs.Ytcmknopgoiabbaa.An

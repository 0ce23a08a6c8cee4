/-
  Layer 5: a table beside what its callers hold; the contract of bullalaw05.live.
-/
import Derived.Test.YtepdajhgfdjklaaMj
namespace Go.Proofs.Ytepdajhgfdjklaa.Ml
open Go Go.RowKit Ck Im Ik Ia Ib Ic Ig Ih Ij Mm Ma Mb Mc Md Pr Me Mf Mh Mi Mj
attribute [local go_sem ↓] Go.wp_at_zero Go.wp_at_succ
set_option linter.unusedVariables false

/-- A table in blocks from B on, below q. -/
def TQ (B q p : Nat) (L : List Tx) (w : World) : Prop := ∃ S, Tb w S p L ∧ ∀ k, S k → B ≤ k ∧ k < q
section
variable {B q p : Nat} {L : List Tx} {w w' : World}
theorem TQ.after (h : TQ B q p L w) (b : Below w.heap.size w w') : TQ B q p L w' := by
  obtain ⟨S, h1, h2⟩ := h
  exact ⟨S, Tb.after h1 b, h2⟩
theorem TQ.len (h : TQ B q p L w) : L.length ≤ 1048576 := by
  obtain ⟨S, h1, _⟩ := h
  exact Tb.len h1
theorem ch_low {S : Nat → Prop} {w w' : World} {B : Nat} (c : Ch S w w') (hS : ∀ k, S k → B ≤ k) (hB : B ≤ w.heap.size) : Below B w w' :=
  c.below (fun k hk hs => by have := hS k hs; omega) hB
theorem tq_up {S : Nat → Prop} {L' : List Tx} (ht : Tb w' (Up S w w') p L') (hS : ∀ k, S k → B ≤ k ∧ k < q) (hB : B ≤ w.heap.size) (hq : q ≤ w.heap.size) (hs : w.heap.size ≤ w'.heap.size) : TQ B w'.heap.size p L' w' := by
  refine ⟨_, ht, fun k hk => ?_⟩
  rcases hk with hk | hk
  · have := hS k hk; omega
  · omega
theorem leaf_tq (w : World) (B q p : Nat) (L : List Tx) (X : Nat → Prop) (v : Value) (n : Nat) (b : Tx) (h : TQ B q p L w) (hB : B ≤ w.heap.size) (hq : q ≤ w.heap.size) (hb : Sl w X 1 v n (BVs b)) (hl : n ≤ 140737488355327) :
    Calls Try.prog 18 #[.pointer (some ⟨p, 0, none⟩), v] w fun e w' => e = .returned (.int .i64 (sum L (leafB b) : Int)) ∧ TQ B w'.heap.size p (add L (leafB b)) w' ∧ Below B w w' := by
  obtain ⟨S, h1, h2⟩ := h
  refine (leaf_any w S X p L v n b h1 hb hl).mono ?_
  rintro e w' ⟨rfl, ht, hc⟩
  exact ⟨rfl, tq_up ht h2 hB hq hc.size, ch_low hc (fun k hk => (h2 k hk).1) hB⟩
theorem node_tq (w : World) (B q p : Nat) (L : List Tx) (a b : Int) (h : TQ B q p L w) (hB : B ≤ w.heap.size) (hq : q ≤ w.heap.size) (ha : a ≤ 9223372036854775807) (hb : b ≤ 9223372036854775807) :
    Calls Try.prog 20 #[.pointer (some ⟨p, 0, none⟩), .int .i64 a, .int .i64 b] w fun e w' => e = .returned (.int .i64 (sum L (nodeB a b) : Int)) ∧ TQ B w'.heap.size p (add L (nodeB a b)) w' ∧ Below B w w' := by
  obtain ⟨S, h1, h2⟩ := h
  refine (node_any w S p L a b h1 ha hb).mono ?_
  rintro e w' ⟨rfl, ht, hc⟩
  exact ⟨rfl, tq_up ht h2 hB hq hc.size, ch_low hc (fun k hk => (h2 k hk).1) hB⟩
theorem root_tq (w : World) (B q p : Nat) (L : List Tx) (X : Nat → Prop) (A : Option Addr) (c n : Nat) (ls : List Tx) (hn : n = ls.length) (h : TQ B q p L w) (hB : B ≤ w.heap.size) (hq : q ≤ w.heap.size) (hls : Ls w X (.slice A n c) ls) (hX : ∀ k, B ≤ k → k < q → X k) (hbig : n ≤ 1000000)
    (hall : ∀ x ∈ ls, x.length ≤ 140737488355327) :
    Calls Try.prog 12 #[.pointer (some ⟨p, 0, none⟩), .slice A n c] w fun e w' => e = .returned (.int .i64 ((root L ls).1 : Int)) ∧ TQ B w'.heap.size p (root L ls).2 w' ∧ Below B w w' := by
  subst hn
  obtain ⟨S, h1, h2⟩ := h
  refine (root_any w S X p L A c ls (by omega) h1 (fun k hk => by have := h2 k hk; omega) hls (fun k hk => hX k (h2 k hk).1 (h2 k hk).2) hall).mono ?_
  rintro e w' ⟨rfl, ht, hc⟩
  exact ⟨rfl, tq_up ht h2 hB hq hc.size, ch_low hc (fun k hk => (h2 k hk).1) hB⟩
/-- A proof, and the table behind it. -/
def PQ (B p : Nat) (r : List Nat × List Tx) (w : World) (e : Ending) (w' : World) : Prop :=
  ∃ A c, e = .returned (.tuple #[.slice A r.1.length c, .int .i64 0]) ∧ Sl w' (fun k => k < w.heap.size) 1 (.slice A r.1.length c) r.1.length (IVs (r.1.map fun x : Nat => (x : Int))) ∧ (∃ S, Tb w' S p r.2 ∧ (∀ k, S k → B ≤ k ∧ k < w'.heap.size) ∧ ∀ g, (Value.slice A r.1.length c).ownBlock = some g → ¬ S g) ∧ Below B w w'
theorem prove_tq (w : World) (B q p : Nat) (L : List Tx) (X : Nat → Prop) (A : Option Addr) (c n i : Nat) (ls : List Tx) (hn : n = ls.length) (h : TQ B q p L w) (hB : B ≤ w.heap.size) (hq : q ≤ w.heap.size) (hls : Ls w X (.slice A n c) ls) (hX : ∀ k, B ≤ k → k < q → X k) (hbig : n ≤ 1000000) (hi : i < n)
    (hall : ∀ x ∈ ls, x.length ≤ 140737488355327) :
    Calls Try.prog 14 #[.pointer (some ⟨p, 0, none⟩), .int .i64 i, .slice A n c] w (PQ B p (prove L i ls) w) := by
  subst hn
  obtain ⟨S, h1, h2⟩ := h
  refine (prove_any w S X p L i A c ls hbig hi h1 (fun k hk => by have := h2 k hk; omega) hls (fun k hk => hX k (h2 k hk).1 (h2 k hk).2) hall).mono ?_
  rintro e w' ⟨A0, c0, S', rfl, hrow, ht, hS', hnot, hc⟩
  have hs := hc.size
  exact ⟨A0, c0, rfl, Sl.of_own hrow (fun k hk _ => by omega), ⟨S', ht, fun k hk => by
    rcases hS' k hk with h | h
    · have := h2 k h; omega
    · omega, hnot⟩, ch_low hc (fun k hk => (h2 k hk).1) hB⟩
theorem verify_tq (w : World) (B q p : Nat) (L : List Tx) (X Y : Nat → Prop) (r i n : Int) (A : Option Addr) (c m : Nat) (ds : List Int) (lv : Value) (b : Tx) (hm : m = ds.length) (h : TQ B q p L w) (hn63 : n ≤ 9223372036854775807) (hds : Sl w X 1 (.slice A m c) m (IVs ds))
    (hd63 : ∀ x ∈ ds, x ≤ 9223372036854775807) (hlv : Sl w Y 1 lv b.length (BVs b)) (hbl : b.length ≤ 140737488355327) (hdl : m ≤ 140737488355328) :
    Calls Try.prog 26 #[.pointer (some ⟨p, 0, none⟩), .int .i64 r, lv, .int .i64 i, .int .i64 n, .slice A m c] w fun e w' => e = .returned (.bool (verify L r b i n ds)) ∧ TQ B q p L w' ∧ Below w.heap.size w w' := by
  subst hm
  have h0 := h
  obtain ⟨S, h1, h2⟩ := h
  refine (verify_any w S X Y p L r i n A c ds lv b hn63 h1 hds hd63 hlv hbl hdl).mono ?_
  rintro e w' ⟨rfl, hb⟩
  exact ⟨rfl, h0.after hb, hb⟩
end

/-- The document's three leaves. -/
def abc : List Tx := [[97], [98], [99]]
def tabc : List Tx := [leafB [97], leafB [98], nodeB 1 2, leafB [99], nodeB 3 4]
theorem root_abc : root [] abc = (5, tabc) := by decide +kernel
theorem prove_abc : prove tabc 2 abc = ([3], tabc) := by decide +kernel
theorem sums_abc : (sum tabc (leafB [97]), add tabc (leafB [97])) = (1, tabc) ∧ (sum tabc (leafB [98]), add tabc (leafB [98])) = (2, tabc) ∧ (sum tabc (nodeB 1 2), add tabc (nodeB 1 2)) = (3, tabc) ∧ (sum tabc (leafB [99]), add tabc (leafB [99])) = (4, tabc)
    ∧ (sum tabc (nodeB 3 4), add tabc (nodeB 3 4)) = (5, tabc) := by decide +kernel
theorem verify_abc : verify tabc 5 [99] 2 3 [3] = true := by
  have h : comes tabc [99] 2 3 [3] = some 5 := by decide +kernel
  have hl : ([3] : List Int).length = len 2 3 := by decide +kernel
  exact (verify_some (i := 2) (n := 3) (by omega) hl h).trans rfl

/-- A literal of bytes out of a constant: its row bears a mark behind its last cell. -/
def Lt (z : Int) : Obj := .cells #[.int .u8 z] 5 (1, 2)
theorem sl_row {W : World} {X : Nat → Prop} {g : Nat} {x : UInt8} (h : W.heap[g]? = some (Lt (x.toNat : Int))) (hX : ¬ X g) : Sl W X 1 (.slice (some ⟨g, 0, none⟩) 1 1) ([x] : Tx).length (BVs [x]) :=
  ⟨_, _, rfl, by simp [BVs_len], Nat.le_refl _, by decide, fun _ => ⟨_, rfl, (Array.getElem?_eq_some_iff.1 h).1, hX, fun j u hu => by
    have ha : (⟨g, 0, none⟩ : Addr).add j = ⟨g, j, none⟩ := by unfold Addr.add; split <;> simp_all
    rw [ha, cell_of_row W g j _ _ _ h]
    simpa [BVs, BV] using hu⟩⟩
theorem lit_new (w : World) (X : Nat → Prop) (x : UInt8) (hX : ¬ X w.heap.size) : Sl (w.alloc (Lt (x.toNat : Int))) X 1 (.slice (some ⟨w.heap.size, 0, none⟩) 1 1) ([x] : Tx).length (BVs [x]) := sl_row (heap_alloc_new w _) hX
/-- Three literals and a slice of them. -/
def L3 (w : World) : World := (((w.alloc (Lt 97)).alloc (Lt 98)).alloc (Lt 99)).alloc (.cells #[.slice (some ⟨w.heap.size, 0, none⟩) 1 1, .slice (some ⟨w.heap.size + 1, 0, none⟩) 1 1, .slice (some ⟨w.heap.size + 1 + 1, 0, none⟩) 1 1] 41)
theorem lits3 (w : World) (X : Nat → Prop) (hX : ∀ k, w.heap.size ≤ k → ¬ X k) : Ls (L3 w) X (.slice (some ⟨w.heap.size + 1 + 1 + 1, 0, none⟩) 3 3) abc := by
  obtain ⟨t1, t2, t3⟩ := three w (Lt 97) (Lt 98) (Lt 99)
  have b := (Below.refl (((w.alloc (Lt 97)).alloc (Lt 98)).alloc (Lt 99)).heap.size _).alloc (Nat.le_refl _) (.cells #[.slice (some ⟨w.heap.size, 0, none⟩) 1 1, .slice (some ⟨w.heap.size + 1, 0, none⟩) 1 1, .slice (some ⟨w.heap.size + 1 + 1, 0, none⟩) 1 1] 41)
  have bl := fun (g : Nat) (o : Obj) (h : (((w.alloc (Lt 97)).alloc (Lt 98)).alloc (Lt 99)).heap[g]? = some o) => (b.block g (Array.getElem?_eq_some_iff.1 h).1).trans h
  refine ⟨[.slice (some ⟨w.heap.size, 0, none⟩) 1 1, .slice (some ⟨w.heap.size + 1, 0, none⟩) 1 1, .slice (some ⟨w.heap.size + 1 + 1, 0, none⟩) 1 1], ⟨_, _, rfl, rfl, Nat.le_refl _, by decide, fun _ => ⟨_, rfl, by simp [L3], hX _ (by show w.heap.size ≤ w.heap.size + 1 + 1 + 1; omega), fun j u hu => ?_⟩⟩, fun i hi => ?_⟩
  · have ha : (⟨w.heap.size + 1 + 1 + 1, 0, none⟩ : Addr).add j = ⟨w.heap.size + 1 + 1 + 1, j, none⟩ := by unfold Addr.add; split <;> simp_all
    rw [ha]
    have hb : Blk (L3 w) (w.heap.size + 1 + 1 + 1) 41 #[.slice (some ⟨w.heap.size, 0, none⟩) 1 1, .slice (some ⟨w.heap.size + 1, 0, none⟩) 1 1, .slice (some ⟨w.heap.size + 1 + 1, 0, none⟩) 1 1] := Blk.new_at (by simp) rfl
    rw [hb.cell j]
    simpa using hu
  · have hi : i < 3 := hi
    have : i = 0 ∨ i = 1 ∨ i = 2 := by omega
    rcases this with rfl | rfl | rfl
    · exact ⟨_, rfl, sl_row (x := 97) (bl _ _ t1) (hX _ (by omega))⟩
    · exact ⟨_, rfl, sl_row (x := 98) (bl _ _ t2) (hX _ (by omega))⟩
    · exact ⟨_, rfl, sl_row (x := 99) (bl _ _ t3) (hX _ (by omega))⟩
theorem four_below (w : World) (a b c d : Obj) : Below w.heap.size w ((((w.alloc a).alloc b).alloc c).alloc d) := (three_below w a b c).alloc (by simp; omega) _

theorem l3_below (w : World) : Below w.heap.size w (L3 w) := four_below w _ _ _ _

end Go.Proofs.Ytepdajhgfdjklaa.Ml

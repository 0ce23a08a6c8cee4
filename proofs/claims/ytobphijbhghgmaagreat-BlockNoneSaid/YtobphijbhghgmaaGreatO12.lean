/-
  Contracts of bytes.Equal and of the document's table: Same, SameAll, Look, Open, Sum.
-/
import Derived.Test.YtobphijbhghgmaaGreatO11
import Derived.Test.YtobphijbhghgmaaGreatO03
import Derived.Test.YtobphijbhghgmaaGreatShelf
import Derived.Lib.MinMax
import Derived.Lib.ItoaNum
import Derived.LoopTactic
import Derived.StillTailTactics
import Derived.Laws.EntriesVeiled
import Derived.Test.YtobphijbhghgmaaGreatO04
import Derived.Deep.RegionLaw
import Derived.Deep.QuietTactic
import Derived.BigQuiet
import Derived.Outline
import Derived.Test.YtobphijbhghgmaaGreatO07
namespace Go.Proofs.YtobphijbhghgmaaGreat.Ih
set_option linter.unusedSimpArgs false
set_option linter.unusedVariables false
set_option maxRecDepth 100000
open Go Go.RowKit Ck Im Kw Ik Ia Ib Ic Ig Ie

theorem Ls.shape {w : World} {X : Nat → Prop} {v : Value} {ls : List (List UInt8)} (h : Ls w X v ls) : ∃ A c, v = .slice A ls.length c := by
  obtain ⟨vals, ⟨A, c, hv, _⟩, _⟩ := h
  exact ⟨A, c, hv⟩

end Go.Proofs.YtobphijbhghgmaaGreat.Ih

/-
  Contract of the document's table: Sum.
-/
namespace Go.Proofs.YtobphijbhghgmaaGreat.Ij
set_option linter.unusedSimpArgs false
set_option linter.unusedVariables false
set_option maxRecDepth 100000
open Go Go.RowKit Ck Im Kw Ik Ia Ib Ic Ig Ie Ih

/-- What Sum leaves of the document's table. -/
def RSummed (S : Nat → Prop) (p : Nat) (L : List Tx) (b : Tx) (w : World) (e : Ending) (w' : World) : Prop :=
  e = .returned (.int .i64 (sum L b : Int)) ∧ Rf w' (Up S w w') p (add L b) ∧ Ch S w w'

theorem Rf.up {w w' : World} {S : Nat → Prop} {p : Nat} {L : List Tx} (h : Rf w' S p L) : Rf w' (Up S w w') p L := by
  obtain ⟨lv, h1, h2, h3, h4⟩ := h
  refine ⟨lv, h1, .inl h2, h3.weaken ?_, h4⟩
  rintro k _ (hn | rfl)
  · exact .inl fun hs => hn (.inl hs)
  · exact .inr rfl

end Go.Proofs.YtobphijbhghgmaaGreat.Ij

/-
  Contracts of layer 5's small functions: leafBytes, putDigest, nodeBytes, Leaf, Node, Split, half, isPlace.
-/
namespace Go.Proofs.YtobphijbhghgmaaGreat.Ma
set_option linter.unusedSimpArgs false
open Go Go.RowKit Ck Im Kw Ik Ia Ib Ic Ig Ih Ij Mm
attribute [local go_sem ↓] Go.wp_at_zero Go.wp_at_succ
set_option linter.unusedVariables false

/-- A literal's row. -/
theorem own_lit (w : World) {base : Nat} (hb : base ≤ w.heap.size) (e : TypeId) (cs : Array Value) {n : Nat} (hn : cs.size = n) (hm : n ≤ 65536) {xs : List Value} (hx : xs = cs.toList) :
    (w.alloc (.cells cs e)).ownsRow base e 1 (.slice (some ⟨w.heap.size, 0, none⟩) n n) n xs := by
  subst hx
  refine ⟨by simp [hn], .inr ⟨w.heap.size, n, cs, rfl, hb, heap_alloc_new w _, Nat.le_refl _, by simp only [maxLen]; omega, by omega, ?_⟩⟩
  rw [List.take_of_length_le (by simp; omega)]

set_option maxHeartbeats 400000 in
theorem leafbytes_any (w : World) (X : Nat → Prop) (v : Value) (n : Nat) (b : Tx) (hb : Sl w X 1 v n (BVs b)) (hl : n ≤ 140737488355327) :
    Calls Tryz.prog 99 #[v] w fun e w' => Made w 5 (leafB b) e w' := by
  obtain ⟨i0, hi0, hz0, hz1, hz2⟩ := info_parts info_u8
  have hn : n = b.length := by obtain ⟨A, c, _, h, _⟩ := hb; rw [BVs_len] at h; omega
  subst hn
  go_enter Tryz.func99, Tryz.ntmps99
  go_wp2_with (at_builtin; refine wpList_append_sl _ rfl (.tmp 3) (.tmp 4) _ rfl w.heap.size 5 i0 _ 1 1 Tryz.underlying25 hi0 hz0 hz1 hz2 rfl (by omega) (.slice (some ⟨w.heap.size, 0, none⟩) 1 1) 1 (BVs [0]) rfl (own_lit w (Nat.le_refl _) _ _ (n := 1) rfl (by decide) rfl) X _ b.length (BVs b) rfl (hb.alloc _) (BVs_one _) (by simp only [maxLen]; omega) (by omega) (by simp) ?_; intro v2 w2 happ)
  go_ret
  refine ⟨v2, rfl, ?_, ((Below.refl _ _).alloc (Nat.le_refl _) _).grown happ.2.1 (by simp) (by simp [Value.ownBlock])⟩
  have h := happ.1
  have e : (leafB b).length = 1 + b.length := by simp [leafB]; omega
  rw [e]
  exact h
theorem max_nat (d : Int) (hd : d ≤ 9223372036854775807) : ∃ k : Nat, max d 0 = (k : Int) ∧ d.toNat = k ∧ k ≤ 9223372036854775807 := ⟨d.toNat, by omega, rfl, by omega⟩
theorem wrap_nat (k : Nat) (hk : k ≤ 9223372036854775807) : IntKind.u64.wrap (k : Int) = (k : Int) := by
  simp [IntKind.wrap, IntKind.bits, IntKind.signed]
  omega

set_option maxRecDepth 100000 in
set_option maxHeartbeats 400000 in
theorem putdigest_any (w : World) (X : Nat → Prop) (v : Value) (n : Nat) (b : Tx) (d : Int) (hv : Sl w X 1 v n (BVs b)) (hn : n ≤ 1099511627776) (hd : d ≤ 9223372036854775807) :
    Calls Tryz.prog 119 #[v, .int .i64 d] w fun e w' => Made w 5 (b ++ Cm.enc d.toNat) e w' := by
  obtain ⟨k, hk, hk2, hk3⟩ := max_nat d hd
  rw [hk2]
  have hw := wrap_nat k hk3
  have HC := Lib.hid (Cb.putnum_any X v n b k w hv (by omega) (by omega))
  clear hv hn hd hk2 hk3
  go_enter Tryz.func119, Tryz.ntmps119
  go_wp2_with fail
  refine HC.out.mono ?_
  rintro e w' ⟨v', rfl, h1, h2⟩
  go_wp2_with fail
  go_ret
  exact ⟨v', rfl, h1, h2⟩

theorem enc_two (a b : Int) : nodeB a b = [1] ++ Cm.enc a.toNat ++ Cm.enc b.toNat := by simp [nodeB]
set_option maxHeartbeats 400000 in
theorem nodebytes_any (w : World) (a b : Int) (ha : a ≤ 9223372036854775807) (hb : b ≤ 9223372036854775807) :
    Calls Tryz.prog 100 #[.int .i64 a, .int .i64 b] w fun e w' => Made w 5 (nodeB a b) e w' := by
  have hla := (Cm.enc_len a.toNat).1
  go_enter Tryz.func100, Tryz.ntmps100
  go_wp2_with fail
  have HS := Lib.hid (Cd.one_new w (fun _ => False) 5 (z := 1) (n := 1) rfl (by omega) (fun h => h))
  refine (putdigest_any _ _ _ _ _ a HS.out (by omega) ha).mono ?_
  rintro e w1 ⟨v1, rfl, ho1, hb1⟩
  have HO1 := Lib.hid ho1
  have HB1 := Lib.hid hb1
  clear ho1 hb1
  go_wp2_with fail
  refine (putdigest_any _ (fun _ => False) v1 _ ([UInt8.ofNat 1] ++ Cm.enc a.toNat) b (Sl.of_own HO1.out (fun _ _ _ h => h)) (by simp; omega) hb).mono ?_
  rintro e w2 ⟨v2, rfl, ho2, hb2⟩
  go_wp2_with fail
  go_ret
  have b0 : Below w.heap.size w (w.alloc (.cells #[.int .u8 1] 5)) := (Below.refl _ w).alloc (Nat.le_refl _) _
  have b1 : Below w.heap.size w w1 := b0.trans (HB1.out.mono b0.size)
  refine ⟨v2, rfl, ?_, b1.trans (hb2.mono b1.size)⟩
  rw [enc_two]
  exact own_base ho2 b1.size

theorem Summed.later {S : Nat → Prop} {p : Nat} {L : List Tx} {b : Tx} {w w1 w2 : World} {e : Ending} (b1 : Below w.heap.size w w1) (h : Summed S p L b w1 e w2) : Summed S p L b w e w2 := by
  obtain ⟨he, ht, hc⟩ := h
  refine ⟨he, ht.weaken fun k hk => ?_, (Ch.of_below (S := fun _ => False) b1 (Nat.le_refl _)).mono (fun _ _ h => h.elim) |>.trans hc (fun _ _ h => h)⟩
  rcases hk with hk | ⟨h1, h2⟩
  · exact .inl hk
  · exact .inr ⟨Nat.le_trans b1.size h1, h2⟩
theorem Rf.weaken {S T : Nat → Prop} {w : World} {p : Nat} {L : List Tx} (h : Rf w S p L) (hd : ∀ k, S k → T k) : Rf w T p L := by
  obtain ⟨lv, h1, h2, h3, h4⟩ := h
  exact ⟨lv, h1, hd _ h2, h3.weaken (fun k _ hk => by
    rcases hk with hk | rfl
    · exact .inl fun hs => hk (hd _ hs)
    · exact .inr rfl), h4⟩
theorem RSummed.later {S : Nat → Prop} {p : Nat} {L : List Tx} {b : Tx} {w w1 w2 : World} {e : Ending} (b1 : Below w.heap.size w w1) (h : RSummed S p L b w1 e w2) : RSummed S p L b w e w2 := by
  obtain ⟨he, ht, hc⟩ := h
  refine ⟨he, Rf.weaken ht fun k hk => ?_, (Ch.of_below (S := fun _ => False) b1 (Nat.le_refl _)).mono (fun _ _ h => h.elim) |>.trans hc (fun _ _ h => h)⟩
  rcases hk with hk | ⟨h1, h2⟩
  · exact .inl hk
  · exact .inr ⟨Nat.le_trans b1.size h1, h2⟩
theorem Tb.after {S : Nat → Prop} {w w1 : World} {p : Nat} {L : List Tx} (h : Tb w S p L) (b1 : Below w.heap.size w w1) : Tb w1 S p L := Tb.ch h (Ch.of_below (S := fun _ => False) b1 (Nat.le_refl _)) (fun _ _ h => h)
theorem Rf.after {S : Nat → Prop} {w w1 : World} {p : Nat} {L : List Tx} (h : Rf w S p L) (b1 : Below w.heap.size w w1) : Rf w1 S p L := Rf.ch h (Ch.of_below (S := fun _ => False) b1 (Nat.le_refl _)) (fun _ _ h => h)
/-- Sum at bytes of the call's own. -/
theorem sum_made (w w1 : World) (S : Nat → Prop) (p : Nat) (L : List Tx) (v : Value) (b : Tx) (h : Tb w S p L) (ho : w1.ownsRow w.heap.size 5 1 v b.length (BVs b)) (b1 : Below w.heap.size w w1) (hl : b.length ≤ 140737488355328) :
    Calls Tryz.prog 39 #[.pointer (some ⟨p, 0, none⟩), v] w1 (Summed S p L b w) := by
  obtain ⟨A, c, rfl⟩ := own_shape ho
  exact (sum_yes w1 S (fun _ => False) p L A c b (Tb.after h b1) (Sl.of_own ho (fun _ _ _ h => h)) hl).mono fun _ _ h => Summed.later b1 h
theorem leaf_len (b : Tx) : (leafB b).length = b.length + 1 := by simp [leafB]
theorem node_len (a b : Int) : (nodeB a b).length ≤ 21 := by
  have h1 := (Cm.enc_len a.toNat).1
  have h2 := (Cm.enc_len b.toNat).1
  simp [nodeB]; omega

/-- Leaf. -/
theorem leaf_any (w : World) (S X : Nat → Prop) (p : Nat) (L : List Tx) (v : Value) (n : Nat) (b : Tx) (h : Tb w S p L) (hb : Sl w X 1 v n (BVs b)) (hl : n ≤ 140737488355327) :
    Calls Tryz.prog 81 #[.pointer (some ⟨p, 0, none⟩), v] w (Summed S p L (leafB b) w) := by
  have hn : n = b.length := by obtain ⟨A, c, _, h, _⟩ := hb; rw [BVs_len] at h; omega
  have HL := Lib.hid (leafbytes_any w X v n b hb hl)
  have HT := Lib.hid h
  have hll : (leafB b).length ≤ 140737488355328 := by rw [leaf_len]; omega
  have HLL := Lib.hid hll
  clear h hb hl hn hll
  go_enter Tryz.func81, Tryz.ntmps81
  go_wp2_with fail
  refine HL.out.mono ?_
  rintro e w1 ⟨v1, rfl, ho1, hb1⟩
  have HS := Lib.hid (sum_made w w1 S p L v1 (leafB b) HT.out ho1 hb1 HLL.out)
  clear ho1 hb1
  go_wp2_with fail
  refine HS.out.mono ?_
  rintro e w2 ⟨rfl, ht, hc⟩
  have HR := Lib.hid (And.intro ht hc)
  clear ht hc
  go_wp2_with fail
  go_ret
  exact ⟨rfl, HR.out.1, HR.out.2⟩
/-- Node. -/
theorem node_any (w : World) (S : Nat → Prop) (p : Nat) (L : List Tx) (a b : Int) (h : Tb w S p L) (ha : a ≤ 9223372036854775807) (hb : b ≤ 9223372036854775807) :
    Calls Tryz.prog 82 #[.pointer (some ⟨p, 0, none⟩), .int .i64 a, .int .i64 b] w (Summed S p L (nodeB a b) w) := by
  have HL := Lib.hid (nodebytes_any w a b ha hb)
  have HT := Lib.hid h
  have HLL := Lib.hid (Nat.le_trans (node_len a b) (show 21 ≤ 140737488355328 by omega))
  clear h ha hb
  go_enter Tryz.func82, Tryz.ntmps82
  go_wp2_with fail
  refine HL.out.mono ?_
  rintro e w1 ⟨v1, rfl, ho1, hb1⟩
  have HS := Lib.hid (sum_made w w1 S p L v1 _ HT.out ho1 hb1 HLL.out)
  clear ho1 hb1
  go_wp2_with fail
  refine HS.out.mono ?_
  rintro e w2 ⟨rfl, ht, hc⟩
  have HR := Lib.hid (And.intro ht hc)
  clear ht hc
  go_wp2_with fail
  go_ret
  exact ⟨rfl, HR.out.1, HR.out.2⟩
end Go.Proofs.YtobphijbhghgmaaGreat.Ma

/-
  Contracts of layer 5: Split, half, isPlace, Length; the document's Split and Length.
-/
namespace Go.Proofs.YtobphijbhghgmaaGreat.Mb
set_option linter.unusedSimpArgs false
open Go Go.RowKit Ck Im Kw Ik Ia Ib Ic Ig Ih Ij Mm Ma
attribute [local go_sem ↓] Go.wp_at_zero Go.wp_at_succ
set_option linter.unusedVariables false

theorem split_bitlen {n : Nat} (h : 2 ≤ n) (hn : n ≤ 9223372036854775807) : ∃ k, Lib.bitLen (n - 1) = k + 1 ∧ k ≤ 62 ∧ split n = 2 ^ k := by
  obtain ⟨h1, h2, h3⟩ := Lib.bitLenAux_bounds 64 (n - 1) (by
    have : (2 : Nat) ^ 64 = 18446744073709551616 := by decide
    rw [this]; omega) (by omega)
  have hb : Lib.bitLen (n - 1) = Lib.bitLenAux 64 (n - 1) := rfl
  obtain ⟨k, hk⟩ : ∃ k, Lib.bitLenAux 64 (n - 1) = k + 1 := ⟨Lib.bitLenAux 64 (n - 1) - 1, by omega⟩
  rw [hk] at h2 h3
  simp only [Nat.add_sub_cancel] at h2
  refine ⟨k, by rw [hb, hk], ?_, ?_⟩
  · rcases Nat.lt_or_ge 62 k with h4 | h4
    · have h5 : 2 ^ 63 ≤ 2 ^ k := Nat.pow_le_pow_right (by omega) h4
      have : (2 : Nat) ^ 63 = 9223372036854775808 := by decide
      omega
    · exact h4
  · unfold split
    rw [if_neg (by omega), (Nat.log2_eq_iff (by omega)).2 ⟨h2, h3⟩]

theorem split_small {n : Int} (h : n < 2) : split n.toNat = 0 := by
  unfold split
  rw [if_pos (by omega)]
theorem pow_le62 {k : Nat} (hk : k ≤ 62) : 2 ^ k ≤ 4611686018427387904 ∧ 1 ≤ 2 ^ k := by
  have h := Nat.pow_le_pow_right (n := 2) (by omega) hk
  have : (2 : Nat) ^ 62 = 4611686018427387904 := by decide
  have := Nat.one_le_two_pow (n := k)
  omega

theorem pow_wrap {k : Nat} (hk : k ≤ 62) : wrap64 ((2 : Int) ^ k) = ((2 ^ k : Nat) : Int) := by
  have h := pow_le62 hk
  have e : ((2 : Int) ^ k) = ((2 ^ k : Nat) : Int) := by simp
  rw [e]
  generalize 2 ^ k = x at *
  unfold wrap64
  omega
set_option maxRecDepth 100000 in
set_option maxHeartbeats 400000 in
theorem split_any (w : World) (n : Int) (hn : n ≤ 9223372036854775807) :
    Calls Tryz.prog 76 #[.int .i64 n] w fun e w' => e = .returned (.int .i64 (split n.toNat : Int)) ∧ w = w' := by
  by_cases h2 : n < 2
  · rw [split_small h2]
    clear hn
    go_enter Tryz.func76, Tryz.ntmps76
    go_wp2_with fail
    go_ret
    exact ⟨rfl, rfl⟩
  · obtain ⟨m, rfl⟩ : ∃ m : Nat, n = (m : Int) := ⟨n.toNat, by omega⟩
    obtain ⟨k, hk, hk62, hs⟩ := split_bitlen (n := m) (by omega) (by omega)
    rw [show ((m : Int)).toNat = m from by omega, hs]
    have HB := Lib.hid hk
    have hm2 : 2 ≤ m := by omega
    have hm3 : m ≤ 9223372036854775807 := by omega
    clear hs hn h2 hk
    go_enter Tryz.func76, Tryz.ntmps76
    go_wp2_with fail
    have HC : Hid (∀ W, Calls Tryz.prog 96 #[.int .u64 ((m : Int) - 1)] W fun e w' => e = .returned (.int .i64 ((k : Int) + 1)) ∧ W = w') := Lib.hid fun W => by
      refine (Any.bits_Len Tryz.bitsLen ((m : Int) - 1) W (by omega) (by omega)).mono ?_
      rintro e w' ⟨rfl, rfl⟩
      rw [show ((m : Int) - 1).toNat = m - 1 from by omega, HB.out]
      exact ⟨rfl, rfl⟩
    refine (HC.out w).mono ?_
    rintro e w' ⟨rfl, rfl⟩
    go_wp2_with fail
    go_ret
    exact ⟨by rw [← pow_wrap hk62]; rfl, rfl⟩

/-- Is i a place of n? (A word of its own: the walk leaves it whole.) -/
def isPl (i n : Int) : Bool := decide (0 ≤ i ∧ i < n)
theorem isPl_yes {i n : Int} (h : 0 ≤ i) (h' : i < n) : isPl i n = true := by simp [isPl, h, h']
theorem isPl_no {i n : Int} (h : ¬ (0 ≤ i ∧ i < n)) : isPl i n = false := by simp only [isPl, decide_eq_false_iff_not]; exact h
theorem isplace_any (w : World) (i n : Int) :
    Calls Tryz.prog 73 #[.int .i64 i, .int .i64 n] w fun e w' => e = .returned (.bool (isPl i n)) ∧ w = w' := by
  by_cases h0 : 0 ≤ i
  · by_cases h1 : i < n
    · have HP := Lib.hid (isPl_yes h0 h1)
      go_enter Tryz.func73, Tryz.ntmps73
      go_wp2_with fail
      go_ret
      exact ⟨by rw [HP.out]; rfl, rfl⟩
    · have HP := Lib.hid (isPl_no (i := i) (n := n) (by omega))
      go_enter Tryz.func73, Tryz.ntmps73
      go_wp2_with fail
      go_ret
      exact ⟨by rw [HP.out]; rfl, rfl⟩
  · have HP := Lib.hid (isPl_no (i := i) (n := n) (by omega))
    go_enter Tryz.func73, Tryz.ntmps73
    go_wp2_with fail
    go_ret
    exact ⟨by rw [HP.out]; rfl, rfl⟩

end Go.Proofs.YtobphijbhghgmaaGreat.Mb

/-
  Contracts of layer 5: Root of a list, the program's and the document's.
-/
namespace Go.Proofs.YtobphijbhghgmaaGreat.Mc
set_option linter.unusedSimpArgs false
open Go Go.RowKit Ck Im Kw Ik Ia Ib Ic Ig Ih Ij Mm Ma Mb
attribute [local go_sem ↓] Go.wp_at_zero Go.wp_at_succ
set_option linter.unusedVariables false

theorem up_mono {S : Nat → Prop} {a b c : World} (h : b.heap.size ≤ c.heap.size) {k : Nat} (hk : Up S a b k) : Up S a c k := by
  rcases hk with hk | ⟨h1, h2⟩
  · exact .inl hk
  · exact .inr ⟨h1, by omega⟩
theorem up_two {S : Nat → Prop} {a b c : World} (h : a.heap.size ≤ b.heap.size) (h' : b.heap.size ≤ c.heap.size) {k : Nat} (hk : Up (Up S a b) b c k) : Up S a c k := by
  rcases hk with hk | ⟨h1, h2⟩
  · exact up_mono h' hk
  · exact .inr ⟨by omega, h2⟩
theorem ch_two {S : Nat → Prop} {a b c : World} (h : Ch S a b) (h' : Ch (Up S a b) b c) : Ch S a c :=
  h.trans h' (fun k hk hu => by
    rcases hu with hu | ⟨h1, _⟩
    · exact hu
    · omega)
theorem Ls.old {w : World} {X : Nat → Prop} {v : Value} {ls : List (List UInt8)} (h : Ls w X v ls) {B : Nat} (hB : w.heap.size ≤ B) : Ls w (fun k => X k ∨ B ≤ k) v ls := by
  obtain ⟨vals, h1, h2⟩ := h
  exact ⟨vals, h1.old hB, fun i hi => by obtain ⟨u, hu, h3⟩ := h2 i hi; exact ⟨u, hu, h3.old hB⟩⟩

/-- A cut up to k, and from k on, of a slice of slices. -/
theorem cut_upto (A : Option Addr) (n c k : Nat) (hk : k ≤ c) (W : World) : (Instr.slice 38 (.slice A n c) none (some (.int .i64 (k : Int))) none).run Tryz.prog W = .ok (.slice A k c) W := by
  have he : ∀ W : World, (sizeOf (Tryz.prog.elem 38)).run Tryz.prog W = .ok 1 W := fun _ => by kernel_rfl
  rw [run_slice_h W 38 A n c (by kernel_rfl) .i64 k (by omega) (by omega), he]
  simp only [Result.andThen_ok, sliced, Int.toNat_natCast]
  congr 2
  by_cases h0 : c = 0
  · simp [h0]
  · cases A <;> simp [h0, Addr.add]
theorem cut_from (A : Option Addr) (n c k : Nat) (hk : k ≤ n) (hc : n ≤ c) : ∃ A', (∀ W : World, (Instr.slice 38 (.slice A n c) (some (.int .i64 (k : Int))) none none).run Tryz.prog W = .ok (.slice A' (n - k) (c - k)) W) ∧ (∀ ad, A = some ad → k < n → A' = some (ad.add (k * 1))) := by
  have he : ∀ W : World, (sizeOf (Tryz.prog.elem 38)).run Tryz.prog W = .ok 1 W := fun _ => by kernel_rfl
  refine ⟨if c = k then A else A.map (·.add (k * 1)), fun W => ?_, ?_⟩
  · rw [run_slice_l W 38 A n c (by kernel_rfl) .i64 k (by omega) (by omega), he]
    rfl
  · rintro ad rfl hlt
    rw [if_neg (by omega)]
    rfl
theorem Ls.cap {w : World} {X : Nat → Prop} {A : Option Addr} {n c : Nat} {ls : List (List UInt8)} (h : Ls w X (.slice A n c) ls) : n = ls.length ∧ n ≤ c := by
  obtain ⟨vals, ⟨A0, c0, hv, hl, hc, _⟩, _⟩ := h
  obtain ⟨_, e2, e3⟩ := Value.slice.inj hv
  omega
theorem Ls.upto {w : World} {X : Nat → Prop} {A : Option Addr} {c k : Nat} {ls : List (List UInt8)} (h : Ls w X (.slice A ls.length c) ls) (hk : k ≤ ls.length) : Ls w X (.slice A (ls.take k).length c) (ls.take k) := by
  obtain ⟨vals, h1, h2⟩ := h
  have hl : (ls.take k).length = k := by rw [List.length_take]; omega
  refine ⟨vals.take (k * 1), by rw [hl]; exact h1.upto hk, fun i hi => ?_⟩
  obtain ⟨u, hu, h3⟩ := h2 i (by omega)
  rw [hl] at hi
  refine ⟨u, by rw [List.getElem?_take, if_pos (by omega)]; exact hu, ?_⟩
  rw [List.getElem_take]
  exact h3
theorem Ls.from {w : World} {X : Nat → Prop} {A A' : Option Addr} {c k : Nat} {ls : List (List UInt8)} (h : Ls w X (.slice A ls.length c) ls) (hk : k ≤ ls.length) (hA : ∀ ad, A = some ad → k < ls.length → A' = some (ad.add (k * 1))) : Ls w X (.slice A' (ls.drop k).length (c - k)) (ls.drop k) := by
  obtain ⟨vals, h1, h2⟩ := h
  have hl : (ls.drop k).length = ls.length - k := List.length_drop
  refine ⟨vals.drop (k * 1), by rw [hl]; exact h1.cut hk A' hA, fun i hi => ?_⟩
  obtain ⟨u, hu, h3⟩ := h2 (k + i) (by omega)
  refine ⟨u, by rw [List.getElem?_drop, Nat.mul_one]; exact hu, ?_⟩
  rw [List.getElem_drop]
  exact h3

/-- What Root leaves of the program's table, and of the document's. -/
def Rooted (S : Nat → Prop) (p : Nat) (r : Nat × List Tx) (w : World) (e : Ending) (w' : World) : Prop := e = .returned (.int .i64 (r.1 : Int)) ∧ Tb w' (Up S w w') p r.2 ∧ Ch S w w'
def RRooted (S : Nat → Prop) (p : Nat) (r : Nat × List Tx) (w : World) (e : Ending) (w' : World) : Prop := e = .returned (.int .i64 (r.1 : Int)) ∧ Rf w' (Up S w w') p r.2 ∧ Ch S w w'
theorem root_le : ∀ (l L : List Tx), L.length ≤ 1048576 → (root L l).1 ≤ 1048576 ∧ (root L l).2.length ≤ 1048576
  | l, L, h => by
    by_cases h0 : l.length = 0
    · rw [List.eq_nil_of_length_eq_zero h0, root_nil]
      exact ⟨sum_le h, add_len h⟩
    · by_cases h1 : l.length = 1
      · rw [root_one L h1]
        exact ⟨sum_le h, add_len h⟩
      · obtain ⟨s1, s2, s3⟩ := split_spec (n := l.length) (by omega)
        rw [root_more L (by omega)]
        have a := root_le (l.take (split l.length)) L h
        have b := root_le (l.drop (split l.length)) _ a.2
        exact ⟨sum_le b.2, add_len b.2⟩
  termination_by l => l.length
  decreasing_by all_goals simp only [List.length_take, List.length_drop]; omega
theorem Tb.len {w : World} {S : Nat → Prop} {p : Nat} {L : List Tx} (h : Tb w S p L) : L.length ≤ 1048576 := by
  obtain ⟨m, tv, D, _, _, _, _, _, _, _, _, h⟩ := h
  exact h
theorem Rf.len {w : World} {S : Nat → Prop} {p : Nat} {L : List Tx} (h : Rf w S p L) : L.length ≤ 1048576 := by
  obtain ⟨lv, _, _, _, _, h⟩ := h
  exact h

theorem addr_zero (a : Addr) : a.add 0 = a := by unfold Addr.add; simp
theorem ch_of_drew {S : Nat → Prop} {w w2 : World} (h : Ch S w.drew w2) : Ch S w w2 := ⟨h.os, h.tape, h.output, h.size, h.block⟩
theorem Rooted.of_drew {S : Nat → Prop} {p : Nat} {r : Nat × List Tx} {w w2 : World} {e : Ending} (h : Rooted S p r w.drew e w2) : Rooted S p r w e w2 := ⟨h.1, h.2.1, ch_of_drew h.2.2⟩
/-- Root's own closure: the block of the table's variable, and of its own. -/
def Clo (w : World) (p Bt Bd : Nat) : Prop :=
  Blk w Bt 34 #[.pointer (some ⟨p, 0, none⟩)] ∧ Blk w Bd 146 #[.func (.func 80) #[] #[.pointer (some ⟨Bt, 0, none⟩), .pointer (some ⟨Bd, 0, none⟩)]]
theorem Clo.ch {w w' : World} {S : Nat → Prop} {p Bt Bd : Nat} (h : Clo w p Bt Bd) (c : Ch S w w') (ht : ¬ S Bt) (hd : ¬ S Bd) : Clo w' p Bt Bd := ⟨h.1.ch c ht, h.2.ch c hd⟩
theorem up_not {S : Nat → Prop} {w w' : World} {B : Nat} (h : ¬ S B) (hB : B < w.heap.size) : ¬ Up S w w' B := by
  rintro (h1 | h1)
  · exact h h1
  · omega

set_option maxRecDepth 100000 in
set_option maxHeartbeats 1000000 in
theorem down_any : ∀ (f : Nat) (w : World) (S X : Nat → Prop) (p : Nat) (L : List Tx) (A : Option Addr) (c : Nat) (ls : List Tx) (Bt Bd : Nat), ls.length ≤ f → 1 ≤ ls.length → ls.length ≤ 140737488355328 → Tb w S p L → Ls w X (.slice A ls.length c) ls →
    (∀ k, S k → X k) → Clo w p Bt Bd → ¬ S Bt → ¬ S Bd → (∀ x ∈ ls, x.length ≤ 140737488355327) →
    Calls Tryz.prog 80 #[.slice A ls.length c, .pointer (some ⟨Bt, 0, none⟩), .pointer (some ⟨Bd, 0, none⟩)] w (Rooted S p (root L ls) w)
  | 0, w, S, X, p, L, A, c, ls, Bt, Bd, hf, h1, _, _, _, _, _, _, _, _ => by omega
  | f + 1, w, S, X, p, L, A, c, ls, Bt, Bd, hf, h1, hbig, hT, hls, hSX, hC, hnt, hnd, hall => by
    have ct : w.cell? ⟨Bt, 0, none⟩ = some (.pointer (some ⟨p, 0, none⟩)) := hC.1.cell 0
    have cd : w.cell? ⟨Bd, 0, none⟩ = some (.func (.func 80) #[] #[.pointer (some ⟨Bt, 0, none⟩), .pointer (some ⟨Bd, 0, none⟩)]) := hC.2.cell 0
    by_cases hone : ls.length = 1
    · obtain ⟨x, rfl⟩ : ∃ x, ls = [x] := ⟨_, one_of hone⟩
      obtain ⟨ad, B, d, rfl, hcell, hx⟩ := hls.at_ (i := 0) (by simp)
      have hcell : w.cell? (ad.add 0) = some (.slice B x.length d) := hcell
      have hx : Sl w X 1 (.slice B x.length d) x.length (BVs x) := hx
      rw [addr_zero] at hcell
      have HL := Lib.hid (leaf_any w.drew S X p L (.slice B x.length d) x.length x hT hx (hall x (by simp)))
      have HR := Lib.hid (root_one L (l := [x]) rfl)
      clear hf h1 hbig hT hls hSX hC hnt hnd hall hone hx
      go_enter Tryz.func80, Tryz.ntmps80
      go_wp2_with fail
      go_still_tail 4, (by kernel_rfl)
      change wpList _ _ _ _ _ w.drew
      go_wp2_with fail
      refine HL.out.mono ?_
      rintro e w2 ⟨rfl, ht, hc⟩
      have HE := Lib.hid (And.intro ht hc)
      clear ht hc
      go_wp2_with fail
      go_ret
      rw [HR.out]
      exact ⟨rfl, HE.out.1, ⟨HE.out.2.os, HE.out.2.tape, HE.out.2.output, HE.out.2.size, HE.out.2.block⟩⟩
    · obtain ⟨s1, s2, s3⟩ := split_spec (n := ls.length) (by omega)
      have HM := Lib.hid (root_more L (l := ls) (by omega))
      have hsp := split_any w ls.length (by omega)
      rw [show ((ls.length : Int)).toNat = ls.length from by omega] at hsp
      obtain ⟨hle, hcap⟩ := Ls.cap hls
      have hL := Tb.len hT
      generalize hk : split ls.length = k at *
      clear hk
      have hlt : (ls.take k).length = k := by rw [List.length_take]; omega
      have hld : (ls.drop k).length = ls.length - k := List.length_drop
      have h1' := down_any f w.drew S X p L A c (ls.take k) Bt Bd (by omega) (by omega) (by omega) hT (Ls.upto hls (by omega)) hSX hC hnt hnd (fun x hx => hall x (List.mem_of_mem_take hx))
      rw [hlt] at h1'
      have r1 := cut_upto A ls.length c k (by omega)
      obtain ⟨A', r2, a2⟩ := cut_from A ls.length c k (by omega) hcap
      have hls2 := Ls.old (Ls.from hls (by omega) a2) (Nat.le_refl _)
      have hr1 := root_le (ls.take k) L hL
      have hr2 := root_le (ls.drop k) _ hr1.2
      have H2 : Hid (∀ w1, Rooted S p (root L (ls.take k)) w (.returned (.int .i64 ((root L (ls.take k)).1 : Int))) w1 → Clo w1 p Bt Bd ∧
          Calls Tryz.prog 80 #[.slice A' (ls.length - k) (c - k), .pointer (some ⟨Bt, 0, none⟩), .pointer (some ⟨Bd, 0, none⟩)] w1.drew (Rooted (Up S w w1) p (root (root L (ls.take k)).2 (ls.drop k)) w1)) := Lib.hid fun w1 hr => by
        obtain ⟨_, ht1, hc1⟩ := hr
        have hC1 := hC.ch hc1 hnt hnd
        refine ⟨hC1, ?_⟩
        have := down_any f w1.drew (Up S w w1) (fun k => X k ∨ w.heap.size ≤ k) p _ A' (c - k) (ls.drop k) Bt Bd (by omega) (by omega) (by omega) ht1 (hls2.ch hc1.drew (fun k _ hk => .inl (hSX k hk))) (fun k hk => by
          rcases hk with hk | hk
          · exact .inl (hSX k hk)
          · exact .inr hk.1) hC1 (up_not hnt hC.1.lt) (up_not hnd hC.2.lt) (fun x hx => hall x (List.mem_of_mem_drop hx))
        rw [hld] at this
        exact this.mono fun _ _ h => Rooted.of_drew h
      have H1 := Lib.hid h1'
      have HS := Lib.hid hsp
      have hk2 : k ≤ c := by omega
      have hk3 : k ≤ ls.length := by omega
      have h2 : 2 ≤ ls.length := by omega
      have HB := Lib.hid (And.intro hr1 hr2)
      have HNN := Lib.hid (And.intro hnt (And.intro hC.1.lt hnd))
      clear h1' hsp hf h1 hbig hT hls hSX hC hnt hnd hall hlt hld hls2 a2 hr1 hr2 hle s1 s2 s3
      go_enter Tryz.func80, Tryz.ntmps80
      go_wp2_with fail
      refine HS.out.mono ?_
      rintro e w' ⟨rfl, rfl⟩
      go_wp2_with fail
      go_still_tail 4, (by kernel_rfl)
      change wpList _ _ _ _ _ w.drew
      go_wp2_with fail
      refine H1.out.mono ?_
      rintro e w1 hr
      obtain ⟨rfl, ht1, hc1⟩ := Rooted.of_drew hr
      obtain ⟨hC1, h2c⟩ := H2.out w1 ⟨rfl, ht1, hc1⟩
      have ct1 : w1.cell? ⟨Bt, 0, none⟩ = some (.pointer (some ⟨p, 0, none⟩)) := hC1.1.cell 0
      have cd1 : w1.cell? ⟨Bd, 0, none⟩ = some (.func (.func 80) #[] #[.pointer (some ⟨Bt, 0, none⟩), .pointer (some ⟨Bd, 0, none⟩)]) := hC1.2.cell 0
      have H2C := Lib.hid h2c
      have HC1 := Lib.hid hc1
      have HCL := Lib.hid hC1
      clear hr ht1 hc1 h2c hC1 H2 ct cd
      go_wp2_with fail
      go_still_tail 4, (by kernel_rfl)
      change wpList _ _ _ _ _ w1.drew
      go_wp2_with fail
      refine H2C.out.mono ?_
      rintro e w2 ⟨rfl, ht2, hc2⟩
      have HN := Lib.hid (node_any w2 _ p _ ((root L (ls.take k)).1 : Int) ((root (root L (ls.take k)).2 (ls.drop k)).1 : Int) ht2 (by have := HB.out.1.1; omega) (by have := HB.out.2.1; omega))
      have ct2 : w2.cell? ⟨Bt, 0, none⟩ = some (.pointer (some ⟨p, 0, none⟩)) := (HCL.out.1.ch hc2 (up_not HNN.out.1 HNN.out.2.1)).cell 0
      have HC2 := Lib.hid hc2
      clear ht2 hc2
      go_wp2_with fail
      refine HN.out.mono ?_
      rintro e w3 ⟨rfl, ht3, hc3⟩
      have HR3 := Lib.hid (And.intro ht3 hc3)
      clear ht3 hc3
      go_wp2_with fail
      go_ret
      rw [HM.out]
      refine ⟨rfl, ?_, ?_⟩
      · exact HR3.out.1.weaken fun j hj => up_two HC1.out.size (Nat.le_trans HC2.out.size HR3.out.2.size) (by
          rcases hj with hj | hj
          · exact up_mono HR3.out.2.size hj
          · exact .inr ⟨Nat.le_trans HC2.out.size hj.1, hj.2⟩)
      · exact ch_two HC1.out (HC2.out.trans HR3.out.2 (fun j hj hu => by
          rcases hu with hu | hu
          · exact hu
          · have := hu.1; omega))

/-- The closure's value. -/
def FV (f : FuncId) (caps : List Nat) : Value := .func (.func f) #[] (caps.map fun b => Value.pointer (some ⟨b, 0, none⟩)).toArray
theorem clo_new (w : World) (p : Nat) :
    Clo ((w.alloc (.cells #[.pointer (some ⟨p, 0, none⟩)] 34)).alloc (.cells #[.func (.func 80) #[] #[.pointer (some ⟨w.heap.size, 0, none⟩), .pointer (some ⟨w.heap.size + 1, 0, none⟩)]] 146)) p w.heap.size (w.heap.size + 1)
    ∧ Below w.heap.size w ((w.alloc (.cells #[.pointer (some ⟨p, 0, none⟩)] 34)).alloc (.cells #[.func (.func 80) #[] #[.pointer (some ⟨w.heap.size, 0, none⟩), .pointer (some ⟨w.heap.size + 1, 0, none⟩)]] 146)) :=
  ⟨⟨(Blk.new w _ _).alloc _, Blk.new_at (by simp) rfl⟩, ((Below.refl _ w).alloc (Nat.le_refl _) _).alloc (by simp) _⟩
theorem Rooted.later {S : Nat → Prop} {p : Nat} {r : Nat × List Tx} {w w1 w2 : World} {e : Ending} (b1 : Below w.heap.size w w1) (h : Rooted S p r w1 e w2) : Rooted S p r w e w2 := by
  obtain ⟨he, ht, hc⟩ := h
  refine ⟨he, ht.weaken fun k hk => ?_, (Ch.of_below (S := fun _ => False) b1 (Nat.le_refl _)).mono (fun _ _ h => h.elim) |>.trans hc (fun _ _ h => h)⟩
  rcases hk with hk | ⟨h1, h2⟩
  · exact .inl hk
  · exact .inr ⟨Nat.le_trans b1.size h1, h2⟩
theorem RRooted.later {S : Nat → Prop} {p : Nat} {r : Nat × List Tx} {w w1 w2 : World} {e : Ending} (b1 : Below w.heap.size w w1) (h : RRooted S p r w1 e w2) : RRooted S p r w e w2 := by
  obtain ⟨he, ht, hc⟩ := h
  refine ⟨he, Rf.weaken ht fun k hk => ?_, (Ch.of_below (S := fun _ => False) b1 (Nat.le_refl _)).mono (fun _ _ h => h.elim) |>.trans hc (fun _ _ h => h)⟩
  rcases hk with hk | ⟨h1, h2⟩
  · exact .inl hk
  · exact .inr ⟨Nat.le_trans b1.size h1, h2⟩

set_option maxHeartbeats 400000 in
theorem root_any (w : World) (S X : Nat → Prop) (p : Nat) (L : List Tx) (A : Option Addr) (c : Nat) (ls : List Tx) (hbig : ls.length ≤ 140737488355328) (hT : Tb w S p L) (hS : ∀ k, S k → k < w.heap.size) (hls : Ls w X (.slice A ls.length c) ls)
    (hSX : ∀ k, S k → X k) (hall : ∀ x ∈ ls, x.length ≤ 140737488355327) :
    Calls Tryz.prog 65 #[.pointer (some ⟨p, 0, none⟩), .slice A ls.length c] w (Rooted S p (root L ls) w) := by
  by_cases h0 : ls.length = 0
  · have h00 : ls = [] := List.eq_nil_of_length_eq_zero h0
    subst h00
    have hb : Below w.heap.size w ((w.alloc (.cells #[.pointer (some ⟨p, 0, none⟩)] 34)).alloc (.cells #[.int .u8 2] 5)) := ((Below.refl _ w).alloc (Nat.le_refl _) _).alloc (by simp) _
    have hs := (sum_yes _ S (fun _ => False) p L _ 1 noneB (Tb.after hT hb) (Cd.one_new (w.alloc (.cells #[.pointer (some ⟨p, 0, none⟩)] 34)) (fun _ => False) 5 (z := 2) (n := 2) rfl (by omega) (fun h => h)) (by decide))
    rw [show (w.alloc (.cells #[.pointer (some ⟨p, 0, none⟩)] 34)).heap.size = w.heap.size + 1 from by simp, show noneB.length = 1 from rfl] at hs
    have HS := Lib.hid hs
    clear hs
    have HB := Lib.hid hb
    have HR := Lib.hid (root_nil L)
    clear hbig hT hS hls hSX hall h0 hb
    go_enter Tryz.func65, Tryz.ntmps65
    go_wp2_with fail
    refine HS.out.mono ?_
    rintro e w' ⟨rfl, ht, hc⟩
    have HE := Lib.hid (And.intro ht hc)
    clear ht hc
    go_wp2_with fail
    go_ret
    rw [HR.out]
    exact Rooted.later HB.out ⟨rfl, HE.out.1, HE.out.2⟩
  · obtain ⟨hC, hb⟩ := clo_new w p
    have HD := Lib.hid (down_any ls.length _ S X p L A c ls w.heap.size (w.heap.size + 1) (Nat.le_refl _) (by omega) hbig (Tb.after hT hb) (hls.after hb) hSX hC (fun h => by have := hS _ h; omega) (fun h => by have := hS _ h; omega) hall)
    have HB := Lib.hid hb
    have h1 : 1 ≤ ls.length := by omega
    clear hbig hT hS hls hSX hall h0 hb hC
    go_enter Tryz.func65, Tryz.ntmps65
    go_wp2_with fail
    refine HD.out.mono ?_
    rintro e w' ⟨rfl, ht, hc⟩
    have HE := Lib.hid (And.intro ht hc)
    clear ht hc
    go_wp2_with fail
    go_ret
    exact Rooted.later HB.out ⟨rfl, HE.out.1, HE.out.2⟩

end Go.Proofs.YtobphijbhghgmaaGreat.Mc

/-
  Two things side by side in memory, each in blocks of its own, none of them among the blocks K of others: what a call on one of them leaves of all. For any layer.
-/
namespace Go.Proofs.YtobphijbhghgmaaGreat.Pr
set_option linter.unusedSimpArgs false
set_option linter.unusedVariables false
open Go Go.RowKit Ck Kw Ik

/-- The blocks of S are there, and none is in K. -/
def Own (K : Nat → Prop) (w : World) (S : Nat → Prop) : Prop := ∀ k, S k → ¬ K k ∧ k < w.heap.size
/-- What changes of other blocks leave alone. -/
def Stable (P : World → (Nat → Prop) → Prop) : Prop := ∀ (w w' : World) (S T : Nat → Prop), P w S → Ch T w w' → (∀ k, S k → T k → False) → P w' S
/-- Two things side by side. -/
def Two (K : Nat → Prop) (w : World) (P Q : World → (Nat → Prop) → Prop) : Prop :=
  (∀ k, K k → k < w.heap.size) ∧ ∃ S T, P w S ∧ Q w T ∧ Own K w S ∧ Own K w T ∧ ∀ k, S k → T k → False
/-- Three. -/
def Three (K : Nat → Prop) (w : World) (O P Q : World → (Nat → Prop) → Prop) : Prop :=
  (∀ k, K k → k < w.heap.size) ∧ ∃ R S T, O w R ∧ P w S ∧ Q w T ∧ Own K w R ∧ Own K w S ∧ Own K w T ∧ (∀ k, R k → S k → False) ∧ (∀ k, R k → T k → False) ∧ ∀ k, S k → T k → False
/-- Blocks of others, and one more. -/
def And1 (K : Nat → Prop) (g : Nat) (k : Nat) : Prop := K k ∨ k = g

section
variable {K K' : Nat → Prop} {w w' : World} {S T : Nat → Prop} {O P P' Q Q' : World → (Nat → Prop) → Prop}
theorem Own.later (h : Own K w S) (hs : w.heap.size ≤ w'.heap.size) : Own K w' S := fun k hk => ⟨(h k hk).1, Nat.lt_of_lt_of_le (h k hk).2 hs⟩
theorem Own.up (h : Own K w S) (hs : w.heap.size ≤ w'.heap.size) (hK : ∀ k, K k → k < w.heap.size) : Own K w' (Up S w w') := fun k hk => by
  rcases hk with hk | hk
  · exact h.later hs k hk
  · exact ⟨fun h => by have := hK k h; omega, hk.2⟩
theorem up_apart (h : ∀ k, S k → T k → False) (hT : Own K w T) : ∀ k, Up S w w' k → T k → False := fun k hk ht => by
  rcases hk with hk | hk
  · exact h k hk ht
  · have := (hT k ht).2
    omega
theorem new_apart (hT : Own K w T) : ∀ k, New w w' k → T k → False := fun k hk ht => by
  have := (hT k ht).2
  have := hk.1
  omega
theorem Own.new (hK : ∀ k, K k → k < w.heap.size) : Own K w' (New w w') := fun k hk => ⟨fun h => by have := hK k h; have := hk.1; omega, hk.2⟩
theorem ch_own (c : Ch S w w') (h : Own K w S) : Ch (fun k => ¬ K k) w w' := c.mono fun k _ hk => (h k hk).1
theorem Two.later (h : Two K w P Q) (hP : Stable P) (hQ : Stable Q) (b : Below w.heap.size w w') : Two K w' P Q := by
  obtain ⟨hK, S, T, h1, h2, h3, h4, h5⟩ := h
  have c : Ch (fun _ => False) w w' := Ch.of_below b (Nat.le_refl _)
  exact ⟨fun k hk => Nat.lt_of_lt_of_le (hK k hk) b.size, S, T, hP _ _ _ _ h1 c (fun _ _ h => h), hQ _ _ _ _ h2 c (fun _ _ h => h), h3.later b.size, h4.later b.size, h5⟩
/-- A block that others have made since is theirs. -/
theorem Two.more (h : Two K w P Q) (hP : Stable P) (hQ : Stable Q) (b : Below w.heap.size w w') {g : Nat} (hg : w.heap.size ≤ g) (hg' : g < w'.heap.size) : Two (And1 K g) w' P Q := by
  obtain ⟨hK, S, T, h1, h2, h3, h4, h5⟩ := h
  have c : Ch (fun _ => False) w w' := Ch.of_below b (Nat.le_refl _)
  refine ⟨fun k hk => ?_, S, T, hP _ _ _ _ h1 c (fun _ _ h => h), hQ _ _ _ _ h2 c (fun _ _ h => h), fun k hk => ?_, fun k hk => ?_, h5⟩
  · rcases hk with hk | rfl
    · exact Nat.lt_of_lt_of_le (hK k hk) b.size
    · exact hg'
  · have := h3 k hk
    exact ⟨by rintro (hn | rfl); exact this.1 hn; omega, by have := b.size; omega⟩
  · have := h4 k hk
    exact ⟨by rintro (hn | rfl); exact this.1 hn; omega, by have := b.size; omega⟩
theorem Two.less (h : Two K w P Q) (hK : ∀ k, K' k → K k) : Two K' w P Q := by
  obtain ⟨h0, S, T, h1, h2, h3, h4, h5⟩ := h
  exact ⟨fun k hk => h0 k (hK k hk), S, T, h1, h2, fun k hk => ⟨fun hn => (h3 k hk).1 (hK k hn), (h3 k hk).2⟩, fun k hk => ⟨fun hn => (h4 k hk).1 (hK k hn), (h4 k hk).2⟩, h5⟩
theorem Two.left (h : Two K w P Q) : ∃ S, P w S ∧ Own K w S := by
  obtain ⟨hK, S, T, h1, h2, h3, h4, h5⟩ := h
  exact ⟨S, h1, h3⟩
variable {pg : Program} {f : FuncId} {args : Array Value} {R : Ending → Prop}
/-- A call that changes the left one. -/
theorem Two.call (h : Two K w P Q) (hQ : Stable Q) (hc : ∀ S, P w S → Calls pg f args w fun e w' => R e ∧ P' w' (Up S w w') ∧ Ch S w w') :
    Calls pg f args w fun e w' => R e ∧ Two K w' P' Q ∧ Ch (fun k => ¬ K k) w w' := by
  obtain ⟨hK, S, T, h1, h2, h3, h4, h5⟩ := h
  refine (hc S h1).mono fun e w' ⟨he, hP, c⟩ => ⟨he, ⟨fun k hk => Nat.lt_of_lt_of_le (hK k hk) c.size, Up S w w', T, hP, hQ _ _ _ _ h2 c (fun k a b => h5 k b a), h3.up c.size hK, h4.later c.size, up_apart h5 h4⟩, ch_own c h3⟩
/-- A call that makes one more of the left kind. -/
theorem Two.clone {P' : Nat → World → (Nat → Prop) → Prop} {R : Nat → Ending → Prop} (h : Two K w P Q) (hP : Stable P) (hQ : Stable Q)
    (hc : ∀ S, P w S → Calls pg f args w fun e w' => ∃ p, R p e ∧ P' p w' (New w w') ∧ Below w.heap.size w w') :
    Calls pg f args w fun e w' => ∃ p, R p e ∧ Three K w' P (P' p) Q ∧ Below w.heap.size w w' := by
  obtain ⟨hK, S, T, h1, h2, h3, h4, h5⟩ := h
  refine (hc S h1).mono fun e w' ⟨p, he, hP', b⟩ => ⟨p, he, ?_, b⟩
  have c : Ch (fun _ => False) w w' := Ch.of_below b (Nat.le_refl _)
  exact ⟨fun k hk => Nat.lt_of_lt_of_le (hK k hk) b.size, S, New w w', T, hP _ _ _ _ h1 c (fun _ _ h => h), hP', hQ _ _ _ _ h2 c (fun _ _ h => h), h3.later b.size, Own.new hK, h4.later b.size, fun k a b => new_apart h3 k b a, h5, new_apart h4⟩
theorem Three.later (h : Three K w O P Q) (hO : Stable O) (hP : Stable P) (hQ : Stable Q) (b : Below w.heap.size w w') : Three K w' O P Q := by
  obtain ⟨hK, R, S, T, h0, h1, h2, h3, h4, h5, h6, h7, h8⟩ := h
  have c : Ch (fun _ => False) w w' := Ch.of_below b (Nat.le_refl _)
  exact ⟨fun k hk => Nat.lt_of_lt_of_le (hK k hk) b.size, R, S, T, hO _ _ _ _ h0 c (fun _ _ h => h), hP _ _ _ _ h1 c (fun _ _ h => h), hQ _ _ _ _ h2 c (fun _ _ h => h), h3.later b.size, h4.later b.size, h5.later b.size, h6, h7, h8⟩
/-- A call that changes the first: the others stay, and it is let go. -/
theorem Three.call (h : Three K w O P Q) (hP : Stable P) (hQ : Stable Q) (hc : ∀ S, O w S → Calls pg f args w fun e w' => R e ∧ Ch S w w') :
    Calls pg f args w fun e w' => R e ∧ Two K w' P Q ∧ Ch (fun k => ¬ K k) w w' := by
  obtain ⟨hK, X, S, T, h0, h1, h2, h3, h4, h5, h6, h7, h8⟩ := h
  refine (hc X h0).mono fun e w' ⟨he, c⟩ => ⟨he, ⟨fun k hk => Nat.lt_of_lt_of_le (hK k hk) c.size, S, T, hP _ _ _ _ h1 c (fun k a b => h6 k b a), hQ _ _ _ _ h2 c (fun k a b => h7 k b a), h4.later c.size, h5.later c.size, h8⟩, ch_own c h3⟩
end

end Go.Proofs.YtobphijbhghgmaaGreat.Pr

/-
  Contracts of layer 5: Prove of a list, the program's: its closure.
-/
namespace Go.Proofs.YtobphijbhghgmaaGreat.Me
set_option linter.unusedSimpArgs false
open Go Go.RowKit Ck Im Kw Ik Ia Ib Ic Ig Ih Ij Mm Ma Mb Mc Pr
attribute [local go_sem ↓] Go.wp_at_zero Go.wp_at_succ
set_option linter.unusedVariables false

/-- The closure's blocks. -/
def CloP (w : World) (p Bt Bd Bp : Nat) : Prop :=
  Blk w Bt 34 #[.pointer (some ⟨p, 0, none⟩)] ∧ Blk w Bd 142 #[.func (.func 75) #[] #[.pointer (some ⟨Bd, 0, none⟩), .pointer (some ⟨Bp, 0, none⟩), .pointer (some ⟨Bt, 0, none⟩)]]
theorem CloP.ch {w w' : World} {S : Nat → Prop} {p Bt Bd Bp : Nat} (h : CloP w p Bt Bd Bp) (c : Ch S w w') (ht : ¬ S Bt) (hd : ¬ S Bd) : CloP w' p Bt Bd Bp := ⟨h.1.ch c ht, h.2.ch c hd⟩

end Go.Proofs.YtobphijbhghgmaaGreat.Me

/-
  Contracts of layer 5: Prove, the program's.
-/
namespace Go.Proofs.YtobphijbhghgmaaGreat.Mf
set_option linter.unusedSimpArgs false
open Go Go.RowKit Ck Im Kw Ik Ia Ib Ic Ig Ih Ij Mm Ma Mb Mc Pr Me
attribute [local go_sem ↓] Go.wp_at_zero Go.wp_at_succ
set_option linter.unusedVariables false

theorem mmade_yes (w : World) (S : Nat → Prop) (p : Nat) (L : List Tx) (h : Tb w S p L) :
    Calls Tryz.prog 72 #[.pointer (some ⟨p, 0, none⟩)] w fun e w' => e = .returned (.bool true) ∧ Below w.heap.size w w' := by
  have HN := Lib.hid (len_yes w S p L h)
  by_cases h0 : 0 < L.length
  · clear h
    go_enter Tryz.func72, Tryz.ntmps72
    go_wp2_with fail
    refine HN.out.mono ?_
    rintro e w' ⟨rfl, rfl⟩
    go_wp2_with fail
    go_ret
    exact ⟨rfl, Below.refl _ _⟩
  · have HC := Lib.hid (tclone_any w S p L h)
    have hl : (L.length : Int) = 0 := by omega
    rw [hl] at HN
    clear h h0 hl
    go_enter Tryz.func72, Tryz.ntmps72
    go_wp2_with fail
    refine HN.out.mono ?_
    rintro e w' ⟨rfl, rfl⟩
    go_wp2_with fail
    refine HC.out.mono ?_
    rintro e w2 ⟨p2, rfl, ht, hb⟩
    have HB := Lib.hid hb
    clear ht hb
    go_wp2_with fail
    go_ret
    exact ⟨rfl, HB.out⟩

theorem prove_bad (w : World) (S : Nat → Prop) (p : Nat) (L : List Tx) (i : Int) (A : Option Addr) (c n : Nat) (hn : n ≤ 140737488355328) (hi : ¬ (0 ≤ i ∧ i < n)) (hT : Tb w S p L) :
    Calls Tryz.prog 58 #[.pointer (some ⟨p, 0, none⟩), .int .i64 i, .slice A n c] w fun e w' => e = .returned (.tuple #[.slice none 0 0, .int .i64 1]) ∧ Below w.heap.size w w' := by
  have b0 : Below w.heap.size w (w.alloc (.cells #[.pointer (some ⟨p, 0, none⟩)] 34)) := (Below.refl _ w).alloc (Nat.le_refl _) _
  have HM := Lib.hid (mmade_yes _ S p L (Tb.after hT b0))
  have HP := fun W => isplace_any W i n
  rw [isPl_no hi] at HP
  have HP := Lib.hid HP
  have HB := Lib.hid b0
  clear hT b0 hi
  go_enter Tryz.func58, Tryz.ntmps58
  go_wp2_with fail
  refine HM.out.mono ?_
  rintro e w1 ⟨rfl, hb1⟩
  have HB1 := Lib.hid (below_tr HB.out hb1)
  clear hb1
  go_wp2_with fail
  refine (HP.out _).mono ?_
  rintro e w' ⟨rfl, rfl⟩
  go_wp2_with fail
  go_ret2
  exact ⟨rfl, HB1.out⟩

end Go.Proofs.YtobphijbhghgmaaGreat.Mf

/-
  Contracts of the program's topics: putNum, putBytes.
-/
namespace Go.Proofs.YtobphijbhghgmaaGreat.Bp
set_option linter.unusedSimpArgs false
open Go Go.RowKit Ck Kw Ca Cb Ga Pk
attribute [local go_sem ↓] Go.wp_at_zero Go.wp_at_succ
set_option linter.unusedVariables false

theorem none_sl (w : World) : Sl w (fun _ => False) 1 (.slice none 0 0) 0 (BVs []) := Sl.of_own (World.ownsRow_nil w 0 5 1) (fun _ _ _ h => h)

set_option maxRecDepth 100000 in
set_option maxHeartbeats 1000000 in
theorem pnum_any (B : Nat) (v : Value) (n : Nat) (b : List UInt8) (w : World) (hown : w.ownsRow B 5 1 v b.length (BVs b)) (hB : B ≤ w.heap.size) (hl : b.length ≤ 140737488355318) (hn : n < 9223372036854775808) :
    Calls Tryz.prog 102 #[v, .int .i64 (n : Int)] w fun e w' => Onto w B 5 v (b ++ Cm.enc n) e w' := by
  have hlen := Cm.enc_len n
  obtain ⟨i0, hi0, hz0, hz1, hz2⟩ := info_parts Cb.info_u8
  have hw := wrap_u64' n (by omega)
  have HP := Lib.hid (putnum_any (fun _ => False) (.slice none 0 0) 0 [] n w (none_sl w) (by omega) (by omega))
  obtain ⟨A0, c0, rfl⟩ := own_shape hown
  have HO := Lib.hid hown
  clear hown
  go_enter Tryz.func102, Tryz.ntmps102
  go_wp2_with fail
  refine HP.out.mono ?_
  rintro e w1 ⟨v1, rfl, ho1, hb1⟩
  simp only [List.nil_append] at ho1
  obtain ⟨A1, c1, rfl⟩ := own_shape ho1
  have HO1 := Lib.hid ho1
  have HB1 := Lib.hid hb1
  clear ho1 hb1
  go_wp2_with (at_builtin; refine wpList_append_sl _ rfl (.tmp 5) (.tmp 8) _ rfl B 5 i0 _ 1 1 Tryz.underlying25 hi0 hz0 hz1 hz2 rfl (by omega) _ b.length (BVs b) rfl (own_below HO.out HB1.out) (fun _ => False) _ (Cm.enc n).length (BVs (Cm.enc n)) rfl (Sl.of_own HO1.out (fun _ _ _ h => h)) (BVs_one _) (by simp only [maxLen]; omega) (by omega) (Nat.le_trans hB HB1.out.size) ?_; intro v2 w2 happ)
  go_ret
  exact Onto.of HB1.out happ

set_option maxRecDepth 100000 in
set_option maxHeartbeats 1000000 in
theorem pbytes_any (B : Nat) (X : Nat → Prop) (v vx : Value) (k : Nat) (b x : List UInt8) (w : World) (hown : w.ownsRow B 5 1 v b.length (BVs b)) (hB : B ≤ w.heap.size) (hx : Sl w X 1 vx k (BVs x)) (hl : b.length ≤ 140737488355300) (hk : b.length + x.length ≤ 140737488355300) :
    Calls Tryz.prog 101 #[v, vx] w fun e w' => Onto w B 5 v (b ++ Cm.encB x) e w' := by
  have hkl : k = x.length := by obtain ⟨A, c, _, h, _⟩ := hx; rw [BVs_len] at h; omega
  obtain ⟨Ax, cx, rfl⟩ : ∃ A c, vx = .slice A k c := by obtain ⟨A, c, h, _⟩ := hx; exact ⟨A, c, h⟩
  subst hkl
  have hlen := Cm.enc_len x.length
  have HBL := Lib.hid (Cm.encB_len x)
  obtain ⟨i0, hi0, hz0, hz1, hz2⟩ := info_parts Cb.info_u8
  have HP := Lib.hid (putbytes_any X (.slice none 0 0) (.slice Ax x.length cx) 0 x.length [] x w (Sl.nil w X 1) hx (by omega) (by omega))
  obtain ⟨A0, c0, rfl⟩ := own_shape hown
  have HO := Lib.hid hown
  clear hown
  go_enter Tryz.func101, Tryz.ntmps101
  go_wp2_with fail
  refine HP.out.mono ?_
  rintro e w1 ⟨v1, rfl, ho1, hb1⟩
  simp only [List.nil_append] at ho1
  obtain ⟨A1, c1, rfl⟩ := own_shape ho1
  have HO1 := Lib.hid ho1
  have HB1 := Lib.hid hb1
  clear ho1 hb1
  go_wp2_with (at_builtin; refine wpList_append_sl _ rfl (.tmp 5) (.tmp 7) _ rfl B 5 i0 _ 1 1 Tryz.underlying25 hi0 hz0 hz1 hz2 rfl (by omega) _ b.length (BVs b) rfl (own_below HO.out HB1.out) (fun _ => False) _ (Cm.encB x).length (BVs (Cm.encB x)) rfl (Sl.of_own HO1.out (fun _ _ _ h => h)) (BVs_one _) (by have := HBL.out; simp only [maxLen]; omega) (by have := HBL.out; omega) (Nat.le_trans hB HB1.out.size) ?_; intro v2 w2 happ)
  go_ret
  exact Onto.of HB1.out happ
end Go.Proofs.YtobphijbhghgmaaGreat.Bp

/-
  Contracts of the program's topics: Names, groupNames: the keys of a map, sorted.
-/
namespace Go.Proofs.YtobphijbhghgmaaGreat.Bq
set_option linter.unusedSimpArgs false
open Go Go.RowKit Go.Maps Go.Sort Go.Shelf Ck Kw Ga Kf Km Pm Pz Tm Tn Tq Aa
attribute [local go_sem ↓] Go.wp_at_zero Go.wp_at_succ
set_option linter.unusedVariables false

theorem keysT_call (mb : Option Nat) (W : World) : Calls Tryz.prog 122 #[.map mb] W fun e w' =>
    e = .returned (.func (.func 149) #[] #[.pointer (some ⟨W.heap.size, 0, none⟩)]) ∧ w' = W.alloc (.cells #[.map mb] 67) :=
  (callsIn_wide (n := 5)).1 (AnyZ.keys_in Tryz.keys122 Fence.wide 5 trivial rfl mb W)
theorem keysG_call (mb : Option Nat) (W : World) : Calls Tryz.prog 151 #[.map mb] W fun e w' =>
    e = .returned (.func (.func 165) #[] #[.pointer (some ⟨W.heap.size, 0, none⟩)]) ∧ w' = W.alloc (.cells #[.map mb] 156) :=
  (callsIn_wide (n := 5)).1 (AnyZ.keys_in Tryz.keys151 Fence.wide 5 trivial rfl mb W)
theorem sorts (m : Nat) : AnyZ.SortsIn Tryz.prog Tryz.sorted121_ren Fence.wide m :=
  ⟨fun blk off cap ss W hH hblk hsz => callsIn_wide.2 (AnyM.slices_Sort_string Tryz.sort148 blk off cap ss W hH hblk hsz),
   fun p cap W => callsIn_wide.2 (AnyM.slices_Sort_string_none Tryz.sort148 p cap W)⟩

set_option maxHeartbeats 1000000 in
/-- The keys of the map of topics, sorted: w is the world ahead of maps.Keys. -/
theorem sortedT_call (b nn : Nat) (D0 : DataW Unit) (w : World) (hown : w.ownsMap Tryz.prog 9 ptrElem b nn D0) (hs : Maps.size D0 ≤ 64) :
    Calls Tryz.prog 121 #[.func (.func 149) #[] #[.pointer (some ⟨w.heap.size, 0, none⟩)]] (w.alloc (.cells #[.map (some b)] 67)) fun e w' =>
      ∃ (v : Value) (ss : List (List UInt8)), e = .returned v ∧ ss.Perm (strKeys D0) ∧ w'.ownsRow (w.alloc (.cells #[.map (some b)] 67)).heap.size 9 1 v ss.length ((ss.mergeSort (fun x y => decide (x ≤ y))).map encStr) ∧
        Below (w.alloc (.cells #[.map (some b)] 67)).heap.size (w.alloc (.cells #[.map (some b)] 67)) w' := by
  have hbl := hown.lt
  have hseq : SeqGives Fence.wide 2 Tryz.prog 149 #[.pointer (some ⟨w.heap.size, 0, none⟩)] encStr (fun ss => ss.Perm (strKeys D0)) (Maps.size D0) (w.alloc (.cells #[.map (some b)] 67)) :=
    AnyZ.keys_gives (ρ := Tryz.keys122_ren) { Tryz.keys122 with } Fence.wide _ trivial rfl (by omega) w.heap.size b nn D0 _ (by simp) (by simp) (by
      obtain ⟨es, clock, hb, Ft, hs, hD⟩ := hown
      exact ⟨es, clock, (Below.heap_alloc _ _ b hbl).trans hb, Ft, hs, hD⟩)
  refine ((callsIn_wide (n := 5)).1 (AnyZ.sorted_in Tryz.sorted121 Fence.wide 5 trivial trivial trivial trivial rfl (by omega) (sorts _) (enters_of Tryz.func148 (by kernel_rfl) rfl) 149 #[.pointer (some ⟨w.heap.size, 0, none⟩)] trivial (enters_of Tryz.func149 (by kernel_rfl) rfl) _ _ (by simp only [maxLen]; omega) (by omega) _ hseq)).mono ?_
  rintro e w' ⟨v, ss, h1, h2, h3, _, h5⟩
  exact ⟨v, ss, h1, h2, h3, h5⟩
set_option maxHeartbeats 1000000 in
/-- The keys of a map of groups, sorted. -/
theorem sortedG_call (b nn : Nat) (D0 : DataW Unit) (w : World) (hown : w.ownsMap Tryz.prog 9 inElem b nn D0) (hs : Maps.size D0 ≤ 64) :
    Calls Tryz.prog 121 #[.func (.func 165) #[] #[.pointer (some ⟨w.heap.size, 0, none⟩)]] (w.alloc (.cells #[.map (some b)] 156)) fun e w' =>
      ∃ (v : Value) (ss : List (List UInt8)), e = .returned v ∧ ss.Perm (strKeys D0) ∧ w'.ownsRow (w.alloc (.cells #[.map (some b)] 156)).heap.size 9 1 v ss.length ((ss.mergeSort (fun x y => decide (x ≤ y))).map encStr) ∧
        Below (w.alloc (.cells #[.map (some b)] 156)).heap.size (w.alloc (.cells #[.map (some b)] 156)) w' := by
  have hbl := hown.lt
  have hseq : SeqGives Fence.wide 2 Tryz.prog 165 #[.pointer (some ⟨w.heap.size, 0, none⟩)] encStr (fun ss => ss.Perm (strKeys D0)) (Maps.size D0) (w.alloc (.cells #[.map (some b)] 156)) :=
    AnyZ.keys_gives (ρ := Tryz.keys151_ren) { Tryz.keys151 with } Fence.wide _ trivial rfl (by omega) w.heap.size b nn D0 _ (by simp) (by simp) (by
      obtain ⟨es, clock, hb, Ft, hs, hD⟩ := hown
      exact ⟨es, clock, (Below.heap_alloc _ _ b hbl).trans hb, Ft, hs, hD⟩)
  refine ((callsIn_wide (n := 5)).1 (AnyZ.sorted_in Tryz.sorted121 Fence.wide 5 trivial trivial trivial trivial rfl (by omega) (sorts _) (enters_of Tryz.func148 (by kernel_rfl) rfl) 165 #[.pointer (some ⟨w.heap.size, 0, none⟩)] trivial (enters_of Tryz.func165 (by kernel_rfl) rfl) _ _ (by simp only [maxLen]; omega) (by omega) _ hseq)).mono ?_
  rintro e w' ⟨v, ss, h1, h2, h3, _, h5⟩
  exact ⟨v, ss, h1, h2, h3, h5⟩

theorem pos_some_iff {gs : List Gp} {x : Tx} : (pos gs x).isSome = true ↔ x ∈ gs.map (·.n) := by
  constructor
  · intro h
    by_cases hx : x ∈ gs.map (·.n)
    · exact hx
    · rw [pos_none.2 (fun g hg e => hx (List.mem_map.2 ⟨g, hg, e⟩))] at h
      cases h
  · intro h
    cases hp : pos gs x with
    | some _ => rfl
    | none =>
      obtain ⟨g, hg, e⟩ := List.mem_map.1 h
      exact absurd e (pos_none.1 hp g hg)
/-- Names that rise stand sorted. -/
theorem sorted_rise {L ss : List Tx} (h : L.Pairwise (· < ·)) (hp : ss.Perm L) : ss.mergeSort (fun x y => decide (x ≤ y)) = L := by
  have e : ss.mergeSort (fun x y => decide (x ≤ y)) = L.mergeSort leB := mergeSort_of_perm hp
  rw [e]
  exact List.mergeSort_of_pairwise (h.imp fun h => by simpa [leB] using List.le_of_lt h)
/-- What Names leaves. -/
def Named (w : World) (L : List Tx) (e : Ending) (w' : World) : Prop :=
  ∃ A c, e = .returned (.slice A L.length c) ∧ w'.ownsRow w.heap.size 9 1 (.slice A L.length c) L.length (L.map fun x => .string ⟨x.toArray⟩) ∧ Below w.heap.size w w'

set_option maxHeartbeats 1000000 in
theorem names_on (w : World) (S R : Nat → Prop) (p : Nat) (s : St) (h : Tz w S R p s) :
    Calls Tryz.prog 103 #[.pointer (some ⟨p, 0, none⟩)] w (Named w (s.L.map (·.n))) := by
  have HM := Lib.hid (made_on w S R p s h)
  obtain ⟨m, D, G, V, M, F, hP⟩ := h
  have c0 := hP.cell0
  have hpm : (s.L.map (·.n)).Perm (strKeys D) := names_perm hP.own hP.names (fun x => by rw [hP.tells.1, isSome_find])
  have HP := Lib.hid hP
  have HN := Lib.hid hpm
  have HSZ := Lib.hid (show Maps.size D ≤ 64 by rw [hP.size]; have := hP.good.L.few; omega)
  have HR : Hid ((s.L.map (·.n)).Pairwise (· < ·)) := Lib.hid (List.pairwise_map.2 hP.good.L.rises)
  clear hP hpm
  go_enter Tryz.func103, Tryz.ntmps103
  go_wp2_with (first
    | (go_at_call 84; refine HM.out.mono ?_; rintro e w' ⟨rfl, rfl⟩)
    | (go_at_call 122; refine (keysT_call _ _).mono ?_; rintro e w' ⟨rfl, rfl⟩)
    | (go_at_call 121; refine (sortedT_call m _ D w HP.out.own HSZ.out).mono ?_; rintro e w2 ⟨v, ss, rfl, hp, ho, hb⟩))
  go_ret
  have hp' : ss.Perm (s.L.map (·.n)) := hp.trans HN.out.symm
  have hl : ss.length = (s.L.map (·.n)).length := hp'.length_eq
  have hb1 : Below w.heap.size w w2 := ((Below.refl _ w).alloc (Nat.le_refl _) _).trans (hb.mono (by simp))
  have ho2 := own_base (b' := w.heap.size) ho (by simp)
  rw [sorted_rise HR.out hp', hl] at ho2
  obtain ⟨A, c, rfl⟩ := own_shape ho2
  exact ⟨A, c, rfl, ho2, hb1⟩

set_option maxHeartbeats 1000000 in
theorem gnames_on (w : World) (T R : Nat → Prop) (g : Nat) (t : Tp) (v : Value) (mg : Nat) (h : Tg w T R g t v mg) (hr : (t.gs.map (·.n)).Pairwise (· < ·)) (hf : t.gs.length ≤ 8) :
    Calls Tryz.prog 124 #[.pointer (some ⟨g, 0, none⟩)] w (Named w (t.gs.map (·.n))) := by
  obtain ⟨D, hD, hT⟩ := h.gs
  have c2 : w.cell? ⟨g, 2, none⟩ = some (.map (some mg)) := h.blk.cell 2
  have hnd : (t.gs.map (·.n)).Nodup := hr.imp (fun {a b} hab e => by rw [e] at hab; exact List.lt_irrefl _ hab)
  have hpm : (t.gs.map (·.n)).Perm (strKeys D) := names_perm hD hnd (fun x => by rw [hT.1, pos_some_iff])
  have hsz : Maps.size D = t.gs.length := by rw [size_names hD hnd (fun x => by rw [hT.1, pos_some_iff]), List.length_map]
  have HD := Lib.hid hD
  have HN := Lib.hid hpm
  have HSZ := Lib.hid (show Maps.size D ≤ 64 by rw [hsz]; omega)
  have HR := Lib.hid hr
  clear h hD hT hpm hnd hsz hr
  go_enter Tryz.func124, Tryz.ntmps124
  go_wp2_with (first
    | (go_at_call 151; refine (keysG_call _ _).mono ?_; rintro e w' ⟨rfl, rfl⟩)
    | (go_at_call 121; refine (sortedG_call mg _ D w HD.out HSZ.out).mono ?_; rintro e w2 ⟨v, ss, rfl, hp, ho, hb⟩))
  go_ret
  have hp' : ss.Perm (t.gs.map (·.n)) := hp.trans HN.out.symm
  have hl : ss.length = (t.gs.map (·.n)).length := hp'.length_eq
  have hb1 : Below w.heap.size w w2 := ((Below.refl _ w).alloc (Nat.le_refl _) _).trans (hb.mono (by simp))
  have ho2 := own_base (b' := w.heap.size) ho (by simp)
  rw [sorted_rise HR.out hp', hl] at ho2
  obtain ⟨A, c, rfl⟩ := own_shape ho2
  exact ⟨A, c, rfl, ho2, hb1⟩
end Go.Proofs.YtobphijbhghgmaaGreat.Bq

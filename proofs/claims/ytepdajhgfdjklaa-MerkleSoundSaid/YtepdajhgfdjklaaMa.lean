/-
  Contracts of layer 5's small functions: leafBytes, putDigest, nodeBytes, Leaf, Node, Split, half, isPlace.
-/
import Derived.Test.YtepdajhgfdjklaaMm
import Derived.Test.YtepdajhgfdjklaaIj
import Derived.Test.YtepdajhgfdjklaaCd
import Derived.Test.YtepdajhgfdjklaaShelf
import Derived.Lib.MinMax
import Derived.Lib.ItoaNum
namespace Go.Proofs.Ytepdajhgfdjklaa.Ma
open Go Go.RowKit Ck Im Ik Ia Ib Ic Ig Ih Ij Mm
attribute [local go_sem ↓] Go.wp_at_zero Go.wp_at_succ
set_option linter.unusedVariables false

theorem info_dig : (Try.prog.info? 28).map (fun i => (i.zero, i.size, i.bytes)) = some (some (.int .i64 0), 1, 8) := by kernel_rfl

/-- A literal's row. -/
theorem own_lit (w : World) {base : Nat} (hb : base ≤ w.heap.size) (e : TypeId) (cs : Array Value) {n : Nat} (hn : cs.size = n) (hm : n ≤ 65536) {xs : List Value} (hx : xs = cs.toList) :
    (w.alloc (.cells cs e)).ownsRow base e 1 (.slice (some ⟨w.heap.size, 0, none⟩) n n) n xs := by
  subst hx
  refine ⟨by simp [hn], .inr ⟨w.heap.size, n, cs, rfl, hb, heap_alloc_new w _, Nat.le_refl _, by simp only [maxLen]; omega, by omega, ?_⟩⟩
  rw [List.take_of_length_le (by simp; omega)]

set_option maxHeartbeats 400000 in
theorem leafbytes_any (w : World) (X : Nat → Prop) (v : Value) (n : Nat) (b : Tx) (hb : Sl w X 1 v n (BVs b)) (hl : n ≤ 140737488355327) :
    Calls Try.prog 38 #[v] w fun e w' => Made w 5 (leafB b) e w' := by
  obtain ⟨i0, hi0, hz0, hz1, hz2⟩ := info_parts info_u8
  have hn : n = b.length := by obtain ⟨A, c, _, h, _⟩ := hb; rw [BVs_len] at h; omega
  subst hn
  go_enter Try.func38, Try.ntmps38
  go_wp2_with (at_builtin; refine wpList_append_sl _ rfl (.tmp 3) (.tmp 4) _ rfl w.heap.size 5 i0 _ 1 1 Try.underlying41 hi0 hz0 hz1 hz2 rfl (by omega) (.slice (some ⟨w.heap.size, 0, none⟩) 1 1) 1 (BVs [0]) rfl (own_lit w (Nat.le_refl _) _ _ (n := 1) rfl (by decide) rfl) X _ b.length (BVs b) rfl (hb.alloc _) (BVs_one _) (by simp only [maxLen]; omega) (by omega) (by simp) ?_; intro v2 w2 happ)
  go_ret
  refine ⟨v2, rfl, ?_, ((Below.refl _ _).alloc (Nat.le_refl _) _).grown happ.2.1 (by simp) (by simp [Value.ownBlock])⟩
  have h := happ.1
  have e : (leafB b).length = 1 + b.length := by simp [leafB]; omega
  rw [e]
  exact h
set_option maxHeartbeats 400000 in
theorem rleafbytes_any (w : World) (X : Nat → Prop) (v : Value) (n : Nat) (b : Tx) (hb : Sl w X 1 v n (BVs b)) (hl : n ≤ 140737488355327) :
    Calls Try.prog 39 #[v] w fun e w' => Made w 5 (leafB b) e w' := by
  obtain ⟨i0, hi0, hz0, hz1, hz2⟩ := info_parts info_u8
  have hn : n = b.length := by obtain ⟨A, c, _, h, _⟩ := hb; rw [BVs_len] at h; omega
  subst hn
  go_enter Try.func39, Try.ntmps39
  go_wp2_with (at_builtin; refine wpList_append_sl _ rfl (.tmp 3) (.tmp 4) _ rfl w.heap.size 5 i0 _ 1 1 Try.underlying41 hi0 hz0 hz1 hz2 rfl (by omega) (.slice (some ⟨w.heap.size, 0, none⟩) 1 1) 1 (BVs [0]) rfl (own_lit w (Nat.le_refl _) _ _ (n := 1) rfl (by decide) rfl) X _ b.length (BVs b) rfl (hb.alloc _) (BVs_one _) (by simp only [maxLen]; omega) (by omega) (by simp) ?_; intro v2 w2 happ)
  go_ret
  refine ⟨v2, rfl, ?_, ((Below.refl _ _).alloc (Nat.le_refl _) _).grown happ.2.1 (by simp) (by simp [Value.ownBlock])⟩
  have h := happ.1
  have e : (leafB b).length = 1 + b.length := by simp [leafB]; omega
  rw [e]
  exact h

theorem max_nat (d : Int) (hd : d ≤ 9223372036854775807) : ∃ k : Nat, max d 0 = (k : Int) ∧ d.toNat = k ∧ k ≤ 9223372036854775807 := ⟨d.toNat, by omega, rfl, by omega⟩
theorem wrap_nat (k : Nat) (hk : k ≤ 9223372036854775807) : IntKind.u64.wrap (k : Int) = (k : Int) := by
  simp [IntKind.wrap, IntKind.bits, IntKind.signed]
  omega

set_option maxRecDepth 100000 in
set_option maxHeartbeats 400000 in
theorem putdigest_any (w : World) (X : Nat → Prop) (v : Value) (n : Nat) (b : Tx) (d : Int) (hv : Sl w X 1 v n (BVs b)) (hn : n ≤ 1099511627776) (hd : d ≤ 9223372036854775807) :
    Calls Try.prog 50 #[v, .int .i64 d] w fun e w' => Made w 5 (b ++ Cm.enc d.toNat) e w' := by
  obtain ⟨k, hk, hk2, hk3⟩ := max_nat d hd
  rw [hk2]
  have hw := wrap_nat k hk3
  have HC := Lib.hid (Cb.putnum_any X v n b k w hv hn (by omega))
  clear hv hn hd hk2 hk3
  go_enter Try.func50, Try.ntmps50
  go_wp2_with fail
  refine HC.out.mono ?_
  rintro e w' ⟨v', rfl, h1, h2⟩
  go_wp2_with fail
  go_ret
  exact ⟨v', rfl, h1, h2⟩

theorem enc_two (a b : Int) : nodeB a b = [1] ++ Cm.enc a.toNat ++ Cm.enc b.toNat := by simp [nodeB]
set_option maxHeartbeats 400000 in
theorem nodebytes_any (w : World) (a b : Int) (ha : a ≤ 9223372036854775807) (hb : b ≤ 9223372036854775807) :
    Calls Try.prog 40 #[.int .i64 a, .int .i64 b] w fun e w' => Made w 5 (nodeB a b) e w' := by
  have hla := (Cm.enc_len a.toNat).1
  go_enter Try.func40, Try.ntmps40
  go_wp2_with fail
  have HS := Lib.hid (Cd.one_new w (fun _ => False) 5 (z := 1) (n := 1) rfl (by omega) (fun h => h))
  refine (putdigest_any _ _ _ _ _ a HS.out (by omega) ha).mono ?_
  rintro e w1 ⟨v1, rfl, ho1, hb1⟩
  have HO1 := Lib.hid ho1
  have HB1 := Lib.hid hb1
  clear ho1 hb1
  go_wp2_with fail
  refine (putdigest_any _ (fun _ => False) v1 _ ([UInt8.ofNat 1] ++ Cm.enc a.toNat) b (Sl.of_own HO1.out (fun _ _ _ h => h)) (by simp; omega) hb).mono ?_
  rintro e w2 ⟨v2, rfl, ho2, hb2⟩
  go_wp2_with fail
  go_ret
  have b0 : Below w.heap.size w (w.alloc (.cells #[.int .u8 1] 5)) := (Below.refl _ w).alloc (Nat.le_refl _) _
  have b1 : Below w.heap.size w w1 := b0.trans (HB1.out.mono b0.size)
  refine ⟨v2, rfl, ?_, b1.trans (hb2.mono b1.size)⟩
  rw [enc_two]
  exact own_base ho2 b1.size

set_option maxRecDepth 100000 in
set_option maxHeartbeats 400000 in
theorem rnodebytes_any (w : World) (a b : Int) (ha : a ≤ 9223372036854775807) (hb : b ≤ 9223372036854775807) :
    Calls Try.prog 41 #[.int .i64 a, .int .i64 b] w fun e w' => Made w 5 (nodeB a b) e w' := by
  have hla := (Cm.enc_len a.toNat).1
  obtain ⟨k, hk, hk2, hk3⟩ := max_nat a ha
  obtain ⟨m, hm, hm2, hm3⟩ := max_nat b hb
  have hw := wrap_nat k hk3
  have hw2 := wrap_nat m hm3
  have hk3 : k < 18446744073709551616 := by omega
  have hm3 : m < 18446744073709551616 := by omega
  have HK := Lib.hid hk3
  have HM := Lib.hid hm3
  have HT := Lib.hid (enc_two a b)
  rw [hk2, hm2] at HT
  rw [hk2] at hla
  clear hk2 hm2 ha hb hk3 hm3
  go_enter Try.func41, Try.ntmps41
  go_wp2_with fail
  have HS := Lib.hid (Cd.one_new w (fun _ => False) 5 (z := 1) (n := 1) rfl (by omega) (fun h => h))
  refine (Cd.rputnum_any _ _ _ _ k _ HS.out (by omega) HK.out).mono ?_
  rintro e w1 ⟨v1, rfl, ho1, hb1⟩
  have HO1 := Lib.hid ho1
  have HB1 := Lib.hid hb1
  clear ho1 hb1
  go_wp2_with fail
  refine (Cd.rputnum_any (fun _ => False) v1 _ ([UInt8.ofNat 1] ++ Cm.enc k) m _ (Sl.of_own HO1.out (fun _ _ _ h => h)) (by simp; omega) HM.out).mono ?_
  rintro e w2 ⟨v2, rfl, ho2, hb2⟩
  go_wp2_with fail
  go_ret
  have b0 : Below w.heap.size w (w.alloc (.cells #[.int .u8 1] 5)) := (Below.refl _ w).alloc (Nat.le_refl _) _
  have b1 : Below w.heap.size w w1 := b0.trans (HB1.out.mono b0.size)
  refine ⟨v2, rfl, ?_, b1.trans (hb2.mono b1.size)⟩
  rw [HT.out]
  exact own_base ho2 b1.size

theorem Summed.later {S : Nat → Prop} {p : Nat} {L : List Tx} {b : Tx} {w w1 w2 : World} {e : Ending} (b1 : Below w.heap.size w w1) (h : Summed S p L b w1 e w2) : Summed S p L b w e w2 := by
  obtain ⟨he, ht, hc⟩ := h
  refine ⟨he, ht.weaken fun k hk => ?_, (Ch.of_below (S := fun _ => False) b1 (Nat.le_refl _)).mono (fun _ _ h => h.elim) |>.trans hc (fun _ _ h => h)⟩
  rcases hk with hk | ⟨h1, h2⟩
  · exact .inl hk
  · exact .inr ⟨Nat.le_trans b1.size h1, h2⟩
theorem Rf.weaken {S T : Nat → Prop} {w : World} {p : Nat} {L : List Tx} (h : Rf w S p L) (hd : ∀ k, S k → T k) : Rf w T p L := by
  obtain ⟨lv, h1, h2, h3, h4⟩ := h
  exact ⟨lv, h1, hd _ h2, h3.weaken (fun k _ hk => by
    rcases hk with hk | rfl
    · exact .inl fun hs => hk (hd _ hs)
    · exact .inr rfl), h4⟩
theorem RSummed.later {S : Nat → Prop} {p : Nat} {L : List Tx} {b : Tx} {w w1 w2 : World} {e : Ending} (b1 : Below w.heap.size w w1) (h : RSummed S p L b w1 e w2) : RSummed S p L b w e w2 := by
  obtain ⟨he, ht, hc⟩ := h
  refine ⟨he, Rf.weaken ht fun k hk => ?_, (Ch.of_below (S := fun _ => False) b1 (Nat.le_refl _)).mono (fun _ _ h => h.elim) |>.trans hc (fun _ _ h => h)⟩
  rcases hk with hk | ⟨h1, h2⟩
  · exact .inl hk
  · exact .inr ⟨Nat.le_trans b1.size h1, h2⟩
theorem Tb.after {S : Nat → Prop} {w w1 : World} {p : Nat} {L : List Tx} (h : Tb w S p L) (b1 : Below w.heap.size w w1) : Tb w1 S p L := Tb.ch h (Ch.of_below (S := fun _ => False) b1 (Nat.le_refl _)) (fun _ _ h => h)
theorem Rf.after {S : Nat → Prop} {w w1 : World} {p : Nat} {L : List Tx} (h : Rf w S p L) (b1 : Below w.heap.size w w1) : Rf w1 S p L := Rf.ch h (Ch.of_below (S := fun _ => False) b1 (Nat.le_refl _)) (fun _ _ h => h)
/-- Sum at bytes of the call's own. -/
theorem sum_made (w w1 : World) (S : Nat → Prop) (p : Nat) (L : List Tx) (v : Value) (b : Tx) (h : Tb w S p L) (ho : w1.ownsRow w.heap.size 5 1 v b.length (BVs b)) (b1 : Below w.heap.size w w1) (hl : b.length ≤ 140737488355328) :
    Calls Try.prog 31 #[.pointer (some ⟨p, 0, none⟩), v] w1 (Summed S p L b w) := by
  obtain ⟨A, c, rfl⟩ := own_shape ho
  exact (sum_yes w1 S (fun _ => False) p L A c b (Tb.after h b1) (Sl.of_own ho (fun _ _ _ h => h)) hl).mono fun _ _ h => Summed.later b1 h
theorem rsum_made (w w1 : World) (S : Nat → Prop) (p : Nat) (L : List Tx) (v : Value) (b : Tx) (h : Rf w S p L) (ho : w1.ownsRow w.heap.size 5 1 v b.length (BVs b)) (b1 : Below w.heap.size w w1) (hl : b.length ≤ 140737488355328) :
    Calls Try.prog 32 #[.pointer (some ⟨p, 0, none⟩), v] w1 (RSummed S p L b w) := by
  obtain ⟨A, c, rfl⟩ := own_shape ho
  exact (rsum_any w1 S (fun _ => False) p L A c b (Rf.after h b1) (Sl.of_own ho (fun _ _ _ h => h)) hl).mono fun _ _ h => RSummed.later b1 h
theorem leaf_len (b : Tx) : (leafB b).length = b.length + 1 := by simp [leafB]
theorem node_len (a b : Int) : (nodeB a b).length ≤ 21 := by
  have h1 := (Cm.enc_len a.toNat).1
  have h2 := (Cm.enc_len b.toNat).1
  simp [nodeB]; omega

/-- Leaf. -/
theorem leaf_any (w : World) (S X : Nat → Prop) (p : Nat) (L : List Tx) (v : Value) (n : Nat) (b : Tx) (h : Tb w S p L) (hb : Sl w X 1 v n (BVs b)) (hl : n ≤ 140737488355327) :
    Calls Try.prog 18 #[.pointer (some ⟨p, 0, none⟩), v] w (Summed S p L (leafB b) w) := by
  have hn : n = b.length := by obtain ⟨A, c, _, h, _⟩ := hb; rw [BVs_len] at h; omega
  have HL := Lib.hid (leafbytes_any w X v n b hb hl)
  have HT := Lib.hid h
  have hll : (leafB b).length ≤ 140737488355328 := by rw [leaf_len]; omega
  have HLL := Lib.hid hll
  clear h hb hl hn hll
  go_enter Try.func18, Try.ntmps18
  go_wp2_with fail
  refine HL.out.mono ?_
  rintro e w1 ⟨v1, rfl, ho1, hb1⟩
  have HS := Lib.hid (sum_made w w1 S p L v1 (leafB b) HT.out ho1 hb1 HLL.out)
  clear ho1 hb1
  go_wp2_with fail
  refine HS.out.mono ?_
  rintro e w2 ⟨rfl, ht, hc⟩
  have HR := Lib.hid (And.intro ht hc)
  clear ht hc
  go_wp2_with fail
  go_ret
  exact ⟨rfl, HR.out.1, HR.out.2⟩
theorem rleaf_any (w : World) (S X : Nat → Prop) (p : Nat) (L : List Tx) (v : Value) (n : Nat) (b : Tx) (h : Rf w S p L) (hb : Sl w X 1 v n (BVs b)) (hl : n ≤ 140737488355327) :
    Calls Try.prog 19 #[.pointer (some ⟨p, 0, none⟩), v] w (RSummed S p L (leafB b) w) := by
  have hn : n = b.length := by obtain ⟨A, c, _, h, _⟩ := hb; rw [BVs_len] at h; omega
  have HL := Lib.hid (rleafbytes_any w X v n b hb hl)
  have HT := Lib.hid h
  have hll : (leafB b).length ≤ 140737488355328 := by rw [leaf_len]; omega
  have HLL := Lib.hid hll
  clear h hb hl hn hll
  go_enter Try.func19, Try.ntmps19
  go_wp2_with fail
  refine HL.out.mono ?_
  rintro e w1 ⟨v1, rfl, ho1, hb1⟩
  have HS := Lib.hid (rsum_made w w1 S p L v1 (leafB b) HT.out ho1 hb1 HLL.out)
  clear ho1 hb1
  go_wp2_with fail
  refine HS.out.mono ?_
  rintro e w2 ⟨rfl, ht, hc⟩
  have HR := Lib.hid (And.intro ht hc)
  clear ht hc
  go_wp2_with fail
  go_ret
  exact ⟨rfl, HR.out.1, HR.out.2⟩
/-- Node. -/
theorem node_any (w : World) (S : Nat → Prop) (p : Nat) (L : List Tx) (a b : Int) (h : Tb w S p L) (ha : a ≤ 9223372036854775807) (hb : b ≤ 9223372036854775807) :
    Calls Try.prog 20 #[.pointer (some ⟨p, 0, none⟩), .int .i64 a, .int .i64 b] w (Summed S p L (nodeB a b) w) := by
  have HL := Lib.hid (nodebytes_any w a b ha hb)
  have HT := Lib.hid h
  have HLL := Lib.hid (Nat.le_trans (node_len a b) (show 21 ≤ 140737488355328 by omega))
  clear h ha hb
  go_enter Try.func20, Try.ntmps20
  go_wp2_with fail
  refine HL.out.mono ?_
  rintro e w1 ⟨v1, rfl, ho1, hb1⟩
  have HS := Lib.hid (sum_made w w1 S p L v1 _ HT.out ho1 hb1 HLL.out)
  clear ho1 hb1
  go_wp2_with fail
  refine HS.out.mono ?_
  rintro e w2 ⟨rfl, ht, hc⟩
  have HR := Lib.hid (And.intro ht hc)
  clear ht hc
  go_wp2_with fail
  go_ret
  exact ⟨rfl, HR.out.1, HR.out.2⟩
theorem rnode_any (w : World) (S : Nat → Prop) (p : Nat) (L : List Tx) (a b : Int) (h : Rf w S p L) (ha : a ≤ 9223372036854775807) (hb : b ≤ 9223372036854775807) :
    Calls Try.prog 21 #[.pointer (some ⟨p, 0, none⟩), .int .i64 a, .int .i64 b] w (RSummed S p L (nodeB a b) w) := by
  have HL := Lib.hid (rnodebytes_any w a b ha hb)
  have HT := Lib.hid h
  have HLL := Lib.hid (Nat.le_trans (node_len a b) (show 21 ≤ 140737488355328 by omega))
  clear h ha hb
  go_enter Try.func21, Try.ntmps21
  go_wp2_with fail
  refine HL.out.mono ?_
  rintro e w1 ⟨v1, rfl, ho1, hb1⟩
  have HS := Lib.hid (rsum_made w w1 S p L v1 _ HT.out ho1 hb1 HLL.out)
  clear ho1 hb1
  go_wp2_with fail
  refine HS.out.mono ?_
  rintro e w2 ⟨rfl, ht, hc⟩
  have HR := Lib.hid (And.intro ht hc)
  clear ht hc
  go_wp2_with fail
  go_ret
  exact ⟨rfl, HR.out.1, HR.out.2⟩

end Go.Proofs.Ytepdajhgfdjklaa.Ma

/-
  Contracts of layer 5: Prove, the program's.
-/
import Derived.Test.YtepdajhgfdjklaaMe
namespace Go.Proofs.Ytepdajhgfdjklaa.Mf
open Go Go.RowKit Ck Im Ik Ia Ib Ic Ig Ih Ij Mm Ma Mb Mc Pr Me
attribute [local go_sem ↓] Go.wp_at_zero Go.wp_at_succ
set_option linter.unusedVariables false

theorem mmade_yes (w : World) (S : Nat → Prop) (p : Nat) (L : List Tx) (h : Tb w S p L) :
    Calls Try.prog 34 #[.pointer (some ⟨p, 0, none⟩)] w fun e w' => e = .returned (.bool true) ∧ Below w.heap.size w w' := by
  have HN := Lib.hid (len_yes w S p L h)
  by_cases h0 : 0 < L.length
  · clear h
    go_enter Try.func34, Try.ntmps34
    go_wp2_with fail
    refine HN.out.mono ?_
    rintro e w' ⟨rfl, rfl⟩
    go_wp2_with fail
    go_ret
    exact ⟨rfl, Below.refl _ _⟩
  · have HC := Lib.hid (tclone_any w S p L h)
    have hl : (L.length : Int) = 0 := by omega
    rw [hl] at HN
    clear h h0 hl
    go_enter Try.func34, Try.ntmps34
    go_wp2_with fail
    refine HN.out.mono ?_
    rintro e w' ⟨rfl, rfl⟩
    go_wp2_with fail
    refine HC.out.mono ?_
    rintro e w2 ⟨p2, rfl, ht, hb⟩
    have HB := Lib.hid hb
    clear ht hb
    go_wp2_with fail
    go_ret
    exact ⟨rfl, HB.out⟩

/-- What Prove leaves. -/
def Proved (S : Nat → Prop) (p : Nat) (r : List Nat × List Tx) (w : World) (e : Ending) (w' : World) : Prop :=
  ∃ A c S', e = .returned (.tuple #[.slice A r.1.length c, .int .i64 0]) ∧ w'.ownsRow w.heap.size 28 1 (.slice A r.1.length c) r.1.length (IVs (r.1.map fun x : Nat => (x : Int))) ∧
    Tb w' S' p r.2 ∧ (∀ k, S' k → Up S w w' k) ∧ (∀ g, (Value.slice A r.1.length c).ownBlock = some g → ¬ S' g) ∧ Ch S w w'

theorem lenI_of {i n : Nat} (h : i < n) : lenI i n = len i n := by
  unfold lenI
  rw [if_pos (by omega)]
  simp

/-- The world in which Prove's closure begins. -/
theorem begin_p {w w1 : World} {S : Nat → Prop} {p n : Nat} {L : List Tx} {cs : Array Value} (hT : Tb w S p L) (hS : ∀ k, S k → k < w.heap.size)
    (b1 : Below (w.heap.size + 1) (w.alloc (.cells #[.pointer (some ⟨p, 0, none⟩)] 24)) w1) (hcs : cs.size = n) (hn : n ≤ maxLen) (F : Value) :
    Two (fun k => (k < w.heap.size ∧ ¬ S k) ∨ k = w.heap.size ∨ k = w1.heap.size + 1 + 1) (((w1.alloc (.cells cs 28)).alloc (.cells #[.slice (some ⟨w1.heap.size, 0, none⟩) 0 n] 31)).alloc (.cells #[F] 72)) (TG p L) (PF w.heap.size (w1.heap.size + 1) [])
    ∧ Blk (((w1.alloc (.cells cs 28)).alloc (.cells #[.slice (some ⟨w1.heap.size, 0, none⟩) 0 n] 31)).alloc (.cells #[F] 72)) w.heap.size 24 #[.pointer (some ⟨p, 0, none⟩)]
    ∧ Blk (((w1.alloc (.cells cs 28)).alloc (.cells #[.slice (some ⟨w1.heap.size, 0, none⟩) 0 n] 31)).alloc (.cells #[F] 72)) (w1.heap.size + 1 + 1) 72 #[F]
    ∧ Below w.heap.size w (((w1.alloc (.cells cs 28)).alloc (.cells #[.slice (some ⟨w1.heap.size, 0, none⟩) 0 n] 31)).alloc (.cells #[F] 72)) := by
  have hs1 : w.heap.size + 1 ≤ w1.heap.size := by have := b1.size; simpa using this
  have b0 : Below w.heap.size w (w.alloc (.cells #[.pointer (some ⟨p, 0, none⟩)] 24)) := (Below.refl _ w).alloc (Nat.le_refl _) _
  have b2 : Below w.heap.size w w1 := b0.trans (b1.mono (by omega))
  have b3 : Below w1.heap.size w1 (((w1.alloc (.cells cs 28)).alloc (.cells #[.slice (some ⟨w1.heap.size, 0, none⟩) 0 n] 31)).alloc (.cells #[F] 72)) := three_below w1 _ _ _
  have hb : Below w.heap.size w (((w1.alloc (.cells cs 28)).alloc (.cells #[.slice (some ⟨w1.heap.size, 0, none⟩) 0 n] 31)).alloc (.cells #[F] 72)) := b2.trans (b3.mono (by omega))
  have hsz : (((w1.alloc (.cells cs 28)).alloc (.cells #[.slice (some ⟨w1.heap.size, 0, none⟩) 0 n] 31)).alloc (.cells #[F] 72)).heap.size = w1.heap.size + 3 := by simp
  obtain ⟨t1, t2, t3⟩ := three w1 (.cells cs 28) (.cells #[.slice (some ⟨w1.heap.size, 0, none⟩) 0 n] 31) (.cells #[F] 72)
  refine ⟨⟨fun k hk => ?_, S, fun k => k = w1.heap.size ∨ k = w1.heap.size + 1, Tb.after hT hb, ⟨_, t2, ?_, .inr rfl, fun g hg => ?_⟩, fun k hk => ?_, fun k hk => ?_, fun k hk ht => ?_⟩, ?_, t3, hb⟩
  · rw [hsz]
    rcases hk with hk | hk | hk <;> omega
  · exact ⟨rfl, .inr ⟨w1.heap.size, n, cs, rfl, by omega, t1, Nat.zero_le _, hn, by omega, by simp [IVs]⟩⟩
  · simp only [Value.ownBlock, Option.some.injEq] at hg
    exact .inl hg.symm
  · have := hS k hk
    exact ⟨by rintro (h | h | h); exact h.2 hk; omega; omega, by omega⟩
  · exact ⟨by rintro (h | h | h) <;> omega, by omega⟩
  · have := hS k hk
    omega
  · exact (Blk.new w _ _).below (b1.trans (b3.mono hs1)) (by omega)

theorem Ls.weaken2 {w : World} {X Y : Nat → Prop} {v : Value} {ls : List (List UInt8)} (h : Ls w X v ls) (hk : ∀ b, b < w.heap.size → Y b → ¬ X b → False) : Ls w Y v ls :=
  h.weaken fun b hb hy => Classical.byContradiction fun hx => hk b hb hy hx
set_option maxRecDepth 100000 in
set_option maxHeartbeats 1000000 in
theorem prove_any (w : World) (S X : Nat → Prop) (p : Nat) (L : List Tx) (i : Nat) (A : Option Addr) (c : Nat) (ls : List Tx) (hbig : ls.length ≤ 1000000) (hi : i < ls.length) (hT : Tb w S p L) (hS : ∀ k, S k → k < w.heap.size) (hls : Ls w X (.slice A ls.length c) ls)
    (hSX : ∀ k, S k → X k) (hall : ∀ x ∈ ls, x.length ≤ 140737488355327) :
    Calls Try.prog 14 #[.pointer (some ⟨p, 0, none⟩), .int .i64 i, .slice A ls.length c] w (Proved S p (prove L i ls) w) := by
  have b0 : Below w.heap.size w (w.alloc (.cells #[.pointer (some ⟨p, 0, none⟩)] 24)) := (Below.refl _ w).alloc (Nat.le_refl _) _
  have HM := Lib.hid (mmade_yes _ S p L (Tb.after hT b0))
  have HP := fun W => isplace_any W i ls.length
  rw [isPl_yes (by omega) (by omega)] at HP
  have HP := Lib.hid HP
  have HL := fun W => length_any W i ls.length (by omega)
  rw [lenI_of hi] at HL
  have hlt := len_lt ls.length i (by omega)
  generalize hg : len i ls.length = n at *
  clear hg
  have HL := Lib.hid HL
  obtain ⟨i0, hi0, hz0, hz1, hz2⟩ := info_parts info_dig
  have hms : ∀ W : World, (Instr.makeSlice 31 (.int .i64 0) (.int .i64 (n : Int))).run Try.prog W = .ok (.slice (some ⟨W.heap.size, 0, none⟩) 0 n) (W.alloc (.cells (madeCells (Value.int .i64 0).cells n) 28)) := fun W => by
    have := run_make (P := Try.prog) W 31 28 i0 _ Try.underlying31 hi0 hz0 .i64 .i64 0 n (by omega) (by omega) (by rw [hz2]; omega) (by omega)
    rw [hz1] at this
    simpa using this
  have HB : Hid (∀ (w1 : World) (F : Value), Below (w.heap.size + 1) (w.alloc (.cells #[.pointer (some ⟨p, 0, none⟩)] 24)) w1 → _) := Lib.hid fun w1 F b1 => begin_p (L := L) (cs := madeCells #[Value.int .i64 0] n) hT hS b1 (size_madeCells _ _) (by simp only [maxLen]; omega) F
  have HLS := Lib.hid hls
  have HA := Lib.hid (And.intro hSX (And.intro hS (And.intro hall (And.intro hi hbig))))
  clear hi0 hz0 hz1 hz2 hT hS hls hSX hall hlt b0 hi hbig
  go_enter Try.func14, Try.ntmps14
  go_wp2_with fail
  refine HM.out.mono ?_
  rintro e w1 ⟨rfl, hb1⟩
  simp only [World.size_alloc] at hb1
  have HB1 := Lib.hid hb1
  clear hb1
  have hbk : Blk w1 w.heap.size 24 #[.pointer (some ⟨p, 0, none⟩)] := (Blk.new w _ _).below HB1.out (by omega)
  go_wp2_with fail
  refine (HP.out _).mono ?_
  rintro e w' ⟨rfl, rfl⟩
  go_wp2_with fail
  refine (HL.out _).mono ?_
  rintro e w' ⟨rfl, rfl⟩
  go_wp2_with fail
  have hB := HB.out w1 (.func (.func 36) #[] #[.pointer (some ⟨w1.heap.size + 1 + 1, 0, none⟩), .pointer (some ⟨w1.heap.size + 1, 0, none⟩), .pointer (some ⟨w.heap.size, 0, none⟩)]) HB1.out
  obtain ⟨hTwo, hbt, hbd, hbel⟩ := hB
  refine (pdown_any ls.length _ _ p L w.heap.size (w1.heap.size + 1) [] i A c ls w.heap.size (w1.heap.size + 1 + 1) (Nat.le_refl _) HA.out.2.2.2.1 (by have := HA.out.2.2.2.2; simp; omega) hbel.size hTwo
    ((Ls.weaken2 HLS.out (Y := fun k => ¬ ((k < w.heap.size ∧ ¬ S k) ∨ k = w.heap.size ∨ k = w1.heap.size + 1 + 1)) (fun k hk hn hX => hn (.inl ⟨hk, fun hs => hX (HA.out.1 k hs)⟩))).after hbel) ⟨hbt, hbd⟩ (.inr (.inl rfl)) (.inr (.inr rfl)) HA.out.2.2.1).mono ?_
  rintro e w5 ⟨rfl, hT5, hc5⟩
  obtain ⟨hK5, S5, T5, hTb5, ⟨pv, hbp, hop, hTB, hTg⟩, oS5, oT5, hST5⟩ := hT5
  simp only [List.nil_append, List.length_map] at hop
  obtain ⟨A0, c0, rfl⟩ := own_shape hop
  have p5 : w5.cell? ⟨w1.heap.size + 1, 0, none⟩ = some (.slice A0 (prove L i ls).1.length c0) := hbp.cell 0
  have HR := Lib.hid (show Proved S p (prove L i ls) w (.returned (.tuple #[.slice A0 (prove L i ls).1.length c0, .int .i64 0])) w5 from
    ⟨A0, c0, S5, rfl, hop, hTb5, fun k hk => by
      have h1 := oS5 k hk
      by_cases hkw : k < w.heap.size
      · by_cases hsk : S k
        · exact .inl hsk
        · exact absurd (.inl ⟨hkw, hsk⟩) h1.1
      · exact .inr ⟨by omega, h1.2⟩, fun g hg hs => hST5 g hs (hTg g hg),
      ⟨hc5.os.trans hbel.os, hc5.tape.trans hbel.tape, hc5.output.trans hbel.output, Nat.le_trans hbel.size hc5.size, fun k hk hn => (hc5.block k (Nat.lt_of_lt_of_le hk hbel.size) (fun h => h (.inl ⟨hk, hn⟩))).trans (hbel.block k hk)⟩⟩)
  clear hTwo hbt hbd hbel hc5 hK5 hTb5 hbp hop hTB hTg oS5 oT5 hST5
  go_wp2_with fail
  go_ret2
  exact HR.out

theorem prove_bad (w : World) (S : Nat → Prop) (p : Nat) (L : List Tx) (i : Int) (A : Option Addr) (c n : Nat) (hn : n ≤ 140737488355328) (hi : ¬ (0 ≤ i ∧ i < n)) (hT : Tb w S p L) :
    Calls Try.prog 14 #[.pointer (some ⟨p, 0, none⟩), .int .i64 i, .slice A n c] w fun e w' => e = .returned (.tuple #[.slice none 0 0, .int .i64 1]) ∧ Below w.heap.size w w' := by
  have b0 : Below w.heap.size w (w.alloc (.cells #[.pointer (some ⟨p, 0, none⟩)] 24)) := (Below.refl _ w).alloc (Nat.le_refl _) _
  have HM := Lib.hid (mmade_yes _ S p L (Tb.after hT b0))
  have HP := fun W => isplace_any W i n
  rw [isPl_no hi] at HP
  have HP := Lib.hid HP
  have HB := Lib.hid b0
  clear hT b0 hi
  go_enter Try.func14, Try.ntmps14
  go_wp2_with fail
  refine HM.out.mono ?_
  rintro e w1 ⟨rfl, hb1⟩
  have HB1 := Lib.hid (below_tr HB.out hb1)
  clear hb1
  go_wp2_with fail
  refine (HP.out _).mono ?_
  rintro e w' ⟨rfl, rfl⟩
  go_wp2_with fail
  go_ret2
  exact ⟨rfl, HB1.out⟩

end Go.Proofs.Ytepdajhgfdjklaa.Mf

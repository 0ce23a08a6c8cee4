/-
  Layer 6 (op): the contracts of barred, Runes and Name.
-/
import Derived.Test.YtmhmnkpaijoaaaaGreatQ01
import Derived.LoopTactic
import Derived.Outline
import Derived.Laws.RangeAny
import Derived.WalkMore
import Derived.Laws.RangeString
import Derived.BigQuiet
import Derived.Deep.QuietTactic
namespace Go.Proofs.YtmhmnkpaijoaaaaGreat.Pa
set_option linter.unusedSimpArgs false
open Go Go.RowKit Ck Kw Pm
set_option linter.unusedVariables false

theorem sv_size (l : Tx) : (ByteArray.mk l.toArray).size = l.length := by show l.toArray.size = _; simp

set_option maxHeartbeats 1000000 in
theorem barred_yes (v : Nat) (h : Bar v) (w : World) :
    Calls Tryz.prog 190 #[.int .i32 v] w fun e w' => e = .returned (.bool true) ∧ w = w' := by
  unfold Bar at h
  by_cases h1 : v < 33
  · clear h
    go_enter Tryz.func190, Tryz.ntmps190
    go_wp2
    go_ret
    exact ⟨rfl, rfl⟩
  · by_cases h2 : v = 47
    · subst h2
      clear h h1
      go_enter Tryz.func190, Tryz.ntmps190
      go_wp2
      go_ret
      exact ⟨rfl, rfl⟩
    · have e2 : ((v : Int) == 47) = false := by rw [beq_eq_false_iff_ne]; omega
      by_cases h3 : 127 ≤ v ∧ v ≤ 159
      · obtain ⟨h3, h4⟩ := h3
        clear h h2
        go_enter Tryz.func190, Tryz.ntmps190
        go_wp2
        go_ret
        exact ⟨rfl, rfl⟩
      · have h4 : v = 65533 := by omega
        subst h4
        clear h h1 h2 h3 e2
        go_enter Tryz.func190, Tryz.ntmps190
        go_wp2
        go_ret
        exact ⟨rfl, rfl⟩

set_option maxHeartbeats 1000000 in
theorem barred_no (v : Nat) (h : ¬ Bar v) (w : World) :
    Calls Tryz.prog 190 #[.int .i32 v] w fun e w' => e = .returned (.bool false) ∧ w = w' := by
  unfold Bar at h
  have h1 : decide ((v : Int) < 33) = false := decide_eq_false (by omega)
  have e2 : ((v : Int) == 47) = false := by rw [beq_eq_false_iff_ne]; omega
  have e3 : ((v : Int) == 65533) = false := by rw [beq_eq_false_iff_ne]; omega
  by_cases h3 : 127 ≤ v
  · have h4 : decide ((v : Int) ≤ 159) = false := decide_eq_false (by omega)
    clear h
    go_enter Tryz.func190, Tryz.ntmps190
    go_wp2
    go_ret
    exact ⟨rfl, rfl⟩
  · clear h
    go_enter Tryz.func190, Tryz.ntmps190
    go_wp2
    go_ret
    exact ⟨rfl, rfl⟩

theorem iter_below (w : World) (s : ByteArray) (p : Nat) : Below w.heap.size w (w.iter s p) := (Below.refl _ w).alloc (Nat.le_refl _) _
theorem drop_nil_iff {l : Tx} {p : Nat} : l.drop p = [] ↔ ¬ p < l.length := by rw [List.drop_eq_nil_iff]; omega

set_option maxRecDepth 100000 in
set_option maxHeartbeats 2000000 in
theorem runes_any (l : Tx) (w : World) :
    Calls Tryz.prog 186 #[SV l] w fun e w' => e = .returned (.int .i64 (runes l : Nat)) ∧ Below w.heap.size w w' := by
  unfold SV
  go_enter Tryz.func186, Tryz.ntmps186
  go_wp2
  go_step3
  go_wp2
  go_step3
  go_wp2
  go_loopw [3] (fun n wr => ∃ pos j : Nat, wr = w.iter ⟨l.toArray⟩ pos ∧ n = .int .i64 ((16 - j : Nat) : Int) ∧ j ≤ 16 ∧ rn j (l.drop pos) = runes l) (fun _ wr => l.length - wr.iterPos w.heap.size)
  case atStart => exact ⟨0, 16, rfl, rfl, Nat.le_refl _, rfl⟩
  case round =>
    obtain ⟨pos, j, rfl, rfl, hj, hr⟩ := hrel
    by_cases hp : pos < l.length
    · have hnx : ∀ ty, (Instr.next (.pointer (some ⟨w.heap.size, 0, none⟩)) true ty).run Tryz.prog (w.iter ⟨l.toArray⟩ pos) = _ := fun ty => run_next_any w ⟨l.toArray⟩ pos ty (by rw [sv_size]; exact hp)
      have hwd := dec_width (l.drop pos)
      have hlt := dec_lt (l.drop pos)
      have hne : l.drop pos ≠ [] := fun h => (drop_nil_iff.1 h) hp
      rw [decode_dec] at hnx
      have HJ := Lib.hid (l.drop_drop (i := (dec (l.drop pos)).2) (j := pos))
      generalize hd : dec (l.drop pos) = d at *
      obtain ⟨v, n⟩ := d
      simp only at hnx hwd hlt HJ
      have HR := Lib.hid hr
      have HD := Lib.hid hd
      have HNE := Lib.hid hne
      clear hr hd hne
      by_cases hb : Bar v
      · have HB := Lib.hid hb
        clear hb
        go_wp2_with (go_at_call 190; refine (barred_yes v HB.out _).mono ?_; rintro e w1 ⟨rfl, rfl⟩)
        rw [Exit.noGoto_ret]
        go_ret
        refine ⟨?_, iter_below _ _ _⟩
        rw [← HR.out, rn_bar HNE.out (by rw [HD.out]; exact HB.out)]
        rfl
      · have HB := Lib.hid hb
        clear hb
        by_cases hj0 : j = 0
        · subst hj0
          go_wp2_with (go_at_call 190; refine (barred_no v HB.out _).mono ?_; rintro e w1 ⟨rfl, rfl⟩)
          rw [Exit.noGoto_ret]
          go_ret
          refine ⟨?_, iter_below _ _ _⟩
          rw [← HR.out, rn_zero HNE.out]
          rfl
        · obtain ⟨m, rfl⟩ : ∃ m, j = m + 1 := ⟨j - 1, by omega⟩
          have h16 : (((16 - (m + 1) : Nat) : Int) == 16) = false := by rw [beq_eq_false_iff_ne]; omega
          go_wp2_with (go_at_call 190; refine (barred_no v HB.out _).mono ?_; rintro e w1 ⟨rfl, rfl⟩)
          go_roundw
          case rel =>
            refine ⟨pos + n, m, rfl, ?_, by omega, ?_⟩
            · go_num
            · rw [← HR.out, rn_step HNE.out (by rw [HD.out]; exact HB.out), HD.out, HJ.out]
          case measure =>
            simp
            omega
    · have hnx : ∀ ty, (Instr.next (.pointer (some ⟨w.heap.size, 0, none⟩)) true ty).run Tryz.prog (w.iter ⟨l.toArray⟩ pos) = _ := fun ty => run_next_end w ⟨l.toArray⟩ pos ty (by rw [sv_size]; exact hp)
      have hz := drop_nil_iff.2 hp
      rw [hz, rn_nil _ hj] at hr
      have HR := Lib.hid hr
      clear hr hz
      go_wp2
      rw [Exit.noGoto_ret]
      go_ret
      exact ⟨by rw [← HR.out]; rfl, iter_below _ _ _⟩

theorem name_any (l : Tx) (w : World) :
    Calls Tryz.prog 176 #[SV l] w fun e w' => e = .returned (.bool (name l)) ∧ Below w.heap.size w w' := by
  have HC := Lib.hid (runes_any l w)
  unfold name
  generalize runes l = r at *
  go_enter Tryz.func176, Tryz.ntmps176
  go_wp2_with (go_at_call 186; refine HC.out.mono ?_; rintro e w1 ⟨rfl, hb⟩)
  go_ret
  exact ⟨by simp, hb⟩

end Go.Proofs.YtmhmnkpaijoaaaaGreat.Pa

/-
  Layer 6 (op): the document's own runes and names.
-/
namespace Go.Proofs.YtmhmnkpaijoaaaaGreat.Pb
set_option linter.unusedSimpArgs false
open Go Go.RowKit Ck Kw Pm Pa
set_option linter.unusedVariables false

set_option maxRecDepth 100000 in
set_option maxHeartbeats 1000000 in
theorem size_any (b : Nat) (h : b < 256) (w : World) :
    Calls Tryz.prog 185 #[.int .u8 b] w fun e w' => e = .returned (.int .i64 (sz b : Nat)) ∧ w = w' := by
  rcases sz_cases b with ⟨e, hb⟩ | ⟨e, hb⟩ | ⟨e, hb, hb'⟩ | ⟨e, hb, hb'⟩ | ⟨e, hb, hb'⟩
  · rw [e]
    clear e
    rcases hb with ⟨hb, hb'⟩ | hb
    · have h1 : ¬ b < 128 := by omega
      have d2 : decide (194 ≤ (b : Int)) = false := decide_eq_false (by omega)
      have d3 : decide (224 ≤ (b : Int)) = false := decide_eq_false (by omega)
      have d4 : decide (240 ≤ (b : Int)) = false := decide_eq_false (by omega)
      go_enter Tryz.func185, Tryz.ntmps185
      go_wp2
      go_ret
      exact ⟨rfl, rfl⟩
    · have h1 : ¬ b < 128 := by omega
      have d2 : decide ((b : Int) < 224) = false := decide_eq_false (by omega)
      have d3 : decide ((b : Int) < 240) = false := decide_eq_false (by omega)
      have d4 : decide ((b : Int) < 245) = false := decide_eq_false (by omega)
      go_enter Tryz.func185, Tryz.ntmps185
      go_wp2
      go_ret
      exact ⟨rfl, rfl⟩
  · rw [e]
    clear e
    go_enter Tryz.func185, Tryz.ntmps185
    go_wp2
    go_ret
    exact ⟨rfl, rfl⟩
  · rw [e]
    clear e
    have h1 : ¬ b < 128 := by omega
    go_enter Tryz.func185, Tryz.ntmps185
    go_wp2
    go_ret
    exact ⟨rfl, rfl⟩
  · rw [e]
    clear e
    have h1 : ¬ b < 128 := by omega
    have d2 : decide ((b : Int) < 224) = false := decide_eq_false (by omega)
    go_enter Tryz.func185, Tryz.ntmps185
    go_wp2
    go_ret
    exact ⟨rfl, rfl⟩
  · rw [e]
    clear e
    have h1 : ¬ b < 128 := by omega
    have d2 : decide ((b : Int) < 224) = false := decide_eq_false (by omega)
    have d3 : decide ((b : Int) < 240) = false := decide_eq_false (by omega)
    go_enter Tryz.func185, Tryz.ntmps185
    go_wp2
    go_ret
    exact ⟨rfl, rfl⟩

theorem gath_le {m : Nat} (l : Tx) (hm : m ≤ 32) (h0 : 0 < m) : ∀ k, k ≤ 3 → gath l m k ≤ 8388607 := by
  have b0 : gath l m 0 < m := Nat.mod_lt _ h0
  have e1 : gath l m 1 = gath l m 0 * 64 + byte l 1 % 64 := rfl
  have e2 : gath l m 2 = gath l m 1 * 64 + byte l 2 % 64 := rfl
  have e3 : gath l m 3 = gath l m 2 * 64 + byte l 3 % 64 := rfl
  intro k hk
  have : k = 0 ∨ k = 1 ∨ k = 2 ∨ k = 3 := by omega
  rcases this with rfl | rfl | rfl | rfl <;> omega
theorem byte_ix {l : Tx} {k : Nat} (h : k < (ByteArray.mk l.toArray).size) : ((ByteArray.mk l.toArray)[k]'h).toNat = byte l k := by
  rw [byte_get (by rw [← sv_size l]; exact h)]
  rfl
theorem and31 (b : Nat) (h : b < 256) : bits .and .i64 (b : Int) 31 = ((b % 32 : Nat) : Int) := by
  have : ∀ b : Fin 256, bits .and .i64 ((b.val : Nat) : Int) 31 = ((b.val % 32 : Nat) : Int) := by decide +kernel
  exact this ⟨b, h⟩
theorem and15 (b : Nat) (h : b < 256) : bits .and .i64 (b : Int) 15 = ((b % 16 : Nat) : Int) := by
  have : ∀ b : Fin 256, bits .and .i64 ((b.val : Nat) : Int) 15 = ((b.val % 16 : Nat) : Int) := by decide +kernel
  exact this ⟨b, h⟩
theorem and7 (b : Nat) (h : b < 256) : bits .and .i64 (b : Int) 7 = ((b % 8 : Nat) : Int) := by
  have : ∀ b : Fin 256, bits .and .i64 ((b.val : Nat) : Int) 7 = ((b.val % 8 : Nat) : Int) := by decide +kernel
  exact this ⟨b, h⟩

theorem lits_at (w : World) (nq k z : Nat) (h : (#[.int .i64 0, .int .i64 0, .int .i64 128, .int .i64 2048, .int .i64 65536] : Array Value)[k]? = some (.int .i64 (z : Int))) :
    ((w.drewN nq).alloc (.cells #[.int .i64 0, .int .i64 0, .int .i64 128, .int .i64 2048, .int .i64 65536] 3)).cell? ⟨w.heap.size, k, none⟩ = some (.int .i64 (z : Int)) :=
  (Blk.cell (Blk.new (w.drewN nq) 3 #[.int .i64 0, .int .i64 0, .int .i64 128, .int .i64 2048, .int .i64 65536]) k).trans h
/-- What rune1 answers. -/
def Rune (l : Tx) (w : World) (e : Ending) (w' : World) : Prop := e = .returned (.tuple #[.int .i64 ((r1 l).1 : Nat), .int .i64 ((r1 l).2 : Nat)]) ∧ Below w.heap.size w w'
theorem rune_of {l : Tx} {w w' : World} {v n : Nat} (h : r1 l = (v, n)) (hb : Below w.heap.size w w') : Rune l w (.returned (.tuple #[.int .i64 (v : Nat), .int .i64 (n : Nat)])) w' := by
  rw [Rune, h]
  exact ⟨rfl, hb⟩
theorem size_call {b n : Nat} (hb : b < 256) (h : sz b = n) (w : World) : Calls Tryz.prog 185 #[.int .u8 b] w fun e w' => e = .returned (.int .i64 (n : Nat)) ∧ w = w' := by
  subst h
  exact size_any b hb w

set_option maxRecDepth 100000 in
set_option maxHeartbeats 1000000 in
theorem rune_no (l : Tx) (hl : 1 ≤ l.length) (h : sz (byte l 0) = 0 ∨ l.length < sz (byte l 0)) (w : World) :
    Calls Tryz.prog 173 #[SV l] w (Rune l w) := by
  have h0 := byte_lt l 0
  have HS := Lib.hid (size_any _ h0 w)
  have HR := Lib.hid (r1_none hl h)
  unfold SV
  have hz0 : 0 < (ByteArray.mk l.toArray).size := by rw [sv_size]; omega
  have hx0 := byte_ix hz0
  have hsz := sv_size l
  generalize sz (byte l 0) = q at *
  by_cases hq : q = 0
  · subst hq
    clear h
    go_enter Tryz.func173, Tryz.ntmps173
    go_wp2_with (go_at_call 185; refine HS.out.mono ?_; rintro e w1 ⟨rfl, rfl⟩)
    go_ret2
    exact rune_of HR.out (Below.refl _ _)
  · have hq1 : ((q : Int) == 0) = false := by rw [beq_eq_false_iff_ne]; omega
    have hq2 : (l.length : Int) < (q : Int) := by omega
    clear h hq
    go_enter Tryz.func173, Tryz.ntmps173
    go_wp2_with (go_at_call 185; refine HS.out.mono ?_; rintro e w1 ⟨rfl, rfl⟩)
    go_ret2
    exact rune_of HR.out (Below.refl _ _)

set_option maxRecDepth 100000 in
set_option maxHeartbeats 1000000 in
theorem rune_one (l : Tx) (hl : 1 ≤ l.length) (h : sz (byte l 0) = 1) (w : World) :
    Calls Tryz.prog 173 #[SV l] w (Rune l w) := by
  have h0 := byte_lt l 0
  have HS := Lib.hid (size_call h0 h w)
  have HR := Lib.hid (r1_one h)
  unfold SV
  have hz0 : 0 < (ByteArray.mk l.toArray).size := by rw [sv_size]; omega
  have hx0 := byte_ix hz0
  have hsz := sv_size l
  have hq2 : ¬ ((l.length : Int) < 1) := by omega
  clear h
  go_enter Tryz.func173, Tryz.ntmps173
  go_wp2_with (go_at_call 185; refine HS.out.mono ?_; rintro e w1 ⟨rfl, rfl⟩)
  go_ret2
  exact rune_of HR.out (Below.refl _ _)

set_option maxRecDepth 100000 in
set_option maxHeartbeats 4000000 in
theorem rune_two (l : Tx) (h : sz (byte l 0) = 2) (hl : 2 ≤ l.length) (w : World) :
    Calls Tryz.prog 173 #[SV l] w (Rune l w) := by
  have h0 := byte_lt l 0
  have HS := Lib.hid (size_call h0 h w)
  have HR := Lib.hid (r1_two h hl)
  unfold SV
  have hz0 : 0 < (ByteArray.mk l.toArray).size := by rw [sv_size]; omega
  have hx0 := byte_ix hz0
  have hsz := sv_size l
  have hm := and31 (byte l 0) h0
  have HSZ := Lib.hid hsz
  have hq2 : ¬ ((l.length : Int) < 2) := by omega
  have hq3 : ¬ (2 > (l.length : Int)) := by omega
  clear h
  go_enter Tryz.func173, Tryz.ntmps173
  go_wp2_with (go_at_call 185; refine HS.out.mono ?_; rintro e w1 ⟨rfl, rfl⟩)
  go_quiet (fail)
  go_wp2
  go_loop [5, 6] (fun v i => ∃ k : Nat, 1 ≤ k ∧ k ≤ 2 ∧ i = .int .i64 k ∧ v = .int .i64 ((gath l 32 (k - 1) : Nat) : Int) ∧ (∀ p, 1 ≤ p → p < k → cont l p)) (fun _ i => 2 - (intOf i).toNat)
  case atStart => exact ⟨1, by omega, by omega, rfl, rfl, fun p h1 h2 => by omega⟩
  case round =>
    obtain ⟨k, hk1, hkn, rfl, rfl, hc⟩ := hrel
    have HC := Lib.hid hc
    have hg := gath_le l (m := 32) (by omega) (by omega) (k - 1) (by omega)
    have HG := Lib.hid hg
    clear hc
    by_cases hk : k < 2
    · have hxk := byte_ix (l := l) (k := k) (by rw [HSZ.out]; omega)
      have hzk : k < (ByteArray.mk l.toArray).size := by rw [HSZ.out]; omega
      have hbk := byte_lt l k
      have HB := Lib.hid (show gath l 32 k = gath l 32 (k - 1) * 64 + byte l k % 64 from by obtain ⟨j, rfl⟩ : ∃ j, k = j + 1 := ⟨k - 1, by omega⟩; rfl)
      generalize hG : gath l 32 (k - 1) = G at *
      by_cases h1 : byte l k < 128
      · have HN := Lib.hid (HR.out.1 (by
          intro hh
          have : k = 1 := by omega
          rcases this with rfl
          all_goals first | exact absurd hh (by unfold cont; omega)))
        clear hm hx0
        go_wp2
        go_ret2
        exact rune_of HN.out (below_drewN (Below.refl _ _) _)
      · by_cases h2 : 192 ≤ byte l k
        · have HN := Lib.hid (HR.out.1 (by
            intro hh
            have : k = 1  := by omega
            rcases this with rfl
            all_goals first | exact absurd hh (by unfold cont; omega)))
          clear hm hx0
          go_wp2
          go_ret2
          exact rune_of HN.out (below_drewN (Below.refl _ _) _)
        · have h2' : byte l k < 192 := by omega
          have h2'' : decide (192 ≤ (byte l k : Int)) = false := decide_eq_false (by omega)
          have HCK := Lib.hid (show cont l k from ⟨h1, h2⟩)
          clear h2
          clear hm hx0
          go_wp2
          go_round
          case rel =>
            refine ⟨k + 1, by omega, by omega, by go_num, ?_, fun p hp1 hp2 => ?_⟩
            · rw [Nat.add_sub_cancel, HB.out]; go_num
            · rcases Nat.lt_or_ge p k with hp | hp
              · exact HC.out p hp1 hp
              · obtain rfl : p = k := by omega
                exact HCK.out
          case measure => simp [intOf]; omega
    · obtain rfl : k = 2 := by omega
      have hld := lits_at w nq 2 128 rfl
      have HX := Lib.hid (HR.out.2 (HC.out 1 (by omega) (by omega)))
      simp only [Nat.reduceSub] at hg
      generalize hG : gath l 32 1 = G at *
      clear hm hx0
      by_cases q1 : G < 128
      · have HN := Lib.hid (HX.out.2 (fun h => h.1 q1))
        have q1' : decide ((G : Int) < 128) = true := decide_eq_true (by omega)
        clear q1
        go_wp2
        go_ret2
        exact rune_of HN.out (((below_drewN (Below.refl _ _) _).alloc (Nat.le_refl _) _))
      · have q1' : decide ((G : Int) < 128) = false := decide_eq_false (by omega)
        by_cases q2 : 1114111 < G
        · have HN := Lib.hid (HX.out.2 (fun h => h.2.1 q2))
          have q2' : decide (1114111 < (G : Int)) = true := decide_eq_true (by omega)
          clear q1 q2
          go_wp2
          go_ret2
          exact rune_of HN.out (((below_drewN (Below.refl _ _) _).alloc (Nat.le_refl _) _))
        · have q2' : decide (1114111 < (G : Int)) = false := decide_eq_false (by omega)
          by_cases q3 : 55296 ≤ G ∧ G < 57344
          · have HN := Lib.hid (HX.out.2 (fun h => h.2.2 q3))
            have q5 : decide (55296 ≤ (G : Int)) = true := decide_eq_true (by omega)
            have q6 : decide ((G : Int) < 57344) = true := decide_eq_true (by omega)
            clear q1 q2 q3
            go_wp2
            go_ret2
            exact rune_of HN.out (((below_drewN (Below.refl _ _) _).alloc (Nat.le_refl _) _))
          · have HN := Lib.hid (HX.out.1 ⟨q1, q2, q3⟩)
            clear q1 q2
            by_cases q4 : 55296 ≤ G
            · have q5 : decide ((G : Int) < 57344) = false := decide_eq_false (by omega)
              have q6 : decide (55296 ≤ (G : Int)) = true := decide_eq_true (by omega)
              clear q3 q4
              go_wp2
              go_ret2
              exact rune_of HN.out (((below_drewN (Below.refl _ _) _).alloc (Nat.le_refl _) _))
            · have q5 : decide (55296 ≤ (G : Int)) = false := decide_eq_false (by omega)
              clear q3 q4
              go_wp2
              go_ret2
              exact rune_of HN.out (((below_drewN (Below.refl _ _) _).alloc (Nat.le_refl _) _))

end Go.Proofs.YtmhmnkpaijoaaaaGreat.Pb

/-
  Layer 6 (op): the document's own runes of three and four bytes.
-/
namespace Go.Proofs.YtmhmnkpaijoaaaaGreat.Pc
set_option linter.unusedSimpArgs false
open Go Go.RowKit Ck Kw Pm Pa Pb
set_option linter.unusedVariables false

set_option maxRecDepth 100000 in
set_option maxHeartbeats 4000000 in
theorem rune_three (l : Tx) (h : sz (byte l 0) = 3) (hl : 3 ≤ l.length) (w : World) :
    Calls Tryz.prog 173 #[SV l] w (Rune l w) := by
  have h0 := byte_lt l 0
  have HS := Lib.hid (size_call h0 h w)
  have HR := Lib.hid (r1_three h hl)
  unfold SV
  have hz0 : 0 < (ByteArray.mk l.toArray).size := by rw [sv_size]; omega
  have hx0 := byte_ix hz0
  have hsz := sv_size l
  have hm := and15 (byte l 0) h0
  have HSZ := Lib.hid hsz
  have hq2 : ¬ ((l.length : Int) < 3) := by omega
  have hq3 : ¬ (3 > (l.length : Int)) := by omega
  clear h
  go_enter Tryz.func173, Tryz.ntmps173
  go_wp2_with (go_at_call 185; refine HS.out.mono ?_; rintro e w1 ⟨rfl, rfl⟩)
  go_quiet (fail)
  go_wp2
  go_loop [5, 6] (fun v i => ∃ k : Nat, 1 ≤ k ∧ k ≤ 3 ∧ i = .int .i64 k ∧ v = .int .i64 ((gath l 16 (k - 1) : Nat) : Int) ∧ (∀ p, 1 ≤ p → p < k → cont l p)) (fun _ i => 3 - (intOf i).toNat)
  case atStart => exact ⟨1, by omega, by omega, rfl, rfl, fun p h1 h2 => by omega⟩
  case round =>
    obtain ⟨k, hk1, hkn, rfl, rfl, hc⟩ := hrel
    have HC := Lib.hid hc
    have hg := gath_le l (m := 16) (by omega) (by omega) (k - 1) (by omega)
    have HG := Lib.hid hg
    clear hc
    by_cases hk : k < 3
    · have hxk := byte_ix (l := l) (k := k) (by rw [HSZ.out]; omega)
      have hzk : k < (ByteArray.mk l.toArray).size := by rw [HSZ.out]; omega
      have hbk := byte_lt l k
      have HB := Lib.hid (show gath l 16 k = gath l 16 (k - 1) * 64 + byte l k % 64 from by obtain ⟨j, rfl⟩ : ∃ j, k = j + 1 := ⟨k - 1, by omega⟩; rfl)
      generalize hG : gath l 16 (k - 1) = G at *
      by_cases h1 : byte l k < 128
      · have HN := Lib.hid (HR.out.1 (by
          intro hh
          have : k = 1  ∨ k = 2:= by omega
          rcases this with rfl | rfl
          all_goals first | exact absurd hh.1 (by unfold cont; omega) | exact absurd hh.2 (by unfold cont; omega)))
        clear hm hx0
        go_wp2
        go_ret2
        exact rune_of HN.out (below_drewN (Below.refl _ _) _)
      · by_cases h2 : 192 ≤ byte l k
        · have HN := Lib.hid (HR.out.1 (by
            intro hh
            have : k = 1  ∨ k = 2 := by omega
            rcases this with rfl | rfl
            all_goals first | exact absurd hh.1 (by unfold cont; omega) | exact absurd hh.2 (by unfold cont; omega)))
          clear hm hx0
          go_wp2
          go_ret2
          exact rune_of HN.out (below_drewN (Below.refl _ _) _)
        · have h2' : byte l k < 192 := by omega
          have h2'' : decide (192 ≤ (byte l k : Int)) = false := decide_eq_false (by omega)
          have HCK := Lib.hid (show cont l k from ⟨h1, h2⟩)
          clear h2
          clear hm hx0
          go_wp2
          go_round
          case rel =>
            refine ⟨k + 1, by omega, by omega, by go_num, ?_, fun p hp1 hp2 => ?_⟩
            · rw [Nat.add_sub_cancel, HB.out]; go_num
            · rcases Nat.lt_or_ge p k with hp | hp
              · exact HC.out p hp1 hp
              · obtain rfl : p = k := by omega
                exact HCK.out
          case measure => simp [intOf]; omega
    · obtain rfl : k = 3 := by omega
      have hld := lits_at w nq 3 2048 rfl
      have HX := Lib.hid (HR.out.2 ⟨HC.out 1 (by omega) (by omega), HC.out 2 (by omega) (by omega)⟩)
      simp only [Nat.reduceSub] at hg
      generalize hG : gath l 16 2 = G at *
      clear hm hx0
      by_cases q1 : G < 2048
      · have HN := Lib.hid (HX.out.2 (fun h => h.1 q1))
        have q1' : decide ((G : Int) < 2048) = true := decide_eq_true (by omega)
        clear q1
        go_wp2
        go_ret2
        exact rune_of HN.out (((below_drewN (Below.refl _ _) _).alloc (Nat.le_refl _) _))
      · have q1' : decide ((G : Int) < 2048) = false := decide_eq_false (by omega)
        by_cases q2 : 1114111 < G
        · have HN := Lib.hid (HX.out.2 (fun h => h.2.1 q2))
          have q2' : decide (1114111 < (G : Int)) = true := decide_eq_true (by omega)
          clear q1 q2
          go_wp2
          go_ret2
          exact rune_of HN.out (((below_drewN (Below.refl _ _) _).alloc (Nat.le_refl _) _))
        · have q2' : decide (1114111 < (G : Int)) = false := decide_eq_false (by omega)
          by_cases q3 : 55296 ≤ G ∧ G < 57344
          · have HN := Lib.hid (HX.out.2 (fun h => h.2.2 q3))
            have q5 : decide (55296 ≤ (G : Int)) = true := decide_eq_true (by omega)
            have q6 : decide ((G : Int) < 57344) = true := decide_eq_true (by omega)
            clear q1 q2 q3
            go_wp2
            go_ret2
            exact rune_of HN.out (((below_drewN (Below.refl _ _) _).alloc (Nat.le_refl _) _))
          · have HN := Lib.hid (HX.out.1 ⟨q1, q2, q3⟩)
            clear q1 q2
            by_cases q4 : 55296 ≤ G
            · have q5 : decide ((G : Int) < 57344) = false := decide_eq_false (by omega)
              have q6 : decide (55296 ≤ (G : Int)) = true := decide_eq_true (by omega)
              clear q3 q4
              go_wp2
              go_ret2
              exact rune_of HN.out (((below_drewN (Below.refl _ _) _).alloc (Nat.le_refl _) _))
            · have q5 : decide (55296 ≤ (G : Int)) = false := decide_eq_false (by omega)
              clear q3 q4
              go_wp2
              go_ret2
              exact rune_of HN.out (((below_drewN (Below.refl _ _) _).alloc (Nat.le_refl _) _))

set_option maxRecDepth 100000 in
set_option maxHeartbeats 4000000 in
theorem rune_four (l : Tx) (h : sz (byte l 0) = 4) (hl : 4 ≤ l.length) (w : World) :
    Calls Tryz.prog 173 #[SV l] w (Rune l w) := by
  have h0 := byte_lt l 0
  have HS := Lib.hid (size_call h0 h w)
  have HR := Lib.hid (r1_four h hl)
  unfold SV
  have hz0 : 0 < (ByteArray.mk l.toArray).size := by rw [sv_size]; omega
  have hx0 := byte_ix hz0
  have hsz := sv_size l
  have hm := and7 (byte l 0) h0
  have HSZ := Lib.hid hsz
  have hq2 : ¬ ((l.length : Int) < 4) := by omega
  have hq3 : ¬ (4 > (l.length : Int)) := by omega
  clear h
  go_enter Tryz.func173, Tryz.ntmps173
  go_wp2_with (go_at_call 185; refine HS.out.mono ?_; rintro e w1 ⟨rfl, rfl⟩)
  go_quiet (fail)
  go_wp2
  go_loop [5, 6] (fun v i => ∃ k : Nat, 1 ≤ k ∧ k ≤ 4 ∧ i = .int .i64 k ∧ v = .int .i64 ((gath l 8 (k - 1) : Nat) : Int) ∧ (∀ p, 1 ≤ p → p < k → cont l p)) (fun _ i => 4 - (intOf i).toNat)
  case atStart => exact ⟨1, by omega, by omega, rfl, rfl, fun p h1 h2 => by omega⟩
  case round =>
    obtain ⟨k, hk1, hkn, rfl, rfl, hc⟩ := hrel
    have HC := Lib.hid hc
    have hg := gath_le l (m := 8) (by omega) (by omega) (k - 1) (by omega)
    have HG := Lib.hid hg
    clear hc
    by_cases hk : k < 4
    · have hxk := byte_ix (l := l) (k := k) (by rw [HSZ.out]; omega)
      have hzk : k < (ByteArray.mk l.toArray).size := by rw [HSZ.out]; omega
      have hbk := byte_lt l k
      have HB := Lib.hid (show gath l 8 k = gath l 8 (k - 1) * 64 + byte l k % 64 from by obtain ⟨j, rfl⟩ : ∃ j, k = j + 1 := ⟨k - 1, by omega⟩; rfl)
      generalize hG : gath l 8 (k - 1) = G at *
      by_cases h1 : byte l k < 128
      · have HN := Lib.hid (HR.out.1 (by
          intro hh
          have : k = 1  ∨ k = 2 ∨ k = 3:= by omega
          rcases this with rfl | rfl | rfl
          all_goals first | exact absurd hh.1 (by unfold cont; omega) | exact absurd hh.2.1 (by unfold cont; omega) | exact absurd hh.2.2 (by unfold cont; omega)))
        clear hm hx0
        go_wp2
        go_ret2
        exact rune_of HN.out (below_drewN (Below.refl _ _) _)
      · by_cases h2 : 192 ≤ byte l k
        · have HN := Lib.hid (HR.out.1 (by
            intro hh
            have : k = 1  ∨ k = 2 ∨ k = 3 := by omega
            rcases this with rfl | rfl | rfl
            all_goals first | exact absurd hh.1 (by unfold cont; omega) | exact absurd hh.2.1 (by unfold cont; omega) | exact absurd hh.2.2 (by unfold cont; omega)))
          clear hm hx0
          go_wp2
          go_ret2
          exact rune_of HN.out (below_drewN (Below.refl _ _) _)
        · have h2' : byte l k < 192 := by omega
          have h2'' : decide (192 ≤ (byte l k : Int)) = false := decide_eq_false (by omega)
          have HCK := Lib.hid (show cont l k from ⟨h1, h2⟩)
          clear h2
          clear hm hx0
          go_wp2
          go_round
          case rel =>
            refine ⟨k + 1, by omega, by omega, by go_num, ?_, fun p hp1 hp2 => ?_⟩
            · rw [Nat.add_sub_cancel, HB.out]; go_num
            · rcases Nat.lt_or_ge p k with hp | hp
              · exact HC.out p hp1 hp
              · obtain rfl : p = k := by omega
                exact HCK.out
          case measure => simp [intOf]; omega
    · obtain rfl : k = 4 := by omega
      have hld := lits_at w nq 4 65536 rfl
      have HX := Lib.hid (HR.out.2 ⟨HC.out 1 (by omega) (by omega), HC.out 2 (by omega) (by omega), HC.out 3 (by omega) (by omega)⟩)
      simp only [Nat.reduceSub] at hg
      generalize hG : gath l 8 3 = G at *
      clear hm hx0
      by_cases q1 : G < 65536
      · have HN := Lib.hid (HX.out.2 (fun h => h.1 q1))
        have q1' : decide ((G : Int) < 65536) = true := decide_eq_true (by omega)
        clear q1
        go_wp2
        go_ret2
        exact rune_of HN.out (((below_drewN (Below.refl _ _) _).alloc (Nat.le_refl _) _))
      · have q1' : decide ((G : Int) < 65536) = false := decide_eq_false (by omega)
        by_cases q2 : 1114111 < G
        · have HN := Lib.hid (HX.out.2 (fun h => h.2.1 q2))
          have q2' : decide (1114111 < (G : Int)) = true := decide_eq_true (by omega)
          clear q1 q2
          go_wp2
          go_ret2
          exact rune_of HN.out (((below_drewN (Below.refl _ _) _).alloc (Nat.le_refl _) _))
        · have q2' : decide (1114111 < (G : Int)) = false := decide_eq_false (by omega)
          by_cases q3 : 55296 ≤ G ∧ G < 57344
          · have HN := Lib.hid (HX.out.2 (fun h => h.2.2 q3))
            have q5 : decide (55296 ≤ (G : Int)) = true := decide_eq_true (by omega)
            have q6 : decide ((G : Int) < 57344) = true := decide_eq_true (by omega)
            clear q1 q2 q3
            go_wp2
            go_ret2
            exact rune_of HN.out (((below_drewN (Below.refl _ _) _).alloc (Nat.le_refl _) _))
          · have HN := Lib.hid (HX.out.1 ⟨q1, q2, q3⟩)
            clear q1 q2
            by_cases q4 : 55296 ≤ G
            · have q5 : decide ((G : Int) < 57344) = false := decide_eq_false (by omega)
              have q6 : decide (55296 ≤ (G : Int)) = true := decide_eq_true (by omega)
              clear q3 q4
              go_wp2
              go_ret2
              exact rune_of HN.out (((below_drewN (Below.refl _ _) _).alloc (Nat.le_refl _) _))
            · have q5 : decide (55296 ≤ (G : Int)) = false := decide_eq_false (by omega)
              clear q3 q4
              go_wp2
              go_ret2
              exact rune_of HN.out (((below_drewN (Below.refl _ _) _).alloc (Nat.le_refl _) _))

end Go.Proofs.YtmhmnkpaijoaaaaGreat.Pc

/-
  Layer 6 (op): the document's own Runes and Name.
-/
namespace Go.Proofs.YtmhmnkpaijoaaaaGreat.Pd
set_option linter.unusedSimpArgs false
open Go Go.RowKit Ck Kw Pm Pa Pb Pc
set_option linter.unusedVariables false

theorem rune_any (l : Tx) (hl : 1 ≤ l.length) (w : World) : Calls Tryz.prog 173 #[SV l] w (Rune l w) := by
  by_cases h : sz (byte l 0) = 0 ∨ l.length < sz (byte l 0)
  · exact rune_no l hl h w
  · have hc := sz_cases (byte l 0)
    by_cases h1 : sz (byte l 0) = 1
    · exact rune_one l hl h1 w
    · by_cases h2 : sz (byte l 0) = 2
      · exact rune_two l h2 (by omega) w
      · by_cases h3 : sz (byte l 0) = 3
        · exact rune_three l h3 (by omega) w
        · exact rune_four l (by omega) (by omega) w

theorem extract_tail (l : Tx) (n : Nat) : (ByteArray.mk l.toArray).extract n l.length = ⟨(l.drop n).toArray⟩ := by
  apply ByteArray.ext
  rw [ByteArray.data_extract]
  apply Array.ext'
  rw [Array.toList_extract]
  simp [sv_size]
  rw [← List.length_drop, List.take_length]
theorem r1_cases (l : Tx) : (r1 l = (0, 0) ∧ Bar (dec l).1) ∨ (r1 l = dec l ∧ 1 ≤ (dec l).2 ∧ (dec l).1 ≤ 1114111) := by
  unfold r1
  split
  · rename_i h
    exact .inl ⟨rfl, by rw [h]; exact .inr (.inr (.inr rfl))⟩
  · exact .inr ⟨rfl, dec_width l, dec_lt l⟩

set_option maxRecDepth 100000 in
set_option maxHeartbeats 4000000 in
theorem rrunes_any (l : Tx) (w : World) :
    Calls Tryz.prog 158 #[SV l] w fun e w' => e = .returned (.int .i64 (runes l : Nat)) ∧ Below w.heap.size w w' := by
  unfold SV
  go_enter Tryz.func158, Tryz.ntmps158
  go_wp2
  go_loopw [0, 3] (fun s n wr => ∃ (k : Tx) (j : Nat), s = .string ⟨k.toArray⟩ ∧ n = .int .i64 ((16 - j : Nat) : Int) ∧ j ≤ 16 ∧ rn j k = runes l ∧ Below w.heap.size w wr) (fun s _ _ => match s with | .string b => b.size | _ => 0)
  case atStart => exact ⟨l, 16, rfl, rfl, Nat.le_refl _, rfl, Below.refl _ _⟩
  case round =>
    obtain ⟨k, j, rfl, rfl, hj, hr, hb⟩ := hrel
    have hsz := sv_size k
    by_cases hk : k = []
    · subst hk
      rw [rn_nil _ hj] at hr
      have HR := Lib.hid hr
      clear hr
      have hz : ¬ 0 < (ByteArray.mk ([] : Tx).toArray).size := by rw [hsz]; simp
      go_wp2
      go_ret
      exact ⟨by rw [← HR.out]; rfl, hb⟩
    · have hl1 : 1 ≤ k.length := by
        rcases Nat.eq_zero_or_pos k.length with h | h
        · exact absurd (List.eq_nil_of_length_eq_zero h) hk
        · exact h
      have HC := Lib.hid (rune_any k hl1 wr)
      have HR := Lib.hid hr
      have HK := Lib.hid hk
      clear hr hk
      rcases r1_cases k with ⟨h1, hbar⟩ | ⟨h1, hw1, hv⟩
      · have HBAR := Lib.hid hbar
        have H1 := Lib.hid h1
        clear hbar h1
        go_wp2_with (go_at_call 173; refine HC.out.mono ?_; rintro e w1 ⟨he, hb1⟩; rw [H1.out] at he; subst he)
        go_ret
        exact ⟨by rw [← HR.out, rn_bar HK.out HBAR.out]; rfl, hb.trans (hb1.mono hb.size)⟩
      · have H1 := Lib.hid h1
        clear h1
        have HE := Lib.hid (extract_tail k (dec k).2)
        have hwl := dec_width_le k hl1
        generalize hd : dec k = d at *
        obtain ⟨v, n⟩ := d
        simp only at hw1 hv HE hwl
        have HD := Lib.hid hd
        clear hd
        have hn0 : ((n : Int) == 0) = false := by rw [beq_eq_false_iff_ne]; omega
        have hnk : n ≤ (ByteArray.mk k.toArray).size := by rw [hsz]; exact hwl
        by_cases hbar : Bar v
        · have HB := Lib.hid hbar
          unfold Bar at hbar
          by_cases q1 : v < 33
          · clear hbar
            go_wp2_with (go_at_call 173; refine HC.out.mono ?_; rintro e w1 ⟨he, hb1⟩; rw [H1.out] at he; subst he)
            go_ret
            exact ⟨by rw [← HR.out, rn_bar HK.out (by rw [HD.out]; exact HB.out)]; rfl, hb.trans (hb1.mono hb.size)⟩
          · have d1 : decide ((v : Int) < 33) = false := decide_eq_false (by omega)
            by_cases q2 : 127 ≤ v ∧ v ≤ 159
            · have d2 : decide (127 ≤ (v : Int)) = true := decide_eq_true (by omega)
              have d3 : decide ((v : Int) < 160) = true := decide_eq_true (by omega)
              clear hbar q1 q2
              go_wp2_with (go_at_call 173; refine HC.out.mono ?_; rintro e w1 ⟨he, hb1⟩; rw [H1.out] at he; subst he)
              go_ret
              exact ⟨by rw [← HR.out, rn_bar HK.out (by rw [HD.out]; exact HB.out)]; rfl, hb.trans (hb1.mono hb.size)⟩
            · by_cases q3 : v = 47
              · subst q3
                clear hbar q1 q2 d1
                go_wp2_with (go_at_call 173; refine HC.out.mono ?_; rintro e w1 ⟨he, hb1⟩; rw [H1.out] at he; subst he)
                go_ret
                exact ⟨by rw [← HR.out, rn_bar HK.out (by rw [HD.out]; exact HB.out)]; rfl, hb.trans (hb1.mono hb.size)⟩
              · obtain rfl : v = 65533 := by omega
                clear hbar q1 q2 q3 d1
                go_wp2_with (go_at_call 173; refine HC.out.mono ?_; rintro e w1 ⟨he, hb1⟩; rw [H1.out] at he; subst he)
                go_ret
                exact ⟨by rw [← HR.out, rn_bar HK.out (by rw [HD.out]; exact HB.out)]; rfl, hb.trans (hb1.mono hb.size)⟩
        · have HB := Lib.hid hbar
          unfold Bar at hbar
          have d1 : decide ((v : Int) < 33) = false := decide_eq_false (by omega)
          have e47 : ((v : Int) == 47) = false := by rw [beq_eq_false_iff_ne]; omega
          have e65 : ((v : Int) == 65533) = false := by rw [beq_eq_false_iff_ne]; omega
          by_cases hj0 : j = 0
          · subst hj0
            have HZ := Lib.hid (rn_zero HK.out)
            by_cases q2 : 127 ≤ v
            · have d2 : decide (127 ≤ (v : Int)) = true := decide_eq_true (by omega)
              have d3 : decide ((v : Int) < 160) = false := decide_eq_false (by omega)
              clear hbar q2
              go_wp2_with (go_at_call 173; refine HC.out.mono ?_; rintro e w1 ⟨he, hb1⟩; rw [H1.out] at he; subst he)
              go_ret
              exact ⟨by rw [← HR.out, HZ.out]; rfl, hb.trans (hb1.mono hb.size)⟩
            · have d2 : decide (127 ≤ (v : Int)) = false := decide_eq_false (by omega)
              clear hbar q2
              go_wp2_with (go_at_call 173; refine HC.out.mono ?_; rintro e w1 ⟨he, hb1⟩; rw [H1.out] at he; subst he)
              go_ret
              exact ⟨by rw [← HR.out, HZ.out]; rfl, hb.trans (hb1.mono hb.size)⟩
          · obtain ⟨m, rfl⟩ : ∃ m, j = m + 1 := ⟨j - 1, by omega⟩
            have d16 : decide (16 ≤ ((16 - (m + 1) : Nat) : Int)) = false := decide_eq_false (by omega)
            have HS := Lib.hid (rn_step (j := m) HK.out (by rw [HD.out]; exact HB.out))
            by_cases q2 : 127 ≤ v
            · have d2 : decide (127 ≤ (v : Int)) = true := decide_eq_true (by omega)
              have d3 : decide ((v : Int) < 160) = false := decide_eq_false (by omega)
              clear hbar q2
              go_wp2_with (go_at_call 173; refine HC.out.mono ?_; rintro e w1 ⟨he, hb1⟩; rw [H1.out] at he; subst he)
              go_roundw
              case rel =>
                refine ⟨k.drop n, m, by rw [HE.out], by go_num, by omega, ?_, hb.trans (hb1.mono hb.size)⟩
                rw [← HR.out, HS.out, HD.out]
              case measure =>
                simp [sv_size]
                omega
            · have d2 : decide (127 ≤ (v : Int)) = false := decide_eq_false (by omega)
              clear hbar q2
              go_wp2_with (go_at_call 173; refine HC.out.mono ?_; rintro e w1 ⟨he, hb1⟩; rw [H1.out] at he; subst he)
              go_roundw
              case rel =>
                refine ⟨k.drop n, m, by rw [HE.out], by go_num, by omega, ?_, hb.trans (hb1.mono hb.size)⟩
                rw [← HR.out, HS.out, HD.out]
              case measure =>
                simp [sv_size]
                omega

theorem rname_any (l : Tx) (w : World) :
    Calls Tryz.prog 138 #[SV l] w fun e w' => e = .returned (.bool (name l)) ∧ Below w.heap.size w w' := by
  have HC := Lib.hid (rrunes_any l w)
  unfold name
  generalize runes l = r at *
  go_enter Tryz.func138, Tryz.ntmps138
  go_wp2_with (go_at_call 158; refine HC.out.mono ?_; rintro e w1 ⟨rfl, hb⟩)
  go_ret
  exact ⟨by simp, hb⟩

end Go.Proofs.YtmhmnkpaijoaaaaGreat.Pd

/-
  Layer 6 (op): the contracts of fieldsOf, holdMore, isLong and areRecords; an operation in memory.
-/
namespace Go.Proofs.YtmhmnkpaijoaaaaGreat.Pe
set_option linter.unusedSimpArgs false
open Go Go.RowKit Ck Kw Pm Pa
set_option linter.unusedVariables false

/-- The fields that a kind has, as a value. -/
def FV (k : Int) : Value := .agg #[.bool (hasT k), .bool (hasG k), .bool (hasO k), .bool (hasR k)]
theorem size_fields : (Tryz.prog.info? 237).map (·.size) = some 4 := by kernel_rfl
set_option maxRecDepth 100000 in
set_option maxHeartbeats 2000000 in
theorem fields_any (k : Int) (w : World) :
    Calls Tryz.prog 174 #[.int .i64 k] w fun e w' => e = .returned (.tuple #[FV k, .bool (known k)]) ∧ Below w.heap.size w w' := by
  by_cases hk : known k = true
  · rcases kind_cases hk with rfl | rfl | rfl | rfl | rfl
    · clear hk
      go_enter Tryz.func174, Tryz.ntmps174
      go_wp2
      refine bodyPost_ret (results_row_tmp rfl _ _ w.heap.size 237 #[.bool false, .bool false, .bool false, .bool false] (0, 0) _ rfl ?_ Tryz.underlying237 rfl size_fields) rfl ?_
      · exact heap_alloc_new w _
      · exact ⟨rfl, (Below.refl _ w).alloc (Nat.le_refl _) _⟩
    · clear hk
      go_enter Tryz.func174, Tryz.ntmps174
      go_wp2
      refine bodyPost_ret (results_row_tmp rfl _ _ w.heap.size 237 #[.bool true, .bool false, .bool false, .bool false] (0, 0) _ rfl ?_ Tryz.underlying237 rfl size_fields) rfl ?_
      · exact heap_alloc_new w _
      · exact ⟨rfl, (Below.refl _ w).alloc (Nat.le_refl _) _⟩
    · clear hk
      go_enter Tryz.func174, Tryz.ntmps174
      go_wp2
      refine bodyPost_ret (results_row_tmp rfl _ _ w.heap.size 237 #[.bool true, .bool false, .bool false, .bool true] (0, 0) _ rfl ?_ Tryz.underlying237 rfl size_fields) rfl ?_
      · exact heap_alloc_new w _
      · exact ⟨rfl, (Below.refl _ w).alloc (Nat.le_refl _) _⟩
    · clear hk
      go_enter Tryz.func174, Tryz.ntmps174
      go_wp2
      refine bodyPost_ret (results_row_tmp rfl _ _ w.heap.size 237 #[.bool true, .bool true, .bool true, .bool false] (0, 0) _ rfl ?_ Tryz.underlying237 rfl size_fields) rfl ?_
      · exact heap_alloc_new w _
      · exact ⟨rfl, (Below.refl _ w).alloc (Nat.le_refl _) _⟩
    · clear hk
      go_enter Tryz.func174, Tryz.ntmps174
      go_wp2
      refine bodyPost_ret (results_row_tmp rfl _ _ w.heap.size 237 #[.bool true, .bool false, .bool true, .bool false] (0, 0) _ rfl ?_ Tryz.underlying237 rfl size_fields) rfl ?_
      · exact heap_alloc_new w _
      · exact ⟨rfl, (Below.refl _ w).alloc (Nat.le_refl _) _⟩
  · have hn := Bool.eq_false_iff.2 hk
    have hv := kind_none hn
    have e0 : (k == 0) = false := beq_eq_false_iff_ne.2 hv.1
    have e1 : (k == 1) = false := beq_eq_false_iff_ne.2 hv.2.1
    have e2 : (k == 2) = false := beq_eq_false_iff_ne.2 hv.2.2.1
    have e3 : (k == 3) = false := beq_eq_false_iff_ne.2 hv.2.2.2.1
    have e4 : (k == 4) = false := beq_eq_false_iff_ne.2 hv.2.2.2.2
    have hF : FV k = .agg #[.bool false, .bool false, .bool false, .bool false] := by simp [FV, hasT, hasG, hasO, hasR, e1, e2, e3, e4]
    rw [hn, hF]
    clear hk hn hv hF
    go_enter Tryz.func174, Tryz.ntmps174
    go_wp2
    refine bodyPost_ret (results_row_tmp rfl _ _ w.heap.size 237 #[.bool false, .bool false, .bool false, .bool false] (0, 0) _ rfl ?_ Tryz.underlying237 rfl size_fields) rfl ?_
    · exact heap_alloc_new w _
    · exact ⟨rfl, (Below.refl _ w).alloc (Nat.le_refl _) _⟩

/-- An operation as a value: its records lie at A. -/
def OV (o : O) (A : Option Addr) (c : Nat) : Value := .agg #[.int .i64 o.kind, .string ⟨o.topic.toArray⟩, .string ⟨o.group.toArray⟩, .int .i64 o.off, .slice A o.recs.length c]
/-- The value v is the operation o, its records in no block of X. -/
def OI (w : World) (X : Nat → Prop) (v : Value) (o : O) : Prop := ∃ A c, v = OV o A c ∧ Ls w X (.slice A o.recs.length c) o.recs
section
variable {w w' : World} {X Y : Nat → Prop} {v : Value} {o : O}
theorem OI.keep (h : OI w X v o) (hs : w.heap.size ≤ w'.heap.size) (hk : ∀ b, b < w.heap.size → ¬ X b → w'.heap[b]? = w.heap[b]?) : OI w' X v o := by
  obtain ⟨A, c, hv, hl⟩ := h
  exact ⟨A, c, hv, hl.keep hs hk⟩
theorem OI.weaken (h : OI w X v o) (hk : ∀ b, b < w.heap.size → Y b → X b) : OI w Y v o := by
  obtain ⟨A, c, hv, hl⟩ := h
  exact ⟨A, c, hv, hl.weaken hk⟩
theorem OI.after (h : OI w X v o) (hb : Below w.heap.size w w') : OI w' X v o := by
  obtain ⟨A, c, hv, hl⟩ := h
  exact ⟨A, c, hv, hl.after hb⟩
theorem OI.ch {S : Nat → Prop} (h : OI w X v o) (c : Ch S w w') (hd : ∀ k, k < w.heap.size → S k → X k) : OI w' X v o := by
  obtain ⟨A, c', hv, hl⟩ := h
  exact ⟨A, c', hv, hl.ch c hd⟩
end
theorem long_any (A : Option Addr) (n c : Nat) (w : World) :
    Calls Tryz.prog 188 #[.slice A n c] w fun e w' => e = .returned (.bool (decide (64 < n))) ∧ w = w' := by
  go_enter Tryz.func188, Tryz.ntmps188
  go_wp2
  go_ret
  exact ⟨by simp; omega, rfl⟩

/-- Where the first long record stands. -/
def ixLong : List Tx → Nat → Int
  | [], _ => -1
  | x :: l, i => if 64 < x.length then (i : Int) else ixLong l (i + 1)
theorem ix_at {l : List Tx} {k : Nat} (h : k < l.length) : ixLong (l.drop k) k = if 64 < l[k].length then (k : Int) else ixLong (l.drop (k + 1)) (k + 1) := by
  rw [List.drop_eq_getElem_cons h]
  rfl
theorem ix_all : ∀ (l : List Tx) (i : Nat), decide (0 ≤ ixLong l i) = !(l.all fun x => decide (x.length ≤ 64))
  | [], i => rfl
  | x :: l, i => by
    rw [ixLong, List.all_cons]
    by_cases h : 64 < x.length
    · rw [if_pos h]
      have : decide (x.length ≤ 64) = false := decide_eq_false (by omega)
      simp [this]
    · rw [if_neg h, ix_all l]
      have : decide (x.length ≤ 64) = true := decide_eq_true (by omega)
      simp [this]

set_option maxHeartbeats 1000000 in
theorem index_any (w : World) (X : Nat → Prop) (A : Option Addr) (c : Nat) (ls : List Tx) (ha : Ls w X (.slice A ls.length c) ls) (hl : ls.length ≤ 140737488355328) :
    Calls Tryz.prog 191 #[.slice A ls.length c, .func (.func 188) #[] #[]] w fun e w' => e = .returned (.int .i64 (ixLong ls 0)) ∧ w = w' := by
  have HA := Lib.hid ha
  clear ha
  go_enter Tryz.func191, Tryz.ntmps191
  go_wp2
  go_loop [8] (fun i => ∃ k : Nat, k ≤ ls.length ∧ i = .int .i64 k ∧ ixLong (ls.drop k) k = ixLong ls 0) (fun i => ls.length - (intOf i).toNat)
  case atStart => exact ⟨0, Nat.zero_le _, rfl, rfl⟩
  case round =>
    obtain ⟨k, hk, rfl, hix⟩ := hrel
    by_cases hlt : k < ls.length
    · obtain ⟨ad, B, d, rfl, hcell, -⟩ := HA.out.at_ hlt
      rw [ix_at hlt] at hix
      by_cases h64 : 64 < ls[k].length
      · rw [if_pos h64] at hix
        have hd : decide (64 < ls[k].length) = true := decide_eq_true h64
        have HIX := Lib.hid hix
        clear hix h64
        go_wp2_with (go_at_call 188; refine (long_any _ _ _ _).mono ?_; rintro e w1 ⟨rfl, rfl⟩)
        go_ret
        exact ⟨by rw [← HIX.out]; rfl, rfl⟩
      · rw [if_neg h64] at hix
        have hd : decide (64 < ls[k].length) = false := decide_eq_false h64
        have HIX := Lib.hid hix
        clear hix h64
        go_wp2_with (go_at_call 188; refine (long_any _ _ _ _).mono ?_; rintro e w1 ⟨rfl, rfl⟩)
        go_round
        case rel => exact ⟨k + 1, by omega, by go_num, HIX.out⟩
        case measure => simp [intOf]; omega
    · have hz : ls.drop k = [] := List.drop_eq_nil_iff.2 (by omega)
      rw [hz] at hix
      have HIX := Lib.hid hix
      clear hix hz
      go_wp2
      go_ret
      exact ⟨by rw [← HIX.out]; rfl, rfl⟩

theorem contains_any (w : World) (X : Nat → Prop) (A : Option Addr) (c : Nat) (ls : List Tx) (ha : Ls w X (.slice A ls.length c) ls) (hl : ls.length ≤ 140737488355328) :
    Calls Tryz.prog 187 #[.slice A ls.length c, .func (.func 188) #[] #[]] w fun e w' => e = .returned (.bool (!(ls.all fun x => decide (x.length ≤ 64)))) ∧ w = w' := by
  have HC := Lib.hid (index_any w X A c ls ha hl)
  rw [← ix_all ls 0]
  clear ha
  go_enter Tryz.func187, Tryz.ntmps187
  go_wp2_with (go_at_call 191; refine HC.out.mono ?_; rintro e w1 ⟨rfl, rfl⟩)
  go_ret
  exact ⟨rfl, rfl⟩

theorem arerecs_any (w : World) (X : Nat → Prop) (A : Option Addr) (c : Nat) (ls : List Tx) (ha : Ls w X (.slice A ls.length c) ls) (hl : ls.length ≤ 140737488355328) :
    Calls Tryz.prog 177 #[.slice A ls.length c] w fun e w' => e = .returned (.bool (areRecs ls)) ∧ w = w' := by
  have HC := Lib.hid (contains_any w X A c ls ha hl)
  clear ha
  unfold areRecs
  generalize (ls.all fun x => decide (x.length ≤ 64)) = q at *
  by_cases h0 : 0 < ls.length
  · have d0 : decide (0 < (ls.length : Int)) = true := decide_eq_true (by omega)
    have d0' : decide (0 < ls.length) = true := decide_eq_true h0
    by_cases h4 : ls.length ≤ 4
    · have d4 : decide ((ls.length : Int) ≤ 4) = true := decide_eq_true (by omega)
      have d4' : decide (ls.length ≤ 4) = true := decide_eq_true h4
      rw [d0', d4']
      clear d0' d4' d0 d4
      go_enter Tryz.func177, Tryz.ntmps177
      go_wp2_with (go_at_call 187; refine HC.out.mono ?_; rintro e w1 ⟨rfl, rfl⟩)
      go_ret
      exact ⟨by simp, rfl⟩
    · have d4 : decide ((ls.length : Int) ≤ 4) = false := decide_eq_false (by omega)
      have h4' : 4 < ls.length := by omega
      have d4' : decide (ls.length ≤ 4) = false := decide_eq_false h4
      rw [d0', d4']
      clear d0' d4' d0 d4
      go_enter Tryz.func177, Tryz.ntmps177
      go_wp2
      go_ret
      exact ⟨rfl, rfl⟩
  · have d0 : decide (0 < (ls.length : Int)) = false := decide_eq_false (by omega)
    have d0' : decide (0 < ls.length) = false := decide_eq_false h0
    rw [d0']
    clear d0' d0
    go_enter Tryz.func177, Tryz.ntmps177
    go_wp2
    go_ret
    exact ⟨rfl, rfl⟩

end Go.Proofs.YtmhmnkpaijoaaaaGreat.Pe

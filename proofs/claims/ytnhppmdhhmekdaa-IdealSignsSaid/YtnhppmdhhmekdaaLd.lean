/-
  Contracts of the document's ledger: Signed; slices.Equal of signatures.
-/
import Derived.Test.YtnhppmdhhmekdaaLc
import Derived.Laws.StructEq
namespace Go.Proofs.Ytnhppmdhhmekdaa.Ld
open Go Go.RowKit Ck Im Ik Ia Ib Ic Lk La Lb Lc

/-- Are two signatures the same? (A word of its own.) -/
def sgB (s t : Sg) : Bool := decide (s = t)
theorem sgB_yes (s : Sg) : sgB s s = true := by simp [sgB]
theorem sgB_no {s t : Sg} (h : s ≠ t) : sgB s t = false := by simp [sgB, h]
theorem guard_sign : Try.prog.eqGuardType Try.prog.depth 50 = false := by kernel_rfl
theorem stood_sign : Try.prog.stoodInHeld 50 = false := by kernel_rfl
theorem fields_sign : Try.prog.underlying 50 = some (.struct (Try.prog.fieldsOf 50)) := by kernel_rfl
theorem run_equalIn_sign (W : World) (d : Nat) (a b c e : Int) : (Op.equalIn (d + 1 + 1) 50 (.agg #[.int .i64 a, .int .i64 b]) (.agg #[.int .i64 c, .int .i64 e])).run Try.prog W = .ok (sgB (a, b) (c, e)) W := by
  rw [run_equalIn_struct W (d + 1) 50 _ _ fields_sign stood_sign]
  have hf : (Try.prog.fieldsOf 50).toList = [{ name := "Key", type := 3, offset := 0, embedded := false, tag := "", pkgPath := "", byteOffset := 0 }, { name := "Digest", type := 23, offset := 1, embedded := false, tag := "", pkgPath := "", byteOffset := 8 }] := by kernel_rfl
  rw [hf]
  have h1 := fun (x y : Int) (W : World) => run_equalIn_int (P := Try.prog) W d 3 .i64 .i64 x y Try.underlying3
  have h2 := fun (x y : Int) (W : World) => run_equalIn_int (P := Try.prog) W d 23 .i64 .i64 x y Try.underlying23
  have p1 : ∀ (u v : Value) (W : World), (part 3 #[u, v] 0).run Try.prog W = .ok u W := fun u v W => by simp [part, isAgg, run_underlying Try.underlying3]
  have p2 : ∀ (u v : Value) (W : World), (part 23 #[u, v] 1).run Try.prog W = .ok v W := fun u v W => by simp [part, isAgg, run_underlying Try.underlying23]
  by_cases hac : a = c
  · by_cases hbe : b = e
    · subst hac; subst hbe
      simp [Op.eqFields, p1, p2, h1, h2, Result.andThen, sgB]
    · subst hac
      simp [Op.eqFields, p1, p2, h1, h2, Result.andThen, sgB, hbe]
  · simp [Op.eqFields, p1, h1, Result.andThen, sgB, hac]
theorem run_eql_sign (W : World) (a b c e : Int) : (binOp .eql 50 (.agg #[.int .i64 a, .int .i64 b]) (.agg #[.int .i64 c, .int .i64 e])).run Try.prog W = .ok (.bool (sgB (a, b) (c, e))) W := by
  rw [run_eql_struct, show (10000 : Nat) = 9998 + 1 + 1 from rfl, run_equalIn_sign]
  rfl
theorem run_neq_sign (W : World) (a b c e : Int) : (binOp .neq 50 (.agg #[.int .i64 a, .int .i64 b]) (.agg #[.int .i64 c, .int .i64 e])).run Try.prog W = .ok (.bool (!sgB (a, b) (c, e))) W := by
  rw [run_neq_struct, show (10000 : Nat) = 9998 + 1 + 1 from rfl, run_equalIn_sign]
  rfl

/-- A signature's two cells in a slice. -/
theorem sig_at {w : World} {X : Nat → Prop} {A : Option Addr} {c : Nat} {L : List Sg} (h : Sl w X 2 (.slice A L.length c) L.length (GVs L)) {i : Nat} (hi : i < L.length) :
    ∃ ad, A = some ad ∧ w.cell? (ad.add (i * 2)) = some (.int .i64 L[i].1) ∧ w.cell? ⟨(ad.add (i * 2)).block, (ad.add (i * 2)).off + 1, none⟩ = some (.int .i64 L[i].2) ∧ L.length ≤ c := by
  obtain ⟨A0, c0, hv, hl, hc, hm, hx⟩ := h
  injection hv with e1 e2 e3
  subst e1; subst e3
  obtain ⟨ad, hA, hb, hX, hcell⟩ := hx (by omega)
  obtain ⟨g1, g2⟩ := GVs_get L i hi
  refine ⟨ad, hA, hcell _ _ g1, ?_, hc⟩
  have := hcell _ _ g2
  rw [← Ck.add_add] at this
  generalize ad.add (i * 2) = ak at this ⊢
  unfold Addr.add at this
  rw [if_neg (by omega)] at this
  exact this

set_option maxHeartbeats 1000000 in
theorem rsigned_any (w : World) (S : Nat → Prop) (p : Nat) (L : List Sg) (s : Sg) (h : Rl w S p L) (hL : L.length ≤ 140737488355328) :
    Calls Try.prog 29 #[.pointer (some ⟨p, 0, none⟩), GV s] w fun e w' => e = .returned (.bool (isS L s)) ∧ Below w.heap.size w w' := by
  obtain ⟨lv, q1, hp, hsl⟩ := h
  have hsl' := hsl
  obtain ⟨A, c, rfl, -⟩ := hsl'
  obtain ⟨x, y⟩ := s
  have hq := run_eql_sign
  have hg := guard_sign
  have q2 := q1.alloc (.cells #[.int .i64 x, .int .i64 y] 50)
  have s2 := hsl.alloc (.cells #[.int .i64 x, .int .i64 y] 50)
  have k2 : Blk (w.alloc (.cells #[.int .i64 x, .int .i64 y] 50)) w.heap.size 50 #[.int .i64 x, .int .i64 y] := Blk.new _ _ _
  have hb : Below w.heap.size w (w.alloc (.cells #[.int .i64 x, .int .i64 y] 50)) := (Below.refl _ _).alloc (Nat.le_refl _) _
  clear q1 hsl hp
  unfold GV
  have HL := Lib.hid hL
  clear hL
  have hL2 : L.length ≤ 9007199254740992 := by have := HL.out; omega
  go_enter Try.func29, Try.ntmps29
  go_wp2
  generalize hW : w.alloc (.cells #[.int .i64 x, .int .i64 y] 50) = W at *
  have HW := Lib.hid hW
  have HB := Lib.hid hb
  clear hW hb
  go_loopw [5] (fun i wr => ∃ k : Nat, k ≤ L.length ∧ i = .int .i64 k ∧ (x, y) ∉ L.take k ∧ ∃ n, wr = W.drewN n) (fun i _ => L.length - (intOf i).toNat)
  case atStart => exact ⟨0, Nat.zero_le _, rfl, by simp, 0, rfl⟩
  case round =>
    obtain ⟨k, hk, rfl, hz, nd, rfl⟩ := hrel
    have HZ := Lib.hid hz
    clear hz
    have c0 : (W.drewN nd).cell? ⟨p, 0, none⟩ = some (.slice A L.length c) := q2.cell 0
    by_cases hlt : k < L.length
    · obtain ⟨ad, rfl, a0, a1, hLc⟩ := sig_at s2 hlt
      have a0' : (W.drewN nd).cell? (ad.add (k * 2)) = some (.int .i64 L[k].1) := a0
      have a1' : (W.drewN nd).cell? ⟨(ad.add (k * 2)).block, (ad.add (k * 2)).off + 1, none⟩ = some (.int .i64 L[k].2) := a1
      have b0 : (W.drewN nd).cell? ⟨w.heap.size, 0, none⟩ = some (.int .i64 x) := k2.cell 0
      have b1 : (W.drewN nd).cell? ⟨w.heap.size, 1, none⟩ = some (.int .i64 y) := k2.cell 1
      have HK2 := Lib.hid k2
      have HQ2 := Lib.hid q2
      have HS2 := Lib.hid s2
      clear a0 a1 k2 q2 s2
      generalize hWd : W.drewN nd = wr at *
      have HWd := Lib.hid hWd
      clear hWd
      by_cases heq : L[k] = (x, y)
      · have hs : sgB (L[k].1, L[k].2) (x, y) = true := by rw [heq]; exact sgB_yes _
        have HE := Lib.hid heq
        clear heq
        go_wp2
        go_quiet (fail)
        go_wp2
        go_ret
        rw [isS_true (HE.out ▸ List.getElem_mem hlt)]
        refine ⟨rfl, ?_⟩
        rw [← HWd.out]
        exact below_drewN (below_drewN HB.out _) _
      · have hs : sgB (L[k].1, L[k].2) (x, y) = false := sgB_no (by exact heq)
        have HE := Lib.hid heq
        clear heq
        go_wp2
        go_quiet (fail)
        go_wp2
        go_roundw
        case rel =>
          refine ⟨k + 1, by omega, by go_num, ?_, ?_⟩
          · rw [List.take_succ_eq_append_getElem hlt]
            intro hm
            rcases List.mem_append.1 hm with hm | hm
            · exact HZ.out hm
            · simp only [List.mem_cons, List.not_mem_nil, or_false] at hm
              exact HE.out hm.symm
          · rw [← HWd.out]
            exact ⟨_, by rw [World.drewN_drewN]⟩
        case measure => simp [intOf]; omega
    · have hke : k = L.length := by omega
      have hz : (x, y) ∉ L := by have := HZ.out; rw [hke, List.take_length] at this; exact this
      have H0 := Lib.hid hz
      clear hz
      go_wp2
      go_ret
      rw [isS_false H0.out]
      exact ⟨rfl, below_drewN HB.out _⟩


set_option maxHeartbeats 1000000 in
theorem sequal_any (w : World) (X Y : Nat → Prop) (A B : Option Addr) (c d : Nat) (ls ks : List Sg) (ha : Sl w X 2 (.slice A ls.length c) ls.length (GVs ls)) (hb : Sl w Y 2 (.slice B ks.length d) ks.length (GVs ks)) (hl : ls.length ≤ 140737488355328) :
    Calls Try.prog 30 #[.slice A ls.length c, .slice B ks.length d] w fun e w' => e = .returned (.bool (decide (ls = ks))) ∧ ∃ n, w' = w.drewN n := by
  have hq := run_neq_sign
  have hg := guard_sign
  by_cases hn : ls.length = ks.length
  · go_enter Try.func30, Try.ntmps30
    go_wp2
    go_loopw [13] (fun i wr => ∃ k : Nat, k ≤ ls.length ∧ i = .int .i64 k ∧ ls.take k = ks.take k ∧ ∃ n, wr = w.drewN n)
      (fun i _ => ls.length - (intOf i).toNat)
    case atStart => exact ⟨0, Nat.zero_le _, rfl, rfl, 0, rfl⟩
    case round =>
      obtain ⟨k, hk, rfl, htk, nd, rfl⟩ := hrel
      have HT := Lib.hid htk
      have HN := Lib.hid hn
      by_cases hlt : k < ls.length
      · have hlt2 : k < ks.length := by omega
        clear htk hn
        obtain ⟨ad, rfl, a0, a1, hLc⟩ := sig_at ha hlt
        obtain ⟨ad2, rfl, b0, b1, hKc⟩ := sig_at hb hlt2
        have a0' : (w.drewN nd).cell? (ad.add (k * 2)) = some (.int .i64 ls[k].1) := a0
        have a1' : (w.drewN nd).cell? ⟨(ad.add (k * 2)).block, (ad.add (k * 2)).off + 1, none⟩ = some (.int .i64 ls[k].2) := a1
        have b0' : (w.drewN nd).cell? (ad2.add (k * 2)) = some (.int .i64 ks[k].1) := b0
        have b1' : (w.drewN nd).cell? ⟨(ad2.add (k * 2)).block, (ad2.add (k * 2)).off + 1, none⟩ = some (.int .i64 ks[k].2) := b1
        clear a0 a1 b0 b1
        generalize hW : w.drewN nd = wr at *
        have HW := Lib.hid hW
        clear hW
        by_cases heq : ls[k] = ks[k]
        · have q1 : sgB (ls[k].1, ls[k].2) (ks[k].1, ks[k].2) = true := by rw [heq]; exact sgB_yes _
          have HE := Lib.hid heq
          clear heq
          go_wp2
          go_quiet (fail)
          go_wp2
          go_roundw
          case rel =>
            refine ⟨k + 1, by omega, by go_num, ?_, ?_⟩
            · rw [List.take_succ_eq_append_getElem hlt, List.take_succ_eq_append_getElem hlt2, HT.out, HE.out]
            · rw [← HW.out]
              exact ⟨_, by rw [World.drewN_drewN]⟩
          case measure => simp [intOf]; omega
        · have q1 : sgB (ls[k].1, ls[k].2) (ks[k].1, ks[k].2) = false := sgB_no (by exact heq)
          have HE := Lib.hid heq
          clear heq
          go_wp2
          go_quiet (fail)
          go_wp2
          go_ret
          have hne : decide (ls = ks) = false := by
            rw [decide_eq_false_iff_not]; rintro rfl; exact HE.out rfl
          rw [hne]
          refine ⟨rfl, ?_⟩
          rw [← HW.out]
          exact ⟨_, by rw [World.drewN_drewN]⟩
      · have hke : k = ls.length := by omega
        have hd : decide (ls = ks) = true := by
          have h1 := htk
          rw [hke, List.take_length, hn, List.take_length] at h1
          rw [h1]; simp
        have HD := Lib.hid hd
        clear htk hd
        go_wp2
        go_ret
        exact ⟨by rw [HD.out]; rfl, _, rfl⟩
  · have hne : decide (ls = ks) = false := by
      rw [decide_eq_false_iff_not]; rintro rfl; exact hn rfl
    rw [hne]
    have hni : ((ls.length : Int) == (ks.length : Int)) = false := by rw [beq_eq_false_iff_ne]; omega
    clear hne
    go_enter Try.func30, Try.ntmps30
    go_wp2
    go_ret
    exact ⟨rfl, 0, rfl⟩

end Go.Proofs.Ytnhppmdhhmekdaa.Ld

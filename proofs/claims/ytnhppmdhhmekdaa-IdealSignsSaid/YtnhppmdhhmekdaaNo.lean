/-
  The walk of the statement IdealNobody: what was not signed is not signed, whoever asks.
-/
import Derived.Test.YtnhppmdhhmekdaaBa
import Derived.Test.YtnhppmdhhmekdaaLd
namespace Go.Proofs.Ytnhppmdhhmekdaa.No
open Go Go.RowKit Ck Im Ik Lk Lb Lc Ld Ba

/-- A slice of signatures that came in. -/
def Qs (w : World) (v : Value) (qs : List Sg) : Prop := Sl w (fun k => w.heap.size ≤ k) 2 v qs.length (GVs qs) ∧ ∀ s ∈ qs, wfS s

/-- Was it signed by one of those? -/
def didB (l : List Sg) (s : Sg) : Bool := decide (∃ x ∈ l, code x = 0 ∧ x = s)
theorem did_isS (l : List Sg) (s : Sg) : isS (pays l) s = didB l s := by
  have h : ∀ (l : List Sg) (L : List Sg), s ∈ l.foldl pay L ↔ s ∈ L ∨ ∃ x ∈ l, code x = 0 ∧ x = s := by
    intro l
    induction l with
    | nil => intro L; simp
    | cons y l ih =>
      intro L
      rw [List.foldl_cons, ih]
      have hp : s ∈ pay L y ↔ s ∈ L ∨ (code y = 0 ∧ y = s) := by
        unfold pay
        by_cases hc : code y = 0
        · rw [if_pos hc]
          by_cases hm : y ∈ L
          · rw [if_pos hm]
            constructor
            · exact .inl
            · rintro (h | ⟨_, rfl⟩)
              · exact h
              · exact hm
          · rw [if_neg hm]
            simp only [List.mem_append, List.mem_cons, List.not_mem_nil, or_false]
            constructor
            · rintro (h | rfl)
              · exact .inl h
              · exact .inr ⟨hc, rfl⟩
            · rintro (h | ⟨_, rfl⟩)
              · exact .inl h
              · exact .inr rfl
        · rw [if_neg hc]
          constructor
          · exact .inl
          · rintro (h | ⟨h, _⟩)
            · exact h
            · exact absurd h hc
      rw [hp]
      constructor
      · rintro ((h | h) | ⟨x, hx, h⟩)
        · exact .inl h
        · exact .inr ⟨y, by simp, h⟩
        · exact .inr ⟨x, by simp [hx], h⟩
      · rintro (h | ⟨x, hx, h⟩)
        · exact .inl (.inl h)
        · rcases List.mem_cons.1 hx with rfl | hx
          · exact .inl (.inr h)
          · exact .inr ⟨x, hx, h⟩
  have h2 := h l []
  unfold isS didB pays
  rw [Bool.eq_iff_iff, decide_eq_true_iff, decide_eq_true_iff, h2]
  simp
theorem did_take {l : List Sg} {k : Nat} (h : k < l.length) (s : Sg) : didB (l.take (k + 1)) s = (didB (l.take k) s || (decide (code l[k] = 0) && sgB l[k] s)) := by
  rw [List.take_succ_eq_append_getElem h, Bool.eq_iff_iff]
  simp only [didB, sgB, Bool.or_eq_true, Bool.and_eq_true, decide_eq_true_iff, List.mem_append, List.mem_cons, List.not_mem_nil, or_false]
  constructor
  · rintro ⟨x, hx | rfl, hc⟩
    · exact .inl ⟨x, hx, hc⟩
    · exact .inr hc
  · rintro (⟨x, hx, hc⟩ | hc)
    · exact ⟨x, .inl hx, hc⟩
    · exact ⟨_, .inr rfl, hc⟩

set_option maxRecDepth 100000 in
set_option maxHeartbeats 2000000 in
theorem nobody_any (w : World) (A : Option Addr) (c : Nat) (qs : List Sg) (s : Sg) (hs : wfS s) (hq : Qs w (.slice A qs.length c) qs) (hl : (qs.length + 1) * 16 ≤ 140737488355328) :
    Calls Try.prog 6 #[.slice A qs.length c, GV s] w fun e w' => e = .returned (.bool true) ∧ Below w.heap.size w w' := by
  obtain ⟨x, y⟩ := s
  unfold GV
  have hq2 := run_eql_sign
  have hgs := guard_sign
  have HL := Lib.hid hl
  have hl2 : qs.length ≤ 9007199254740992 := by omega
  clear hl
  have hxs := hq.1
  have HQ := Lib.hid hq.2
  have hb0 : Below w.heap.size w (w.alloc (.cells #[.int .i64 x, .int .i64 y] 50)) := (Below.refl _ _).alloc (Nat.le_refl _) _
  have hk0 : Blk (w.alloc (.cells #[.int .i64 x, .int .i64 y] 50)) w.heap.size 50 #[.int .i64 x, .int .i64 y] := Blk.new _ _ _
  have HB0 := Lib.hid hb0
  have HK0 := Lib.hid hk0
  have HX := Lib.hid hxs
  have HW := Lib.hid hs
  clear hq hxs hb0 hk0 hs
  go_enter Try.func6, Try.ntmps6
  go_wp2_with fail
  refine (La.newledger_any _).mono ?_
  rintro e w1 ⟨q, rfl, hL1, hB1⟩
  have HL1 : Hid (Lg w1 (fun k => w.heap.size < k) q []) := Lib.hid (hL1.weaken (fun k hk => by have := hk.1; simp at this; omega))
  have HK1 : Hid (Blk w1 w.heap.size 50 #[.int .i64 x, .int .i64 y]) := Lib.hid (HK0.out.below hB1 HK0.out.lt)
  have HB1 : Hid (Below w.heap.size w w1) := Lib.hid (below_tr HB0.out hB1)
  clear hL1 hB1
  go_wp2_with fail
  refine (begun_any _).mono ?_
  rintro e w2 ⟨rfl, hB2⟩
  have hL2 : Lg w2 (fun k => w.heap.size < k) q [] := HL1.out.ch (Ch.of_below (S := fun _ => False) hB2 (Nat.le_refl _)) (fun _ _ h => h)
  have hK2 : Blk w2 w.heap.size 50 #[.int .i64 x, .int .i64 y] := HK1.out.below hB2 HK1.out.lt
  have hB2' : Below w.heap.size w w2 := below_tr HB1.out hB2
  clear hB2
  go_wp2_with fail
  go_loopw [6, 20] (fun dn i wr => ∃ k : Nat, k ≤ qs.length ∧ i = .int .i64 k ∧ dn = .bool (didB (qs.take k) (x, y)) ∧ Lg wr (fun k => w.heap.size < k) q (pays (qs.take k)) ∧ Blk wr w.heap.size 50 #[.int .i64 x, .int .i64 y] ∧ Below w.heap.size w wr)
    (fun _ i _ => qs.length - (intOf i).toNat)
  case atStart => exact ⟨0, Nat.zero_le _, rfl, rfl, hL2, hK2, hB2'⟩
  case round =>
    obtain ⟨k, hk, rfl, rfl, hL, hK, hB⟩ := hrel
    clear hL2 hK2 hB2'
    have HLr := Lib.hid hL
    have HKr := Lib.hid hK
    have HBr := Lib.hid hB
    have k0 := hK.cell 0
    have k1 := hK.cell 1
    simp only [List.getElem?_toArray, List.getElem?_cons_zero, List.getElem?_cons_succ] at k0 k1
    by_cases hlt : k < qs.length
    · have hx2 := (HX.out.after hB)
      obtain ⟨ad, rfl, a0, a1, hLc⟩ := sig_at hx2 hlt
      have hdt := did_take hlt (x, y)
      have hpt := pays_take hlt
      have hpl := pays_len qs k
      have HDT := Lib.hid hdt
      have HPT := Lib.hid hpt
      have HPL := Lib.hid hpl
      clear hL hK hB hx2 hdt hpt hpl
      have HS : Hid (∀ o, Calls Try.prog 26 #[.pointer (some ⟨q, 0, none⟩), .int .i64 qs[k].1, .int .i64 qs[k].2] (wr.alloc o) fun e w' => e = .returned (.tuple #[GV (ans qs[k]), .int .i64 (code qs[k])]) ∧ Lg w' (fun k => w.heap.size < k) q (pays (qs.take (k + 1))) ∧ Blk w' w.heap.size 50 #[.int .i64 x, .int .i64 y] ∧ Below w.heap.size w w') :=
        Lib.hid fun o => by
          have ba : Below wr.heap.size wr (wr.alloc o) := (Below.refl _ _).alloc (Nat.le_refl _) _
          refine (sign_any (wr.alloc o) (fun k => w.heap.size < k) q _ qs[k] (HQ.out _ (List.getElem_mem hlt)) (HLr.out.ch (Ch.of_below (S := fun _ => False) ba (Nat.le_refl _)) (fun _ _ h => h)) (by have := HL.out; have := HPL.out; omega)).mono ?_
          rintro e w' ⟨he, hL', hC'⟩
          have hlt2 := HKr.out.lt
          have hbs := ba.size
          refine ⟨he, ?_, (HKr.out.below ba HKr.out.lt).ch hC' (by omega), (HBr.out.trans (ba.mono HBr.out.size)).trans (hC'.below (fun k hk h => by omega) (by have := HBr.out.size; omega))⟩
          rw [HPT.out]
          exact hL'.weaken (fun k hk => by rcases hk with hk | hk; exact hk; omega)
      by_cases hd : didB (qs.take k) (x, y) = true
      · rw [hd]
        have HD := Lib.hid hd
        clear hd
        go_wp2_with fail
        refine (HS.out _).mono ?_
        rintro e w5 ⟨rfl, hL5, hK5, hB5⟩
        unfold GV
        go_wp2_with fail
        go_roundw
        case rel =>
          refine ⟨k + 1, by omega, by go_num, ?_, hL5.ch (Ch.of_below (S := fun _ => False) ((Below.refl _ _).alloc (Nat.le_refl _) _) (Nat.le_refl _)) (fun _ _ h => h), hK5.alloc _, hB5.alloc hB5.size _⟩
          rw [HDT.out, HD.out]
          rfl
        case measure => simp [intOf]; omega
      · have hd : didB (qs.take k) (x, y) = false := by simpa using hd
        rw [hd]
        have HD := Lib.hid hd
        clear hd
        by_cases hc : code qs[k] = 0
        · have ha : ans qs[k] = qs[k] := by rw [ans, if_pos hc]
          have HA := Lib.hid ha
          have HC := Lib.hid hc
          clear hc ha
          go_wp2_with fail
          refine (HS.out _).mono ?_
          rintro e w5 ⟨rfl, hL5, hK5, hB5⟩
          rw [HA.out, HC.out]
          unfold GV
          have k50 := (hK5.alloc (.cells #[.int .i64 qs[k].1, .int .i64 qs[k].2] 50)).cell 0
          have k51 := (hK5.alloc (.cells #[.int .i64 qs[k].1, .int .i64 qs[k].2] 50)).cell 1
          simp only [List.getElem?_toArray, List.getElem?_cons_zero, List.getElem?_cons_succ] at k50 k51
          have HL5 := Lib.hid hL5
          have HK5 := Lib.hid hK5
          have HB5 := Lib.hid hB5
          clear hL5 hK5 hB5
          go_wp2_with fail
          go_roundw
          case rel =>
            refine ⟨k + 1, by omega, by go_num, ?_, HL5.out.ch (Ch.of_below (S := fun _ => False) ((Below.refl _ _).alloc (Nat.le_refl _) _) (Nat.le_refl _)) (fun _ _ h => h), HK5.out.alloc _, HB5.out.alloc HB5.out.size _⟩
            rw [HDT.out, HD.out, decide_eq_true HC.out]
            rfl
          case measure => simp [intOf]; omega
        · have hcb : (code qs[k] == 0) = false := by rw [beq_eq_false_iff_ne]; exact hc
          have HC := Lib.hid hc
          clear hc
          go_wp2_with fail
          refine (HS.out _).mono ?_
          rintro e w5 ⟨rfl, hL5, hK5, hB5⟩
          unfold GV
          go_wp2_with fail
          go_roundw
          case rel =>
            refine ⟨k + 1, by omega, by go_num, ?_, hL5.ch (Ch.of_below (S := fun _ => False) ((Below.refl _ _).alloc (Nat.le_refl _) _) (Nat.le_refl _)) (fun _ _ h => h), hK5.alloc _, hB5.alloc hB5.size _⟩
            rw [HDT.out, HD.out, decide_eq_false HC.out]
            rfl
          case measure => simp [intOf]; omega
    · have hke : k = qs.length := by omega
      have hL3 : Lg wr (fun k => w.heap.size < k) q (pays qs) := by rw [hke, List.take_length] at hL; exact hL
      have hdd : didB (qs.take k) (x, y) = didB qs (x, y) := by rw [hke, List.take_length]
      rw [hdd]
      have HL3 := Lib.hid hL3
      clear hL hK hB hL3 hdd
      go_wp2_with fail
      refine (signed_yes _ _ q (pays qs) (x, y) HW.out HL3.out).mono ?_
      rintro e w5 ⟨rfl, hB5⟩
      rw [did_isS]
      go_wp2_with fail
      go_ret
      exact ⟨rfl, below_tr HBr.out hB5 |>.mono (Nat.le_refl _)⟩

end Go.Proofs.Ytnhppmdhhmekdaa.No

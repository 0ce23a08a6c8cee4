/-
  Layer 6 (op): the contracts of Same, the document's and the program's.
-/
import Derived.Test.YtebjjkhiniccgaaGreatPk
import Derived.Test.YtebjjkhiniccgaaGreatPp
import Derived.Deep.QuietTactic
import Derived.BigQuiet
namespace Go.Proofs.YtebjjkhiniccgaaGreat.Qs
set_option linter.unusedSimpArgs false
open Go Go.RowKit Ck Kw Ca Cb Pm Pa Pe Pf Pg Ph Ppi Pk Pp
set_option linter.unusedVariables false

/-- Are two lists the same? (A word of its own.) -/
def sameL (a b : List Tx) : Bool := decide (a = b)
def sameO (a b : O) : Bool := decide (a = b)
/-- Two operations stand there. -/
structure SB (w0 : World) (g1 g2 : Nat) (a b : O) (A B : Option Addr) (c d : Nat) (X Y : Nat → Prop) (W : World) : Prop where
  below : Below w0.heap.size w0 W
  one : OB W g1 a A c
  two : OB W g2 b B d
  la : Ls W X (.slice A a.recs.length c) a.recs
  lb : Ls W Y (.slice B b.recs.length d) b.recs
theorem sb_start {w : World} {a b : O} {A B : Option Addr} {c d : Nat} {X Y : Nat → Prop} (ha : Ls w X (.slice A a.recs.length c) a.recs) (hb : Ls w Y (.slice B b.recs.length d) b.recs) :
    SB w w.heap.size (w.heap.size + 1) a b A B c d X Y ((w.alloc (.cells (OC a A c) 25)).alloc (.cells (OC b B d) 25)) := by
  have b1 : Below w.heap.size w (w.alloc (.cells (OC a A c) 25)) := (Below.refl _ w).alloc (Nat.le_refl _) _
  have b2 : Below w.heap.size w ((w.alloc (.cells (OC a A c) 25)).alloc (.cells (OC b B d) 25)) := b1.alloc b1.size _
  exact ⟨b2, Blk.alloc (Blk.new w _ _) _, Blk.new_at (by simp) rfl, ha.after b2, hb.after b2⟩
theorem SB.drewN {w0 W : World} {g1 g2 : Nat} {a b : O} {A B : Option Addr} {c d : Nat} {X Y : Nat → Prop} (h : SB w0 g1 g2 a b A B c d X Y W) (n : Nat) : SB w0 g1 g2 a b A B c d X Y (W.drewN n) :=
  ⟨below_drewN h.below n, h.one, h.two, h.la, h.lb⟩

set_option maxRecDepth 100000 in
set_option maxHeartbeats 4000000 in
theorem rsame_any (a b : O) (va vb : Value) (X Y : Nat → Prop) (w : World) (ha : OI w X va a) (hb : OI w Y vb b) (hl : a.recs.length ≤ 140737488355328) :
    Calls Tryz.prog 34 #[va, vb] w fun e w' => e = .returned (.bool (sameO a b)) ∧ Below w.heap.size w w' := by
  obtain ⟨A, c, rfl, hla⟩ := ha
  obtain ⟨B, d, rfl, hlb⟩ := hb
  have HS := Lib.hid (sb_start hla hlb)
  clear hla hlb
  unfold OV
  by_cases h_kind : a.kind = b.kind
  · skip
    have e_kind : (a.kind == b.kind) = true := by rw [h_kind]; exact beq_self_eq_true _
    have n_kind : (a.kind != b.kind) = false := by rw [bne, e_kind]; rfl
    have H_kind := Lib.hid h_kind
    clear h_kind
    by_cases h_topic : a.topic = b.topic
    · skip
      have e_topic : (a.topic == b.topic) = true := by rw [h_topic]; exact beq_self_eq_true _
      have n_topic : (a.topic != b.topic) = false := by rw [bne, e_topic]; rfl
      have H_topic := Lib.hid h_topic
      clear h_topic
      by_cases h_group : a.group = b.group
      · skip
        have e_group : (a.group == b.group) = true := by rw [h_group]; exact beq_self_eq_true _
        have n_group : (a.group != b.group) = false := by rw [bne, e_group]; rfl
        have H_group := Lib.hid h_group
        clear h_group
        by_cases h_off : a.off = b.off
        · skip
          have e_off : (a.off == b.off) = true := by rw [h_off]; exact beq_self_eq_true _
          have n_off : (a.off != b.off) = false := by rw [bne, e_off]; rfl
          have H_off := Lib.hid h_off
          clear h_off
          by_cases h_len : a.recs.length = b.recs.length
          · skip
            have n_len : ((a.recs.length : Int) != (b.recs.length : Int)) = false := by simp [h_len]
            have H_len := Lib.hid h_len
            clear h_len
            go_enter Tryz.func34, Tryz.ntmps34
            go_wp2_with fail
            go_loopw [5] (fun i wr => ∃ k : Nat, k ≤ a.recs.length ∧ i = .int .i64 k ∧ a.recs.take k = b.recs.take k ∧ SB w w.heap.size (w.heap.size + 1) a b A B c d X Y wr) (fun i _ => a.recs.length - (intOf i).toNat)
            case atStart => exact ⟨0, Nat.zero_le _, rfl, rfl, HS.out⟩
            case round =>
              obtain ⟨k, hk, rfl, htk, hsb⟩ := hrel
              have HT := Lib.hid htk
              have HSB := Lib.hid hsb
              clear htk hsb
              obtain ⟨a0, a1, a2, a3, a4⟩ := HSB.out.one.cells
              obtain ⟨b0, b1, b2, b3, b4⟩ := HSB.out.two.cells
              by_cases hlt : k < a.recs.length
              · have hlt2 : k < b.recs.length := by have := H_len.out; omega
                obtain ⟨ad, A1, c1, rfl, hc1, hx1⟩ := HSB.out.la.at_ hlt
                obtain ⟨ad2, B1, d1, rfl, hc2, hx2⟩ := HSB.out.lb.at_ hlt2
                have e1 := fun nq : Nat => run_convert_sl (P := Tryz.prog) (wr.drewN nq) X 112 9 5 A1 c1 a.recs[k] Tryz.underlying112 Tryz.underlying5 Tryz.underlying9 (hx1.drewN nq)
                have e2 := fun nq : Nat => run_convert_sl (P := Tryz.prog) (wr.drewN nq) Y 112 9 5 B1 d1 b.recs[k] Tryz.underlying112 Tryz.underlying5 Tryz.underlying9 (hx2.drewN nq)
                clear hx1 hx2
                by_cases heq : a.recs[k] = b.recs[k]
                · have q1 : (a.recs[k] == b.recs[k]) = true := by rw [heq]; exact beq_self_eq_true _
                  have q2 : (a.recs[k] != b.recs[k]) = false := by rw [bne, q1]; rfl
                  have HN := Lib.hid (show a.recs.take (k + 1) = b.recs.take (k + 1) by rw [List.take_succ_eq_append_getElem hlt, List.take_succ_eq_append_getElem hlt2, HT.out, heq])
                  clear heq
                  go_wp2
                  go_quiet (fail)
                  go_wp2
                  go_roundw
                  case rel => exact ⟨k + 1, by omega, by go_num, HN.out, HSB.out.drewN _⟩
                  case measure => simp [intOf]; omega
                · have q1 : (a.recs[k] == b.recs[k]) = false := by rw [beq_eq_false_iff_ne]; exact heq
                  have q2 : (a.recs[k] != b.recs[k]) = true := by rw [bne, q1]; rfl
                  have HN : Hid (sameO a b = false) := Lib.hid (by
                    simp only [sameO, decide_eq_false_iff_not]
                    intro e
                    subst e
                    exact heq rfl)
                  clear heq
                  go_wp2
                  go_quiet (fail)
                  go_wp2
                  go_ret
                  exact ⟨by rw [HN.out]; rfl, (HSB.out.drewN _).below⟩
              · have hke : k = a.recs.length := by omega
                have HN : Hid (sameO a b = true) := Lib.hid (by
                  have h := HT.out
                  have h2 := H_len.out
                  rw [hke, List.take_length, h2, List.take_length] at h
                  simp only [sameO, decide_eq_true_eq]
                  exact O_ext H_kind.out H_topic.out H_group.out H_off.out h)
                go_wp2
                go_ret
                exact ⟨by rw [HN.out]; rfl, HSB.out.below⟩
          · skip
            have n_len : ((a.recs.length : Int) != (b.recs.length : Int)) = true := by simp only [bne_iff_ne, ne_eq]; omega
            have HN : Hid (sameO a b = false) := Lib.hid (decide_eq_false (fun h => h_len (by rw [h])))
            clear h_len
            go_enter Tryz.func34, Tryz.ntmps34
            go_wp2_with fail
            go_ret
            exact ⟨by rw [HN.out]; rfl, HS.out.below⟩
        · skip
          have e_off : (a.off == b.off) = false := beq_eq_false_iff_ne.2 h_off
          have n_off : (a.off != b.off) = true := by rw [bne, e_off]; rfl
          have HN : Hid (sameO a b = false) := Lib.hid (decide_eq_false (fun h => h_off (by rw [h])))
          clear h_off
          go_enter Tryz.func34, Tryz.ntmps34
          go_wp2_with fail
          go_ret
          exact ⟨by rw [HN.out]; rfl, HS.out.below⟩
      · skip
        have e_group : (a.group == b.group) = false := beq_eq_false_iff_ne.2 h_group
        have n_group : (a.group != b.group) = true := by rw [bne, e_group]; rfl
        have HN : Hid (sameO a b = false) := Lib.hid (decide_eq_false (fun h => h_group (by rw [h])))
        clear h_group
        go_enter Tryz.func34, Tryz.ntmps34
        go_wp2_with fail
        go_ret
        exact ⟨by rw [HN.out]; rfl, HS.out.below⟩
    · skip
      have e_topic : (a.topic == b.topic) = false := beq_eq_false_iff_ne.2 h_topic
      have n_topic : (a.topic != b.topic) = true := by rw [bne, e_topic]; rfl
      have HN : Hid (sameO a b = false) := Lib.hid (decide_eq_false (fun h => h_topic (by rw [h])))
      clear h_topic
      go_enter Tryz.func34, Tryz.ntmps34
      go_wp2_with fail
      go_ret
      exact ⟨by rw [HN.out]; rfl, HS.out.below⟩
  · skip
    have e_kind : (a.kind == b.kind) = false := beq_eq_false_iff_ne.2 h_kind
    have n_kind : (a.kind != b.kind) = true := by rw [bne, e_kind]; rfl
    have HN : Hid (sameO a b = false) := Lib.hid (decide_eq_false (fun h => h_kind (by rw [h])))
    clear h_kind
    go_enter Tryz.func34, Tryz.ntmps34
    go_wp2_with fail
    go_ret
    exact ⟨by rw [HN.out]; rfl, HS.out.below⟩

end Go.Proofs.YtebjjkhiniccgaaGreat.Qs

/-
  Layer 6 (op): the contracts of Same, the document's and the program's.
-/
import Derived.Test.YtjdmadfjfjenjaaPk
import Derived.Test.YtjdmadfjfjenjaaPp
import Derived.Deep.QuietTactic
import Derived.BigQuiet
namespace Go.Proofs.Ytjdmadfjfjenjaa.Qs
set_option linter.unusedSimpArgs false
open Go Go.RowKit Ck Kw Ca Cb Pm Pa Pe Pf Pg Ph Ppi Pk Pp
set_option linter.unusedVariables false

/-- Are two lists the same? (A word of its own.) -/
def sameL (a b : List Tx) : Bool := decide (a = b)
def sameO (a b : O) : Bool := decide (a = b)
theorem samerec_any (w : World) (X Y : Nat → Prop) (va vb : Value) (n m : Nat) (l k : List UInt8) (ha : Sl w X 1 va n (BVs l)) (hb : Sl w Y 1 vb m (BVs k)) :
    Calls Try.prog 100 #[va, vb] w fun e w' => e = .returned (.bool (l == k)) ∧ w = w' := by
  have HC := Lib.hid (equal_any w X Y va vb n m l k ha hb)
  obtain ⟨A, c, rfl, -⟩ := ha
  obtain ⟨B, d, rfl, -⟩ := hb
  go_enter Try.func100, Try.ntmps100
  go_wp2_with (go_at_call 22; refine HC.out.mono ?_; rintro e w1 ⟨rfl, rfl⟩)
  go_ret
  exact ⟨rfl, rfl⟩

set_option maxHeartbeats 1000000 in
theorem equalfunc_any (w : World) (X Y : Nat → Prop) (A B : Option Addr) (c d n m : Nat) (ls ks : List Tx) (hn : n = ls.length) (hm : m = ks.length) (ha : Ls w X (.slice A n c) ls) (hb : Ls w Y (.slice B m d) ks) (hl : ls.length ≤ 140737488355328) :
    Calls Try.prog 99 #[.slice A n c, .slice B m d, .func (.func 100) #[] #[]] w fun e w' => e = .returned (.bool (sameL ls ks)) ∧ w = w' := by
  subst hn; subst hm
  by_cases hlen : ls.length = ks.length
  · have h1 : ((ls.length : Int) != (ks.length : Int)) = false := by simp [hlen]
    have HLEN := Lib.hid hlen
    have hle : ls.length ≤ ks.length := by omega
    clear hlen
    go_enter Try.func99, Try.ntmps99
    go_wp2_with fail
    go_loopw [17] (fun i wr => ∃ k : Nat, k ≤ ls.length ∧ i = .int .i64 k ∧ ls.take k = ks.take k ∧ wr = w) (fun i _ => ls.length - (intOf i).toNat)
    case atStart => exact ⟨0, Nat.zero_le _, rfl, rfl, rfl⟩
    case round =>
      obtain ⟨k, hk, rfl, hz, rfl⟩ := hrel
      have HZ := Lib.hid hz
      clear hz
      by_cases hlt : k < ls.length
      · have hlt2 : k < ks.length := by omega
        obtain ⟨ad, B1, d1, rfl, hc1, hx1⟩ := ha.at_ hlt
        obtain ⟨ad2, B2, d2, rfl, hc2, hx2⟩ := hb.at_ hlt2
        by_cases heq : ls[k] = ks[k]
        · have hbq : (ls[k] == ks[k]) = true := by rw [heq]; exact beq_self_eq_true _
          have HE : Hid (Calls Try.prog 100 #[.slice B1 ls[k].length d1, .slice B2 ks[k].length d2] wr fun e w' => e = .returned (.bool true) ∧ wr = w') := Lib.hid ((samerec_any wr X Y _ _ _ _ _ _ hx1 hx2).mono fun _ _ h => ⟨by rw [h.1, hbq], h.2⟩)
          have HN := Lib.hid (show ls.take (k + 1) = ks.take (k + 1) by rw [List.take_succ_eq_append_getElem hlt, List.take_succ_eq_append_getElem hlt2, HZ.out, heq])
          clear hx1 hx2 heq hbq
          go_wp2_with fail
          refine HE.out.mono ?_
          rintro e w' ⟨rfl, rfl⟩
          go_wp2_with fail
          go_roundw
          case rel => exact ⟨k + 1, by omega, by go_num, HN.out, trivial⟩
          case measure => simp [intOf]; omega
        · have hbq : (ls[k] == ks[k]) = false := by rw [beq_eq_false_iff_ne]; exact heq
          have HE : Hid (Calls Try.prog 100 #[.slice B1 ls[k].length d1, .slice B2 ks[k].length d2] wr fun e w' => e = .returned (.bool false) ∧ wr = w') := Lib.hid ((samerec_any wr X Y _ _ _ _ _ _ hx1 hx2).mono fun _ _ h => ⟨by rw [h.1, hbq], h.2⟩)
          have HN := Lib.hid (show sameL ls ks = false by
            simp only [sameL, decide_eq_false_iff_not]
            intro e
            subst e
            exact heq rfl)
          clear hx1 hx2 heq hbq
          go_wp2_with fail
          refine HE.out.mono ?_
          rintro e w' ⟨rfl, rfl⟩
          go_wp2_with fail
          go_ret
          exact ⟨by rw [HN.out]; rfl, rfl⟩
      · have hke : k = ls.length := by omega
        have HN := Lib.hid (show sameL ls ks = true by
          have h := HZ.out
          rw [hke, List.take_length, HLEN.out, List.take_length] at h
          simp [sameL, h])
        go_wp2_with fail
        go_ret
        exact ⟨by rw [HN.out]; rfl, rfl⟩
  · have h1 : ((ls.length : Int) != (ks.length : Int)) = true := by simp only [bne_iff_ne, ne_eq]; omega
    have HN := Lib.hid (show sameL ls ks = false by
      simp only [sameL, decide_eq_false_iff_not]
      intro e
      subst e
      exact hlen rfl)
    clear hlen
    go_enter Try.func99, Try.ntmps99
    go_wp2_with fail
    go_ret
    exact ⟨by rw [HN.out]; rfl, rfl⟩


/-- Two operations stand there. -/
structure SB (w0 : World) (g1 g2 : Nat) (a b : O) (A B : Option Addr) (c d : Nat) (X Y : Nat → Prop) (W : World) : Prop where
  below : Below w0.heap.size w0 W
  one : OB W g1 a A c
  two : OB W g2 b B d
  la : Ls W X (.slice A a.recs.length c) a.recs
  lb : Ls W Y (.slice B b.recs.length d) b.recs
theorem sb_start {w : World} {a b : O} {A B : Option Addr} {c d : Nat} {X Y : Nat → Prop} (ha : Ls w X (.slice A a.recs.length c) a.recs) (hb : Ls w Y (.slice B b.recs.length d) b.recs) :
    SB w w.heap.size (w.heap.size + 1) a b A B c d X Y ((w.alloc (.cells (OC a A c) 24)).alloc (.cells (OC b B d) 24)) := by
  have b1 : Below w.heap.size w (w.alloc (.cells (OC a A c) 24)) := (Below.refl _ w).alloc (Nat.le_refl _) _
  have b2 : Below w.heap.size w ((w.alloc (.cells (OC a A c) 24)).alloc (.cells (OC b B d) 24)) := b1.alloc b1.size _
  exact ⟨b2, Blk.alloc (Blk.new w _ _) _, Blk.new_at (by simp) rfl, ha.after b2, hb.after b2⟩
theorem SB.drewN {w0 W : World} {g1 g2 : Nat} {a b : O} {A B : Option Addr} {c d : Nat} {X Y : Nat → Prop} (h : SB w0 g1 g2 a b A B c d X Y W) (n : Nat) : SB w0 g1 g2 a b A B c d X Y (W.drewN n) :=
  ⟨below_drewN h.below n, h.one, h.two, h.la, h.lb⟩

set_option maxRecDepth 100000 in
set_option maxHeartbeats 4000000 in
theorem rsame_any (a b : O) (va vb : Value) (X Y : Nat → Prop) (w : World) (ha : OI w X va a) (hb : OI w Y vb b) (hl : a.recs.length ≤ 140737488355328) :
    Calls Try.prog 59 #[va, vb] w fun e w' => e = .returned (.bool (sameO a b)) ∧ Below w.heap.size w w' := by
  obtain ⟨A, c, rfl, hla⟩ := ha
  obtain ⟨B, d, rfl, hlb⟩ := hb
  have HS := Lib.hid (sb_start hla hlb)
  clear hla hlb
  unfold OV
  by_cases h_kind : a.kind = b.kind
  · skip
    have e_kind : (a.kind == b.kind) = true := by rw [h_kind]; exact beq_self_eq_true _
    have n_kind : (a.kind != b.kind) = false := by rw [bne, e_kind]; rfl
    have H_kind := Lib.hid h_kind
    clear h_kind
    by_cases h_topic : a.topic = b.topic
    · skip
      have e_topic : (a.topic == b.topic) = true := by rw [h_topic]; exact beq_self_eq_true _
      have n_topic : (a.topic != b.topic) = false := by rw [bne, e_topic]; rfl
      have H_topic := Lib.hid h_topic
      clear h_topic
      by_cases h_group : a.group = b.group
      · skip
        have e_group : (a.group == b.group) = true := by rw [h_group]; exact beq_self_eq_true _
        have n_group : (a.group != b.group) = false := by rw [bne, e_group]; rfl
        have H_group := Lib.hid h_group
        clear h_group
        by_cases h_off : a.off = b.off
        · skip
          have e_off : (a.off == b.off) = true := by rw [h_off]; exact beq_self_eq_true _
          have n_off : (a.off != b.off) = false := by rw [bne, e_off]; rfl
          have H_off := Lib.hid h_off
          clear h_off
          by_cases h_len : a.recs.length = b.recs.length
          · skip
            have n_len : ((a.recs.length : Int) != (b.recs.length : Int)) = false := by simp [h_len]
            have H_len := Lib.hid h_len
            clear h_len
            go_enter Try.func59, Try.ntmps59
            go_wp2_with fail
            go_loopw [5] (fun i wr => ∃ k : Nat, k ≤ a.recs.length ∧ i = .int .i64 k ∧ a.recs.take k = b.recs.take k ∧ SB w w.heap.size (w.heap.size + 1) a b A B c d X Y wr) (fun i _ => a.recs.length - (intOf i).toNat)
            case atStart => exact ⟨0, Nat.zero_le _, rfl, rfl, HS.out⟩
            case round =>
              obtain ⟨k, hk, rfl, htk, hsb⟩ := hrel
              have HT := Lib.hid htk
              have HSB := Lib.hid hsb
              clear htk hsb
              obtain ⟨a0, a1, a2, a3, a4⟩ := HSB.out.one.cells
              obtain ⟨b0, b1, b2, b3, b4⟩ := HSB.out.two.cells
              by_cases hlt : k < a.recs.length
              · have hlt2 : k < b.recs.length := by have := H_len.out; omega
                obtain ⟨ad, A1, c1, rfl, hc1, hx1⟩ := HSB.out.la.at_ hlt
                obtain ⟨ad2, B1, d1, rfl, hc2, hx2⟩ := HSB.out.lb.at_ hlt2
                have e1 := fun nq : Nat => run_convert_sl (P := Try.prog) (wr.drewN nq) X 43 9 5 A1 c1 a.recs[k] Try.underlying43 Try.underlying5 Try.underlying9 (hx1.drewN nq)
                have e2 := fun nq : Nat => run_convert_sl (P := Try.prog) (wr.drewN nq) Y 43 9 5 B1 d1 b.recs[k] Try.underlying43 Try.underlying5 Try.underlying9 (hx2.drewN nq)
                clear hx1 hx2
                by_cases heq : a.recs[k] = b.recs[k]
                · have q1 : (a.recs[k] == b.recs[k]) = true := by rw [heq]; exact beq_self_eq_true _
                  have q2 : (a.recs[k] != b.recs[k]) = false := by rw [bne, q1]; rfl
                  have HN := Lib.hid (show a.recs.take (k + 1) = b.recs.take (k + 1) by rw [List.take_succ_eq_append_getElem hlt, List.take_succ_eq_append_getElem hlt2, HT.out, heq])
                  clear heq
                  go_wp2
                  go_quiet (fail)
                  go_wp2
                  go_roundw
                  case rel => exact ⟨k + 1, by omega, by go_num, HN.out, HSB.out.drewN _⟩
                  case measure => simp [intOf]; omega
                · have q1 : (a.recs[k] == b.recs[k]) = false := by rw [beq_eq_false_iff_ne]; exact heq
                  have q2 : (a.recs[k] != b.recs[k]) = true := by rw [bne, q1]; rfl
                  have HN : Hid (sameO a b = false) := Lib.hid (by
                    simp only [sameO, decide_eq_false_iff_not]
                    intro e
                    subst e
                    exact heq rfl)
                  clear heq
                  go_wp2
                  go_quiet (fail)
                  go_wp2
                  go_ret
                  exact ⟨by rw [HN.out]; rfl, (HSB.out.drewN _).below⟩
              · have hke : k = a.recs.length := by omega
                have HN : Hid (sameO a b = true) := Lib.hid (by
                  have h := HT.out
                  have h2 := H_len.out
                  rw [hke, List.take_length, h2, List.take_length] at h
                  simp only [sameO, decide_eq_true_eq]
                  exact O_ext H_kind.out H_topic.out H_group.out H_off.out h)
                go_wp2
                go_ret
                exact ⟨by rw [HN.out]; rfl, HSB.out.below⟩
          · skip
            have n_len : ((a.recs.length : Int) != (b.recs.length : Int)) = true := by simp only [bne_iff_ne, ne_eq]; omega
            have HN : Hid (sameO a b = false) := Lib.hid (decide_eq_false (fun h => h_len (by rw [h])))
            clear h_len
            go_enter Try.func59, Try.ntmps59
            go_wp2_with fail
            go_ret
            exact ⟨by rw [HN.out]; rfl, HS.out.below⟩
        · skip
          have e_off : (a.off == b.off) = false := beq_eq_false_iff_ne.2 h_off
          have n_off : (a.off != b.off) = true := by rw [bne, e_off]; rfl
          have HN : Hid (sameO a b = false) := Lib.hid (decide_eq_false (fun h => h_off (by rw [h])))
          clear h_off
          go_enter Try.func59, Try.ntmps59
          go_wp2_with fail
          go_ret
          exact ⟨by rw [HN.out]; rfl, HS.out.below⟩
      · skip
        have e_group : (a.group == b.group) = false := beq_eq_false_iff_ne.2 h_group
        have n_group : (a.group != b.group) = true := by rw [bne, e_group]; rfl
        have HN : Hid (sameO a b = false) := Lib.hid (decide_eq_false (fun h => h_group (by rw [h])))
        clear h_group
        go_enter Try.func59, Try.ntmps59
        go_wp2_with fail
        go_ret
        exact ⟨by rw [HN.out]; rfl, HS.out.below⟩
    · skip
      have e_topic : (a.topic == b.topic) = false := beq_eq_false_iff_ne.2 h_topic
      have n_topic : (a.topic != b.topic) = true := by rw [bne, e_topic]; rfl
      have HN : Hid (sameO a b = false) := Lib.hid (decide_eq_false (fun h => h_topic (by rw [h])))
      clear h_topic
      go_enter Try.func59, Try.ntmps59
      go_wp2_with fail
      go_ret
      exact ⟨by rw [HN.out]; rfl, HS.out.below⟩
  · skip
    have e_kind : (a.kind == b.kind) = false := beq_eq_false_iff_ne.2 h_kind
    have n_kind : (a.kind != b.kind) = true := by rw [bne, e_kind]; rfl
    have HN : Hid (sameO a b = false) := Lib.hid (decide_eq_false (fun h => h_kind (by rw [h])))
    clear h_kind
    go_enter Try.func59, Try.ntmps59
    go_wp2_with fail
    go_ret
    exact ⟨by rw [HN.out]; rfl, HS.out.below⟩

set_option maxRecDepth 100000 in
set_option maxHeartbeats 4000000 in
theorem same_any (a b : O) (va vb : Value) (X Y : Nat → Prop) (w : World) (ha : OI w X va a) (hb : OI w Y vb b) (hl : a.recs.length ≤ 140737488355328) :
    Calls Try.prog 78 #[va, vb] w fun e w' => e = .returned (.bool (sameO a b)) ∧ Below w.heap.size w w' := by
  obtain ⟨A, c, rfl, hla⟩ := ha
  obtain ⟨B, d, rfl, hlb⟩ := hb
  have HS := Lib.hid (sb_start hla hlb)
  clear hla hlb
  unfold OV
  by_cases h_kind : a.kind = b.kind
  · skip
    have e_kind : (a.kind == b.kind) = true := by rw [h_kind]; exact beq_self_eq_true _
    have n_kind : (a.kind != b.kind) = false := by rw [bne, e_kind]; rfl
    have H_kind := Lib.hid h_kind
    clear h_kind
    by_cases h_topic : a.topic = b.topic
    · skip
      have e_topic : (a.topic == b.topic) = true := by rw [h_topic]; exact beq_self_eq_true _
      have n_topic : (a.topic != b.topic) = false := by rw [bne, e_topic]; rfl
      have H_topic := Lib.hid h_topic
      clear h_topic
      by_cases h_group : a.group = b.group
      · skip
        have e_group : (a.group == b.group) = true := by rw [h_group]; exact beq_self_eq_true _
        have n_group : (a.group != b.group) = false := by rw [bne, e_group]; rfl
        have H_group := Lib.hid h_group
        clear h_group
        by_cases h_off : a.off = b.off
        · skip
          have e_off : (a.off == b.off) = true := by rw [h_off]; exact beq_self_eq_true _
          have n_off : (a.off != b.off) = false := by rw [bne, e_off]; rfl
          have H_off := Lib.hid h_off
          clear h_off
          have HE := Lib.hid (equalfunc_any _ X Y A B c d _ _ a.recs b.recs rfl rfl HS.out.la HS.out.lb hl)
          go_enter Try.func78, Try.ntmps78
          go_wp2_with fail
          refine HE.out.mono ?_
          rintro e w3 ⟨rfl, rfl⟩
          have HN : Hid (sameL a.recs b.recs = sameO a b) := Lib.hid (by
            simp only [sameL, sameO, decide_eq_decide]
            exact ⟨fun h => O_ext H_kind.out H_topic.out H_group.out H_off.out h, fun h => by rw [h]⟩)
          rw [HN.out]
          go_wp2_with fail
          go_ret
          exact ⟨rfl, HS.out.below⟩
        · skip
          have e_off : (a.off == b.off) = false := beq_eq_false_iff_ne.2 h_off
          have n_off : (a.off != b.off) = true := by rw [bne, e_off]; rfl
          have HN : Hid (sameO a b = false) := Lib.hid (decide_eq_false (fun h => h_off (by rw [h])))
          clear h_off
          go_enter Try.func78, Try.ntmps78
          go_wp2_with fail
          go_ret
          exact ⟨by rw [HN.out]; rfl, HS.out.below⟩
      · skip
        have e_group : (a.group == b.group) = false := beq_eq_false_iff_ne.2 h_group
        have n_group : (a.group != b.group) = true := by rw [bne, e_group]; rfl
        have HN : Hid (sameO a b = false) := Lib.hid (decide_eq_false (fun h => h_group (by rw [h])))
        clear h_group
        go_enter Try.func78, Try.ntmps78
        go_wp2_with fail
        go_ret
        exact ⟨by rw [HN.out]; rfl, HS.out.below⟩
    · skip
      have e_topic : (a.topic == b.topic) = false := beq_eq_false_iff_ne.2 h_topic
      have n_topic : (a.topic != b.topic) = true := by rw [bne, e_topic]; rfl
      have HN : Hid (sameO a b = false) := Lib.hid (decide_eq_false (fun h => h_topic (by rw [h])))
      clear h_topic
      go_enter Try.func78, Try.ntmps78
      go_wp2_with fail
      go_ret
      exact ⟨by rw [HN.out]; rfl, HS.out.below⟩
  · skip
    have e_kind : (a.kind == b.kind) = false := beq_eq_false_iff_ne.2 h_kind
    have n_kind : (a.kind != b.kind) = true := by rw [bne, e_kind]; rfl
    have HN : Hid (sameO a b = false) := Lib.hid (decide_eq_false (fun h => h_kind (by rw [h])))
    clear h_kind
    go_enter Try.func78, Try.ntmps78
    go_wp2_with fail
    go_ret
    exact ⟨by rw [HN.out]; rfl, HS.out.below⟩

end Go.Proofs.Ytjdmadfjfjenjaa.Qs

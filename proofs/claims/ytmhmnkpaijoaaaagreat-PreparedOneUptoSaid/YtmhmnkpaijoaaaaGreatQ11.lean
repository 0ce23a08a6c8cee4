/-
  Layer 6 (op): the contracts of Same, the document's and the program's.
-/
import Derived.Test.YtmhmnkpaijoaaaaGreatQ06
import Derived.Deep.QuietTactic
import Derived.BigQuiet
import Derived.Test.YtmhmnkpaijoaaaaGreatQ10
import Derived.Test.YtmhmnkpaijoaaaaGreatQ08
import Derived.Deep.RegionHeld3
namespace Go.Proofs.YtmhmnkpaijoaaaaGreat.Qs
set_option linter.unusedSimpArgs false
open Go Go.RowKit Ck Kw Ca Cb Pm Pa Pe Pf Pg Ph Ppi Pk Pp
set_option linter.unusedVariables false

/-- Are two lists the same? (A word of its own.) -/
def sameL (a b : List Tx) : Bool := decide (a = b)
def sameO (a b : O) : Bool := decide (a = b)
theorem samerec_any (w : World) (X Y : Nat → Prop) (va vb : Value) (n m : Nat) (l k : List UInt8) (ha : Sl w X 1 va n (BVs l)) (hb : Sl w Y 1 vb m (BVs k)) :
    Calls Tryz.prog 137 #[va, vb] w fun e w' => e = .returned (.bool (l == k)) ∧ w = w' := by
  have HC := Lib.hid (equal_any w X Y va vb n m l k ha hb)
  obtain ⟨A, c, rfl, -⟩ := ha
  obtain ⟨B, d, rfl, -⟩ := hb
  go_enter Tryz.func137, Tryz.ntmps137
  go_wp2_with (go_at_call 157; refine HC.out.mono ?_; rintro e w1 ⟨rfl, rfl⟩)
  go_ret
  exact ⟨rfl, rfl⟩

set_option maxHeartbeats 1000000 in
theorem equalfunc_any (w : World) (X Y : Nat → Prop) (A B : Option Addr) (c d n m : Nat) (ls ks : List Tx) (hn : n = ls.length) (hm : m = ks.length) (ha : Ls w X (.slice A n c) ls) (hb : Ls w Y (.slice B m d) ks) (hl : ls.length ≤ 140737488355328) :
    Calls Tryz.prog 136 #[.slice A n c, .slice B m d, .func (.func 137) #[] #[]] w fun e w' => e = .returned (.bool (sameL ls ks)) ∧ w = w' := by
  subst hn; subst hm
  by_cases hlen : ls.length = ks.length
  · have h1 : ((ls.length : Int) != (ks.length : Int)) = false := by simp [hlen]
    have HLEN := Lib.hid hlen
    have hle : ls.length ≤ ks.length := by omega
    clear hlen
    go_enter Tryz.func136, Tryz.ntmps136
    go_wp2_with fail
    go_loopw [17] (fun i wr => ∃ k : Nat, k ≤ ls.length ∧ i = .int .i64 k ∧ ls.take k = ks.take k ∧ wr = w) (fun i _ => ls.length - (intOf i).toNat)
    case atStart => exact ⟨0, Nat.zero_le _, rfl, rfl, rfl⟩
    case round =>
      obtain ⟨k, hk, rfl, hz, rfl⟩ := hrel
      have HZ := Lib.hid hz
      clear hz
      by_cases hlt : k < ls.length
      · have hlt2 : k < ks.length := by omega
        obtain ⟨ad, B1, d1, rfl, hc1, hx1⟩ := ha.at_ hlt
        obtain ⟨ad2, B2, d2, rfl, hc2, hx2⟩ := hb.at_ hlt2
        by_cases heq : ls[k] = ks[k]
        · have hbq : (ls[k] == ks[k]) = true := by rw [heq]; exact beq_self_eq_true _
          have HE : Hid (Calls Tryz.prog 137 #[.slice B1 ls[k].length d1, .slice B2 ks[k].length d2] wr fun e w' => e = .returned (.bool true) ∧ wr = w') := Lib.hid ((samerec_any wr X Y _ _ _ _ _ _ hx1 hx2).mono fun _ _ h => ⟨by rw [h.1, hbq], h.2⟩)
          have HN := Lib.hid (show ls.take (k + 1) = ks.take (k + 1) by rw [List.take_succ_eq_append_getElem hlt, List.take_succ_eq_append_getElem hlt2, HZ.out, heq])
          clear hx1 hx2 heq hbq
          go_wp2_with fail
          refine HE.out.mono ?_
          rintro e w' ⟨rfl, rfl⟩
          go_wp2_with fail
          go_roundw
          case rel => exact ⟨k + 1, by omega, by go_num, HN.out, trivial⟩
          case measure => simp [intOf]; omega
        · have hbq : (ls[k] == ks[k]) = false := by rw [beq_eq_false_iff_ne]; exact heq
          have HE : Hid (Calls Tryz.prog 137 #[.slice B1 ls[k].length d1, .slice B2 ks[k].length d2] wr fun e w' => e = .returned (.bool false) ∧ wr = w') := Lib.hid ((samerec_any wr X Y _ _ _ _ _ _ hx1 hx2).mono fun _ _ h => ⟨by rw [h.1, hbq], h.2⟩)
          have HN := Lib.hid (show sameL ls ks = false by
            simp only [sameL, decide_eq_false_iff_not]
            intro e
            subst e
            exact heq rfl)
          clear hx1 hx2 heq hbq
          go_wp2_with fail
          refine HE.out.mono ?_
          rintro e w' ⟨rfl, rfl⟩
          go_wp2_with fail
          go_ret
          exact ⟨by rw [HN.out]; rfl, rfl⟩
      · have hke : k = ls.length := by omega
        have HN := Lib.hid (show sameL ls ks = true by
          have h := HZ.out
          rw [hke, List.take_length, HLEN.out, List.take_length] at h
          simp [sameL, h])
        go_wp2_with fail
        go_ret
        exact ⟨by rw [HN.out]; rfl, rfl⟩
  · have h1 : ((ls.length : Int) != (ks.length : Int)) = true := by simp only [bne_iff_ne, ne_eq]; omega
    have HN := Lib.hid (show sameL ls ks = false by
      simp only [sameL, decide_eq_false_iff_not]
      intro e
      subst e
      exact hlen rfl)
    clear hlen
    go_enter Tryz.func136, Tryz.ntmps136
    go_wp2_with fail
    go_ret
    exact ⟨by rw [HN.out]; rfl, rfl⟩


/-- Two operations stand there. -/
structure SB (w0 : World) (g1 g2 : Nat) (a b : O) (A B : Option Addr) (c d : Nat) (X Y : Nat → Prop) (W : World) : Prop where
  below : Below w0.heap.size w0 W
  one : OB W g1 a A c
  two : OB W g2 b B d
  la : Ls W X (.slice A a.recs.length c) a.recs
  lb : Ls W Y (.slice B b.recs.length d) b.recs
theorem sb_start {w : World} {a b : O} {A B : Option Addr} {c d : Nat} {X Y : Nat → Prop} (ha : Ls w X (.slice A a.recs.length c) a.recs) (hb : Ls w Y (.slice B b.recs.length d) b.recs) :
    SB w w.heap.size (w.heap.size + 1) a b A B c d X Y ((w.alloc (.cells (OC a A c) 109)).alloc (.cells (OC b B d) 109)) := by
  have b1 : Below w.heap.size w (w.alloc (.cells (OC a A c) 109)) := (Below.refl _ w).alloc (Nat.le_refl _) _
  have b2 : Below w.heap.size w ((w.alloc (.cells (OC a A c) 109)).alloc (.cells (OC b B d) 109)) := b1.alloc b1.size _
  exact ⟨b2, Blk.alloc (Blk.new w _ _) _, Blk.new_at (by simp) rfl, ha.after b2, hb.after b2⟩
theorem SB.drewN {w0 W : World} {g1 g2 : Nat} {a b : O} {A B : Option Addr} {c d : Nat} {X Y : Nat → Prop} (h : SB w0 g1 g2 a b A B c d X Y W) (n : Nat) : SB w0 g1 g2 a b A B c d X Y (W.drewN n) :=
  ⟨below_drewN h.below n, h.one, h.two, h.la, h.lb⟩

set_option maxRecDepth 100000 in
set_option maxHeartbeats 4000000 in
theorem rsame_any (a b : O) (va vb : Value) (X Y : Nat → Prop) (w : World) (ha : OI w X va a) (hb : OI w Y vb b) (hl : a.recs.length ≤ 140737488355328) :
    Calls Tryz.prog 114 #[va, vb] w fun e w' => e = .returned (.bool (sameO a b)) ∧ Below w.heap.size w w' := by
  obtain ⟨A, c, rfl, hla⟩ := ha
  obtain ⟨B, d, rfl, hlb⟩ := hb
  have HS := Lib.hid (sb_start hla hlb)
  clear hla hlb
  unfold OV
  by_cases h_kind : a.kind = b.kind
  · skip
    have e_kind : (a.kind == b.kind) = true := by rw [h_kind]; exact beq_self_eq_true _
    have n_kind : (a.kind != b.kind) = false := by rw [bne, e_kind]; rfl
    have H_kind := Lib.hid h_kind
    clear h_kind
    by_cases h_topic : a.topic = b.topic
    · skip
      have e_topic : (a.topic == b.topic) = true := by rw [h_topic]; exact beq_self_eq_true _
      have n_topic : (a.topic != b.topic) = false := by rw [bne, e_topic]; rfl
      have H_topic := Lib.hid h_topic
      clear h_topic
      by_cases h_group : a.group = b.group
      · skip
        have e_group : (a.group == b.group) = true := by rw [h_group]; exact beq_self_eq_true _
        have n_group : (a.group != b.group) = false := by rw [bne, e_group]; rfl
        have H_group := Lib.hid h_group
        clear h_group
        by_cases h_off : a.off = b.off
        · skip
          have e_off : (a.off == b.off) = true := by rw [h_off]; exact beq_self_eq_true _
          have n_off : (a.off != b.off) = false := by rw [bne, e_off]; rfl
          have H_off := Lib.hid h_off
          clear h_off
          by_cases h_len : a.recs.length = b.recs.length
          · skip
            have n_len : ((a.recs.length : Int) != (b.recs.length : Int)) = false := by simp [h_len]
            have H_len := Lib.hid h_len
            clear h_len
            go_enter Tryz.func114, Tryz.ntmps114
            go_wp2_with fail
            go_loopw [5] (fun i wr => ∃ k : Nat, k ≤ a.recs.length ∧ i = .int .i64 k ∧ a.recs.take k = b.recs.take k ∧ SB w w.heap.size (w.heap.size + 1) a b A B c d X Y wr) (fun i _ => a.recs.length - (intOf i).toNat)
            case atStart => exact ⟨0, Nat.zero_le _, rfl, rfl, HS.out⟩
            case round =>
              obtain ⟨k, hk, rfl, htk, hsb⟩ := hrel
              have HT := Lib.hid htk
              have HSB := Lib.hid hsb
              clear htk hsb
              obtain ⟨a0, a1, a2, a3, a4⟩ := HSB.out.one.cells
              obtain ⟨b0, b1, b2, b3, b4⟩ := HSB.out.two.cells
              by_cases hlt : k < a.recs.length
              · have hlt2 : k < b.recs.length := by have := H_len.out; omega
                obtain ⟨ad, A1, c1, rfl, hc1, hx1⟩ := HSB.out.la.at_ hlt
                obtain ⟨ad2, B1, d1, rfl, hc2, hx2⟩ := HSB.out.lb.at_ hlt2
                have e1 := fun nq : Nat => run_convert_sl (P := Tryz.prog) (wr.drewN nq) X 195 9 5 A1 c1 a.recs[k] Tryz.underlying195 Tryz.underlying5 Tryz.underlying9 (hx1.drewN nq)
                have e2 := fun nq : Nat => run_convert_sl (P := Tryz.prog) (wr.drewN nq) Y 195 9 5 B1 d1 b.recs[k] Tryz.underlying195 Tryz.underlying5 Tryz.underlying9 (hx2.drewN nq)
                clear hx1 hx2
                by_cases heq : a.recs[k] = b.recs[k]
                · have q1 : (a.recs[k] == b.recs[k]) = true := by rw [heq]; exact beq_self_eq_true _
                  have q2 : (a.recs[k] != b.recs[k]) = false := by rw [bne, q1]; rfl
                  have HN := Lib.hid (show a.recs.take (k + 1) = b.recs.take (k + 1) by rw [List.take_succ_eq_append_getElem hlt, List.take_succ_eq_append_getElem hlt2, HT.out, heq])
                  clear heq
                  go_wp2
                  go_quiet (fail)
                  go_wp2
                  go_roundw
                  case rel => exact ⟨k + 1, by omega, by go_num, HN.out, HSB.out.drewN _⟩
                  case measure => simp [intOf]; omega
                · have q1 : (a.recs[k] == b.recs[k]) = false := by rw [beq_eq_false_iff_ne]; exact heq
                  have q2 : (a.recs[k] != b.recs[k]) = true := by rw [bne, q1]; rfl
                  have HN : Hid (sameO a b = false) := Lib.hid (by
                    simp only [sameO, decide_eq_false_iff_not]
                    intro e
                    subst e
                    exact heq rfl)
                  clear heq
                  go_wp2
                  go_quiet (fail)
                  go_wp2
                  go_ret
                  exact ⟨by rw [HN.out]; rfl, (HSB.out.drewN _).below⟩
              · have hke : k = a.recs.length := by omega
                have HN : Hid (sameO a b = true) := Lib.hid (by
                  have h := HT.out
                  have h2 := H_len.out
                  rw [hke, List.take_length, h2, List.take_length] at h
                  simp only [sameO, decide_eq_true_eq]
                  exact O_ext H_kind.out H_topic.out H_group.out H_off.out h)
                go_wp2
                go_ret
                exact ⟨by rw [HN.out]; rfl, HSB.out.below⟩
          · skip
            have n_len : ((a.recs.length : Int) != (b.recs.length : Int)) = true := by simp only [bne_iff_ne, ne_eq]; omega
            have HN : Hid (sameO a b = false) := Lib.hid (decide_eq_false (fun h => h_len (by rw [h])))
            clear h_len
            go_enter Tryz.func114, Tryz.ntmps114
            go_wp2_with fail
            go_ret
            exact ⟨by rw [HN.out]; rfl, HS.out.below⟩
        · skip
          have e_off : (a.off == b.off) = false := beq_eq_false_iff_ne.2 h_off
          have n_off : (a.off != b.off) = true := by rw [bne, e_off]; rfl
          have HN : Hid (sameO a b = false) := Lib.hid (decide_eq_false (fun h => h_off (by rw [h])))
          clear h_off
          go_enter Tryz.func114, Tryz.ntmps114
          go_wp2_with fail
          go_ret
          exact ⟨by rw [HN.out]; rfl, HS.out.below⟩
      · skip
        have e_group : (a.group == b.group) = false := beq_eq_false_iff_ne.2 h_group
        have n_group : (a.group != b.group) = true := by rw [bne, e_group]; rfl
        have HN : Hid (sameO a b = false) := Lib.hid (decide_eq_false (fun h => h_group (by rw [h])))
        clear h_group
        go_enter Tryz.func114, Tryz.ntmps114
        go_wp2_with fail
        go_ret
        exact ⟨by rw [HN.out]; rfl, HS.out.below⟩
    · skip
      have e_topic : (a.topic == b.topic) = false := beq_eq_false_iff_ne.2 h_topic
      have n_topic : (a.topic != b.topic) = true := by rw [bne, e_topic]; rfl
      have HN : Hid (sameO a b = false) := Lib.hid (decide_eq_false (fun h => h_topic (by rw [h])))
      clear h_topic
      go_enter Tryz.func114, Tryz.ntmps114
      go_wp2_with fail
      go_ret
      exact ⟨by rw [HN.out]; rfl, HS.out.below⟩
  · skip
    have e_kind : (a.kind == b.kind) = false := beq_eq_false_iff_ne.2 h_kind
    have n_kind : (a.kind != b.kind) = true := by rw [bne, e_kind]; rfl
    have HN : Hid (sameO a b = false) := Lib.hid (decide_eq_false (fun h => h_kind (by rw [h])))
    clear h_kind
    go_enter Tryz.func114, Tryz.ntmps114
    go_wp2_with fail
    go_ret
    exact ⟨by rw [HN.out]; rfl, HS.out.below⟩

set_option maxRecDepth 100000 in
set_option maxHeartbeats 4000000 in
theorem same_any (a b : O) (va vb : Value) (X Y : Nat → Prop) (w : World) (ha : OI w X va a) (hb : OI w Y vb b) (hl : a.recs.length ≤ 140737488355328) :
    Calls Tryz.prog 119 #[va, vb] w fun e w' => e = .returned (.bool (sameO a b)) ∧ Below w.heap.size w w' := by
  obtain ⟨A, c, rfl, hla⟩ := ha
  obtain ⟨B, d, rfl, hlb⟩ := hb
  have HS := Lib.hid (sb_start hla hlb)
  clear hla hlb
  unfold OV
  by_cases h_kind : a.kind = b.kind
  · skip
    have e_kind : (a.kind == b.kind) = true := by rw [h_kind]; exact beq_self_eq_true _
    have n_kind : (a.kind != b.kind) = false := by rw [bne, e_kind]; rfl
    have H_kind := Lib.hid h_kind
    clear h_kind
    by_cases h_topic : a.topic = b.topic
    · skip
      have e_topic : (a.topic == b.topic) = true := by rw [h_topic]; exact beq_self_eq_true _
      have n_topic : (a.topic != b.topic) = false := by rw [bne, e_topic]; rfl
      have H_topic := Lib.hid h_topic
      clear h_topic
      by_cases h_group : a.group = b.group
      · skip
        have e_group : (a.group == b.group) = true := by rw [h_group]; exact beq_self_eq_true _
        have n_group : (a.group != b.group) = false := by rw [bne, e_group]; rfl
        have H_group := Lib.hid h_group
        clear h_group
        by_cases h_off : a.off = b.off
        · skip
          have e_off : (a.off == b.off) = true := by rw [h_off]; exact beq_self_eq_true _
          have n_off : (a.off != b.off) = false := by rw [bne, e_off]; rfl
          have H_off := Lib.hid h_off
          clear h_off
          have HE := Lib.hid (equalfunc_any _ X Y A B c d _ _ a.recs b.recs rfl rfl HS.out.la HS.out.lb hl)
          go_enter Tryz.func119, Tryz.ntmps119
          go_wp2_with fail
          refine HE.out.mono ?_
          rintro e w3 ⟨rfl, rfl⟩
          have HN : Hid (sameL a.recs b.recs = sameO a b) := Lib.hid (by
            simp only [sameL, sameO, decide_eq_decide]
            exact ⟨fun h => O_ext H_kind.out H_topic.out H_group.out H_off.out h, fun h => by rw [h]⟩)
          rw [HN.out]
          go_wp2_with fail
          go_ret
          exact ⟨rfl, HS.out.below⟩
        · skip
          have e_off : (a.off == b.off) = false := beq_eq_false_iff_ne.2 h_off
          have n_off : (a.off != b.off) = true := by rw [bne, e_off]; rfl
          have HN : Hid (sameO a b = false) := Lib.hid (decide_eq_false (fun h => h_off (by rw [h])))
          clear h_off
          go_enter Tryz.func119, Tryz.ntmps119
          go_wp2_with fail
          go_ret
          exact ⟨by rw [HN.out]; rfl, HS.out.below⟩
      · skip
        have e_group : (a.group == b.group) = false := beq_eq_false_iff_ne.2 h_group
        have n_group : (a.group != b.group) = true := by rw [bne, e_group]; rfl
        have HN : Hid (sameO a b = false) := Lib.hid (decide_eq_false (fun h => h_group (by rw [h])))
        clear h_group
        go_enter Tryz.func119, Tryz.ntmps119
        go_wp2_with fail
        go_ret
        exact ⟨by rw [HN.out]; rfl, HS.out.below⟩
    · skip
      have e_topic : (a.topic == b.topic) = false := beq_eq_false_iff_ne.2 h_topic
      have n_topic : (a.topic != b.topic) = true := by rw [bne, e_topic]; rfl
      have HN : Hid (sameO a b = false) := Lib.hid (decide_eq_false (fun h => h_topic (by rw [h])))
      clear h_topic
      go_enter Tryz.func119, Tryz.ntmps119
      go_wp2_with fail
      go_ret
      exact ⟨by rw [HN.out]; rfl, HS.out.below⟩
  · skip
    have e_kind : (a.kind == b.kind) = false := beq_eq_false_iff_ne.2 h_kind
    have n_kind : (a.kind != b.kind) = true := by rw [bne, e_kind]; rfl
    have HN : Hid (sameO a b = false) := Lib.hid (decide_eq_false (fun h => h_kind (by rw [h])))
    clear h_kind
    go_enter Tryz.func119, Tryz.ntmps119
    go_wp2_with fail
    go_ret
    exact ⟨by rw [HN.out]; rfl, HS.out.below⟩

end Go.Proofs.YtmhmnkpaijoaaaaGreat.Qs

/-
  Layer 6 (op): bytes.HasPrefix; the walk of the statement OpApart.
-/
namespace Go.Proofs.YtmhmnkpaijoaaaaGreat.Qf
set_option linter.unusedSimpArgs false
open Go Go.RowKit Ck Kw Ca Cb Ci Pm Pa Pe Pf Pg Ph Ppi Pk Pl Pp Qs
set_option linter.unusedVariables false

def pre (k l : Tx) : Bool := decide (k <+: l)
/-- A row of new bytes, kept. -/
structure VB (w0 : World) (v : Value) (l : Tx) (W : World) : Prop where
  below : Below w0.heap.size w0 W
  row : Sl W (fun k => k < w0.heap.size) 1 v l.length (BVs l)
theorem VB.later {w0 W W' : World} {v : Value} {l : Tx} (h : VB w0 v l W) (b : Below W.heap.size W W') : VB w0 v l W' := ⟨h.below.trans (b.mono h.below.size), h.row.after b⟩

end Go.Proofs.YtmhmnkpaijoaaaaGreat.Qf

/-
  Layer 6 (op): slices.Clone at bytes; the walk of the statement OpBytes.
-/
namespace Go.Proofs.YtmhmnkpaijoaaaaGreat.Qa
set_option linter.unusedSimpArgs false
open Go Go.RowKit Ck Kw Ca Cb Cc Cd Ci Pm Pa Pe Pf Pg Ph Ppi Pj Kx Pk Pl Pn Po Pp Qs Qf
attribute [local go_sem ↓] Go.wp_at_zero Go.wp_at_succ
set_option linter.unusedVariables false

set_option maxHeartbeats 400000 in
theorem sclb_any (X : Nat → Prop) (v : Value) (n : Nat) (b : List UInt8) (w : World) (hv : Sl w X 1 v n (BVs b)) (hn : n ≤ 140737488355328) :
    Calls Tryz.prog 126 #[v] w fun e w' => Made w 5 b e w' := by
  have hnl : n = b.length := by obtain ⟨A, c, _, h, _⟩ := hv; rw [BVs_len] at h; omega
  subst hnl
  obtain ⟨i0, hi0, hz0, hz1, hz2⟩ := info_parts info_u8
  have hv' := hv
  obtain ⟨A, c, rfl, -⟩ := hv'
  have heq := fun (W : World) => Lib.run_eql_slice_nil (P := Tryz.prog) W 32 5 A b.length c 0 0 Tryz.underlying32
  rcases A with _ | ad
  · obtain ⟨h0, _⟩ := hv.none_
    have hb : b = [] := List.eq_nil_of_length_eq_zero h0
    subst hb
    simp only [List.length_nil] at heq
    clear hv h0
    go_enter Tryz.func126, Tryz.ntmps126
    go_wp2
    go_ret
    exact ⟨_, rfl, World.ownsRow_nil _ _ _ _, Below.refl _ _⟩
  · go_enter Tryz.func126, Tryz.ntmps126
    go_wp2_with (at_builtin; refine wpList_append_sl _ rfl (.tmp 5) (.tmp 6) _ rfl w.heap.size 5 i0 _ 1 1 Tryz.underlying32 hi0 hz0 hz1 hz2 rfl (by omega) (.slice (some ⟨w.heap.size, 0, none⟩) 0 0) 0 [] rfl (World.ownsRow_made w #[] 0 (Nat.le_refl _) (by simp only [maxLen]; omega) rfl) X _ b.length (BVs b) rfl (hv.alloc _) (BVs_one _) (by simp only [maxLen]; omega) (by omega) (by simp) ?_; intro v2 w2 happ)
    go_ret
    refine ⟨v2, rfl, by simpa using happ.1, ?_⟩
    exact ((Below.refl _ _).alloc (Nat.le_refl _) _).grown happ.2.1 (by simp) (by simp [Value.ownBlock])


section
variable {w0 W W' : World} {o : O} {A : Option Addr} {c : Nat} {e f : Int} {vb : Value} {b : Tx}
end
end Go.Proofs.YtmhmnkpaijoaaaaGreat.Qa

/-
  Layer 8 (request): the contracts of Bytes, both sides; a signature's form; put; PutSign, both sides.
-/
namespace Go.Proofs.YtmhmnkpaijoaaaaGreat.Jd
set_option linter.unusedSimpArgs false
open Go Go.RowKit Ck Kw Ca Cb Cd Ga Kf Pm Pe Pg Ph Pk Pn Pj Po Qb Lk Jm Ja Jb
attribute [local go_sem ↓] Go.wp_at_zero Go.wp_at_succ
set_option linter.unusedVariables false

/-- The bytes of a request, and its error. -/
def Byt (w : World) (q : Q) (e : Ending) (w' : World) : Prop := ∃ v, e = .returned (.tuple #[v, .int .i64 (qcheck q)]) ∧ Sl w' (fun k => k < w.heap.size) 1 v (qform q).length (BVs (qform q)) ∧ Below w.heap.size w w'
theorem byt_no {w w' : World} {q : Q} (h : qcheck q ≠ 0) (hb : Below w.heap.size w w') : Byt w q (.returned (.tuple #[.slice none 0 0, .int .i64 (qcheck q)])) w' := by
  have : qform q = [] := by rw [qform, if_pos h]
  exact ⟨_, rfl, by rw [this]; exact Sl.nil _ _ _, hb⟩
/-- A request lies there. -/
structure K0 (w0 : World) (g : Nat) (q : Q) (A : Option Addr) (c : Nat) (W : World) : Prop where
  below : Below w0.heap.size w0 W
  one : QB W g q A c
theorem K0.later {w0 W W' : World} {g : Nat} {q : Q} {A : Option Addr} {c : Nat} (h : K0 w0 g q A c W) (b : Below W.heap.size W W') : K0 w0 g q A c W' := ⟨h.below.trans (b.mono h.below.size), h.one.below b h.one.lt⟩
theorem k0_new (w : World) (q : Q) (A : Option Addr) (c : Nat) : K0 w w.heap.size q A c (w.alloc (.cells (QC q A c) 111)) := ⟨op_below w _, Blk.new w _ _⟩
theorem sl_len {w : World} {X : Nat → Prop} {v : Value} {n : Nat} {b : List UInt8} (h : Sl w X 1 v n (BVs b)) : n = b.length := by obtain ⟨_, _, _, h, _⟩ := h; rw [BVs_len] at h; omega

theorem Made.of_parts {w w' : World} {l : List UInt8} {v : Value} (h : w'.ownsRow w.heap.size 5 1 v l.length (BVs l)) (hb : Below w.heap.size w w') : Ck.Made w 5 l (.returned v) w' := ⟨v, rfl, h, hb⟩

set_option maxRecDepth 100000 in
set_option maxHeartbeats 2000000 in
theorem qbytes_any (x : Q) (v : Value) (X : Nat → Prop) (w : World) (h : QI w X v x) (hl : x.o.recs.length ≤ 140737488355328) :
    Calls Tryz.prog 124 #[v] w (Byt w x) := by
  obtain ⟨A, c, rfl, hls⟩ := h
  have hk := k0_new w x A c
  have HC := Lib.hid (check_any x (QV x A c) X _ ⟨A, c, rfl, hls.after hk.below⟩ hl)
  have HLS := Lib.hid hls
  have HNO := Lib.hid fun (h : qcheck x ≠ 0) (w' : World) (hb : Below w.heap.size w w') => byt_no h hb
  clear hls
  by_cases hq : qcheck x = 0
  · have HQF := Lib.hid (qform_eq hq)
    have HQE := Lib.hid hq
    have HRL := Lib.hid (raw_len (qcheck_ok hq).2.2)
    have HRF : Hid (form x.o = raw x.o) := Lib.hid (by rw [form, if_neg (by rw [(qcheck_ok hq).2.2]; simp)])
    obtain ⟨⟨q1, q2⟩, ⟨q3, q4⟩, q5⟩ := qcheck_ok hq
    rw [hq] at HC
    clear hq HNO
    obtain ⟨cl, ti, o⟩ := x
    simp only at q1 q2 q3 q4 q5 hl HLS HRL HRF
    obtain ⟨n, rfl⟩ := Int.eq_ofNat_of_zero_le q1
    obtain ⟨m, rfl⟩ := Int.eq_ofNat_of_zero_le (show 0 ≤ ti by omega)
    have hwn := wrap_u64' n (by omega)
    have hwm := wrap_u64' m (by omega)
    have hn1 : n < 8 := by omega
    have hm1 : m ≤ 9007199254740992 := by omega
    have HM1 := Lib.hid hm1
    obtain ⟨a0, a1, a2, a3, a4, a5, a6⟩ := hk.one.cells
    have HK := Lib.hid hk
    have HQR : Hid (qraw ⟨(n : Int), (m : Int), o⟩ = Cm.enc n ++ (Cm.enc m ++ raw o)) := Lib.hid rfl
    clear hk q1 q2 q3 q4 q5 hm1
    unfold QV at HC ⊢
    unfold QC at *
    simp only at a0 a1 a2 a3 a4 a5 a6 HC HK ⊢
    go_enter Tryz.func124, Tryz.ntmps124
    go_wp2_with fail
    refine HC.out.mono ?_
    rintro e w1 ⟨rfl, hb1⟩
    have HK1 := Lib.hid (HK.out.later hb1)
    clear hb1 a0 a1 a2 a3 a4 a5 a6
    obtain ⟨a0, a1, a2, a3, a4, a5, a6⟩ := HK1.out.one.cells
    simp only at a0 a1 a2 a3 a4 a5 a6
    go_wp2_with fail
    refine (putnum_any (fun _ => False) (.slice none 0 0) 0 [] n _ (Sl.nil _ _ _) (by omega) (by omega)).mono ?_
    rintro e w2 ⟨v2, rfl, hown2, hb2⟩
    have HK2 := Lib.hid (HK1.out.later hb2)
    have HO2 : Hid (w2.ownsRow w.heap.size 5 1 v2 (Cm.enc n).length (BVs (Cm.enc n))) := Lib.hid (own_base hown2 HK1.out.below.size)
    clear hb2 hown2 a0 a1 a2 a3 a4 a5 a6
    obtain ⟨a0, a1, a2, a3, a4, a5, a6⟩ := HK2.out.one.cells
    simp only at a0 a1 a2 a3 a4 a5 a6
    have hl2 := Cm.enc_len n
    go_wp2_with fail
    refine (putnum_any (fun _ => False) v2 _ (Cm.enc n) m _ (Sl.of_own HO2.out (fun _ _ _ h => h)) (by omega) (by have := HM1.out; omega)).mono ?_
    rintro e w3 ⟨v3, rfl, hown3, hb3⟩
    have HK3 := Lib.hid (HK2.out.later hb3)
    have HO3 := Lib.hid (own_base hown3 HK2.out.below.size)
    clear hb3 hown3 a0 a1 a2 a3 a4 a5 a6
    obtain ⟨a0, a1, a2, a3, a4, a5, a6⟩ := HK3.out.one.cells
    simp only at a0 a1 a2 a3 a4 a5 a6
    have hl3 := Cm.enc_len m
    have HOI : Hid (OI w3 X (OV o A c) o) := Lib.hid ⟨A, c, rfl, HLS.out.after HK3.out.below⟩
    unfold OV at HOI
    go_wp2_with fail
    refine (put_any o _ X (fun _ => False) v3 _ (Cm.enc n ++ Cm.enc m) _ HOI.out hl (Sl.of_own HO3.out (fun _ _ _ h => h)) (by rw [List.length_append]; omega)).mono ?_
    rintro e w4 ⟨v4, rfl, hown4, hb4⟩
    have HO4 := Lib.hid (own_base hown4 HK3.out.below.size)
    clear hown4
    have HB4 := Lib.hid (HK3.out.below.trans (hb4.mono HK3.out.below.size))
    clear a0 a1 a2 a3 a4 a5 a6
    go_wp2_with fail
    go_ret2
    refine ⟨v4, by rw [HQE.out]; rfl, ?_, HB4.out⟩
    rw [HQF.out, HQR.out, ← List.append_assoc, ← HRF.out]
    exact Sl.of_own HO4.out (fun k h1 _ h2 => by omega)
  · have hd : (qcheck x != 0) = true := by simpa using hq
    have hd2 : (qcheck x == 0) = false := by simpa using hq
    have HN := Lib.hid (HNO.out hq)
    obtain ⟨a0, a1, a2, a3, a4, a5, a6⟩ := hk.one.cells
    have HK := Lib.hid hk
    clear hk hq HNO
    unfold QV at HC ⊢
    unfold QC at *
    go_enter Tryz.func124, Tryz.ntmps124
    go_wp2_with fail
    refine HC.out.mono ?_
    rintro e w1 ⟨rfl, hb1⟩
    have HK1 := Lib.hid (HK.out.later hb1)
    clear hb1 a0 a1 a2 a3 a4 a5 a6
    go_wp2_with fail
    go_ret2
    exact HN.out _ HK1.out.below

set_option maxRecDepth 100000 in
set_option maxHeartbeats 2000000 in
theorem rqbytes_any (x : Q) (v : Value) (X : Nat → Prop) (w : World) (h : QI w X v x) (hl : x.o.recs.length ≤ 140737488355328) :
    Calls Tryz.prog 68 #[v] w (Byt w x) := by
  obtain ⟨A, c, rfl, hls⟩ := h
  have hk := k0_new w x A c
  have HC := Lib.hid (rcheck_any x (QV x A c) X _ ⟨A, c, rfl, hls.after hk.below⟩ hl)
  have HLS := Lib.hid hls
  have HNO := Lib.hid fun (h : qcheck x ≠ 0) (w' : World) (hb : Below w.heap.size w w') => byt_no h hb
  clear hls
  by_cases hq : qcheck x = 0
  · have HQF := Lib.hid (qform_eq hq)
    have HQE := Lib.hid hq
    have HRL := Lib.hid (raw_len (qcheck_ok hq).2.2)
    have HRF : Hid (form x.o = raw x.o) := Lib.hid (by rw [form, if_neg (by rw [(qcheck_ok hq).2.2]; simp)])
    obtain ⟨⟨q1, q2⟩, ⟨q3, q4⟩, q5⟩ := qcheck_ok hq
    rw [hq] at HC
    clear hq HNO
    obtain ⟨cl, ti, o⟩ := x
    simp only at q1 q2 q3 q4 q5 hl HLS HRL HRF
    obtain ⟨n, rfl⟩ := Int.eq_ofNat_of_zero_le q1
    obtain ⟨m, rfl⟩ := Int.eq_ofNat_of_zero_le (show 0 ≤ ti by omega)
    have hwn := wrap_u64' n (by omega)
    have hwm := wrap_u64' m (by omega)
    have hn1 : n < 8 := by omega
    have hm1 : m ≤ 9007199254740992 := by omega
    have HM1 := Lib.hid hm1
    obtain ⟨a0, a1, a2, a3, a4, a5, a6⟩ := hk.one.cells
    have HK := Lib.hid hk
    have HQR : Hid (qraw ⟨(n : Int), (m : Int), o⟩ = Cm.enc n ++ (Cm.enc m ++ raw o)) := Lib.hid rfl
    clear hk q1 q2 q3 q4 q5 hm1
    unfold QV at HC ⊢
    unfold QC at *
    simp only at a0 a1 a2 a3 a4 a5 a6 HC HK ⊢
    go_enter Tryz.func68, Tryz.ntmps68
    go_wp2_with fail
    refine HC.out.mono ?_
    rintro e w1 ⟨rfl, hb1⟩
    have HK1 := Lib.hid (HK.out.later hb1)
    clear hb1 a0 a1 a2 a3 a4 a5 a6
    obtain ⟨a0, a1, a2, a3, a4, a5, a6⟩ := HK1.out.one.cells
    simp only at a0 a1 a2 a3 a4 a5 a6
    go_wp2_with fail
    refine (rputnum_any (fun _ => False) (.slice none 0 0) 0 [] n _ (Sl.nil _ _ _) (by omega) (by omega)).mono ?_
    rintro e w2 ⟨v2, rfl, hown2, hb2⟩
    have HK2 := Lib.hid (HK1.out.later hb2)
    have HO2 : Hid (w2.ownsRow w.heap.size 5 1 v2 (Cm.enc n).length (BVs (Cm.enc n))) := Lib.hid (own_base hown2 HK1.out.below.size)
    clear hb2 hown2 a0 a1 a2 a3 a4 a5 a6
    obtain ⟨a0, a1, a2, a3, a4, a5, a6⟩ := HK2.out.one.cells
    simp only at a0 a1 a2 a3 a4 a5 a6
    have hl2 := Cm.enc_len n
    go_wp2_with fail
    refine (rputnum_any (fun _ => False) v2 _ (Cm.enc n) m _ (Sl.of_own HO2.out (fun _ _ _ h => h)) (by omega) (by have := HM1.out; omega)).mono ?_
    rintro e w3 ⟨v3, rfl, hown3, hb3⟩
    have HK3 := Lib.hid (HK2.out.later hb3)
    have HO3 := Lib.hid (own_base hown3 HK2.out.below.size)
    clear hb3 hown3 a0 a1 a2 a3 a4 a5 a6
    obtain ⟨a0, a1, a2, a3, a4, a5, a6⟩ := HK3.out.one.cells
    simp only at a0 a1 a2 a3 a4 a5 a6
    have hl3 := Cm.enc_len m
    have HOI : Hid (OI w3 X (OV o A c) o) := Lib.hid ⟨A, c, rfl, HLS.out.after HK3.out.below⟩
    unfold OV at HOI
    go_wp2_with fail
    refine (rput_any o _ X (fun k => k < w.heap.size) v3 _ (Cm.enc n ++ Cm.enc m) _ HOI.out hl (Sl.of_own HO3.out (fun k h1 _ h2 => by omega)) (by rw [List.length_append]; omega)).mono ?_
    rintro e w4 ⟨v4, rfl, hsl4, hb4⟩
    have HO4 := Lib.hid hsl4
    clear hsl4
    have HB4 := Lib.hid (HK3.out.below.trans (hb4.mono HK3.out.below.size))
    clear a0 a1 a2 a3 a4 a5 a6
    go_wp2_with fail
    go_ret2
    refine ⟨v4, by rw [HQE.out]; rfl, ?_, HB4.out⟩
    rw [HQF.out, HQR.out, ← List.append_assoc, ← HRF.out]
    exact HO4.out.weaken (fun k _ h2 => ⟨h2, by have := HK3.out.below.size; omega⟩)
  · have hd : (qcheck x != 0) = true := by simpa using hq
    have hd2 : (qcheck x == 0) = false := by simpa using hq
    have HN := Lib.hid (HNO.out hq)
    obtain ⟨a0, a1, a2, a3, a4, a5, a6⟩ := hk.one.cells
    have HK := Lib.hid hk
    clear hk hq HNO
    unfold QV at HC ⊢
    unfold QC at *
    go_enter Tryz.func68, Tryz.ntmps68
    go_wp2_with fail
    refine HC.out.mono ?_
    rintro e w1 ⟨rfl, hb1⟩
    have HK1 := Lib.hid (HK.out.later hb1)
    clear hb1 a0 a1 a2 a3 a4 a5 a6
    go_wp2_with fail
    go_ret2
    exact HN.out _ HK1.out.below

set_option maxRecDepth 100000 in
set_option maxHeartbeats 2000000 in
theorem sform_any (s : Int × Int) (hs : scheck s = 0) (w : World) : Calls Tryz.prog 147 #[GV s] w fun e w' => Made w 5 (sraw s) e w' := by
  obtain ⟨⟨k1, k2⟩, ⟨d1, d2⟩⟩ := scheck_ok hs
  obtain ⟨k, d⟩ := s
  simp only at k1 k2 d1 d2
  obtain ⟨n, rfl⟩ := Int.eq_ofNat_of_zero_le k1
  obtain ⟨m, rfl⟩ := Int.eq_ofNat_of_zero_le (show 0 ≤ d by omega)
  have hwn := wrap_u64' n (by omega)
  have hwm := wrap_u64' m (by omega)
  have hn1 : n < 21 := by omega
  have HM1 : Hid (m ≤ 9007199254740992) := Lib.hid (by omega)
  have HR : Hid (sraw ((n : Int), (m : Int)) = Cm.enc n ++ Cm.enc m) := Lib.hid rfl
  have hw0 : Below w.heap.size w (w.alloc (.cells #[.int .i64 (n : Int), .int .i64 (m : Int)] 211)) := op_below w _
  have hk0 : Blk (w.alloc (.cells #[.int .i64 (n : Int), .int .i64 (m : Int)] 211)) w.heap.size 211 #[.int .i64 (n : Int), .int .i64 (m : Int)] := Blk.new _ _ _
  clear hs k1 k2 d1 d2
  unfold GV
  simp only
  go_enter Tryz.func147, Tryz.ntmps147
  go_wp2_with fail
  generalize w.alloc (.cells #[.int .i64 (n : Int), .int .i64 (m : Int)] 211) = w0 at hw0 hk0 ⊢
  have ln := Cm.enc_len n
  have HC1 := Lib.hid (putnum_any (fun _ => False) (.slice none 0 0) 0 [] n w0.drew (Sl.nil _ _ _) (by omega) (by omega))
  have HC2 : Hid (∀ w1 v1, w1.ownsRow w0.heap.size 5 1 v1 (Cm.enc n).length (BVs (Cm.enc n)) → Calls Tryz.prog 128 #[v1, .int .u64 (m : Int)] w1 fun e w' => Made w1 5 (Cm.enc n ++ Cm.enc m) e w') := Lib.hid fun w1 v1 ho => putnum_any (fun _ => False) v1 _ (Cm.enc n) m w1 (Sl.of_own ho (fun _ _ _ h => h)) (by omega) (by have := HM1.out; omega)
  have j0 := hk0.cell 0
  have j1 := hk0.cell 1
  simp only [List.getElem?_toArray, List.getElem?_cons_zero, List.getElem?_cons_succ] at j0 j1
  have HK0 := Lib.hid hk0
  have HW0 := Lib.hid hw0
  clear hk0 hw0
  have tok1 : True := trivial
  go_region_held3 (fun w' => w'.cell? ⟨w.heap.size, 0, none⟩ = some (.int .i64 (n : Int)) ∧ w'.cell? ⟨w.heap.size, 1, none⟩ = some (.int .i64 (m : Int))) (first | exact ⟨j0, j1⟩ | exact ⟨k0, k1⟩ | exact ⟨q0, q1⟩)
    (first
    | (go_at_call 128; have _t := tok1; clear tok1 _t; refine HC1.out.mono ?_; rintro e1 w1 ⟨v1, rfl, hown1, hb1⟩; have hk1 := (show Blk w0.drew _ _ _ from HK0.out).below hb1 HK0.out.lt; have k0 := hk1.cell 0; have k1 := hk1.cell 1; simp only [List.getElem?_toArray, List.getElem?_cons_zero, List.getElem?_cons_succ] at k0 k1; have HK1 := Lib.hid hk1; have HO1 : Hid (w1.ownsRow w0.heap.size 5 1 v1 (Cm.enc n).length (BVs (Cm.enc n))) := Lib.hid hown1; have HB1 := Lib.hid hb1; clear hk1 hown1 hb1)
    | (go_at_call 128; refine (HC2.out _ _ HO1.out).mono ?_; rintro e2 w2 ⟨v2, rfl, hown2, hb2⟩; have hk2 := HK1.out.below hb2 HK1.out.lt; have q0 := hk2.cell 0; have q1 := hk2.cell 1; simp only [List.getElem?_toArray, List.getElem?_cons_zero, List.getElem?_cons_succ] at q0 q1; have HO2 := Lib.hid hown2; have HB2 := Lib.hid hb2; clear hk2 hown2 hb2))
  all_goals
    go_wp2_with fail
    go_ret
    have b1 : Below w0.heap.size w0 w1 := Ga.below_of_drew HB1.out
    refine ⟨v2, rfl, ?_, HW0.out.trans ((b1.trans (HB2.out.mono b1.size)).mono HW0.out.size)⟩
    rw [HR.out]
    exact own_base HO2.out (Nat.le_trans HW0.out.size b1.size)

set_option maxRecDepth 100000 in
set_option maxHeartbeats 1000000 in
theorem put_no (z : Int) (hz : z ≠ 0) (F : Value) (Y : Nat → Prop) (vb : Value) (nb : Nat) (b : List UInt8) (w : World) (hb : Sl w Y 1 vb nb (BVs b)) (hbl : b.length ≤ 140737488351232) :
    Calls Tryz.prog 108 #[vb, .int .i64 z, F] w fun e w' => Made w 5 b e w' := by
  have hnb := sl_len hb
  subst hnb
  have hd : (z != 0) = true := by simpa using hz
  have hd2 : (z == 0) = false := by simpa using hz
  have HC := Lib.hid (Qa.sclb_any Y vb b.length b w hb (by omega))
  clear hz hb
  go_enter Tryz.func108, Tryz.ntmps108
  go_wp2_with fail
  refine HC.out.mono ?_
  rintro e w1 ⟨v1, rfl, hown1, hb1⟩
  have HO := Lib.hid hown1
  have HB := Lib.hid hb1
  clear hown1 hb1
  go_wp2_with fail
  go_ret
  exact ⟨v1, rfl, HO.out, HB.out⟩

set_option maxRecDepth 100000 in
set_option maxHeartbeats 1000000 in
theorem put_sign (arg : Value) (l : List UInt8) (hll : l.length ≤ 4090) (Y : Nat → Prop) (vb : Value) (nb : Nat) (b : List UInt8) (w : World) (hb : Sl w Y 1 vb nb (BVs b)) (hbl : b.length ≤ 140737488351232)
    (HF : Hid (Calls Tryz.prog 147 #[arg] w fun e w' => Made w 5 l e w')) :
    Calls Tryz.prog 108 #[vb, .int .i64 0, .func (.func 147) #[arg] #[]] w fun e w' => Made w 5 (b ++ l) e w' := by
  have hnb := sl_len hb
  subst hnb
  have HSB := Lib.hid hb
  obtain ⟨Ab, cb, rfl, -⟩ := hb
  have HLL := Lib.hid hll
  have HBL := Lib.hid hbl
  clear hll hbl
  go_enter Tryz.func108, Tryz.ntmps108
  go_wp2_with fail
  refine HF.out.mono ?_
  rintro e w2 ⟨v2, rfl, hown2, hb2⟩
  obtain ⟨A2, c2, rfl⟩ := own_shape hown2
  have HB2 := Lib.hid hb2
  have HL : Hid (Ls (w2.alloc (.cells #[.slice Ab b.length cb, .slice A2 l.length c2] 32)) (fun _ => False) (.slice (some ⟨w2.heap.size, 0, none⟩) 2 2) [b, l]) := Lib.hid (two_new ((HSB.out.after HB2.out).weaken (fun _ _ h => h.elim)) (Sl.of_own hown2 (fun _ _ _ h => h)) (fun h => h))
  have HB3 : Hid (Below w.heap.size w (w2.alloc (.cells #[.slice Ab b.length cb, .slice A2 l.length c2] 32))) := Lib.hid (HB2.out.alloc HB2.out.size _)
  clear hown2 hb2
  go_wp2_with fail
  refine (concat_any _ _ _ _ [b, l] HL.out (by simp) (by simp; have := HLL.out; have := HBL.out; omega)).mono ?_
  rintro e w4 ⟨v4, rfl, hown4, hb4⟩
  have HO4 := Lib.hid hown4
  have HB4 := Lib.hid (HB3.out.trans (hb4.mono HB3.out.size))
  clear hown4 hb4
  go_wp2_with fail
  go_ret
  refine ⟨v4, rfl, ?_, HB4.out⟩
  have := own_base HO4.out HB3.out.size
  simpa using this

set_option maxRecDepth 100000 in
set_option maxHeartbeats 1000000 in
theorem put_list (arg : Value) (l : List UInt8) (hll : l.length ≤ 4090) (Y : Nat → Prop) (vb : Value) (nb : Nat) (b : List UInt8) (w : World) (hb : Sl w Y 1 vb nb (BVs b)) (hbl : b.length ≤ 140737488351232)
    (HF : Hid (Calls Tryz.prog 109 #[arg] w fun e w' => Made w 5 l e w')) :
    Calls Tryz.prog 108 #[vb, .int .i64 0, .func (.func 109) #[arg] #[]] w fun e w' => Made w 5 (b ++ l) e w' := by
  have hnb := sl_len hb
  subst hnb
  have HSB := Lib.hid hb
  obtain ⟨Ab, cb, rfl, -⟩ := hb
  have HLL := Lib.hid hll
  have HBL := Lib.hid hbl
  clear hll hbl
  go_enter Tryz.func108, Tryz.ntmps108
  go_wp2_with fail
  refine HF.out.mono ?_
  rintro e w2 ⟨v2, rfl, hown2, hb2⟩
  obtain ⟨A2, c2, rfl⟩ := own_shape hown2
  have HB2 := Lib.hid hb2
  have HL : Hid (Ls (w2.alloc (.cells #[.slice Ab b.length cb, .slice A2 l.length c2] 32)) (fun _ => False) (.slice (some ⟨w2.heap.size, 0, none⟩) 2 2) [b, l]) := Lib.hid (two_new ((HSB.out.after HB2.out).weaken (fun _ _ h => h.elim)) (Sl.of_own hown2 (fun _ _ _ h => h)) (fun h => h))
  have HB3 : Hid (Below w.heap.size w (w2.alloc (.cells #[.slice Ab b.length cb, .slice A2 l.length c2] 32))) := Lib.hid (HB2.out.alloc HB2.out.size _)
  clear hown2 hb2
  go_wp2_with fail
  refine (concat_any _ _ _ _ [b, l] HL.out (by simp) (by simp; have := HLL.out; have := HBL.out; omega)).mono ?_
  rintro e w4 ⟨v4, rfl, hown4, hb4⟩
  have HO4 := Lib.hid hown4
  have HB4 := Lib.hid (HB3.out.trans (hb4.mono HB3.out.size))
  clear hown4 hb4
  go_wp2_with fail
  go_ret
  refine ⟨v4, rfl, ?_, HB4.out⟩
  have := own_base HO4.out HB3.out.size
  simpa using this

set_option maxRecDepth 100000 in
set_option maxHeartbeats 2000000 in
theorem putsign_any (s : Int × Int) (Y : Nat → Prop) (vb : Value) (nb : Nat) (b : List UInt8) (w : World) (hb : Sl w Y 1 vb nb (BVs b)) (hbl : b.length ≤ 140737488351232) :
    Calls Tryz.prog 129 #[vb, GV s] w fun e w' => Made w 5 (b ++ sform s) e w' := by
  obtain ⟨k, d⟩ := s
  have hw0 : Below w.heap.size w (w.alloc (.cells #[.int .i64 k, .int .i64 d] 36)) := op_below w _
  have hk0 : Blk (w.alloc (.cells #[.int .i64 k, .int .i64 d] 36)) w.heap.size 36 #[.int .i64 k, .int .i64 d] := Blk.new _ _ _
  have HSB := Lib.hid hb
  have HBL := Lib.hid hbl
  have HCK := fun W : World => Lib.hid (csign_any (k, d) W)
  have HP : Hid (∀ W : World, Below w.heap.size w W → Calls Tryz.prog 108 #[vb, .int .i64 (scheck (k, d)), .func (.func 147) #[GV (k, d)] #[]] W fun e w' => Made W 5 (b ++ sform (k, d)) e w') := Lib.hid fun W hW => by
    by_cases hs : scheck (k, d) = 0
    · rw [hs, sform_eq hs]
      have := sraw_len hs
      exact put_sign _ _ (by omega) Y vb nb b W (HSB.out.after hW) HBL.out (Lib.hid (sform_any _ hs W))
    · have : sform (k, d) = [] := by rw [sform, if_pos hs]
      rw [this, List.append_nil]
      exact put_no _ hs _ Y vb nb b W (HSB.out.after hW) HBL.out
  clear hb hbl
  unfold GV at HCK HP ⊢
  simp only at HCK HP ⊢
  generalize sform (k, d) = f at *
  go_enter Tryz.func129, Tryz.ntmps129
  go_wp2_with fail
  generalize w.alloc (.cells #[.int .i64 k, .int .i64 d] 36) = w0 at hw0 hk0 ⊢
  have j0 := hk0.cell 0
  have j1 := hk0.cell 1
  simp only [List.getElem?_toArray, List.getElem?_cons_zero, List.getElem?_cons_succ] at j0 j1
  have HK0 := Lib.hid hk0
  have HW0 := Lib.hid hw0
  clear hk0 hw0
  go_region_held3 (fun w' => w'.cell? ⟨w.heap.size, 0, none⟩ = some (.int .i64 k) ∧ w'.cell? ⟨w.heap.size, 1, none⟩ = some (.int .i64 d)) (first | exact ⟨j0, j1⟩ | exact ⟨k0, k1⟩ | exact ⟨q0, q1⟩)
    (first
    | (go_at_call 140; refine (HCK _).out.mono ?_; rintro e1 w1 ⟨rfl, hb1⟩; have hk1 := (show Blk w0.drew _ _ _ from HK0.out).below hb1 HK0.out.lt; have k0 := hk1.cell 0; have k1 := hk1.cell 1; simp only [List.getElem?_toArray, List.getElem?_cons_zero, List.getElem?_cons_succ] at k0 k1; have HK1 := Lib.hid hk1; have HB1 := Lib.hid (HW0.out.trans ((Ga.below_of_drew hb1).mono HW0.out.size)); clear hk1 hb1)
    | (go_at_call 108; refine (HP.out _ HB1.out).mono ?_; rintro e2 w2 ⟨v2, rfl, hown2, hb2⟩; have hk2 := HK1.out.below hb2 HK1.out.lt; have q0 := hk2.cell 0; have q1 := hk2.cell 1; simp only [List.getElem?_toArray, List.getElem?_cons_zero, List.getElem?_cons_succ] at q0 q1; have HO2 := Lib.hid (own_base hown2 HB1.out.size); have HB2 := Lib.hid (HB1.out.trans (hb2.mono HB1.out.size)); clear hk2 hown2 hb2))
  all_goals
    go_wp2_with fail
    go_ret
    exact ⟨v2, rfl, HO2.out, HB2.out⟩

set_option maxRecDepth 100000 in
set_option maxHeartbeats 2000000 in
theorem rputsign_any (s : Int × Int) (Y : Nat → Prop) (vb : Value) (nb : Nat) (b : List UInt8) (w : World) (hb : Sl w Y 1 vb nb (BVs b)) (hbl : b.length ≤ 140737488355313) :
    Calls Tryz.prog 89 #[vb, GV s] w (Behind w Y (b ++ sform s)) := by
  have hnb := sl_len hb
  subst hnb
  obtain ⟨k, d⟩ := s
  have hw0 : Below w.heap.size w (w.alloc (.cells #[.int .i64 k, .int .i64 d] 36)) := op_below w _
  have hk0 : Blk (w.alloc (.cells #[.int .i64 k, .int .i64 d] 36)) w.heap.size 36 #[.int .i64 k, .int .i64 d] := Blk.new _ _ _
  have HSB := Lib.hid hb
  have HBL := Lib.hid hbl
  have HCK := fun W : World => Lib.hid (rcsign_any (k, d) W)
  have j0 := hk0.cell 0
  have j1 := hk0.cell 1
  simp only [List.getElem?_toArray, List.getElem?_cons_zero, List.getElem?_cons_succ] at j0 j1
  have HK0 := Lib.hid hk0
  have HW0 := Lib.hid hw0
  clear hb hbl hk0 hw0
  unfold GV at HCK ⊢
  simp only at HCK ⊢
  by_cases hs : scheck (k, d) = 0
  · rw [hs] at HCK
    have HSF := Lib.hid (sform_eq hs)
    obtain ⟨⟨k1, k2⟩, ⟨d1, d2⟩⟩ := scheck_ok hs
    simp only at k1 k2 d1 d2
    clear hs
    obtain ⟨n, rfl⟩ := Int.eq_ofNat_of_zero_le k1
    obtain ⟨m, rfl⟩ := Int.eq_ofNat_of_zero_le (show 0 ≤ d by omega)
    have hwn := wrap_u64' n (by omega)
    have hwm := wrap_u64' m (by omega)
    have hn1 : n < 21 := by omega
    have HM1 : Hid (m ≤ 9007199254740992) := Lib.hid (by omega)
    have HR : Hid (sraw ((n : Int), (m : Int)) = Cm.enc n ++ Cm.enc m) := Lib.hid rfl
    clear k1 k2 d1 d2
    go_enter Tryz.func89, Tryz.ntmps89
    go_wp2_with fail
    generalize w.alloc (.cells #[.int .i64 (n : Int), .int .i64 (m : Int)] 36) = w0 at *
    refine (HCK _).out.mono ?_
    rintro e w1 ⟨rfl, hb1⟩
    have HK1 := Lib.hid (HK0.out.below hb1 HK0.out.lt)
    have HW1 := Lib.hid (HW0.out.trans (hb1.mono HW0.out.size))
    clear hb1 j0 j1
    have j0 := HK1.out.cell 0
    have j1 := HK1.out.cell 1
    simp only [List.getElem?_toArray, List.getElem?_cons_zero, List.getElem?_cons_succ] at j0 j1
    go_wp2_with fail
    have ln := enc_1 (n := n) (by omega)
    have HC1 := Lib.hid (rputnum_any Y vb b.length b n w1.drew (HSB.out.after (below_drewN HW1.out 1)) (by have := HBL.out; omega) (by omega))
    have HC2 : Hid (∀ w2 v1, w2.ownsRow w1.heap.size 5 1 v1 (b ++ Cm.enc n).length (BVs (b ++ Cm.enc n)) → Calls Tryz.prog 88 #[v1, .int .u64 (m : Int)] w2 fun e w' => Made w2 5 (b ++ Cm.enc n ++ Cm.enc m) e w') := Lib.hid fun w2 v1 ho => rputnum_any (fun _ => False) v1 _ (b ++ Cm.enc n) m w2 (Sl.of_own ho (fun _ _ _ h => h)) (by rw [List.length_append]; have := HBL.out; omega) (by have := HM1.out; omega)
    have tok1 : True := trivial
    go_region_held3 (fun w' => w'.cell? ⟨w.heap.size, 0, none⟩ = some (.int .i64 (n : Int)) ∧ w'.cell? ⟨w.heap.size, 1, none⟩ = some (.int .i64 (m : Int))) (first | exact ⟨j0, j1⟩ | exact ⟨k0, k1⟩ | exact ⟨q0, q1⟩)
      (first
      | (go_at_call 88; have _t := tok1; clear tok1 _t; refine HC1.out.mono ?_; rintro e1 w2 ⟨v1, rfl, hown1, hb1⟩; have hk1 := (show Blk w1.drew _ _ _ from HK1.out).below hb1 HK1.out.lt; have k0 := hk1.cell 0; have k1 := hk1.cell 1; simp only [List.getElem?_toArray, List.getElem?_cons_zero, List.getElem?_cons_succ] at k0 k1; have HK2 := Lib.hid hk1; have HO1 := Lib.hid hown1; have HB1 := Lib.hid hb1; clear hk1 hown1 hb1)
      | (go_at_call 88; refine (HC2.out _ _ HO1.out).mono ?_; rintro e2 w3 ⟨v2, rfl, hown2, hb2⟩; have hk2 := HK2.out.below hb2 HK2.out.lt; have q0 := hk2.cell 0; have q1 := hk2.cell 1; simp only [List.getElem?_toArray, List.getElem?_cons_zero, List.getElem?_cons_succ] at q0 q1; have HO2 := Lib.hid hown2; have HB2 := Lib.hid hb2; clear hk2 hown2 hb2))
    all_goals
      go_wp2_with fail
      go_ret
      have b1 : Below w1.heap.size w1 w2 := Ga.below_of_drew HB1.out
      refine behind_of (Made.of_parts (v := v2) ?_ (HW1.out.trans ((b1.trans (HB2.out.mono b1.size)).mono HW1.out.size)))
      rw [HSF.out, HR.out, ← List.append_assoc]
      exact own_base HO2.out (Nat.le_trans HW1.out.size b1.size)
  · have hd : (scheck (k, d) != 0) = true := by simpa using hs
    have hd2 : (scheck (k, d) == 0) = false := by simpa using hs
    have HSF : Hid (sform (k, d) = []) := Lib.hid (by rw [sform, if_pos hs])
    clear hs
    go_enter Tryz.func89, Tryz.ntmps89
    go_wp2_with fail
    refine (HCK _).out.mono ?_
    rintro e w1 ⟨rfl, hb1⟩
    have HW1 := Lib.hid (HW0.out.trans (hb1.mono HW0.out.size))
    clear hb1
    go_wp2_with fail
    go_ret
    refine ⟨vb, rfl, ?_, HW1.out⟩
    rw [HSF.out, List.append_nil]
    exact (HSB.out.after HW1.out).weaken (fun _ _ h => h.1)
end Go.Proofs.YtmhmnkpaijoaaaaGreat.Jd

/-
  Layer 6 (op): the contract of holdMore, kind by kind.
-/
import Derived.Test.YtmhmnkpaijoaaaaGreatQ02
namespace Go.Proofs.YtmhmnkpaijoaaaaGreat.Pf
set_option linter.unusedSimpArgs false
open Go Go.RowKit Ck Kw Pm Pa Pe
set_option linter.unusedVariables false

set_option maxHeartbeats 2000000 in
theorem more_0 (o : O) (A : Option Addr) (c : Nat) (hk : o.kind = 0) (w : World) (hl : o.recs.length ≤ 140737488355328) :
    Calls Tryz.prog 175 #[FV 0, OV o A c] w fun e w' => e = .returned (.bool (more o)) ∧ Below w.heap.size w w' := by
  have hF : FV 0 = .agg #[.bool false, .bool false, .bool false, .bool false] := rfl
  rw [hF]
  have hm : more o = ((!hasT 0 && !o.topic.isEmpty) || (!hasG 0 && !o.group.isEmpty) || (!hasO 0 && (o.off != 0)) || (!hasR 0 && !o.recs.isEmpty)) := by rw [more, hk]
  have hT : hasT 0 = false := rfl
  have hG : hasG 0 = false := rfl
  have hO : hasO 0 = false := rfl
  have hR : hasR 0 = false := rfl
  rw [hm, hT, hG, hO, hR]
  clear hm hT hG hO hR hF
  obtain ⟨kind, topic, group, off, recs⟩ := o
  simp only at hk hl ⊢
  unfold OV
  simp only
  subst hk
  by_cases h_topic : topic.isEmpty = true
  · have e_topic := List.isEmpty_iff.1 h_topic
    subst e_topic
    clear h_topic
    by_cases h_group : group.isEmpty = true
    · have e_group := List.isEmpty_iff.1 h_group
      subst e_group
      clear h_group
      by_cases h_off : off = 0
      · subst h_off
        by_cases h_recs : recs.isEmpty = true
        · have e_recs := List.isEmpty_iff.1 h_recs
          subst e_recs
          clear h_recs
          go_enter Tryz.func175, Tryz.ntmps175
          go_wp2
          go_ret
          exact ⟨by simp_all, ((Below.refl _ w).alloc (Nat.le_refl _) _).alloc (by simp) _⟩
        · have e_recs := Bool.eq_false_iff.2 h_recs
          have p_recs : 0 < recs.length := by cases recs with | nil => exact absurd rfl h_recs | cons _ _ => simp
          clear h_recs
          go_enter Tryz.func175, Tryz.ntmps175
          go_wp2
          go_ret
          exact ⟨by simp_all, ((Below.refl _ w).alloc (Nat.le_refl _) _).alloc (by simp) _⟩
      · have e_off : (off == 0) = false := beq_eq_false_iff_ne.2 h_off
        have n_off : (off != 0) = true := by rw [bne, e_off]; rfl
        clear h_off
        go_enter Tryz.func175, Tryz.ntmps175
        go_wp2
        go_ret
        exact ⟨by simp_all, ((Below.refl _ w).alloc (Nat.le_refl _) _).alloc (by simp) _⟩
    · have e_group := Bool.eq_false_iff.2 h_group
      clear h_group
      go_enter Tryz.func175, Tryz.ntmps175
      go_wp2
      go_ret
      exact ⟨by simp_all, ((Below.refl _ w).alloc (Nat.le_refl _) _).alloc (by simp) _⟩
  · have e_topic := Bool.eq_false_iff.2 h_topic
    clear h_topic
    go_enter Tryz.func175, Tryz.ntmps175
    go_wp2
    go_ret
    exact ⟨by simp_all, ((Below.refl _ w).alloc (Nat.le_refl _) _).alloc (by simp) _⟩

set_option maxHeartbeats 2000000 in
theorem more_1 (o : O) (A : Option Addr) (c : Nat) (hk : o.kind = 1) (w : World) (hl : o.recs.length ≤ 140737488355328) :
    Calls Tryz.prog 175 #[FV 1, OV o A c] w fun e w' => e = .returned (.bool (more o)) ∧ Below w.heap.size w w' := by
  have hF : FV 1 = .agg #[.bool true, .bool false, .bool false, .bool false] := rfl
  rw [hF]
  have hm : more o = ((!hasT 1 && !o.topic.isEmpty) || (!hasG 1 && !o.group.isEmpty) || (!hasO 1 && (o.off != 0)) || (!hasR 1 && !o.recs.isEmpty)) := by rw [more, hk]
  have hT : hasT 1 = true := rfl
  have hG : hasG 1 = false := rfl
  have hO : hasO 1 = false := rfl
  have hR : hasR 1 = false := rfl
  rw [hm, hT, hG, hO, hR]
  clear hm hT hG hO hR hF
  obtain ⟨kind, topic, group, off, recs⟩ := o
  simp only at hk hl ⊢
  unfold OV
  simp only
  subst hk
  by_cases h_group : group.isEmpty = true
  · have e_group := List.isEmpty_iff.1 h_group
    subst e_group
    clear h_group
    by_cases h_off : off = 0
    · subst h_off
      by_cases h_recs : recs.isEmpty = true
      · have e_recs := List.isEmpty_iff.1 h_recs
        subst e_recs
        clear h_recs
        go_enter Tryz.func175, Tryz.ntmps175
        go_wp2
        go_ret
        exact ⟨by simp_all, ((Below.refl _ w).alloc (Nat.le_refl _) _).alloc (by simp) _⟩
      · have e_recs := Bool.eq_false_iff.2 h_recs
        have p_recs : 0 < recs.length := by cases recs with | nil => exact absurd rfl h_recs | cons _ _ => simp
        clear h_recs
        go_enter Tryz.func175, Tryz.ntmps175
        go_wp2
        go_ret
        exact ⟨by simp_all, ((Below.refl _ w).alloc (Nat.le_refl _) _).alloc (by simp) _⟩
    · have e_off : (off == 0) = false := beq_eq_false_iff_ne.2 h_off
      have n_off : (off != 0) = true := by rw [bne, e_off]; rfl
      clear h_off
      go_enter Tryz.func175, Tryz.ntmps175
      go_wp2
      go_ret
      exact ⟨by simp_all, ((Below.refl _ w).alloc (Nat.le_refl _) _).alloc (by simp) _⟩
  · have e_group := Bool.eq_false_iff.2 h_group
    clear h_group
    go_enter Tryz.func175, Tryz.ntmps175
    go_wp2
    go_ret
    exact ⟨by simp_all, ((Below.refl _ w).alloc (Nat.le_refl _) _).alloc (by simp) _⟩

set_option maxHeartbeats 2000000 in
theorem more_2 (o : O) (A : Option Addr) (c : Nat) (hk : o.kind = 2) (w : World) (hl : o.recs.length ≤ 140737488355328) :
    Calls Tryz.prog 175 #[FV 2, OV o A c] w fun e w' => e = .returned (.bool (more o)) ∧ Below w.heap.size w w' := by
  have hF : FV 2 = .agg #[.bool true, .bool false, .bool false, .bool true] := rfl
  rw [hF]
  have hm : more o = ((!hasT 2 && !o.topic.isEmpty) || (!hasG 2 && !o.group.isEmpty) || (!hasO 2 && (o.off != 0)) || (!hasR 2 && !o.recs.isEmpty)) := by rw [more, hk]
  have hT : hasT 2 = true := rfl
  have hG : hasG 2 = false := rfl
  have hO : hasO 2 = false := rfl
  have hR : hasR 2 = true := rfl
  rw [hm, hT, hG, hO, hR]
  clear hm hT hG hO hR hF
  obtain ⟨kind, topic, group, off, recs⟩ := o
  simp only at hk hl ⊢
  unfold OV
  simp only
  subst hk
  by_cases h_group : group.isEmpty = true
  · have e_group := List.isEmpty_iff.1 h_group
    subst e_group
    clear h_group
    by_cases h_off : off = 0
    · subst h_off
      go_enter Tryz.func175, Tryz.ntmps175
      go_wp2
      go_ret
      exact ⟨by simp_all, ((Below.refl _ w).alloc (Nat.le_refl _) _).alloc (by simp) _⟩
    · have e_off : (off == 0) = false := beq_eq_false_iff_ne.2 h_off
      have n_off : (off != 0) = true := by rw [bne, e_off]; rfl
      clear h_off
      go_enter Tryz.func175, Tryz.ntmps175
      go_wp2
      go_ret
      exact ⟨by simp_all, ((Below.refl _ w).alloc (Nat.le_refl _) _).alloc (by simp) _⟩
  · have e_group := Bool.eq_false_iff.2 h_group
    clear h_group
    go_enter Tryz.func175, Tryz.ntmps175
    go_wp2
    go_ret
    exact ⟨by simp_all, ((Below.refl _ w).alloc (Nat.le_refl _) _).alloc (by simp) _⟩

set_option maxHeartbeats 2000000 in
theorem more_3 (o : O) (A : Option Addr) (c : Nat) (hk : o.kind = 3) (w : World) (hl : o.recs.length ≤ 140737488355328) :
    Calls Tryz.prog 175 #[FV 3, OV o A c] w fun e w' => e = .returned (.bool (more o)) ∧ Below w.heap.size w w' := by
  have hF : FV 3 = .agg #[.bool true, .bool true, .bool true, .bool false] := rfl
  rw [hF]
  have hm : more o = ((!hasT 3 && !o.topic.isEmpty) || (!hasG 3 && !o.group.isEmpty) || (!hasO 3 && (o.off != 0)) || (!hasR 3 && !o.recs.isEmpty)) := by rw [more, hk]
  have hT : hasT 3 = true := rfl
  have hG : hasG 3 = true := rfl
  have hO : hasO 3 = true := rfl
  have hR : hasR 3 = false := rfl
  rw [hm, hT, hG, hO, hR]
  clear hm hT hG hO hR hF
  obtain ⟨kind, topic, group, off, recs⟩ := o
  simp only at hk hl ⊢
  unfold OV
  simp only
  subst hk
  by_cases h_recs : recs.isEmpty = true
  · have e_recs := List.isEmpty_iff.1 h_recs
    subst e_recs
    clear h_recs
    go_enter Tryz.func175, Tryz.ntmps175
    go_wp2
    go_ret
    exact ⟨by simp_all, ((Below.refl _ w).alloc (Nat.le_refl _) _).alloc (by simp) _⟩
  · have e_recs := Bool.eq_false_iff.2 h_recs
    have p_recs : 0 < recs.length := by cases recs with | nil => exact absurd rfl h_recs | cons _ _ => simp
    clear h_recs
    go_enter Tryz.func175, Tryz.ntmps175
    go_wp2
    go_ret
    exact ⟨by simp_all, ((Below.refl _ w).alloc (Nat.le_refl _) _).alloc (by simp) _⟩

set_option maxHeartbeats 2000000 in
theorem more_4 (o : O) (A : Option Addr) (c : Nat) (hk : o.kind = 4) (w : World) (hl : o.recs.length ≤ 140737488355328) :
    Calls Tryz.prog 175 #[FV 4, OV o A c] w fun e w' => e = .returned (.bool (more o)) ∧ Below w.heap.size w w' := by
  have hF : FV 4 = .agg #[.bool true, .bool false, .bool true, .bool false] := rfl
  rw [hF]
  have hm : more o = ((!hasT 4 && !o.topic.isEmpty) || (!hasG 4 && !o.group.isEmpty) || (!hasO 4 && (o.off != 0)) || (!hasR 4 && !o.recs.isEmpty)) := by rw [more, hk]
  have hT : hasT 4 = true := rfl
  have hG : hasG 4 = false := rfl
  have hO : hasO 4 = true := rfl
  have hR : hasR 4 = false := rfl
  rw [hm, hT, hG, hO, hR]
  clear hm hT hG hO hR hF
  obtain ⟨kind, topic, group, off, recs⟩ := o
  simp only at hk hl ⊢
  unfold OV
  simp only
  subst hk
  by_cases h_group : group.isEmpty = true
  · have e_group := List.isEmpty_iff.1 h_group
    subst e_group
    clear h_group
    by_cases h_recs : recs.isEmpty = true
    · have e_recs := List.isEmpty_iff.1 h_recs
      subst e_recs
      clear h_recs
      go_enter Tryz.func175, Tryz.ntmps175
      go_wp2
      go_ret
      exact ⟨by simp_all, ((Below.refl _ w).alloc (Nat.le_refl _) _).alloc (by simp) _⟩
    · have e_recs := Bool.eq_false_iff.2 h_recs
      have p_recs : 0 < recs.length := by cases recs with | nil => exact absurd rfl h_recs | cons _ _ => simp
      clear h_recs
      go_enter Tryz.func175, Tryz.ntmps175
      go_wp2
      go_ret
      exact ⟨by simp_all, ((Below.refl _ w).alloc (Nat.le_refl _) _).alloc (by simp) _⟩
  · have e_group := Bool.eq_false_iff.2 h_group
    clear h_group
    go_enter Tryz.func175, Tryz.ntmps175
    go_wp2
    go_ret
    exact ⟨by simp_all, ((Below.refl _ w).alloc (Nat.le_refl _) _).alloc (by simp) _⟩

end Go.Proofs.YtmhmnkpaijoaaaaGreat.Pf

/-
  Layer 6 (op): the contract of Check, kind by kind.
-/
namespace Go.Proofs.YtmhmnkpaijoaaaaGreat.Pg
set_option linter.unusedSimpArgs false
open Go Go.RowKit Ck Kw Pm Pa Pe Pf
set_option linter.unusedVariables false

/-- An operation's cells. -/
def OC (o : O) (A : Option Addr) (c : Nat) : Array Value := #[.int .i64 o.kind, .string ⟨o.topic.toArray⟩, .string ⟨o.group.toArray⟩, .int .i64 o.off, .slice A o.recs.length c]
/-- The operation in block g. -/
def OB (W : World) (g : Nat) (o : O) (A : Option Addr) (c : Nat) : Prop := Blk W g 109 (OC o A c)
theorem OB.cells {W : World} {g : Nat} {o : O} {A : Option Addr} {c : Nat} (h : OB W g o A c) :
    W.cell? ⟨g, 0, none⟩ = some (.int .i64 o.kind) ∧ W.cell? ⟨g, 1, none⟩ = some (.string ⟨o.topic.toArray⟩) ∧ W.cell? ⟨g, 2, none⟩ = some (.string ⟨o.group.toArray⟩) ∧ W.cell? ⟨g, 3, none⟩ = some (.int .i64 o.off) ∧ W.cell? ⟨g, 4, none⟩ = some (.slice A o.recs.length c) :=
  ⟨Blk.cell h 0, Blk.cell h 1, Blk.cell h 2, Blk.cell h 3, Blk.cell h 4⟩
/-- The fields of a kind in block g. -/
def FB (W : World) (g : Nat) (k : Int) : Prop := Blk W g 237 #[.bool (hasT k), .bool (hasG k), .bool (hasO k), .bool (hasR k)]
theorem FB.cells {W : World} {g : Nat} {k : Int} (h : FB W g k) : W.cell? ⟨g, 0, none⟩ = some (.bool (hasT k)) ∧ W.cell? ⟨g, 1, none⟩ = some (.bool (hasG k)) ∧ W.cell? ⟨g, 2, none⟩ = some (.bool (hasO k)) ∧ W.cell? ⟨g, 3, none⟩ = some (.bool (hasR k)) :=
  ⟨Blk.cell h 0, Blk.cell h 1, Blk.cell h 2, Blk.cell h 3⟩
/-- Both stand there, beside what was there. -/
structure CK (w0 : World) (g1 g3 : Nat) (o : O) (A : Option Addr) (c : Nat) (W : World) : Prop where
  below : Below w0.heap.size w0 W
  op : OB W g1 o A c
  fields : FB W g3 o.kind
theorem CK.later {w0 W W' : World} {g1 g3 : Nat} {o : O} {A : Option Addr} {c : Nat} (h : CK w0 g1 g3 o A c W) (b : Below W.heap.size W W') : CK w0 g1 g3 o A c W' :=
  ⟨h.below.trans (b.mono h.below.size), Blk.below h.op b (Blk.lt h.op), Blk.below h.fields b (Blk.lt h.fields)⟩
theorem ck_start {w w2 : World} {o : O} {A : Option Addr} {c : Nat} (b : Below (w.alloc (.cells (OC o A c) 109)).heap.size (w.alloc (.cells (OC o A c) 109)) w2) :
    CK w w.heap.size w2.heap.size o A c (w2.alloc (.cells #[.bool (hasT o.kind), .bool (hasG o.kind), .bool (hasO o.kind), .bool (hasR o.kind)] 237)) := by
  have b0 : Below w.heap.size w (w.alloc (.cells (OC o A c) 109)) := (Below.refl _ w).alloc (Nat.le_refl _) _
  have b1 : Below w.heap.size w w2 := b0.trans (b.mono b0.size)
  refine ⟨b1.alloc b1.size _, ?_, Blk.new w2 _ _⟩
  have h1 : OB (w.alloc (.cells (OC o A c) 109)) w.heap.size o A c := Blk.new w _ _
  have h2 : OB w2 w.heap.size o A c := Blk.below h1 b (Blk.lt h1)
  exact Blk.alloc h2 _

set_option maxRecDepth 100000 in
set_option maxHeartbeats 2000000 in
theorem check_none (o : O) (A : Option Addr) (c : Nat) (hk : known o.kind = false) (w : World) :
    Calls Tryz.prog 159 #[OV o A c] w fun e w' => e = .returned (.int .i64 (check o)) ∧ Below w.heap.size w w' := by
  have hc : check o = 60 := by simp [check, hk]
  rw [hc]
  have HK := Lib.hid hk
  clear hc hk
  obtain ⟨kind, topic, group, off, recs⟩ := o
  unfold OV
  simp only at HK ⊢
  go_enter Tryz.func159, Tryz.ntmps159
  go_wp2_with fail
  refine (fields_any kind _).mono ?_
  rintro e w2 ⟨he, hb2⟩
  rw [HK.out] at he
  subst he
  have HC := Lib.hid (ck_start (o := ⟨kind, topic, group, off, recs⟩) hb2)
  clear hb2
  unfold FV
  go_wp2_with fail
  go_ret
  exact ⟨rfl, HC.out.below⟩

set_option maxRecDepth 100000 in
set_option maxHeartbeats 4000000 in
theorem check_0 (o : O) (A : Option Addr) (c : Nat) (X : Nat → Prop) (hk : o.kind = 0) (w : World) (hl : o.recs.length ≤ 140737488355328) (hls : Ls w X (.slice A o.recs.length c) o.recs) :
    Calls Tryz.prog 159 #[OV o A c] w fun e w' => e = .returned (.int .i64 (check o)) ∧ Below w.heap.size w w' := by
  have HM := fun W => Lib.hid (more_0 o A c hk W hl)
  obtain ⟨kind, topic, group, off, recs⟩ := o
  unfold OV at HM ⊢
  simp only at hk hl hls HM ⊢
  subst hk
  have HLS := Lib.hid hls
  have HL := Lib.hid hl
  clear hls hl
  have hF : FV 0 = .agg #[.bool false, .bool false, .bool false, .bool false] := rfl
  rw [hF] at HM
  have HMM := Lib.hid HM
  clear HM
  go_enter Tryz.func159, Tryz.ntmps159
  go_wp2_with fail
  refine (fields_any 0 _).mono ?_
  rintro e w2 ⟨he, hb2⟩
  have he : e = .returned (.tuple #[.agg #[.bool false, .bool false, .bool false, .bool false], .bool true]) := he
  subst he
  have HC := Lib.hid (ck_start (o := ⟨0, topic, group, off, recs⟩) hb2)
  have HC : Hid (CK w w.heap.size w2.heap.size ⟨0, topic, group, off, recs⟩ A c (w2.alloc (.cells #[.bool false, .bool false, .bool false, .bool false] 237))) := HC
  clear hb2 hF
  obtain ⟨a0, a1, a2, a3, a4⟩ := HC.out.op.cells
  simp only at a0 a1 a2 a3 a4
  go_wp2_with fail
  refine (HMM.out _).out.mono ?_
  clear a0 a1 a2 a3 a4
  rintro e w5 ⟨he, hb⟩
  have HC5 := Lib.hid (HC.out.later hb)
  clear hb
  obtain ⟨a0, a1, a2, a3, a4⟩ := HC5.out.op.cells
  obtain ⟨b0, b1, b2, b3⟩ := HC5.out.fields.cells
  simp only at a0 a1 a2 a3 a4
  have b0 : w5.cell? _ = some (.bool false) := b0
  have b1 : w5.cell? _ = some (.bool false) := b1
  have b2 : w5.cell? _ = some (.bool false) := b2
  have b3 : w5.cell? _ = some (.bool false) := b3
  by_cases hm : more ⟨0, topic, group, off, recs⟩ = true
  · rw [hm] at he
    subst he
    have HX := Lib.hid hm
    clear hm
    go_wp2_with fail
    go_ret
    exact ⟨by rw [show check ⟨0, topic, group, off, recs⟩ = 60 from by simp [check, known, badName, badRecs, badOff, hasT, hasG, hasO, hasR, HX.out]]; rfl, HC5.out.below⟩
  · have hm := Bool.eq_false_iff.2 hm
    rw [hm] at he
    subst he
    have HX := Lib.hid hm
    clear hm
    go_wp2_with fail
    go_ret
    exact ⟨by rw [show check ⟨0, topic, group, off, recs⟩ = 0 from by simp [check, known, badName, badRecs, badOff, hasT, hasG, hasO, hasR, HX.out]]; rfl, HC5.out.below⟩

set_option maxRecDepth 100000 in
set_option maxHeartbeats 4000000 in
theorem check_1 (o : O) (A : Option Addr) (c : Nat) (X : Nat → Prop) (hk : o.kind = 1) (w : World) (hl : o.recs.length ≤ 140737488355328) (hls : Ls w X (.slice A o.recs.length c) o.recs) :
    Calls Tryz.prog 159 #[OV o A c] w fun e w' => e = .returned (.int .i64 (check o)) ∧ Below w.heap.size w w' := by
  have HM := fun W => Lib.hid (more_1 o A c hk W hl)
  obtain ⟨kind, topic, group, off, recs⟩ := o
  unfold OV at HM ⊢
  simp only at hk hl hls HM ⊢
  subst hk
  have HLS := Lib.hid hls
  have HL := Lib.hid hl
  clear hls hl
  have hF : FV 1 = .agg #[.bool true, .bool false, .bool false, .bool false] := rfl
  rw [hF] at HM
  have HMM := Lib.hid HM
  clear HM
  go_enter Tryz.func159, Tryz.ntmps159
  go_wp2_with fail
  refine (fields_any 1 _).mono ?_
  rintro e w2 ⟨he, hb2⟩
  have he : e = .returned (.tuple #[.agg #[.bool true, .bool false, .bool false, .bool false], .bool true]) := he
  subst he
  have HC := Lib.hid (ck_start (o := ⟨1, topic, group, off, recs⟩) hb2)
  have HC : Hid (CK w w.heap.size w2.heap.size ⟨1, topic, group, off, recs⟩ A c (w2.alloc (.cells #[.bool true, .bool false, .bool false, .bool false] 237))) := HC
  clear hb2 hF
  obtain ⟨a0, a1, a2, a3, a4⟩ := HC.out.op.cells
  simp only at a0 a1 a2 a3 a4
  go_wp2_with fail
  refine (HMM.out _).out.mono ?_
  clear a0 a1 a2 a3 a4
  rintro e w5 ⟨he, hb⟩
  have HC5 := Lib.hid (HC.out.later hb)
  clear hb
  obtain ⟨a0, a1, a2, a3, a4⟩ := HC5.out.op.cells
  obtain ⟨b0, b1, b2, b3⟩ := HC5.out.fields.cells
  simp only at a0 a1 a2 a3 a4
  have b0 : w5.cell? _ = some (.bool true) := b0
  have b1 : w5.cell? _ = some (.bool false) := b1
  have b2 : w5.cell? _ = some (.bool false) := b2
  have b3 : w5.cell? _ = some (.bool false) := b3
  by_cases hm : more ⟨1, topic, group, off, recs⟩ = true
  · rw [hm] at he
    subst he
    have HX := Lib.hid hm
    clear hm
    go_wp2_with fail
    go_ret
    exact ⟨by rw [show check ⟨1, topic, group, off, recs⟩ = 60 from by simp [check, known, badName, badRecs, badOff, hasT, hasG, hasO, hasR, HX.out]]; rfl, HC5.out.below⟩
  · have hm := Bool.eq_false_iff.2 hm
    rw [hm] at he
    subst he
    have HX := Lib.hid hm
    clear hm
    go_wp2_with fail
    refine (name_any topic _).mono ?_
    rintro e w6 ⟨he, hb⟩
    have HC6 := Lib.hid (HC5.out.later hb)
    clear hb a0 a1 a2 a3 a4 b0 b1 b2 b3
    obtain ⟨a0, a1, a2, a3, a4⟩ := HC6.out.op.cells
    obtain ⟨b0, b1, b2, b3⟩ := HC6.out.fields.cells
    simp only at a0 a1 a2 a3 a4
    have b0 : w6.cell? _ = some (.bool true) := b0
    have b1 : w6.cell? _ = some (.bool false) := b1
    have b2 : w6.cell? _ = some (.bool false) := b2
    have b3 : w6.cell? _ = some (.bool false) := b3
    by_cases hn : name topic = true
    · rw [hn] at he
      subst he
      have HN_topic := Lib.hid hn
      clear hn
      go_wp2_with fail
      go_ret
      exact ⟨by rw [show check ⟨1, topic, group, off, recs⟩ = 0 from by simp [check, known, badName, badRecs, badOff, hasT, hasG, hasO, hasR, HX.out, HN_topic.out]]; rfl, HC6.out.below⟩
    · have hn := Bool.eq_false_iff.2 hn
      rw [hn] at he
      subst he
      have HN_topic := Lib.hid hn
      clear hn
      go_wp2_with fail
      go_ret
      exact ⟨by rw [show check ⟨1, topic, group, off, recs⟩ = 61 from by simp [check, known, badName, badRecs, badOff, hasT, hasG, hasO, hasR, HX.out, HN_topic.out]]; rfl, HC6.out.below⟩

set_option maxRecDepth 100000 in
set_option maxHeartbeats 4000000 in
theorem check_2 (o : O) (A : Option Addr) (c : Nat) (X : Nat → Prop) (hk : o.kind = 2) (w : World) (hl : o.recs.length ≤ 140737488355328) (hls : Ls w X (.slice A o.recs.length c) o.recs) :
    Calls Tryz.prog 159 #[OV o A c] w fun e w' => e = .returned (.int .i64 (check o)) ∧ Below w.heap.size w w' := by
  have HM := fun W => Lib.hid (more_2 o A c hk W hl)
  obtain ⟨kind, topic, group, off, recs⟩ := o
  unfold OV at HM ⊢
  simp only at hk hl hls HM ⊢
  subst hk
  have HLS := Lib.hid hls
  have HL := Lib.hid hl
  clear hls hl
  have hF : FV 2 = .agg #[.bool true, .bool false, .bool false, .bool true] := rfl
  rw [hF] at HM
  have HMM := Lib.hid HM
  clear HM
  go_enter Tryz.func159, Tryz.ntmps159
  go_wp2_with fail
  refine (fields_any 2 _).mono ?_
  rintro e w2 ⟨he, hb2⟩
  have he : e = .returned (.tuple #[.agg #[.bool true, .bool false, .bool false, .bool true], .bool true]) := he
  subst he
  have HC := Lib.hid (ck_start (o := ⟨2, topic, group, off, recs⟩) hb2)
  have HC : Hid (CK w w.heap.size w2.heap.size ⟨2, topic, group, off, recs⟩ A c (w2.alloc (.cells #[.bool true, .bool false, .bool false, .bool true] 237))) := HC
  clear hb2 hF
  obtain ⟨a0, a1, a2, a3, a4⟩ := HC.out.op.cells
  simp only at a0 a1 a2 a3 a4
  go_wp2_with fail
  refine (HMM.out _).out.mono ?_
  clear a0 a1 a2 a3 a4
  rintro e w5 ⟨he, hb⟩
  have HC5 := Lib.hid (HC.out.later hb)
  clear hb
  obtain ⟨a0, a1, a2, a3, a4⟩ := HC5.out.op.cells
  obtain ⟨b0, b1, b2, b3⟩ := HC5.out.fields.cells
  simp only at a0 a1 a2 a3 a4
  have b0 : w5.cell? _ = some (.bool true) := b0
  have b1 : w5.cell? _ = some (.bool false) := b1
  have b2 : w5.cell? _ = some (.bool false) := b2
  have b3 : w5.cell? _ = some (.bool true) := b3
  by_cases hm : more ⟨2, topic, group, off, recs⟩ = true
  · rw [hm] at he
    subst he
    have HX := Lib.hid hm
    clear hm
    go_wp2_with fail
    go_ret
    exact ⟨by rw [show check ⟨2, topic, group, off, recs⟩ = 60 from by simp [check, known, badName, badRecs, badOff, hasT, hasG, hasO, hasR, HX.out]]; rfl, HC5.out.below⟩
  · have hm := Bool.eq_false_iff.2 hm
    rw [hm] at he
    subst he
    have HX := Lib.hid hm
    clear hm
    go_wp2_with fail
    refine (name_any topic _).mono ?_
    rintro e w6 ⟨he, hb⟩
    have HC6 := Lib.hid (HC5.out.later hb)
    clear hb a0 a1 a2 a3 a4 b0 b1 b2 b3
    obtain ⟨a0, a1, a2, a3, a4⟩ := HC6.out.op.cells
    obtain ⟨b0, b1, b2, b3⟩ := HC6.out.fields.cells
    simp only at a0 a1 a2 a3 a4
    have b0 : w6.cell? _ = some (.bool true) := b0
    have b1 : w6.cell? _ = some (.bool false) := b1
    have b2 : w6.cell? _ = some (.bool false) := b2
    have b3 : w6.cell? _ = some (.bool true) := b3
    by_cases hn : name topic = true
    · rw [hn] at he
      subst he
      have HN_topic := Lib.hid hn
      clear hn
      go_wp2_with fail
      refine (arerecs_any _ X A c recs (HLS.out.after HC6.out.below) HL.out).mono ?_
      rintro e w9 ⟨he, rfl⟩
      by_cases hn : areRecs recs = true
      · rw [hn] at he
        subst he
        have HR := Lib.hid hn
        clear hn
        go_wp2_with fail
        go_ret
        exact ⟨by rw [show check ⟨2, topic, group, off, recs⟩ = 0 from by simp [check, known, badName, badRecs, badOff, hasT, hasG, hasO, hasR, HX.out, HN_topic.out, HR.out]]; rfl, HC6.out.below⟩
      · have hn := Bool.eq_false_iff.2 hn
        rw [hn] at he
        subst he
        have HR := Lib.hid hn
        clear hn
        go_wp2_with fail
        go_ret
        exact ⟨by rw [show check ⟨2, topic, group, off, recs⟩ = 62 from by simp [check, known, badName, badRecs, badOff, hasT, hasG, hasO, hasR, HX.out, HN_topic.out, HR.out]]; rfl, HC6.out.below⟩
    · have hn := Bool.eq_false_iff.2 hn
      rw [hn] at he
      subst he
      have HN_topic := Lib.hid hn
      clear hn
      go_wp2_with fail
      go_ret
      exact ⟨by rw [show check ⟨2, topic, group, off, recs⟩ = 61 from by simp [check, known, badName, badRecs, badOff, hasT, hasG, hasO, hasR, HX.out, HN_topic.out]]; rfl, HC6.out.below⟩

set_option maxRecDepth 100000 in
set_option maxHeartbeats 4000000 in
theorem check_3 (o : O) (A : Option Addr) (c : Nat) (X : Nat → Prop) (hk : o.kind = 3) (w : World) (hl : o.recs.length ≤ 140737488355328) (hls : Ls w X (.slice A o.recs.length c) o.recs) :
    Calls Tryz.prog 159 #[OV o A c] w fun e w' => e = .returned (.int .i64 (check o)) ∧ Below w.heap.size w w' := by
  have HM := fun W => Lib.hid (more_3 o A c hk W hl)
  obtain ⟨kind, topic, group, off, recs⟩ := o
  unfold OV at HM ⊢
  simp only at hk hl hls HM ⊢
  subst hk
  have HLS := Lib.hid hls
  have HL := Lib.hid hl
  clear hls hl
  have hF : FV 3 = .agg #[.bool true, .bool true, .bool true, .bool false] := rfl
  rw [hF] at HM
  have HMM := Lib.hid HM
  clear HM
  go_enter Tryz.func159, Tryz.ntmps159
  go_wp2_with fail
  refine (fields_any 3 _).mono ?_
  rintro e w2 ⟨he, hb2⟩
  have he : e = .returned (.tuple #[.agg #[.bool true, .bool true, .bool true, .bool false], .bool true]) := he
  subst he
  have HC := Lib.hid (ck_start (o := ⟨3, topic, group, off, recs⟩) hb2)
  have HC : Hid (CK w w.heap.size w2.heap.size ⟨3, topic, group, off, recs⟩ A c (w2.alloc (.cells #[.bool true, .bool true, .bool true, .bool false] 237))) := HC
  clear hb2 hF
  obtain ⟨a0, a1, a2, a3, a4⟩ := HC.out.op.cells
  simp only at a0 a1 a2 a3 a4
  go_wp2_with fail
  refine (HMM.out _).out.mono ?_
  clear a0 a1 a2 a3 a4
  rintro e w5 ⟨he, hb⟩
  have HC5 := Lib.hid (HC.out.later hb)
  clear hb
  obtain ⟨a0, a1, a2, a3, a4⟩ := HC5.out.op.cells
  obtain ⟨b0, b1, b2, b3⟩ := HC5.out.fields.cells
  simp only at a0 a1 a2 a3 a4
  have b0 : w5.cell? _ = some (.bool true) := b0
  have b1 : w5.cell? _ = some (.bool true) := b1
  have b2 : w5.cell? _ = some (.bool true) := b2
  have b3 : w5.cell? _ = some (.bool false) := b3
  by_cases hm : more ⟨3, topic, group, off, recs⟩ = true
  · rw [hm] at he
    subst he
    have HX := Lib.hid hm
    clear hm
    go_wp2_with fail
    go_ret
    exact ⟨by rw [show check ⟨3, topic, group, off, recs⟩ = 60 from by simp [check, known, badName, badRecs, badOff, hasT, hasG, hasO, hasR, HX.out]]; rfl, HC5.out.below⟩
  · have hm := Bool.eq_false_iff.2 hm
    rw [hm] at he
    subst he
    have HX := Lib.hid hm
    clear hm
    go_wp2_with fail
    refine (name_any topic _).mono ?_
    rintro e w6 ⟨he, hb⟩
    have HC6 := Lib.hid (HC5.out.later hb)
    clear hb a0 a1 a2 a3 a4 b0 b1 b2 b3
    obtain ⟨a0, a1, a2, a3, a4⟩ := HC6.out.op.cells
    obtain ⟨b0, b1, b2, b3⟩ := HC6.out.fields.cells
    simp only at a0 a1 a2 a3 a4
    have b0 : w6.cell? _ = some (.bool true) := b0
    have b1 : w6.cell? _ = some (.bool true) := b1
    have b2 : w6.cell? _ = some (.bool true) := b2
    have b3 : w6.cell? _ = some (.bool false) := b3
    by_cases hn : name topic = true
    · rw [hn] at he
      subst he
      have HN_topic := Lib.hid hn
      clear hn
      go_wp2_with fail
      refine (name_any group _).mono ?_
      rintro e w7 ⟨he, hb⟩
      have HC7 := Lib.hid (HC6.out.later hb)
      clear hb a0 a1 a2 a3 a4 b0 b1 b2 b3
      obtain ⟨a0, a1, a2, a3, a4⟩ := HC7.out.op.cells
      obtain ⟨b0, b1, b2, b3⟩ := HC7.out.fields.cells
      simp only at a0 a1 a2 a3 a4
      have b0 : w7.cell? _ = some (.bool true) := b0
      have b1 : w7.cell? _ = some (.bool true) := b1
      have b2 : w7.cell? _ = some (.bool true) := b2
      have b3 : w7.cell? _ = some (.bool false) := b3
      by_cases hn : name group = true
      · rw [hn] at he
        subst he
        have HN_group := Lib.hid hn
        clear hn
        by_cases ho : off < 0
        · have d1 : decide (off < 0) = true := decide_eq_true ho
          clear ho
          go_wp2_with fail
          go_ret
          exact ⟨by rw [show check ⟨3, topic, group, off, recs⟩ = 60 from by simp [check, known, badName, badRecs, badOff, hasT, hasG, hasO, hasR, HX.out, HN_topic.out, HN_group.out, d1]]; rfl, HC7.out.below⟩
        · have d1 : decide (off < 0) = false := decide_eq_false ho
          by_cases hp : 9007199254740992 < off
          · have d2 : decide (9007199254740992 < off) = true := decide_eq_true hp
            clear ho hp
            go_wp2_with fail
            go_ret
            exact ⟨by rw [show check ⟨3, topic, group, off, recs⟩ = 60 from by simp [check, known, badName, badRecs, badOff, hasT, hasG, hasO, hasR, HX.out, HN_topic.out, HN_group.out, d1, d2]]; rfl, HC7.out.below⟩
          · have d2 : decide (9007199254740992 < off) = false := decide_eq_false hp
            clear ho hp
            go_wp2_with fail
            go_ret
            exact ⟨by rw [show check ⟨3, topic, group, off, recs⟩ = 0 from by simp [check, known, badName, badRecs, badOff, hasT, hasG, hasO, hasR, HX.out, HN_topic.out, HN_group.out, d1, d2]]; rfl, HC7.out.below⟩
      · have hn := Bool.eq_false_iff.2 hn
        rw [hn] at he
        subst he
        have HN_group := Lib.hid hn
        clear hn
        go_wp2_with fail
        go_ret
        exact ⟨by rw [show check ⟨3, topic, group, off, recs⟩ = 61 from by simp [check, known, badName, badRecs, badOff, hasT, hasG, hasO, hasR, HX.out, HN_topic.out, HN_group.out]]; rfl, HC7.out.below⟩
    · have hn := Bool.eq_false_iff.2 hn
      rw [hn] at he
      subst he
      have HN_topic := Lib.hid hn
      clear hn
      go_wp2_with fail
      go_ret
      exact ⟨by rw [show check ⟨3, topic, group, off, recs⟩ = 61 from by simp [check, known, badName, badRecs, badOff, hasT, hasG, hasO, hasR, HX.out, HN_topic.out]]; rfl, HC6.out.below⟩

set_option maxRecDepth 100000 in
set_option maxHeartbeats 4000000 in
theorem check_4 (o : O) (A : Option Addr) (c : Nat) (X : Nat → Prop) (hk : o.kind = 4) (w : World) (hl : o.recs.length ≤ 140737488355328) (hls : Ls w X (.slice A o.recs.length c) o.recs) :
    Calls Tryz.prog 159 #[OV o A c] w fun e w' => e = .returned (.int .i64 (check o)) ∧ Below w.heap.size w w' := by
  have HM := fun W => Lib.hid (more_4 o A c hk W hl)
  obtain ⟨kind, topic, group, off, recs⟩ := o
  unfold OV at HM ⊢
  simp only at hk hl hls HM ⊢
  subst hk
  have HLS := Lib.hid hls
  have HL := Lib.hid hl
  clear hls hl
  have hF : FV 4 = .agg #[.bool true, .bool false, .bool true, .bool false] := rfl
  rw [hF] at HM
  have HMM := Lib.hid HM
  clear HM
  go_enter Tryz.func159, Tryz.ntmps159
  go_wp2_with fail
  refine (fields_any 4 _).mono ?_
  rintro e w2 ⟨he, hb2⟩
  have he : e = .returned (.tuple #[.agg #[.bool true, .bool false, .bool true, .bool false], .bool true]) := he
  subst he
  have HC := Lib.hid (ck_start (o := ⟨4, topic, group, off, recs⟩) hb2)
  have HC : Hid (CK w w.heap.size w2.heap.size ⟨4, topic, group, off, recs⟩ A c (w2.alloc (.cells #[.bool true, .bool false, .bool true, .bool false] 237))) := HC
  clear hb2 hF
  obtain ⟨a0, a1, a2, a3, a4⟩ := HC.out.op.cells
  simp only at a0 a1 a2 a3 a4
  go_wp2_with fail
  refine (HMM.out _).out.mono ?_
  clear a0 a1 a2 a3 a4
  rintro e w5 ⟨he, hb⟩
  have HC5 := Lib.hid (HC.out.later hb)
  clear hb
  obtain ⟨a0, a1, a2, a3, a4⟩ := HC5.out.op.cells
  obtain ⟨b0, b1, b2, b3⟩ := HC5.out.fields.cells
  simp only at a0 a1 a2 a3 a4
  have b0 : w5.cell? _ = some (.bool true) := b0
  have b1 : w5.cell? _ = some (.bool false) := b1
  have b2 : w5.cell? _ = some (.bool true) := b2
  have b3 : w5.cell? _ = some (.bool false) := b3
  by_cases hm : more ⟨4, topic, group, off, recs⟩ = true
  · rw [hm] at he
    subst he
    have HX := Lib.hid hm
    clear hm
    go_wp2_with fail
    go_ret
    exact ⟨by rw [show check ⟨4, topic, group, off, recs⟩ = 60 from by simp [check, known, badName, badRecs, badOff, hasT, hasG, hasO, hasR, HX.out]]; rfl, HC5.out.below⟩
  · have hm := Bool.eq_false_iff.2 hm
    rw [hm] at he
    subst he
    have HX := Lib.hid hm
    clear hm
    go_wp2_with fail
    refine (name_any topic _).mono ?_
    rintro e w6 ⟨he, hb⟩
    have HC6 := Lib.hid (HC5.out.later hb)
    clear hb a0 a1 a2 a3 a4 b0 b1 b2 b3
    obtain ⟨a0, a1, a2, a3, a4⟩ := HC6.out.op.cells
    obtain ⟨b0, b1, b2, b3⟩ := HC6.out.fields.cells
    simp only at a0 a1 a2 a3 a4
    have b0 : w6.cell? _ = some (.bool true) := b0
    have b1 : w6.cell? _ = some (.bool false) := b1
    have b2 : w6.cell? _ = some (.bool true) := b2
    have b3 : w6.cell? _ = some (.bool false) := b3
    by_cases hn : name topic = true
    · rw [hn] at he
      subst he
      have HN_topic := Lib.hid hn
      clear hn
      by_cases ho : off < 0
      · have d1 : decide (off < 0) = true := decide_eq_true ho
        clear ho
        go_wp2_with fail
        go_ret
        exact ⟨by rw [show check ⟨4, topic, group, off, recs⟩ = 60 from by simp [check, known, badName, badRecs, badOff, hasT, hasG, hasO, hasR, HX.out, HN_topic.out, d1]]; rfl, HC6.out.below⟩
      · have d1 : decide (off < 0) = false := decide_eq_false ho
        by_cases hp : 9007199254740992 < off
        · have d2 : decide (9007199254740992 < off) = true := decide_eq_true hp
          clear ho hp
          go_wp2_with fail
          go_ret
          exact ⟨by rw [show check ⟨4, topic, group, off, recs⟩ = 60 from by simp [check, known, badName, badRecs, badOff, hasT, hasG, hasO, hasR, HX.out, HN_topic.out, d1, d2]]; rfl, HC6.out.below⟩
        · have d2 : decide (9007199254740992 < off) = false := decide_eq_false hp
          clear ho hp
          go_wp2_with fail
          go_ret
          exact ⟨by rw [show check ⟨4, topic, group, off, recs⟩ = 0 from by simp [check, known, badName, badRecs, badOff, hasT, hasG, hasO, hasR, HX.out, HN_topic.out, d1, d2]]; rfl, HC6.out.below⟩
    · have hn := Bool.eq_false_iff.2 hn
      rw [hn] at he
      subst he
      have HN_topic := Lib.hid hn
      clear hn
      go_wp2_with fail
      go_ret
      exact ⟨by rw [show check ⟨4, topic, group, off, recs⟩ = 61 from by simp [check, known, badName, badRecs, badOff, hasT, hasG, hasO, hasR, HX.out, HN_topic.out]]; rfl, HC6.out.below⟩

theorem check_any (o : O) (v : Value) (X : Nat → Prop) (w : World) (h : OI w X v o) (hl : o.recs.length ≤ 140737488355328) :
    Calls Tryz.prog 159 #[v] w fun e w' => e = .returned (.int .i64 (check o)) ∧ Below w.heap.size w w' := by
  obtain ⟨A, c, rfl, hls⟩ := h
  by_cases hk : known o.kind = true
  · rcases kind_cases hk with h | h | h | h | h
    · exact check_0 o A c X h w hl hls
    · exact check_1 o A c X h w hl hls
    · exact check_2 o A c X h w hl hls
    · exact check_3 o A c X h w hl hls
    · exact check_4 o A c X h w hl hls
  · exact check_none o A c (Bool.eq_false_iff.2 hk) w

end Go.Proofs.YtmhmnkpaijoaaaaGreat.Pg

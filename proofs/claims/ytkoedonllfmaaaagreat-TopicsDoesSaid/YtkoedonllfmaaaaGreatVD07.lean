/-
  Layer 6 (op): the contract of Check, kind by kind.
-/
import Derived.Test.YtkoedonllfmaaaaGreatVD06
namespace Go.Proofs.YtkoedonllfmaaaaGreat.Pg
set_option linter.unusedSimpArgs false
open Go Go.RowKit Ck Kw Pm Pa Pe Pf
set_option linter.unusedVariables false

/-- An operation's cells. -/
def OC (o : O) (A : Option Addr) (c : Nat) : Array Value := #[.int .i64 o.kind, .string ⟨o.topic.toArray⟩, .string ⟨o.group.toArray⟩, .int .i64 o.off, .slice A o.recs.length c]
/-- The operation in block g. -/
def OB (W : World) (g : Nat) (o : O) (A : Option Addr) (c : Nat) : Prop := Blk W g 38 (OC o A c)
theorem OB.cells {W : World} {g : Nat} {o : O} {A : Option Addr} {c : Nat} (h : OB W g o A c) :
    W.cell? ⟨g, 0, none⟩ = some (.int .i64 o.kind) ∧ W.cell? ⟨g, 1, none⟩ = some (.string ⟨o.topic.toArray⟩) ∧ W.cell? ⟨g, 2, none⟩ = some (.string ⟨o.group.toArray⟩) ∧ W.cell? ⟨g, 3, none⟩ = some (.int .i64 o.off) ∧ W.cell? ⟨g, 4, none⟩ = some (.slice A o.recs.length c) :=
  ⟨Blk.cell h 0, Blk.cell h 1, Blk.cell h 2, Blk.cell h 3, Blk.cell h 4⟩
/-- The fields of a kind in block g. -/
def FB (W : World) (g : Nat) (k : Int) : Prop := Blk W g 141 #[.bool (hasT k), .bool (hasG k), .bool (hasO k), .bool (hasR k)]
theorem FB.cells {W : World} {g : Nat} {k : Int} (h : FB W g k) : W.cell? ⟨g, 0, none⟩ = some (.bool (hasT k)) ∧ W.cell? ⟨g, 1, none⟩ = some (.bool (hasG k)) ∧ W.cell? ⟨g, 2, none⟩ = some (.bool (hasO k)) ∧ W.cell? ⟨g, 3, none⟩ = some (.bool (hasR k)) :=
  ⟨Blk.cell h 0, Blk.cell h 1, Blk.cell h 2, Blk.cell h 3⟩
/-- Both stand there, beside what was there. -/
structure CK (w0 : World) (g1 g3 : Nat) (o : O) (A : Option Addr) (c : Nat) (W : World) : Prop where
  below : Below w0.heap.size w0 W
  op : OB W g1 o A c
  fields : FB W g3 o.kind
theorem CK.later {w0 W W' : World} {g1 g3 : Nat} {o : O} {A : Option Addr} {c : Nat} (h : CK w0 g1 g3 o A c W) (b : Below W.heap.size W W') : CK w0 g1 g3 o A c W' :=
  ⟨h.below.trans (b.mono h.below.size), Blk.below h.op b (Blk.lt h.op), Blk.below h.fields b (Blk.lt h.fields)⟩
theorem ck_start {w w2 : World} {o : O} {A : Option Addr} {c : Nat} (b : Below (w.alloc (.cells (OC o A c) 38)).heap.size (w.alloc (.cells (OC o A c) 38)) w2) :
    CK w w.heap.size w2.heap.size o A c (w2.alloc (.cells #[.bool (hasT o.kind), .bool (hasG o.kind), .bool (hasO o.kind), .bool (hasR o.kind)] 141)) := by
  have b0 : Below w.heap.size w (w.alloc (.cells (OC o A c) 38)) := (Below.refl _ w).alloc (Nat.le_refl _) _
  have b1 : Below w.heap.size w w2 := b0.trans (b.mono b0.size)
  refine ⟨b1.alloc b1.size _, ?_, Blk.new w2 _ _⟩
  have h1 : OB (w.alloc (.cells (OC o A c) 38)) w.heap.size o A c := Blk.new w _ _
  have h2 : OB w2 w.heap.size o A c := Blk.below h1 b (Blk.lt h1)
  exact Blk.alloc h2 _

set_option maxRecDepth 100000 in
set_option maxHeartbeats 2000000 in
theorem check_none (o : O) (A : Option Addr) (c : Nat) (hk : known o.kind = false) (w : World) :
    Calls Tryz.prog 42 #[OV o A c] w fun e w' => e = .returned (.int .i64 (check o)) ∧ Below w.heap.size w w' := by
  have hc : check o = 60 := by simp [check, hk]
  rw [hc]
  have HK := Lib.hid hk
  clear hc hk
  obtain ⟨kind, topic, group, off, recs⟩ := o
  unfold OV
  simp only at HK ⊢
  go_enter Tryz.func42, Tryz.ntmps42
  go_wp2_with fail
  refine (fields_any kind _).mono ?_
  rintro e w2 ⟨he, hb2⟩
  rw [HK.out] at he
  subst he
  have HC := Lib.hid (ck_start (o := ⟨kind, topic, group, off, recs⟩) hb2)
  clear hb2
  unfold FV
  go_wp2_with fail
  go_ret
  exact ⟨rfl, HC.out.below⟩

set_option maxRecDepth 100000 in
set_option maxHeartbeats 4000000 in
theorem check_0 (o : O) (A : Option Addr) (c : Nat) (X : Nat → Prop) (hk : o.kind = 0) (w : World) (hl : o.recs.length ≤ 140737488355328) (hls : Ls w X (.slice A o.recs.length c) o.recs) :
    Calls Tryz.prog 42 #[OV o A c] w fun e w' => e = .returned (.int .i64 (check o)) ∧ Below w.heap.size w w' := by
  have HM := fun W => Lib.hid (more_0 o A c hk W hl)
  obtain ⟨kind, topic, group, off, recs⟩ := o
  unfold OV at HM ⊢
  simp only at hk hl hls HM ⊢
  subst hk
  have HLS := Lib.hid hls
  have HL := Lib.hid hl
  clear hls hl
  have hF : FV 0 = .agg #[.bool false, .bool false, .bool false, .bool false] := rfl
  rw [hF] at HM
  have HMM := Lib.hid HM
  clear HM
  go_enter Tryz.func42, Tryz.ntmps42
  go_wp2_with fail
  refine (fields_any 0 _).mono ?_
  rintro e w2 ⟨he, hb2⟩
  have he : e = .returned (.tuple #[.agg #[.bool false, .bool false, .bool false, .bool false], .bool true]) := he
  subst he
  have HC := Lib.hid (ck_start (o := ⟨0, topic, group, off, recs⟩) hb2)
  have HC : Hid (CK w w.heap.size w2.heap.size ⟨0, topic, group, off, recs⟩ A c (w2.alloc (.cells #[.bool false, .bool false, .bool false, .bool false] 141))) := HC
  clear hb2 hF
  obtain ⟨a0, a1, a2, a3, a4⟩ := HC.out.op.cells
  simp only at a0 a1 a2 a3 a4
  go_wp2_with fail
  refine (HMM.out _).out.mono ?_
  clear a0 a1 a2 a3 a4
  rintro e w5 ⟨he, hb⟩
  have HC5 := Lib.hid (HC.out.later hb)
  clear hb
  obtain ⟨a0, a1, a2, a3, a4⟩ := HC5.out.op.cells
  obtain ⟨b0, b1, b2, b3⟩ := HC5.out.fields.cells
  simp only at a0 a1 a2 a3 a4
  have b0 : w5.cell? _ = some (.bool false) := b0
  have b1 : w5.cell? _ = some (.bool false) := b1
  have b2 : w5.cell? _ = some (.bool false) := b2
  have b3 : w5.cell? _ = some (.bool false) := b3
  by_cases hm : more ⟨0, topic, group, off, recs⟩ = true
  · rw [hm] at he
    subst he
    have HX := Lib.hid hm
    clear hm
    go_wp2_with fail
    go_ret
    exact ⟨by rw [show check ⟨0, topic, group, off, recs⟩ = 60 from by simp [check, known, badName, badRecs, badOff, hasT, hasG, hasO, hasR, HX.out]]; rfl, HC5.out.below⟩
  · have hm := Bool.eq_false_iff.2 hm
    rw [hm] at he
    subst he
    have HX := Lib.hid hm
    clear hm
    go_wp2_with fail
    go_ret
    exact ⟨by rw [show check ⟨0, topic, group, off, recs⟩ = 0 from by simp [check, known, badName, badRecs, badOff, hasT, hasG, hasO, hasR, HX.out]]; rfl, HC5.out.below⟩

set_option maxRecDepth 100000 in
set_option maxHeartbeats 4000000 in
theorem check_1 (o : O) (A : Option Addr) (c : Nat) (X : Nat → Prop) (hk : o.kind = 1) (w : World) (hl : o.recs.length ≤ 140737488355328) (hls : Ls w X (.slice A o.recs.length c) o.recs) :
    Calls Tryz.prog 42 #[OV o A c] w fun e w' => e = .returned (.int .i64 (check o)) ∧ Below w.heap.size w w' := by
  have HM := fun W => Lib.hid (more_1 o A c hk W hl)
  obtain ⟨kind, topic, group, off, recs⟩ := o
  unfold OV at HM ⊢
  simp only at hk hl hls HM ⊢
  subst hk
  have HLS := Lib.hid hls
  have HL := Lib.hid hl
  clear hls hl
  have hF : FV 1 = .agg #[.bool true, .bool false, .bool false, .bool false] := rfl
  rw [hF] at HM
  have HMM := Lib.hid HM
  clear HM
  go_enter Tryz.func42, Tryz.ntmps42
  go_wp2_with fail
  refine (fields_any 1 _).mono ?_
  rintro e w2 ⟨he, hb2⟩
  have he : e = .returned (.tuple #[.agg #[.bool true, .bool false, .bool false, .bool false], .bool true]) := he
  subst he
  have HC := Lib.hid (ck_start (o := ⟨1, topic, group, off, recs⟩) hb2)
  have HC : Hid (CK w w.heap.size w2.heap.size ⟨1, topic, group, off, recs⟩ A c (w2.alloc (.cells #[.bool true, .bool false, .bool false, .bool false] 141))) := HC
  clear hb2 hF
  obtain ⟨a0, a1, a2, a3, a4⟩ := HC.out.op.cells
  simp only at a0 a1 a2 a3 a4
  go_wp2_with fail
  refine (HMM.out _).out.mono ?_
  clear a0 a1 a2 a3 a4
  rintro e w5 ⟨he, hb⟩
  have HC5 := Lib.hid (HC.out.later hb)
  clear hb
  obtain ⟨a0, a1, a2, a3, a4⟩ := HC5.out.op.cells
  obtain ⟨b0, b1, b2, b3⟩ := HC5.out.fields.cells
  simp only at a0 a1 a2 a3 a4
  have b0 : w5.cell? _ = some (.bool true) := b0
  have b1 : w5.cell? _ = some (.bool false) := b1
  have b2 : w5.cell? _ = some (.bool false) := b2
  have b3 : w5.cell? _ = some (.bool false) := b3
  by_cases hm : more ⟨1, topic, group, off, recs⟩ = true
  · rw [hm] at he
    subst he
    have HX := Lib.hid hm
    clear hm
    go_wp2_with fail
    go_ret
    exact ⟨by rw [show check ⟨1, topic, group, off, recs⟩ = 60 from by simp [check, known, badName, badRecs, badOff, hasT, hasG, hasO, hasR, HX.out]]; rfl, HC5.out.below⟩
  · have hm := Bool.eq_false_iff.2 hm
    rw [hm] at he
    subst he
    have HX := Lib.hid hm
    clear hm
    go_wp2_with fail
    refine (name_any topic _).mono ?_
    rintro e w6 ⟨he, hb⟩
    have HC6 := Lib.hid (HC5.out.later hb)
    clear hb a0 a1 a2 a3 a4 b0 b1 b2 b3
    obtain ⟨a0, a1, a2, a3, a4⟩ := HC6.out.op.cells
    obtain ⟨b0, b1, b2, b3⟩ := HC6.out.fields.cells
    simp only at a0 a1 a2 a3 a4
    have b0 : w6.cell? _ = some (.bool true) := b0
    have b1 : w6.cell? _ = some (.bool false) := b1
    have b2 : w6.cell? _ = some (.bool false) := b2
    have b3 : w6.cell? _ = some (.bool false) := b3
    by_cases hn : name topic = true
    · rw [hn] at he
      subst he
      have HN_topic := Lib.hid hn
      clear hn
      go_wp2_with fail
      go_ret
      exact ⟨by rw [show check ⟨1, topic, group, off, recs⟩ = 0 from by simp [check, known, badName, badRecs, badOff, hasT, hasG, hasO, hasR, HX.out, HN_topic.out]]; rfl, HC6.out.below⟩
    · have hn := Bool.eq_false_iff.2 hn
      rw [hn] at he
      subst he
      have HN_topic := Lib.hid hn
      clear hn
      go_wp2_with fail
      go_ret
      exact ⟨by rw [show check ⟨1, topic, group, off, recs⟩ = 61 from by simp [check, known, badName, badRecs, badOff, hasT, hasG, hasO, hasR, HX.out, HN_topic.out]]; rfl, HC6.out.below⟩

set_option maxRecDepth 100000 in
set_option maxHeartbeats 4000000 in
theorem check_2 (o : O) (A : Option Addr) (c : Nat) (X : Nat → Prop) (hk : o.kind = 2) (w : World) (hl : o.recs.length ≤ 140737488355328) (hls : Ls w X (.slice A o.recs.length c) o.recs) :
    Calls Tryz.prog 42 #[OV o A c] w fun e w' => e = .returned (.int .i64 (check o)) ∧ Below w.heap.size w w' := by
  have HM := fun W => Lib.hid (more_2 o A c hk W hl)
  obtain ⟨kind, topic, group, off, recs⟩ := o
  unfold OV at HM ⊢
  simp only at hk hl hls HM ⊢
  subst hk
  have HLS := Lib.hid hls
  have HL := Lib.hid hl
  clear hls hl
  have hF : FV 2 = .agg #[.bool true, .bool false, .bool false, .bool true] := rfl
  rw [hF] at HM
  have HMM := Lib.hid HM
  clear HM
  go_enter Tryz.func42, Tryz.ntmps42
  go_wp2_with fail
  refine (fields_any 2 _).mono ?_
  rintro e w2 ⟨he, hb2⟩
  have he : e = .returned (.tuple #[.agg #[.bool true, .bool false, .bool false, .bool true], .bool true]) := he
  subst he
  have HC := Lib.hid (ck_start (o := ⟨2, topic, group, off, recs⟩) hb2)
  have HC : Hid (CK w w.heap.size w2.heap.size ⟨2, topic, group, off, recs⟩ A c (w2.alloc (.cells #[.bool true, .bool false, .bool false, .bool true] 141))) := HC
  clear hb2 hF
  obtain ⟨a0, a1, a2, a3, a4⟩ := HC.out.op.cells
  simp only at a0 a1 a2 a3 a4
  go_wp2_with fail
  refine (HMM.out _).out.mono ?_
  clear a0 a1 a2 a3 a4
  rintro e w5 ⟨he, hb⟩
  have HC5 := Lib.hid (HC.out.later hb)
  clear hb
  obtain ⟨a0, a1, a2, a3, a4⟩ := HC5.out.op.cells
  obtain ⟨b0, b1, b2, b3⟩ := HC5.out.fields.cells
  simp only at a0 a1 a2 a3 a4
  have b0 : w5.cell? _ = some (.bool true) := b0
  have b1 : w5.cell? _ = some (.bool false) := b1
  have b2 : w5.cell? _ = some (.bool false) := b2
  have b3 : w5.cell? _ = some (.bool true) := b3
  by_cases hm : more ⟨2, topic, group, off, recs⟩ = true
  · rw [hm] at he
    subst he
    have HX := Lib.hid hm
    clear hm
    go_wp2_with fail
    go_ret
    exact ⟨by rw [show check ⟨2, topic, group, off, recs⟩ = 60 from by simp [check, known, badName, badRecs, badOff, hasT, hasG, hasO, hasR, HX.out]]; rfl, HC5.out.below⟩
  · have hm := Bool.eq_false_iff.2 hm
    rw [hm] at he
    subst he
    have HX := Lib.hid hm
    clear hm
    go_wp2_with fail
    refine (name_any topic _).mono ?_
    rintro e w6 ⟨he, hb⟩
    have HC6 := Lib.hid (HC5.out.later hb)
    clear hb a0 a1 a2 a3 a4 b0 b1 b2 b3
    obtain ⟨a0, a1, a2, a3, a4⟩ := HC6.out.op.cells
    obtain ⟨b0, b1, b2, b3⟩ := HC6.out.fields.cells
    simp only at a0 a1 a2 a3 a4
    have b0 : w6.cell? _ = some (.bool true) := b0
    have b1 : w6.cell? _ = some (.bool false) := b1
    have b2 : w6.cell? _ = some (.bool false) := b2
    have b3 : w6.cell? _ = some (.bool true) := b3
    by_cases hn : name topic = true
    · rw [hn] at he
      subst he
      have HN_topic := Lib.hid hn
      clear hn
      go_wp2_with fail
      refine (arerecs_any _ X A c recs (HLS.out.after HC6.out.below) HL.out).mono ?_
      rintro e w9 ⟨he, rfl⟩
      by_cases hn : areRecs recs = true
      · rw [hn] at he
        subst he
        have HR := Lib.hid hn
        clear hn
        go_wp2_with fail
        go_ret
        exact ⟨by rw [show check ⟨2, topic, group, off, recs⟩ = 0 from by simp [check, known, badName, badRecs, badOff, hasT, hasG, hasO, hasR, HX.out, HN_topic.out, HR.out]]; rfl, HC6.out.below⟩
      · have hn := Bool.eq_false_iff.2 hn
        rw [hn] at he
        subst he
        have HR := Lib.hid hn
        clear hn
        go_wp2_with fail
        go_ret
        exact ⟨by rw [show check ⟨2, topic, group, off, recs⟩ = 62 from by simp [check, known, badName, badRecs, badOff, hasT, hasG, hasO, hasR, HX.out, HN_topic.out, HR.out]]; rfl, HC6.out.below⟩
    · have hn := Bool.eq_false_iff.2 hn
      rw [hn] at he
      subst he
      have HN_topic := Lib.hid hn
      clear hn
      go_wp2_with fail
      go_ret
      exact ⟨by rw [show check ⟨2, topic, group, off, recs⟩ = 61 from by simp [check, known, badName, badRecs, badOff, hasT, hasG, hasO, hasR, HX.out, HN_topic.out]]; rfl, HC6.out.below⟩

set_option maxRecDepth 100000 in
set_option maxHeartbeats 4000000 in
theorem check_3 (o : O) (A : Option Addr) (c : Nat) (X : Nat → Prop) (hk : o.kind = 3) (w : World) (hl : o.recs.length ≤ 140737488355328) (hls : Ls w X (.slice A o.recs.length c) o.recs) :
    Calls Tryz.prog 42 #[OV o A c] w fun e w' => e = .returned (.int .i64 (check o)) ∧ Below w.heap.size w w' := by
  have HM := fun W => Lib.hid (more_3 o A c hk W hl)
  obtain ⟨kind, topic, group, off, recs⟩ := o
  unfold OV at HM ⊢
  simp only at hk hl hls HM ⊢
  subst hk
  have HLS := Lib.hid hls
  have HL := Lib.hid hl
  clear hls hl
  have hF : FV 3 = .agg #[.bool true, .bool true, .bool true, .bool false] := rfl
  rw [hF] at HM
  have HMM := Lib.hid HM
  clear HM
  go_enter Tryz.func42, Tryz.ntmps42
  go_wp2_with fail
  refine (fields_any 3 _).mono ?_
  rintro e w2 ⟨he, hb2⟩
  have he : e = .returned (.tuple #[.agg #[.bool true, .bool true, .bool true, .bool false], .bool true]) := he
  subst he
  have HC := Lib.hid (ck_start (o := ⟨3, topic, group, off, recs⟩) hb2)
  have HC : Hid (CK w w.heap.size w2.heap.size ⟨3, topic, group, off, recs⟩ A c (w2.alloc (.cells #[.bool true, .bool true, .bool true, .bool false] 141))) := HC
  clear hb2 hF
  obtain ⟨a0, a1, a2, a3, a4⟩ := HC.out.op.cells
  simp only at a0 a1 a2 a3 a4
  go_wp2_with fail
  refine (HMM.out _).out.mono ?_
  clear a0 a1 a2 a3 a4
  rintro e w5 ⟨he, hb⟩
  have HC5 := Lib.hid (HC.out.later hb)
  clear hb
  obtain ⟨a0, a1, a2, a3, a4⟩ := HC5.out.op.cells
  obtain ⟨b0, b1, b2, b3⟩ := HC5.out.fields.cells
  simp only at a0 a1 a2 a3 a4
  have b0 : w5.cell? _ = some (.bool true) := b0
  have b1 : w5.cell? _ = some (.bool true) := b1
  have b2 : w5.cell? _ = some (.bool true) := b2
  have b3 : w5.cell? _ = some (.bool false) := b3
  by_cases hm : more ⟨3, topic, group, off, recs⟩ = true
  · rw [hm] at he
    subst he
    have HX := Lib.hid hm
    clear hm
    go_wp2_with fail
    go_ret
    exact ⟨by rw [show check ⟨3, topic, group, off, recs⟩ = 60 from by simp [check, known, badName, badRecs, badOff, hasT, hasG, hasO, hasR, HX.out]]; rfl, HC5.out.below⟩
  · have hm := Bool.eq_false_iff.2 hm
    rw [hm] at he
    subst he
    have HX := Lib.hid hm
    clear hm
    go_wp2_with fail
    refine (name_any topic _).mono ?_
    rintro e w6 ⟨he, hb⟩
    have HC6 := Lib.hid (HC5.out.later hb)
    clear hb a0 a1 a2 a3 a4 b0 b1 b2 b3
    obtain ⟨a0, a1, a2, a3, a4⟩ := HC6.out.op.cells
    obtain ⟨b0, b1, b2, b3⟩ := HC6.out.fields.cells
    simp only at a0 a1 a2 a3 a4
    have b0 : w6.cell? _ = some (.bool true) := b0
    have b1 : w6.cell? _ = some (.bool true) := b1
    have b2 : w6.cell? _ = some (.bool true) := b2
    have b3 : w6.cell? _ = some (.bool false) := b3
    by_cases hn : name topic = true
    · rw [hn] at he
      subst he
      have HN_topic := Lib.hid hn
      clear hn
      go_wp2_with fail
      refine (name_any group _).mono ?_
      rintro e w7 ⟨he, hb⟩
      have HC7 := Lib.hid (HC6.out.later hb)
      clear hb a0 a1 a2 a3 a4 b0 b1 b2 b3
      obtain ⟨a0, a1, a2, a3, a4⟩ := HC7.out.op.cells
      obtain ⟨b0, b1, b2, b3⟩ := HC7.out.fields.cells
      simp only at a0 a1 a2 a3 a4
      have b0 : w7.cell? _ = some (.bool true) := b0
      have b1 : w7.cell? _ = some (.bool true) := b1
      have b2 : w7.cell? _ = some (.bool true) := b2
      have b3 : w7.cell? _ = some (.bool false) := b3
      by_cases hn : name group = true
      · rw [hn] at he
        subst he
        have HN_group := Lib.hid hn
        clear hn
        by_cases ho : off < 0
        · have d1 : decide (off < 0) = true := decide_eq_true ho
          clear ho
          go_wp2_with fail
          go_ret
          exact ⟨by rw [show check ⟨3, topic, group, off, recs⟩ = 60 from by simp [check, known, badName, badRecs, badOff, hasT, hasG, hasO, hasR, HX.out, HN_topic.out, HN_group.out, d1]]; rfl, HC7.out.below⟩
        · have d1 : decide (off < 0) = false := decide_eq_false ho
          by_cases hp : 9007199254740992 < off
          · have d2 : decide (9007199254740992 < off) = true := decide_eq_true hp
            clear ho hp
            go_wp2_with fail
            go_ret
            exact ⟨by rw [show check ⟨3, topic, group, off, recs⟩ = 60 from by simp [check, known, badName, badRecs, badOff, hasT, hasG, hasO, hasR, HX.out, HN_topic.out, HN_group.out, d1, d2]]; rfl, HC7.out.below⟩
          · have d2 : decide (9007199254740992 < off) = false := decide_eq_false hp
            clear ho hp
            go_wp2_with fail
            go_ret
            exact ⟨by rw [show check ⟨3, topic, group, off, recs⟩ = 0 from by simp [check, known, badName, badRecs, badOff, hasT, hasG, hasO, hasR, HX.out, HN_topic.out, HN_group.out, d1, d2]]; rfl, HC7.out.below⟩
      · have hn := Bool.eq_false_iff.2 hn
        rw [hn] at he
        subst he
        have HN_group := Lib.hid hn
        clear hn
        go_wp2_with fail
        go_ret
        exact ⟨by rw [show check ⟨3, topic, group, off, recs⟩ = 61 from by simp [check, known, badName, badRecs, badOff, hasT, hasG, hasO, hasR, HX.out, HN_topic.out, HN_group.out]]; rfl, HC7.out.below⟩
    · have hn := Bool.eq_false_iff.2 hn
      rw [hn] at he
      subst he
      have HN_topic := Lib.hid hn
      clear hn
      go_wp2_with fail
      go_ret
      exact ⟨by rw [show check ⟨3, topic, group, off, recs⟩ = 61 from by simp [check, known, badName, badRecs, badOff, hasT, hasG, hasO, hasR, HX.out, HN_topic.out]]; rfl, HC6.out.below⟩

set_option maxRecDepth 100000 in
set_option maxHeartbeats 4000000 in
theorem check_4 (o : O) (A : Option Addr) (c : Nat) (X : Nat → Prop) (hk : o.kind = 4) (w : World) (hl : o.recs.length ≤ 140737488355328) (hls : Ls w X (.slice A o.recs.length c) o.recs) :
    Calls Tryz.prog 42 #[OV o A c] w fun e w' => e = .returned (.int .i64 (check o)) ∧ Below w.heap.size w w' := by
  have HM := fun W => Lib.hid (more_4 o A c hk W hl)
  obtain ⟨kind, topic, group, off, recs⟩ := o
  unfold OV at HM ⊢
  simp only at hk hl hls HM ⊢
  subst hk
  have HLS := Lib.hid hls
  have HL := Lib.hid hl
  clear hls hl
  have hF : FV 4 = .agg #[.bool true, .bool false, .bool true, .bool false] := rfl
  rw [hF] at HM
  have HMM := Lib.hid HM
  clear HM
  go_enter Tryz.func42, Tryz.ntmps42
  go_wp2_with fail
  refine (fields_any 4 _).mono ?_
  rintro e w2 ⟨he, hb2⟩
  have he : e = .returned (.tuple #[.agg #[.bool true, .bool false, .bool true, .bool false], .bool true]) := he
  subst he
  have HC := Lib.hid (ck_start (o := ⟨4, topic, group, off, recs⟩) hb2)
  have HC : Hid (CK w w.heap.size w2.heap.size ⟨4, topic, group, off, recs⟩ A c (w2.alloc (.cells #[.bool true, .bool false, .bool true, .bool false] 141))) := HC
  clear hb2 hF
  obtain ⟨a0, a1, a2, a3, a4⟩ := HC.out.op.cells
  simp only at a0 a1 a2 a3 a4
  go_wp2_with fail
  refine (HMM.out _).out.mono ?_
  clear a0 a1 a2 a3 a4
  rintro e w5 ⟨he, hb⟩
  have HC5 := Lib.hid (HC.out.later hb)
  clear hb
  obtain ⟨a0, a1, a2, a3, a4⟩ := HC5.out.op.cells
  obtain ⟨b0, b1, b2, b3⟩ := HC5.out.fields.cells
  simp only at a0 a1 a2 a3 a4
  have b0 : w5.cell? _ = some (.bool true) := b0
  have b1 : w5.cell? _ = some (.bool false) := b1
  have b2 : w5.cell? _ = some (.bool true) := b2
  have b3 : w5.cell? _ = some (.bool false) := b3
  by_cases hm : more ⟨4, topic, group, off, recs⟩ = true
  · rw [hm] at he
    subst he
    have HX := Lib.hid hm
    clear hm
    go_wp2_with fail
    go_ret
    exact ⟨by rw [show check ⟨4, topic, group, off, recs⟩ = 60 from by simp [check, known, badName, badRecs, badOff, hasT, hasG, hasO, hasR, HX.out]]; rfl, HC5.out.below⟩
  · have hm := Bool.eq_false_iff.2 hm
    rw [hm] at he
    subst he
    have HX := Lib.hid hm
    clear hm
    go_wp2_with fail
    refine (name_any topic _).mono ?_
    rintro e w6 ⟨he, hb⟩
    have HC6 := Lib.hid (HC5.out.later hb)
    clear hb a0 a1 a2 a3 a4 b0 b1 b2 b3
    obtain ⟨a0, a1, a2, a3, a4⟩ := HC6.out.op.cells
    obtain ⟨b0, b1, b2, b3⟩ := HC6.out.fields.cells
    simp only at a0 a1 a2 a3 a4
    have b0 : w6.cell? _ = some (.bool true) := b0
    have b1 : w6.cell? _ = some (.bool false) := b1
    have b2 : w6.cell? _ = some (.bool true) := b2
    have b3 : w6.cell? _ = some (.bool false) := b3
    by_cases hn : name topic = true
    · rw [hn] at he
      subst he
      have HN_topic := Lib.hid hn
      clear hn
      by_cases ho : off < 0
      · have d1 : decide (off < 0) = true := decide_eq_true ho
        clear ho
        go_wp2_with fail
        go_ret
        exact ⟨by rw [show check ⟨4, topic, group, off, recs⟩ = 60 from by simp [check, known, badName, badRecs, badOff, hasT, hasG, hasO, hasR, HX.out, HN_topic.out, d1]]; rfl, HC6.out.below⟩
      · have d1 : decide (off < 0) = false := decide_eq_false ho
        by_cases hp : 9007199254740992 < off
        · have d2 : decide (9007199254740992 < off) = true := decide_eq_true hp
          clear ho hp
          go_wp2_with fail
          go_ret
          exact ⟨by rw [show check ⟨4, topic, group, off, recs⟩ = 60 from by simp [check, known, badName, badRecs, badOff, hasT, hasG, hasO, hasR, HX.out, HN_topic.out, d1, d2]]; rfl, HC6.out.below⟩
        · have d2 : decide (9007199254740992 < off) = false := decide_eq_false hp
          clear ho hp
          go_wp2_with fail
          go_ret
          exact ⟨by rw [show check ⟨4, topic, group, off, recs⟩ = 0 from by simp [check, known, badName, badRecs, badOff, hasT, hasG, hasO, hasR, HX.out, HN_topic.out, d1, d2]]; rfl, HC6.out.below⟩
    · have hn := Bool.eq_false_iff.2 hn
      rw [hn] at he
      subst he
      have HN_topic := Lib.hid hn
      clear hn
      go_wp2_with fail
      go_ret
      exact ⟨by rw [show check ⟨4, topic, group, off, recs⟩ = 61 from by simp [check, known, badName, badRecs, badOff, hasT, hasG, hasO, hasR, HX.out, HN_topic.out]]; rfl, HC6.out.below⟩

theorem check_any (o : O) (v : Value) (X : Nat → Prop) (w : World) (h : OI w X v o) (hl : o.recs.length ≤ 140737488355328) :
    Calls Tryz.prog 42 #[v] w fun e w' => e = .returned (.int .i64 (check o)) ∧ Below w.heap.size w w' := by
  obtain ⟨A, c, rfl, hls⟩ := h
  by_cases hk : known o.kind = true
  · rcases kind_cases hk with h | h | h | h | h
    · exact check_0 o A c X h w hl hls
    · exact check_1 o A c X h w hl hls
    · exact check_2 o A c X h w hl hls
    · exact check_3 o A c X h w hl hls
    · exact check_4 o A c X h w hl hls
  · exact check_none o A c (Bool.eq_false_iff.2 hk) w

end Go.Proofs.YtkoedonllfmaaaaGreat.Pg

/-
  Contract of the program's topics: run.
-/
namespace Go.Proofs.YtkoedonllfmaaaaGreat.Af
set_option linter.unusedSimpArgs false
open Go Go.RowKit Ck Kw Ga Kf Km Kd Pm Pz Pe Pg Tm Tn Tq Aa Ab Ac Ad Ae
attribute [local go_sem ↓] Go.wp_at_zero Go.wp_at_succ
set_option linter.unusedVariables false

theorem upd_const {L : List Tp} (h : RT L) {x : Tp} (hx : x ∈ L) (f : Tp → Tp) : updT L x.n f = updT L x.n (fun _ => f x) := by
  unfold updT
  refine List.map_congr_left fun t ht => ?_
  by_cases e : t.n = x.n
  · rw [if_pos e, if_pos e, rt_one h ht hx e]
  · rw [if_neg e, if_neg e]
theorem upd_same {L : List Tp} (h : RT L) {x : Tp} (hx : x ∈ L) : updT L x.n (fun _ => x) = L := by
  unfold updT
  have : ∀ t ∈ L, (if t.n = x.n then x else t) = t := fun t ht => by
    by_cases e : t.n = x.n
    · rw [if_pos e, rt_one h ht hx e]
    · rw [if_neg e]
  rw [List.map_congr_left this]
  simp
theorem mem_upd {L : List Tp} (h : RT L) {x x' t : Tp} (hx : x ∈ L) (hn : x'.n = x.n) (ht : t ∈ updT L x.n (fun _ => x')) : t = x' ∨ (t ∈ L ∧ t.n ≠ x.n) := by
  simp only [updT, List.mem_map] at ht
  obtain ⟨u, hu, rfl⟩ := ht
  by_cases e : u.n = x.n
  · rw [if_pos e]; exact .inl rfl
  · rw [if_neg e]; exact .inr ⟨hu, e⟩
theorem find_upd {L : List Tp} {x x' : Tp} (hx : x ∈ L) (hn : x'.n = x.n) (s : Tx) : (findT (updT L x.n (fun _ => x')) s).isSome = (findT L s).isSome := by
  rw [Bool.eq_iff_iff, isSome_find, isSome_find]
  have : (updT L x.n (fun _ => x')).map (·.n) = L.map (·.n) := by
    simp only [updT, List.map_map]
    refine List.map_congr_left fun t ht => ?_
    simp only [Function.comp]
    by_cases e : t.n = x.n
    · rw [if_pos e, hn, e]
    · rw [if_neg e]
  rw [this]
/-- One topic is turned. -/
theorem tp_upd {w w' : World} {S R : Nat → Prop} {p m : Nat} {s : St} {D : DataW Unit} {G : Tx → Nat} {V : Tx → Value} {M : Tx → Nat} {F : Tx → Nat → Prop} {x x' : Tp} (h : TP w S R p m s D G V M F) (hx : x ∈ s.L) (hn : x'.n = x.n) (hT : Tdid (F x.n) R (G x.n) x' w w')
    (hg : GoodS ⟨updT s.L x.n (fun _ => x'), s.last⟩) : Did S R p ⟨updT s.L x.n (fun _ => x'), s.last⟩ w w' := by
  obtain ⟨⟨v', mg', hT⟩, c⟩ := hT
  have hrt := h.good.L.rises
  have hplt : p < w.heap.size := h.blk.lt
  have hmlt : m < w.heap.size := h.own.lt
  have hFS : ∀ k, F x.n k → S k := fun k hk => (h.sub x hx k hk).1
  refine ⟨TP.shut (m := m) (D := D) (G := G) (V := fun t => if t = x.n then v' else V t) (M := fun t => if t = x.n then mg' else M t) (F := fun t => if t = x.n then Up (F x.n) w w' else F t)
    ⟨h.blk.ch c (fun hk => (h.sub x hx _ hk).2.1 rfl), .inl h.sp, map_ch h.own c (fun hk => (h.sub x hx _ hk).2.2.1 rfl), ⟨fun t => by rw [h.tells.1, find_upd hx hn], fun t ht zd => ?_⟩, ⟨.inl h.sm.1, h.sm.2⟩, fun t ht => ?_, fun t ht k hk => ?_, fun t ht u hu hne k hk hk' => ?_, fun k hk => ?_, hg⟩, c.mono (fun k _ hk => hFS k hk)⟩
  · rcases mem_upd hrt hx hn ht with rfl | ⟨ht, hne⟩
    · rw [hn]; exact h.tells.2 x hx zd
    · exact h.tells.2 t ht zd
  · rcases mem_upd hrt hx hn ht with rfl | ⟨ht, hne⟩
    · rw [hn]
      simp only [if_pos]
      exact hT
    · simp only [if_neg hne]
      exact (h.top t ht).ch c (fun k h1 h2 => h.apart t ht x hx hne k h1 h2) (fun k hk h2 => (h.rs k hk).1 (hFS k h2))
  · rcases mem_upd hrt hx hn ht with rfl | ⟨ht, hne⟩
    · rw [hn] at hk
      simp only [if_pos] at hk
      rcases hk with hk | ⟨h1, h2⟩
      · have := h.sub x hx k hk
        exact ⟨.inl this.1, this.2.1, this.2.2.1, Nat.lt_of_lt_of_le this.2.2.2 c.size⟩
      · exact ⟨.inr ⟨h1, h2⟩, by omega, by omega, h2⟩
    · simp only [if_neg hne] at hk
      have := h.sub t ht k hk
      exact ⟨.inl this.1, this.2.1, this.2.2.1, Nat.lt_of_lt_of_le this.2.2.2 c.size⟩
  · rcases mem_upd hrt hx hn ht with rfl | ⟨ht1, hne1⟩
    · rcases mem_upd hrt hx hn hu with rfl | ⟨hu1, hne2⟩
      · exact hne rfl
      · rw [hn] at hk
        simp only [if_pos] at hk
        simp only [if_neg hne2] at hk'
        rcases hk with hk | ⟨g1, g2⟩
        · exact h.apart x hx u hu1 (fun e => hne2 e.symm) k hk hk'
        · have := (h.sub u hu1 k hk').2.2.2; omega
    · simp only [if_neg hne1] at hk
      rcases mem_upd hrt hx hn hu with rfl | ⟨hu1, hne2⟩
      · rw [hn] at hk'
        simp only [if_pos] at hk'
        rcases hk' with hk' | ⟨g1, g2⟩
        · exact h.apart t ht1 x hx hne1 k hk hk'
        · have := (h.sub t ht1 k hk).2.2.2; omega
      · simp only [if_neg hne2] at hk'
        exact h.apart t ht1 u hu1 hne k hk hk'
  · obtain ⟨r1, r2⟩ := h.rs k hk
    refine ⟨fun hu => ?_, Nat.lt_of_lt_of_le r2 c.size⟩
    rcases hu with hu | hu
    · exact r1 hu
    · omega
/-- What an operation that may be comes to, without the places. -/
theorem does_0 {L : List Tp} {o : O} (hc : check o = 0) (hk : o.kind = 0) : doesS L o = ((0, 0), [], L) := by rw [doesS, if_neg (by omega), if_pos hk]
theorem does_1 {L : List Tp} {o : O} (hc : check o = 0) (hk : o.kind = 1) : doesS L o = (((crS L o.topic).1, 0), [], (crS L o.topic).2) := by
  rw [doesS, if_neg (by omega), if_neg (by omega), if_pos hk, crS]
  split
  · rfl
  · split
    · rfl
    · rfl
theorem does_no {L : List Tp} {o : O} (hc : check o = 0) (hk0 : o.kind ≠ 0) (hk1 : o.kind ≠ 1) (hf : findT L o.topic = none) : doesS L o = ((4, 0), [], L) := by
  rw [doesS, if_neg (by omega), if_neg hk0, if_neg hk1, hf]
theorem does_2 {L : List Tp} {o : O} {x : Tp} (hr : RT L) (hc : check o = 0) (hk : o.kind = 2) (hf : findT L o.topic = some x) :
    (doesS L o).1 = ((pubS x o.recs).1.2, (pubS x o.recs).1.1) ∧ (doesS L o).2.2 = updT L x.n (fun _ => (pubS x o.recs).2) ∧ (doesS L o).2.1 = if (pubS x o.recs).1.2 = 0 then placed o.topic (pubS x o.recs).1.1 o.recs else [] := by
  obtain ⟨hx, hn⟩ := findT_some hf
  rw [doesS, if_neg (by omega), if_neg (by omega), if_neg (by omega), hf]
  simp only [if_pos hk, pubS]
  split
  · exact ⟨rfl, (upd_same hr hx).symm, rfl⟩
  · refine ⟨rfl, ?_, rfl⟩
    simp only
    rw [← hn, upd_const hr hx]
theorem does_3 {L : List Tp} {o : O} {x : Tp} (hr : RT L) (hc : check o = 0) (hk : o.kind = 3) (hf : findT L o.topic = some x) :
    (doesS L o).1 = ((comS x o.group o.off).1.2, (comS x o.group o.off).1.1) ∧ (doesS L o).2.2 = updT L x.n (fun _ => (comS x o.group o.off).2) ∧ (doesS L o).2.1 = [] := by
  obtain ⟨hx, hn⟩ := findT_some hf
  rw [doesS, if_neg (by omega), if_neg (by omega), if_neg (by omega), hf]
  simp only [if_neg (show ¬ o.kind = 2 by omega), if_pos hk, comS]
  split
  · exact ⟨rfl, (upd_same hr hx).symm, rfl⟩
  · split
    · exact ⟨rfl, (upd_same hr hx).symm, rfl⟩
    · refine ⟨rfl, ?_, rfl⟩
      simp only
      rw [← hn, upd_const hr hx]
theorem does_4 {L : List Tp} {o : O} {x : Tp} (hr : RT L) (hc : check o = 0) (hk : o.kind = 4) (hf : findT L o.topic = some x) :
    (doesS L o).1 = ((triS x o.off).1.2, (triS x o.off).1.1) ∧ (doesS L o).2.2 = updT L x.n (fun _ => (triS x o.off).2) ∧ (doesS L o).2.1 = [] := by
  obtain ⟨hx, hn⟩ := findT_some hf
  rw [doesS, if_neg (by omega), if_neg (by omega), if_neg (by omega), hf]
  simp only [if_neg (show ¬ o.kind = 2 by omega), if_neg (show ¬ o.kind = 3 by omega), triS]
  split
  · exact ⟨rfl, (upd_same hr hx).symm, rfl⟩
  · refine ⟨rfl, ?_, rfl⟩
    simp only
    rw [← hn, upd_const hr hx]
theorem pub_n (x : Tp) (rs : List Tx) : (pubS x rs).2.n = x.n := by unfold pubS; split <;> rfl
theorem com_n (x : Tp) (s : Tx) (k : Int) : (comS x s k).2.n = x.n := by
  unfold comS
  split
  · rfl
  · split <;> rfl
theorem tri_n (x : Tp) (k : Int) : (triS x k).2.n = x.n := by unfold triS; split <;> rfl
end Go.Proofs.YtkoedonllfmaaaaGreat.Af

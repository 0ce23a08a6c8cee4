/-
  Layer 6 (op): how long names and operations' bytes are; the contract of Bytes, kind by kind.
-/
import Derived.Test.YtebjjkhiniccgaaGreatPh
import Derived.Test.YtebjjkhiniccgaaGreatPi
import Derived.Test.YtebjjkhiniccgaaGreatKx
import Derived.Test.YtebjjkhiniccgaaGreatW3
namespace Go.Proofs.YtebjjkhiniccgaaGreat.Pk
set_option linter.unusedSimpArgs false
open Go Go.RowKit Ck Kw Ca Cb Cc Ci Pm Pa Pe Pf Pg Ph Ppi Kx
set_option linter.unusedVariables false

theorem dec_width4 (l : Tx) : (dec l).2 ≤ 4 := by
  unfold dec Go.Lib.decodeN
  repeat' split
  all_goals simp
theorem rn_len : ∀ (j : Nat) (l : Tx), rn j l ≠ 0 → l.length ≤ 4 * j
  | 0, l, h => by
    unfold rn at h
    split at h
    · rename_i hl; subst hl; simp
    · exact absurd rfl h
  | j + 1, l, h => by
    unfold rn at h
    split at h
    · rename_i hl; subst hl; simp
    · split at h
      · exact absurd rfl h
      · have h1 := rn_len j _ h
        have h2 := dec_width4 l
        rw [List.length_drop] at h1
        omega
theorem name_len {l : Tx} (h : name l = true) : l.length ≤ 64 ∧ l ≠ [] := by
  have h1 : 0 < runes l := of_decide_eq_true h
  refine ⟨rn_len 16 l (by unfold runes at h1; omega), fun e => ?_⟩
  subst e
  exact absurd h1 (by decide)
theorem recs_len {l : List Tx} (h : areRecs l = true) : 1 ≤ l.length ∧ l.length ≤ 4 ∧ ∀ x ∈ l, x.length ≤ 64 := by
  simp only [areRecs, Bool.and_eq_true, decide_eq_true_eq, List.all_eq_true] at h
  exact ⟨h.1.1, h.1.2, h.2⟩
theorem encP_small : ∀ (l : List Tx), (∀ x ∈ l, x.length ≤ 64) → (Cm.encP l).length ≤ 74 * l.length
  | [], _ => by simp [Cm.encP]
  | x :: l, h => by
    have h1 := encP_small l (fun y hy => h y (List.mem_cons_of_mem _ hy))
    have h2 := h x List.mem_cons_self
    have h3 := Cm.enc_len x.length
    simp only [Cm.encP, List.length_append, Cm.encB_len, List.length_cons]
    omega
/-- What an operation that may be holds. -/
theorem check_lens {o : O} (h : check o = 0) : (hasT o.kind = true → o.topic.length ≤ 64) ∧ (hasG o.kind = true → o.group.length ≤ 64) ∧ (hasO o.kind = true → 0 ≤ o.off ∧ o.off ≤ 9007199254740992) ∧
    (hasR o.kind = true → 1 ≤ o.recs.length ∧ o.recs.length ≤ 4 ∧ (∀ x ∈ o.recs, x.length ≤ 64) ∧ (Cm.encP o.recs).length ≤ 296) := by
  obtain ⟨h1, h2, h3, h4, h5⟩ := check_ok h
  refine ⟨fun hT => ?_, fun hG => ?_, fun hO => ?_, fun hR => ?_⟩
  · refine (name_len (l := o.topic) ?_).1
    cases hn : name o.topic with
    | true => rfl
    | false => simp [badName, hT, hn] at h3
  · refine (name_len (l := o.group) ?_).1
    cases hn : name o.group with
    | true => rfl
    | false => simp [badName, hG, hn] at h3
  · simp only [badOff, hO, Bool.true_and, Bool.or_eq_false_iff, decide_eq_false_iff_not] at h5
    omega
  · have hr : areRecs o.recs = true := by
      cases hn : areRecs o.recs with
      | true => rfl
      | false => simp [badRecs, hR, hn] at h4
    obtain ⟨a, b, c⟩ := recs_len hr
    have := encP_small o.recs c
    exact ⟨a, b, c, by omega⟩
theorem raw_len {o : O} (h : check o = 0) : (raw o).length ≤ 1000 := by
  obtain ⟨h1, h2, h3, h4⟩ := check_lens h
  have e1 := Cm.enc_len o.kind.toNat
  have e2 := Cm.enc_len o.topic.length
  have e3 := Cm.enc_len o.group.length
  have e4 := Cm.enc_len o.off.toNat
  have e5 := Cm.enc_len o.recs.length
  have a1 : (if hasT o.kind = true then Cm.encB o.topic else []).length ≤ 74 := by
    split
    · rename_i h; have := h1 h; rw [Cm.encB_len]; omega
    · simp
  have a2 : (if hasG o.kind = true then Cm.encB o.group else []).length ≤ 74 := by
    split
    · rename_i h; have := h2 h; rw [Cm.encB_len]; omega
    · simp
  have a3 : (if hasO o.kind = true then Cm.enc o.off.toNat else []).length ≤ 10 := by
    split
    · omega
    · simp
  have a4 : (if hasR o.kind = true then Cm.encL o.recs else []).length ≤ 306 := by
    split
    · rename_i h; have := (h4 h).2.2.2; simp only [Cm.encL, List.length_append]; omega
    · simp
  unfold raw
  simp only [List.length_append]
  omega
theorem form_len (o : O) : (form o).length ≤ 1000 := by
  unfold form
  split
  · simp
  · rename_i h
    exact raw_len (by omega)

theorem wrap_u64' (z : Nat) (h : z < 18446744073709551616) : IntKind.u64.wrap (z : Int) = (z : Int) := by
  simp [IntKind.wrap, IntKind.bits, IntKind.signed]
  omega
/-- The operation and its kind's fields stand there, and a row of the call's own. -/
structure BK (w0 : World) (g1 g3 : Nat) (o : O) (A : Option Addr) (c : Nat) (v : Value) (l : Tx) (W : World) : Prop where
  ck : CK w0 g1 g3 o A c W
  row : W.ownsRow w0.heap.size 5 1 v l.length (BVs l)
theorem bk_start {w0 W : World} {g1 g3 : Nat} {o : O} {A : Option Addr} {c : Nat} (h : CK w0 g1 g3 o A c W) : BK w0 g1 g3 o A c (.slice none 0 0) [] W := ⟨h, World.ownsRow_nil _ _ _ _⟩
theorem BK.put {w0 W W1 W2 : World} {g1 g3 : Nat} {o : O} {A : Option Addr} {c : Nat} {v v' : Value} {l l' : Tx} (h : BK w0 g1 g3 o A c v l W) (b1 : Below W.heap.size W W1) (hown : W2.ownsRow W1.heap.size 5 1 v' l'.length (BVs l')) (b2 : Below W1.heap.size W1 W2) : BK w0 g1 g3 o A c v' l' W2 := by
  have b : Below W.heap.size W W2 := b1.trans (b2.mono b1.size)
  exact ⟨h.ck.later b, own_base hown (Nat.le_trans h.ck.below.size b1.size)⟩
theorem ck_of {w w3 : World} {o : O} {A : Option Addr} {c : Nat} (h : RK w w.heap.size o A c w3) :
    CK w w.heap.size w3.heap.size o A c (w3.alloc (.cells #[.bool (hasT o.kind), .bool (hasG o.kind), .bool (hasO o.kind), .bool (hasR o.kind)] 135)) :=
  ⟨h.below.alloc h.below.size _, Blk.alloc h.op _, Blk.new w3 _ _⟩
/-- What Bytes leaves of an operation that may be. -/
def Byted (w : World) (o : O) (e : Ending) (w' : World) : Prop := ∃ v, e = .returned (.tuple #[v, .int .i64 0]) ∧ w'.ownsRow w.heap.size 5 1 v (raw o).length (BVs (raw o)) ∧ Below w.heap.size w w'
theorem byted_of {w W : World} {g1 g3 : Nat} {o : O} {A : Option Addr} {c : Nat} {v : Value} {l : Tx} (h : BK w g1 g3 o A c v l W) (hl : raw o = l) : Byted w o (.returned (.tuple #[v, .int .i64 0])) W := by
  subst hl
  exact ⟨v, rfl, h.row, h.ck.below⟩

set_option maxRecDepth 100000 in
set_option maxHeartbeats 1000000 in
theorem bytes_no (o : O) (A : Option Addr) (c : Nat) (X : Nat → Prop) (w : World) (hl : o.recs.length ≤ 140737488355328) (hls : Ls w X (.slice A o.recs.length c) o.recs) (hc : check o ≠ 0) :
    Calls Tryz.prog 103 #[OV o A c] w fun e w' => e = .returned (.tuple #[.slice none 0 0, .int .i64 (check o)]) ∧ Below w.heap.size w w' := by
  have hls1 := hls.after (rk_start w o A c).below
  have HCH := Lib.hid (check_any o (OV o A c) X _ ⟨A, c, rfl, hls1⟩ hl)
  have HC := Lib.hid (rk_start w o A c)
  generalize check o = q at *
  have q1 : (q == 0) = false := beq_eq_false_iff_ne.2 hc
  have q2 : (q != 0) = true := by rw [bne, q1]; rfl
  clear hls hls1 hc
  unfold OV at HCH ⊢
  go_enter Tryz.func103, Tryz.ntmps103
  go_wp2_with fail
  refine HCH.out.mono ?_
  rintro e w2 ⟨rfl, hb2⟩
  have HC2 := Lib.hid (HC.out.later hb2)
  clear hb2
  go_wp2_with fail
  go_ret2
  exact ⟨rfl, HC2.out.below⟩

set_option maxRecDepth 100000 in
set_option maxHeartbeats 4000000 in
theorem bytes_0 (o : O) (A : Option Addr) (c : Nat) (X : Nat → Prop) (hk : o.kind = 0) (w : World) (hl : o.recs.length ≤ 140737488355328) (hls : Ls w X (.slice A o.recs.length c) o.recs) (hc : check o = 0) :
    Calls Tryz.prog 103 #[OV o A c] w (Byted w o) := by
  have hls1 := hls.after (rk_start w o A c).below
  have HCH := Lib.hid (check_any o (OV o A c) X _ ⟨A, c, rfl, hls1⟩ hl)
  rw [hc] at HCH
  have HC := Lib.hid (rk_start w o A c)
  obtain ⟨lT, lG, lO, lR⟩ := check_lens hc
  rw [hk] at lT lG lO lR
  have HLS := Lib.hid hls
  have HRAW : Hid (raw o = Cm.enc 0 ++ ([] ++ ([] ++ ([] ++ [])))) := Lib.hid (by
    unfold raw
    rw [hk]
    rfl)
  clear hls hls1 hc lT lG lO lR
  obtain ⟨kind, topic, group, off, recs⟩ := o
  simp only at hk
  subst hk
  unfold OV at HCH ⊢
  simp only at HLS HCH hl ⊢
  go_enter Tryz.func103, Tryz.ntmps103
  go_wp2_with fail
  refine HCH.out.mono ?_
  rintro e w2 ⟨rfl, hb2⟩
  have HC2 := Lib.hid (HC.out.later hb2)
  clear hb2
  obtain ⟨a0, a1, a2, a3, a4⟩ := HC2.out.op.cells
  simp only at a0 a1 a2 a3 a4
  go_wp2_with fail
  refine (fields_any 0 _).mono ?_
  rintro e w3 ⟨he, hb3⟩
  have he : e = .returned (.tuple #[.agg #[.bool false, .bool false, .bool false, .bool false], .bool true]) := he
  subst he
  have HC3 := Lib.hid (ck_of (HC2.out.later hb3))
  have HC3 : Hid (CK w w.heap.size w3.heap.size ⟨0, topic, group, off, recs⟩ A c (w3.alloc (.cells #[.bool false, .bool false, .bool false, .bool false] 135))) := HC3
  clear hb3 a0 a1 a2 a3 a4
  obtain ⟨a0, a1, a2, a3, a4⟩ := HC3.out.op.cells
  simp only at a0 a1 a2 a3 a4
  go_wp2_with fail
  refine (putnum_any (fun _ => False) (.slice none 0 0) 0 [] 0 _ (Sl.nil _ _ _) (by omega) (by omega)).mono ?_
  rintro e w4 ⟨v4, rfl, hown4, hb4⟩
  have HK4 := Lib.hid (BK.put (bk_start HC3.out) (Below.refl _ _) hown4 hb4)
  have HK4 : Hid (BK w w.heap.size w3.heap.size ⟨0, topic, group, off, recs⟩ A c v4 (Cm.enc 0) w4) := HK4
  clear hown4 hb4
  clear a0 a1 a2 a3 a4
  obtain ⟨a0, a1, a2, a3, a4⟩ := HK4.out.ck.op.cells
  obtain ⟨b0, b1, b2, b3⟩ := HK4.out.ck.fields.cells
  simp only at a0 a1 a2 a3 a4
  have b0 : w4.cell? _ = some (.bool false) := b0
  have b1 : w4.cell? _ = some (.bool false) := b1
  have b2 : w4.cell? _ = some (.bool false) := b2
  have b3 : w4.cell? _ = some (.bool false) := b3
  have hl4 := Cm.enc_len 0
  go_wp2_with fail
  go_ret2
  exact byted_of HK4.out (by rw [HRAW.out]; simp only [List.append_assoc, List.append_nil, List.nil_append, Int.toNat_natCast])

set_option maxRecDepth 100000 in
set_option maxHeartbeats 4000000 in
theorem bytes_1 (o : O) (A : Option Addr) (c : Nat) (X : Nat → Prop) (hk : o.kind = 1) (w : World) (hl : o.recs.length ≤ 140737488355328) (hls : Ls w X (.slice A o.recs.length c) o.recs) (hc : check o = 0) :
    Calls Tryz.prog 103 #[OV o A c] w (Byted w o) := by
  have hls1 := hls.after (rk_start w o A c).below
  have HCH := Lib.hid (check_any o (OV o A c) X _ ⟨A, c, rfl, hls1⟩ hl)
  rw [hc] at HCH
  have HC := Lib.hid (rk_start w o A c)
  obtain ⟨lT, lG, lO, lR⟩ := check_lens hc
  rw [hk] at lT lG lO lR
  have HLS := Lib.hid hls
  have HRAW : Hid (raw o = Cm.enc 1 ++ (Cm.encB o.topic ++ ([] ++ ([] ++ [])))) := Lib.hid (by
    unfold raw
    rw [hk]
    rfl)
  have tl := lT rfl
  clear hls hls1 hc lT lG lO lR
  obtain ⟨kind, topic, group, off, recs⟩ := o
  simp only at hk
  subst hk
  unfold OV at HCH ⊢
  simp only at HLS HCH hl tl ⊢
  go_enter Tryz.func103, Tryz.ntmps103
  go_wp2_with fail
  refine HCH.out.mono ?_
  rintro e w2 ⟨rfl, hb2⟩
  have HC2 := Lib.hid (HC.out.later hb2)
  clear hb2
  obtain ⟨a0, a1, a2, a3, a4⟩ := HC2.out.op.cells
  simp only at a0 a1 a2 a3 a4
  go_wp2_with fail
  refine (fields_any 1 _).mono ?_
  rintro e w3 ⟨he, hb3⟩
  have he : e = .returned (.tuple #[.agg #[.bool true, .bool false, .bool false, .bool false], .bool true]) := he
  subst he
  have HC3 := Lib.hid (ck_of (HC2.out.later hb3))
  have HC3 : Hid (CK w w.heap.size w3.heap.size ⟨1, topic, group, off, recs⟩ A c (w3.alloc (.cells #[.bool true, .bool false, .bool false, .bool false] 135))) := HC3
  clear hb3 a0 a1 a2 a3 a4
  obtain ⟨a0, a1, a2, a3, a4⟩ := HC3.out.op.cells
  simp only at a0 a1 a2 a3 a4
  go_wp2_with fail
  refine (putnum_any (fun _ => False) (.slice none 0 0) 0 [] 1 _ (Sl.nil _ _ _) (by omega) (by omega)).mono ?_
  rintro e w4 ⟨v4, rfl, hown4, hb4⟩
  have HK4 := Lib.hid (BK.put (bk_start HC3.out) (Below.refl _ _) hown4 hb4)
  have HK4 : Hid (BK w w.heap.size w3.heap.size ⟨1, topic, group, off, recs⟩ A c v4 (Cm.enc 1) w4) := HK4
  clear hown4 hb4
  clear a0 a1 a2 a3 a4
  obtain ⟨a0, a1, a2, a3, a4⟩ := HK4.out.ck.op.cells
  obtain ⟨b0, b1, b2, b3⟩ := HK4.out.ck.fields.cells
  simp only at a0 a1 a2 a3 a4
  have b0 : w4.cell? _ = some (.bool true) := b0
  have b1 : w4.cell? _ = some (.bool false) := b1
  have b2 : w4.cell? _ = some (.bool false) := b2
  have b3 : w4.cell? _ = some (.bool false) := b3
  have hl4 := Cm.enc_len 1
  have kc5 := conv_bytes topic
  have HO5 := Lib.hid (bytesWorld_out w4 topic (by omega))
  have HB5 := Lib.hid (bytesWorld_below w4 5 ⟨topic.toArray⟩)
  have le5 := Cm.enc_len topic.length
  go_wp2_with fail
  refine (putbytes_any (fun _ => False) v4 _ _ _ (Cm.enc 1) topic _ ((Sl.of_own HK4.out.row (fun _ _ _ h => h)).after HB5.out) (HO5.out.sl (fun _ _ _ h => h)) (by (try simp only [List.length_append, Cm.encB_len]); omega) (by (try simp only [List.length_append, Cm.encB_len]); omega)).mono ?_
  rintro e w5 ⟨v5, rfl, hown, hb⟩
  have HK5 := Lib.hid (HK4.out.put HB5.out hown hb)
  clear hown hb kc5 b0 b1 b2 b3
  clear a0 a1 a2 a3 a4
  obtain ⟨a0, a1, a2, a3, a4⟩ := HK5.out.ck.op.cells
  obtain ⟨b0, b1, b2, b3⟩ := HK5.out.ck.fields.cells
  simp only at a0 a1 a2 a3 a4
  have b0 : w5.cell? _ = some (.bool true) := b0
  have b1 : w5.cell? _ = some (.bool false) := b1
  have b2 : w5.cell? _ = some (.bool false) := b2
  have b3 : w5.cell? _ = some (.bool false) := b3
  have hl5 := Cm.enc_len 1
  go_wp2_with fail
  go_ret2
  exact byted_of HK5.out (by rw [HRAW.out]; simp only [List.append_assoc, List.append_nil, List.nil_append, Int.toNat_natCast])

set_option maxRecDepth 100000 in
set_option maxHeartbeats 4000000 in
theorem bytes_2 (o : O) (A : Option Addr) (c : Nat) (X : Nat → Prop) (hk : o.kind = 2) (w : World) (hl : o.recs.length ≤ 140737488355328) (hls : Ls w X (.slice A o.recs.length c) o.recs) (hc : check o = 0) :
    Calls Tryz.prog 103 #[OV o A c] w (Byted w o) := by
  have hls1 := hls.after (rk_start w o A c).below
  have HCH := Lib.hid (check_any o (OV o A c) X _ ⟨A, c, rfl, hls1⟩ hl)
  rw [hc] at HCH
  have HC := Lib.hid (rk_start w o A c)
  obtain ⟨lT, lG, lO, lR⟩ := check_lens hc
  rw [hk] at lT lG lO lR
  have HLS := Lib.hid hls
  have HRAW : Hid (raw o = Cm.enc 2 ++ (Cm.encB o.topic ++ ([] ++ ([] ++ Cm.encL o.recs)))) := Lib.hid (by
    unfold raw
    rw [hk]
    rfl)
  have tl := lT rfl
  obtain ⟨r1, r4, -, rl⟩ := lR rfl
  clear hls hls1 hc lT lG lO lR
  obtain ⟨kind, topic, group, off, recs⟩ := o
  simp only at hk
  subst hk
  unfold OV at HCH ⊢
  simp only at HLS HCH hl tl r1 r4 rl ⊢
  go_enter Tryz.func103, Tryz.ntmps103
  go_wp2_with fail
  refine HCH.out.mono ?_
  rintro e w2 ⟨rfl, hb2⟩
  have HC2 := Lib.hid (HC.out.later hb2)
  clear hb2
  obtain ⟨a0, a1, a2, a3, a4⟩ := HC2.out.op.cells
  simp only at a0 a1 a2 a3 a4
  go_wp2_with fail
  refine (fields_any 2 _).mono ?_
  rintro e w3 ⟨he, hb3⟩
  have he : e = .returned (.tuple #[.agg #[.bool true, .bool false, .bool false, .bool true], .bool true]) := he
  subst he
  have HC3 := Lib.hid (ck_of (HC2.out.later hb3))
  have HC3 : Hid (CK w w.heap.size w3.heap.size ⟨2, topic, group, off, recs⟩ A c (w3.alloc (.cells #[.bool true, .bool false, .bool false, .bool true] 135))) := HC3
  clear hb3 a0 a1 a2 a3 a4
  obtain ⟨a0, a1, a2, a3, a4⟩ := HC3.out.op.cells
  simp only at a0 a1 a2 a3 a4
  go_wp2_with fail
  refine (putnum_any (fun _ => False) (.slice none 0 0) 0 [] 2 _ (Sl.nil _ _ _) (by omega) (by omega)).mono ?_
  rintro e w4 ⟨v4, rfl, hown4, hb4⟩
  have HK4 := Lib.hid (BK.put (bk_start HC3.out) (Below.refl _ _) hown4 hb4)
  have HK4 : Hid (BK w w.heap.size w3.heap.size ⟨2, topic, group, off, recs⟩ A c v4 (Cm.enc 2) w4) := HK4
  clear hown4 hb4
  clear a0 a1 a2 a3 a4
  obtain ⟨a0, a1, a2, a3, a4⟩ := HK4.out.ck.op.cells
  obtain ⟨b0, b1, b2, b3⟩ := HK4.out.ck.fields.cells
  simp only at a0 a1 a2 a3 a4
  have b0 : w4.cell? _ = some (.bool true) := b0
  have b1 : w4.cell? _ = some (.bool false) := b1
  have b2 : w4.cell? _ = some (.bool false) := b2
  have b3 : w4.cell? _ = some (.bool true) := b3
  have hl4 := Cm.enc_len 2
  have kc5 := conv_bytes topic
  have HO5 := Lib.hid (bytesWorld_out w4 topic (by omega))
  have HB5 := Lib.hid (bytesWorld_below w4 5 ⟨topic.toArray⟩)
  have le5 := Cm.enc_len topic.length
  go_wp2_with fail
  refine (putbytes_any (fun _ => False) v4 _ _ _ (Cm.enc 2) topic _ ((Sl.of_own HK4.out.row (fun _ _ _ h => h)).after HB5.out) (HO5.out.sl (fun _ _ _ h => h)) (by (try simp only [List.length_append, Cm.encB_len]); omega) (by (try simp only [List.length_append, Cm.encB_len]); omega)).mono ?_
  rintro e w5 ⟨v5, rfl, hown, hb⟩
  have HK5 := Lib.hid (HK4.out.put HB5.out hown hb)
  clear hown hb kc5 b0 b1 b2 b3
  clear a0 a1 a2 a3 a4
  obtain ⟨a0, a1, a2, a3, a4⟩ := HK5.out.ck.op.cells
  obtain ⟨b0, b1, b2, b3⟩ := HK5.out.ck.fields.cells
  simp only at a0 a1 a2 a3 a4
  have b0 : w5.cell? _ = some (.bool true) := b0
  have b1 : w5.cell? _ = some (.bool false) := b1
  have b2 : w5.cell? _ = some (.bool false) := b2
  have b3 : w5.cell? _ = some (.bool true) := b3
  have hl5 := Cm.enc_len 2
  go_wp2_with fail
  refine (parts_any _ X A c recs (HLS.out.after HK5.out.ck.below) (by omega)).mono ?_
  rintro e wp ⟨Ap, cp, rfl, hlp, hbp⟩
  have HBP := Lib.hid hbp
  have HLP := Lib.hid hlp
  clear hbp hlp
  go_wp2_with fail
  refine (putlist_any (fun _ => False) _ v5 _ (Cm.enc 2 ++ Cm.encB topic) Ap cp recs _ ((Sl.of_own HK5.out.row (fun _ _ _ h => h)).after HBP.out) HLP.out (by (try simp only [List.length_append, Cm.encB_len]); omega) (by omega)).mono ?_
  rintro e w6 ⟨v6, rfl, hown, hb⟩
  have HK6 := Lib.hid (HK5.out.put HBP.out hown hb)
  clear hown hb b0 b1 b2 b3
  clear a0 a1 a2 a3 a4
  obtain ⟨a0, a1, a2, a3, a4⟩ := HK6.out.ck.op.cells
  obtain ⟨b0, b1, b2, b3⟩ := HK6.out.ck.fields.cells
  simp only at a0 a1 a2 a3 a4
  have b0 : w6.cell? _ = some (.bool true) := b0
  have b1 : w6.cell? _ = some (.bool false) := b1
  have b2 : w6.cell? _ = some (.bool false) := b2
  have b3 : w6.cell? _ = some (.bool true) := b3
  have hl6 := Cm.enc_len 2
  go_wp2_with fail
  go_ret2
  exact byted_of HK6.out (by rw [HRAW.out]; simp only [List.append_assoc, List.append_nil, List.nil_append, Int.toNat_natCast])

set_option maxRecDepth 100000 in
set_option maxHeartbeats 4000000 in
theorem bytes_3 (o : O) (A : Option Addr) (c : Nat) (X : Nat → Prop) (hk : o.kind = 3) (w : World) (hl : o.recs.length ≤ 140737488355328) (hls : Ls w X (.slice A o.recs.length c) o.recs) (hc : check o = 0) :
    Calls Tryz.prog 103 #[OV o A c] w (Byted w o) := by
  have hls1 := hls.after (rk_start w o A c).below
  have HCH := Lib.hid (check_any o (OV o A c) X _ ⟨A, c, rfl, hls1⟩ hl)
  rw [hc] at HCH
  have HC := Lib.hid (rk_start w o A c)
  obtain ⟨lT, lG, lO, lR⟩ := check_lens hc
  rw [hk] at lT lG lO lR
  have HLS := Lib.hid hls
  have HRAW : Hid (raw o = Cm.enc 3 ++ (Cm.encB o.topic ++ (Cm.encB o.group ++ (Cm.enc o.off.toNat ++ [])))) := Lib.hid (by
    unfold raw
    rw [hk]
    rfl)
  have tl := lT rfl
  have gl := lG rfl
  obtain ⟨ol, oh⟩ := lO rfl
  clear hls hls1 hc lT lG lO lR
  obtain ⟨kind, topic, group, off, recs⟩ := o
  simp only at hk
  subst hk
  unfold OV at HCH ⊢
  simp only at HLS HCH hl tl gl ol oh ⊢
  go_enter Tryz.func103, Tryz.ntmps103
  go_wp2_with fail
  refine HCH.out.mono ?_
  rintro e w2 ⟨rfl, hb2⟩
  have HC2 := Lib.hid (HC.out.later hb2)
  clear hb2
  obtain ⟨a0, a1, a2, a3, a4⟩ := HC2.out.op.cells
  simp only at a0 a1 a2 a3 a4
  go_wp2_with fail
  refine (fields_any 3 _).mono ?_
  rintro e w3 ⟨he, hb3⟩
  have he : e = .returned (.tuple #[.agg #[.bool true, .bool true, .bool true, .bool false], .bool true]) := he
  subst he
  have HC3 := Lib.hid (ck_of (HC2.out.later hb3))
  have HC3 : Hid (CK w w.heap.size w3.heap.size ⟨3, topic, group, off, recs⟩ A c (w3.alloc (.cells #[.bool true, .bool true, .bool true, .bool false] 135))) := HC3
  clear hb3 a0 a1 a2 a3 a4
  obtain ⟨a0, a1, a2, a3, a4⟩ := HC3.out.op.cells
  simp only at a0 a1 a2 a3 a4
  go_wp2_with fail
  refine (putnum_any (fun _ => False) (.slice none 0 0) 0 [] 3 _ (Sl.nil _ _ _) (by omega) (by omega)).mono ?_
  rintro e w4 ⟨v4, rfl, hown4, hb4⟩
  have HK4 := Lib.hid (BK.put (bk_start HC3.out) (Below.refl _ _) hown4 hb4)
  have HK4 : Hid (BK w w.heap.size w3.heap.size ⟨3, topic, group, off, recs⟩ A c v4 (Cm.enc 3) w4) := HK4
  clear hown4 hb4
  clear a0 a1 a2 a3 a4
  obtain ⟨a0, a1, a2, a3, a4⟩ := HK4.out.ck.op.cells
  obtain ⟨b0, b1, b2, b3⟩ := HK4.out.ck.fields.cells
  simp only at a0 a1 a2 a3 a4
  have b0 : w4.cell? _ = some (.bool true) := b0
  have b1 : w4.cell? _ = some (.bool true) := b1
  have b2 : w4.cell? _ = some (.bool true) := b2
  have b3 : w4.cell? _ = some (.bool false) := b3
  have hl4 := Cm.enc_len 3
  have kc5 := conv_bytes topic
  have HO5 := Lib.hid (bytesWorld_out w4 topic (by omega))
  have HB5 := Lib.hid (bytesWorld_below w4 5 ⟨topic.toArray⟩)
  have le5 := Cm.enc_len topic.length
  go_wp2_with fail
  refine (putbytes_any (fun _ => False) v4 _ _ _ (Cm.enc 3) topic _ ((Sl.of_own HK4.out.row (fun _ _ _ h => h)).after HB5.out) (HO5.out.sl (fun _ _ _ h => h)) (by (try simp only [List.length_append, Cm.encB_len]); omega) (by (try simp only [List.length_append, Cm.encB_len]); omega)).mono ?_
  rintro e w5 ⟨v5, rfl, hown, hb⟩
  have HK5 := Lib.hid (HK4.out.put HB5.out hown hb)
  clear hown hb kc5 b0 b1 b2 b3
  clear a0 a1 a2 a3 a4
  obtain ⟨a0, a1, a2, a3, a4⟩ := HK5.out.ck.op.cells
  obtain ⟨b0, b1, b2, b3⟩ := HK5.out.ck.fields.cells
  simp only at a0 a1 a2 a3 a4
  have b0 : w5.cell? _ = some (.bool true) := b0
  have b1 : w5.cell? _ = some (.bool true) := b1
  have b2 : w5.cell? _ = some (.bool true) := b2
  have b3 : w5.cell? _ = some (.bool false) := b3
  have hl5 := Cm.enc_len 3
  have kc6 := conv_bytes group
  have HO6 := Lib.hid (bytesWorld_out w5 group (by omega))
  have HB6 := Lib.hid (bytesWorld_below w5 5 ⟨group.toArray⟩)
  have le6 := Cm.enc_len group.length
  go_wp2_with fail
  refine (putbytes_any (fun _ => False) v5 _ _ _ (Cm.enc 3 ++ Cm.encB topic) group _ ((Sl.of_own HK5.out.row (fun _ _ _ h => h)).after HB6.out) (HO6.out.sl (fun _ _ _ h => h)) (by (try simp only [List.length_append, Cm.encB_len]); omega) (by (try simp only [List.length_append, Cm.encB_len]); omega)).mono ?_
  rintro e w6 ⟨v6, rfl, hown, hb⟩
  have HK6 := Lib.hid (HK5.out.put HB6.out hown hb)
  clear hown hb kc6 b0 b1 b2 b3
  clear a0 a1 a2 a3 a4
  obtain ⟨a0, a1, a2, a3, a4⟩ := HK6.out.ck.op.cells
  obtain ⟨b0, b1, b2, b3⟩ := HK6.out.ck.fields.cells
  simp only at a0 a1 a2 a3 a4
  have b0 : w6.cell? _ = some (.bool true) := b0
  have b1 : w6.cell? _ = some (.bool true) := b1
  have b2 : w6.cell? _ = some (.bool true) := b2
  have b3 : w6.cell? _ = some (.bool false) := b3
  have hl6 := Cm.enc_len 3
  obtain ⟨z, rfl⟩ := Int.eq_ofNat_of_zero_le ol
  have hw7 := wrap_u64' z (by omega)
  have OH := Lib.hid oh
  clear ol oh
  have le7 := Cm.enc_len z
  go_wp2_with fail
  refine (putnum_any (fun _ => False) v6 _ (Cm.enc 3 ++ Cm.encB topic ++ Cm.encB group) z _ (Sl.of_own HK6.out.row (fun _ _ _ h => h)) (by (try simp only [List.length_append, Cm.encB_len]); omega) (by have := OH.out; omega)).mono ?_
  rintro e w7 ⟨v7, rfl, hown, hb⟩
  have HK7 := Lib.hid (HK6.out.put (Below.refl _ _) hown hb)
  clear hown hb b0 b1 b2 b3
  clear a0 a1 a2 a3 a4
  obtain ⟨a0, a1, a2, a3, a4⟩ := HK7.out.ck.op.cells
  obtain ⟨b0, b1, b2, b3⟩ := HK7.out.ck.fields.cells
  simp only at a0 a1 a2 a3 a4
  have b0 : w7.cell? _ = some (.bool true) := b0
  have b1 : w7.cell? _ = some (.bool true) := b1
  have b2 : w7.cell? _ = some (.bool true) := b2
  have b3 : w7.cell? _ = some (.bool false) := b3
  have hl7 := Cm.enc_len 3
  go_wp2_with fail
  go_ret2
  exact byted_of HK7.out (by rw [HRAW.out]; simp only [List.append_assoc, List.append_nil, List.nil_append, Int.toNat_natCast])

set_option maxRecDepth 100000 in
set_option maxHeartbeats 4000000 in
theorem bytes_4 (o : O) (A : Option Addr) (c : Nat) (X : Nat → Prop) (hk : o.kind = 4) (w : World) (hl : o.recs.length ≤ 140737488355328) (hls : Ls w X (.slice A o.recs.length c) o.recs) (hc : check o = 0) :
    Calls Tryz.prog 103 #[OV o A c] w (Byted w o) := by
  have hls1 := hls.after (rk_start w o A c).below
  have HCH := Lib.hid (check_any o (OV o A c) X _ ⟨A, c, rfl, hls1⟩ hl)
  rw [hc] at HCH
  have HC := Lib.hid (rk_start w o A c)
  obtain ⟨lT, lG, lO, lR⟩ := check_lens hc
  rw [hk] at lT lG lO lR
  have HLS := Lib.hid hls
  have HRAW : Hid (raw o = Cm.enc 4 ++ (Cm.encB o.topic ++ ([] ++ (Cm.enc o.off.toNat ++ [])))) := Lib.hid (by
    unfold raw
    rw [hk]
    rfl)
  have tl := lT rfl
  obtain ⟨ol, oh⟩ := lO rfl
  clear hls hls1 hc lT lG lO lR
  obtain ⟨kind, topic, group, off, recs⟩ := o
  simp only at hk
  subst hk
  unfold OV at HCH ⊢
  simp only at HLS HCH hl tl ol oh ⊢
  go_enter Tryz.func103, Tryz.ntmps103
  go_wp2_with fail
  refine HCH.out.mono ?_
  rintro e w2 ⟨rfl, hb2⟩
  have HC2 := Lib.hid (HC.out.later hb2)
  clear hb2
  obtain ⟨a0, a1, a2, a3, a4⟩ := HC2.out.op.cells
  simp only at a0 a1 a2 a3 a4
  go_wp2_with fail
  refine (fields_any 4 _).mono ?_
  rintro e w3 ⟨he, hb3⟩
  have he : e = .returned (.tuple #[.agg #[.bool true, .bool false, .bool true, .bool false], .bool true]) := he
  subst he
  have HC3 := Lib.hid (ck_of (HC2.out.later hb3))
  have HC3 : Hid (CK w w.heap.size w3.heap.size ⟨4, topic, group, off, recs⟩ A c (w3.alloc (.cells #[.bool true, .bool false, .bool true, .bool false] 135))) := HC3
  clear hb3 a0 a1 a2 a3 a4
  obtain ⟨a0, a1, a2, a3, a4⟩ := HC3.out.op.cells
  simp only at a0 a1 a2 a3 a4
  go_wp2_with fail
  refine (putnum_any (fun _ => False) (.slice none 0 0) 0 [] 4 _ (Sl.nil _ _ _) (by omega) (by omega)).mono ?_
  rintro e w4 ⟨v4, rfl, hown4, hb4⟩
  have HK4 := Lib.hid (BK.put (bk_start HC3.out) (Below.refl _ _) hown4 hb4)
  have HK4 : Hid (BK w w.heap.size w3.heap.size ⟨4, topic, group, off, recs⟩ A c v4 (Cm.enc 4) w4) := HK4
  clear hown4 hb4
  clear a0 a1 a2 a3 a4
  obtain ⟨a0, a1, a2, a3, a4⟩ := HK4.out.ck.op.cells
  obtain ⟨b0, b1, b2, b3⟩ := HK4.out.ck.fields.cells
  simp only at a0 a1 a2 a3 a4
  have b0 : w4.cell? _ = some (.bool true) := b0
  have b1 : w4.cell? _ = some (.bool false) := b1
  have b2 : w4.cell? _ = some (.bool true) := b2
  have b3 : w4.cell? _ = some (.bool false) := b3
  have hl4 := Cm.enc_len 4
  have kc5 := conv_bytes topic
  have HO5 := Lib.hid (bytesWorld_out w4 topic (by omega))
  have HB5 := Lib.hid (bytesWorld_below w4 5 ⟨topic.toArray⟩)
  have le5 := Cm.enc_len topic.length
  go_wp2_with fail
  refine (putbytes_any (fun _ => False) v4 _ _ _ (Cm.enc 4) topic _ ((Sl.of_own HK4.out.row (fun _ _ _ h => h)).after HB5.out) (HO5.out.sl (fun _ _ _ h => h)) (by (try simp only [List.length_append, Cm.encB_len]); omega) (by (try simp only [List.length_append, Cm.encB_len]); omega)).mono ?_
  rintro e w5 ⟨v5, rfl, hown, hb⟩
  have HK5 := Lib.hid (HK4.out.put HB5.out hown hb)
  clear hown hb kc5 b0 b1 b2 b3
  clear a0 a1 a2 a3 a4
  obtain ⟨a0, a1, a2, a3, a4⟩ := HK5.out.ck.op.cells
  obtain ⟨b0, b1, b2, b3⟩ := HK5.out.ck.fields.cells
  simp only at a0 a1 a2 a3 a4
  have b0 : w5.cell? _ = some (.bool true) := b0
  have b1 : w5.cell? _ = some (.bool false) := b1
  have b2 : w5.cell? _ = some (.bool true) := b2
  have b3 : w5.cell? _ = some (.bool false) := b3
  have hl5 := Cm.enc_len 4
  obtain ⟨z, rfl⟩ := Int.eq_ofNat_of_zero_le ol
  have hw6 := wrap_u64' z (by omega)
  have OH := Lib.hid oh
  clear ol oh
  have le6 := Cm.enc_len z
  go_wp2_with fail
  refine (putnum_any (fun _ => False) v5 _ (Cm.enc 4 ++ Cm.encB topic) z _ (Sl.of_own HK5.out.row (fun _ _ _ h => h)) (by (try simp only [List.length_append, Cm.encB_len]); omega) (by have := OH.out; omega)).mono ?_
  rintro e w6 ⟨v6, rfl, hown, hb⟩
  have HK6 := Lib.hid (HK5.out.put (Below.refl _ _) hown hb)
  clear hown hb b0 b1 b2 b3
  clear a0 a1 a2 a3 a4
  obtain ⟨a0, a1, a2, a3, a4⟩ := HK6.out.ck.op.cells
  obtain ⟨b0, b1, b2, b3⟩ := HK6.out.ck.fields.cells
  simp only at a0 a1 a2 a3 a4
  have b0 : w6.cell? _ = some (.bool true) := b0
  have b1 : w6.cell? _ = some (.bool false) := b1
  have b2 : w6.cell? _ = some (.bool true) := b2
  have b3 : w6.cell? _ = some (.bool false) := b3
  have hl6 := Cm.enc_len 4
  go_wp2_with fail
  go_ret2
  exact byted_of HK6.out (by rw [HRAW.out]; simp only [List.append_assoc, List.append_nil, List.nil_append, Int.toNat_natCast])

/-- What Bytes leaves. -/
def Formed (w : World) (o : O) (e : Ending) (w' : World) : Prop := ∃ v, e = .returned (.tuple #[v, .int .i64 (check o)]) ∧ w'.ownsRow w.heap.size 5 1 v (form o).length (BVs (form o)) ∧ Below w.heap.size w w'
theorem bytes_any (o : O) (v : Value) (X : Nat → Prop) (w : World) (h : OI w X v o) (hl : o.recs.length ≤ 140737488355328) : Calls Tryz.prog 103 #[v] w (Formed w o) := by
  obtain ⟨A, c, rfl, hls⟩ := h
  by_cases hc : check o = 0
  · have hf : form o = raw o := by rw [form, if_neg (by omega)]
    have key : Calls Tryz.prog 103 #[OV o A c] w (Byted w o) := by
      rcases kind_cases (check_ok hc).1 with h | h | h | h | h
      · exact bytes_0 o A c X h w hl hls hc
      · exact bytes_1 o A c X h w hl hls hc
      · exact bytes_2 o A c X h w hl hls hc
      · exact bytes_3 o A c X h w hl hls hc
      · exact bytes_4 o A c X h w hl hls hc
    refine key.mono ?_
    rintro e w' ⟨v, rfl, hr, hb⟩
    exact ⟨v, by rw [hc], by rw [hf]; exact hr, hb⟩
  · have hf : form o = [] := by rw [form, if_pos hc]
    refine (bytes_no o A c X w hl hls hc).mono ?_
    rintro e w' ⟨rfl, hb⟩
    exact ⟨_, rfl, by rw [hf]; exact World.ownsRow_nil _ _ _ _, hb⟩

end Go.Proofs.YtebjjkhiniccgaaGreat.Pk

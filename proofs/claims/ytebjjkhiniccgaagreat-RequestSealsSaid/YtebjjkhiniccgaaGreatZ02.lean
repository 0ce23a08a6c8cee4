/-
  The plain mathematics of layer 6 (op): runes of a text, names, which operations may be, their bytes and what is read of bytes. No program is named here.
-/
import Derived.Test.YtebjjkhiniccgaaGreatZ01
import Derived.Lib.DecodeN
import Derived.LoopTactic
import Derived.Outline
import Derived.Laws.RangeAny
import Derived.WalkMore
import Derived.Laws.RangeString
import Derived.BigQuiet
import Derived.Deep.QuietTactic
namespace Go.Proofs.YtebjjkhiniccgaaGreat.Pm
set_option linter.unusedSimpArgs false
set_option linter.unusedVariables false
open Cm

abbrev Tx := List UInt8
/-- A byte of a text; 0 beyond its end. -/
def byte (l : Tx) (i : Nat) : Nat := (l[i]?.getD 0).toNat
theorem byte_lt (l : Tx) (i : Nat) : byte l i < 256 := UInt8.toNat_lt _
theorem byte_get {l : Tx} {i : Nat} (h : i < l.length) : byte l i = l[i].toNat := by simp [byte, h]
theorem byte_drop (l : Tx) (i k : Nat) : byte (l.drop i) k = byte l (i + k) := by simp [byte, List.getElem?_drop]
/-- The rune with which a text begins, and its width. -/
def dec (l : Tx) : Nat × Nat := Go.Lib.decodeN l.length (byte l 0) (byte l 1) (byte l 2) (byte l 3)
theorem get_byte (l : Tx) (i : Nat) : ((ByteArray.mk l.toArray).get! i).toNat = byte l i := by
  show (l.toArray[i]!).toNat = _
  rw [byte, getElem!_def]
  cases h : l[i]? with
  | none => simp [h]; rfl
  | some x => simp [h]
theorem decode_dec (l : Tx) (i : Nat) : Go.Utf8.decode ⟨l.toArray⟩ i = dec (l.drop i) := by
  rw [Go.Lib.decode_at, dec]
  have hs : (ByteArray.mk l.toArray).size = l.length := by show l.toArray.size = _; simp
  rw [hs, get_byte, get_byte, get_byte, get_byte, List.length_drop, byte_drop, byte_drop, byte_drop, byte_drop]
  rfl
theorem dec_width (l : Tx) : 1 ≤ (dec l).2 := by
  unfold dec Go.Lib.decodeN
  repeat' split
  all_goals simp
theorem dec_width_le (l : Tx) (h : 1 ≤ l.length) : (dec l).2 ≤ l.length := by
  unfold dec Go.Lib.decodeN
  repeat' split
  all_goals (simp only; omega)
theorem dec_lt (l : Tx) : (dec l).1 ≤ 1114111 := by
  have h0 := byte_lt l 0; have h1 := byte_lt l 1; have h2 := byte_lt l 2; have h3 := byte_lt l 3
  unfold dec Go.Lib.decodeN
  repeat' split
  all_goals (simp only; omega)

/-- A rune that stands in no name. -/
def Bar (v : Nat) : Prop := v < 33 ∨ v = 47 ∨ (127 ≤ v ∧ v ≤ 159) ∨ v = 65533
instance (v : Nat) : Decidable (Bar v) := by unfold Bar; infer_instance
/-- How many runes: so many more may come. -/
def rn : Nat → Tx → Nat
  | 0, l => if l = [] then 16 else 0
  | j + 1, l => if l = [] then 15 - j else if Bar (dec l).1 then 0 else rn j (l.drop (dec l).2)
def runes (l : Tx) : Nat := rn 16 l
def name (l : Tx) : Bool := decide (0 < runes l)
theorem rn_nil : ∀ j, j ≤ 16 → rn j [] = 16 - j
  | 0, _ => rfl
  | j + 1, h => by rw [rn, if_pos rfl]; omega
theorem rn_zero {l : Tx} (h : l ≠ []) : rn 0 l = 0 := by rw [rn, if_neg h]
theorem rn_bar {l : Tx} {j : Nat} (h : l ≠ []) (hb : Bar (dec l).1) : rn j l = 0 := by
  cases j with
  | zero => exact rn_zero h
  | succ j => rw [rn, if_neg h, if_pos hb]
theorem rn_step {l : Tx} {j : Nat} (h : l ≠ []) (hb : ¬ Bar (dec l).1) : rn (j + 1) l = rn j (l.drop (dec l).2) := by rw [rn, if_neg h, if_neg hb]
/-- How many bytes a rune has that begins so. -/
def sz (b : Nat) : Nat := if b < 128 then 1 else if 194 ≤ b ∧ b < 224 then 2 else if 224 ≤ b ∧ b < 240 then 3 else if 240 ≤ b ∧ b < 245 then 4 else 0
theorem sz_cases (b : Nat) : (sz b = 0 ∧ (128 ≤ b ∧ b < 194 ∨ 245 ≤ b)) ∨ (sz b = 1 ∧ b < 128) ∨ (sz b = 2 ∧ 194 ≤ b ∧ b < 224) ∨ (sz b = 3 ∧ 224 ≤ b ∧ b < 240) ∨ (sz b = 4 ∧ 240 ≤ b ∧ b < 245) := by
  unfold sz
  repeat' split
  all_goals omega
/-- The document's rune: none of what is no rune's form. -/
def r1 (l : Tx) : Nat × Nat := if dec l = (65533, 1) then (0, 0) else dec l
theorem r1_bad {l : Tx} (h : dec l = (65533, 1)) : r1 l = (0, 0) := by rw [r1, if_pos h]
theorem r1_ok {l : Tx} {v n : Nat} (h : dec l = (v, n)) (hn : v ≠ 65533 ∨ n ≠ 1) : r1 l = (v, n) := by
  rw [r1, h, if_neg]
  intro e
  have := Prod.mk.inj e
  omega
theorem r1_none {l : Tx} (hl : 1 ≤ l.length) (h : sz (byte l 0) = 0 ∨ l.length < sz (byte l 0)) : r1 l = (0, 0) := by
  have h0 := byte_lt l 0; have h1 := byte_lt l 1; have h2 := byte_lt l 2; have h3 := byte_lt l 3
  have hc := sz_cases (byte l 0)
  refine r1_bad ?_
  unfold dec Go.Lib.decodeN
  generalize sz (byte l 0) = q at *
  repeat' split
  all_goals first | rfl | (exfalso; omega)
theorem r1_one {l : Tx} (h : sz (byte l 0) = 1) : r1 l = (byte l 0, 1) := by
  have hc := sz_cases (byte l 0)
  have hb : byte l 0 < 128 := by omega
  have hd : dec l = (byte l 0, 1) := by rw [dec, Go.Lib.decodeN, if_pos hb]
  exact r1_ok hd (.inl (by omega))
/-- A rune of so many bytes: what was gathered, byte by byte. -/
def gath (l : Tx) (m : Nat) : Nat → Nat
  | 0 => byte l 0 % m
  | k + 1 => gath l m k * 64 + byte l (k + 1) % 64
def cont (l : Tx) (i : Nat) : Prop := ¬ byte l i < 128 ∧ ¬ 192 ≤ byte l i
def good (v least : Nat) : Prop := ¬ v < least ∧ ¬ 1114111 < v ∧ ¬ (55296 ≤ v ∧ v < 57344)
theorem r1_two {l : Tx} (h : sz (byte l 0) = 2) (hl : 2 ≤ l.length) : (¬ (cont l 1) → r1 l = (0, 0)) ∧ ((cont l 1) → (good (gath l 32 1) 128 → r1 l = (gath l 32 1, 2)) ∧ (¬ good (gath l 32 1) 128 → r1 l = (0, 0))) := by
  have h0 := byte_lt l 0; have h1 := byte_lt l 1; have h2 := byte_lt l 2; have h3 := byte_lt l 3
  have hc := sz_cases (byte l 0)
  generalize sz (byte l 0) = q at *
  subst h
  refine ⟨fun hk => r1_bad ?_, fun hk => ⟨fun hg => r1_ok ?_ (.inr (by omega)), fun hg => r1_bad ?_⟩⟩
  all_goals (simp only [cont, good, gath, dec, Go.Lib.decodeN, Nat.zero_add, Nat.reduceAdd] at *)
  all_goals (repeat' split)
  all_goals first | rfl | (exfalso; omega) | (refine Prod.ext ?_ ?_ <;> simp only <;> omega)
theorem r1_three {l : Tx} (h : sz (byte l 0) = 3) (hl : 3 ≤ l.length) : (¬ (cont l 1 ∧ cont l 2) → r1 l = (0, 0)) ∧ ((cont l 1 ∧ cont l 2) → (good (gath l 16 2) 2048 → r1 l = (gath l 16 2, 3)) ∧ (¬ good (gath l 16 2) 2048 → r1 l = (0, 0))) := by
  have h0 := byte_lt l 0; have h1 := byte_lt l 1; have h2 := byte_lt l 2; have h3 := byte_lt l 3
  have hc := sz_cases (byte l 0)
  generalize sz (byte l 0) = q at *
  subst h
  refine ⟨fun hk => r1_bad ?_, fun hk => ⟨fun hg => r1_ok ?_ (.inr (by omega)), fun hg => r1_bad ?_⟩⟩
  all_goals (simp only [cont, good, gath, dec, Go.Lib.decodeN, Nat.zero_add, Nat.reduceAdd] at *)
  all_goals (repeat' split)
  all_goals first | rfl | (exfalso; omega) | (refine Prod.ext ?_ ?_ <;> simp only <;> omega)
theorem r1_four {l : Tx} (h : sz (byte l 0) = 4) (hl : 4 ≤ l.length) : (¬ (cont l 1 ∧ cont l 2 ∧ cont l 3) → r1 l = (0, 0)) ∧ ((cont l 1 ∧ cont l 2 ∧ cont l 3) → (good (gath l 8 3) 65536 → r1 l = (gath l 8 3, 4)) ∧ (¬ good (gath l 8 3) 65536 → r1 l = (0, 0))) := by
  have h0 := byte_lt l 0; have h1 := byte_lt l 1; have h2 := byte_lt l 2; have h3 := byte_lt l 3
  have hc := sz_cases (byte l 0)
  generalize sz (byte l 0) = q at *
  subst h
  refine ⟨fun hk => r1_bad ?_, fun hk => ⟨fun hg => r1_ok ?_ (.inr (by omega)), fun hg => r1_bad ?_⟩⟩
  all_goals (simp only [cont, good, gath, dec, Go.Lib.decodeN, Nat.zero_add, Nat.reduceAdd] at *)
  all_goals (repeat' split)
  all_goals first | rfl | (exfalso; omega) | (refine Prod.ext ?_ ?_ <;> simp only <;> omega)

/-- An operation. -/
structure O where
  kind : Int
  topic : Tx
  group : Tx
  off : Int
  recs : List Tx
deriving DecidableEq
def O.zero : O := ⟨0, [], [], 0, []⟩

/-- What a kind has: a topic, a group, an offset, records. -/
def hasT (k : Int) : Bool := k == 1 || k == 2 || k == 3 || k == 4
def hasG (k : Int) : Bool := k == 3
def hasO (k : Int) : Bool := k == 3 || k == 4
def hasR (k : Int) : Bool := k == 2
def known (k : Int) : Bool := decide (0 ≤ k) && decide (k ≤ 4)
theorem kind_cases {k : Int} (h : known k = true) : k = 0 ∨ k = 1 ∨ k = 2 ∨ k = 3 ∨ k = 4 := by
  simp only [known, Bool.and_eq_true, decide_eq_true_eq] at h
  omega
theorem kind_none {k : Int} (h : known k = false) : k ≠ 0 ∧ k ≠ 1 ∧ k ≠ 2 ∧ k ≠ 3 ∧ k ≠ 4 := by
  simp only [known, Bool.and_eq_false_iff, decide_eq_false_iff_not] at h
  omega
/-- Does it hold something beside its fields? -/
def more (o : O) : Bool := (!hasT o.kind && !o.topic.isEmpty) || (!hasG o.kind && !o.group.isEmpty) || (!hasO o.kind && (o.off != 0)) || (!hasR o.kind && !o.recs.isEmpty)
def badName (o : O) : Bool := (hasT o.kind && !name o.topic) || (hasG o.kind && !name o.group)
def areRecs (l : List Tx) : Bool := decide (0 < l.length) && decide (l.length ≤ 4) && l.all fun x => decide (x.length ≤ 64)
def badRecs (o : O) : Bool := hasR o.kind && !areRecs o.recs
def badOff (o : O) : Bool := hasO o.kind && (decide (o.off < 0) || decide (9007199254740992 < o.off))
/-- What keeps an operation from being one. -/
def check (o : O) : Int := if !known o.kind || more o then 60 else if badName o then 61 else if badRecs o then 62 else if badOff o then 60 else 0
theorem check_ok {o : O} (h : check o = 0) : known o.kind = true ∧ more o = false ∧ badName o = false ∧ badRecs o = false ∧ badOff o = false := by
  unfold check at h
  split at h
  · cases h
  · rename_i h1
    split at h
    · cases h
    · rename_i h2
      split at h
      · cases h
      · rename_i h3
        split at h
        · cases h
        · rename_i h4
          simp only [Bool.or_eq_true, Bool.not_eq_true', not_or, Bool.not_eq_false, Bool.not_eq_true] at h1 h2 h3 h4
          exact ⟨h1.1, h1.2, h2, h3, h4⟩

/-- An operation's bytes, if it may be one. -/
def raw (o : O) : Tx := enc o.kind.toNat ++ ((if hasT o.kind then encB o.topic else []) ++ ((if hasG o.kind then encB o.group else []) ++ ((if hasO o.kind then enc o.off.toNat else []) ++ (if hasR o.kind then encL o.recs else []))))
def form (o : O) : Tx := if check o ≠ 0 then [] else raw o
/-- What is read, as far as it goes. -/
def rdT (k : Int) (s : RS) : Tx × RS := if hasT k then bytesS s 64 else ([], s)
def rdG (k : Int) (s : RS) : Tx × RS := if hasG k then bytesS s 64 else ([], s)
def rdO (k : Int) (s : RS) : Nat × RS := if hasO k then numS s 9007199254740992 else (0, s)
def rdR (k : Int) (s : RS) : List Tx × RS := if hasR k then listS s 4 64 else ([], s)
def rd (s : RS) : O × RS :=
  let k := numS s 4
  let t := rdT k.1 k.2
  let g := rdG k.1 t.2
  let f := rdO k.1 g.2
  let r := rdR k.1 f.2
  (⟨k.1, t.1, g.1, f.1, r.1⟩, r.2)
def take (s : RS) : O × RS := if (failS (rd s).2 (check (rd s).1)).2 ≠ 0 then (O.zero, failS (rd s).2 (check (rd s).1)) else ((rd s).1, failS (rd s).2 (check (rd s).1))
end Go.Proofs.YtebjjkhiniccgaaGreat.Pm

/-
  Layer 6 (op): the contracts of barred, Runes and Name.
-/
namespace Go.Proofs.YtebjjkhiniccgaaGreat.Pa
set_option linter.unusedSimpArgs false
open Go Go.RowKit Ck Kw Pm
set_option linter.unusedVariables false

theorem sv_size (l : Tx) : (ByteArray.mk l.toArray).size = l.length := by show l.toArray.size = _; simp

set_option maxHeartbeats 1000000 in
theorem barred_yes (v : Nat) (h : Bar v) (w : World) :
    Calls Tryz.prog 128 #[.int .i32 v] w fun e w' => e = .returned (.bool true) ∧ w = w' := by
  unfold Bar at h
  by_cases h1 : v < 33
  · clear h
    go_enter Tryz.func128, Tryz.ntmps128
    go_wp2
    go_ret
    exact ⟨rfl, rfl⟩
  · by_cases h2 : v = 47
    · subst h2
      clear h h1
      go_enter Tryz.func128, Tryz.ntmps128
      go_wp2
      go_ret
      exact ⟨rfl, rfl⟩
    · have e2 : ((v : Int) == 47) = false := by rw [beq_eq_false_iff_ne]; omega
      by_cases h3 : 127 ≤ v ∧ v ≤ 159
      · obtain ⟨h3, h4⟩ := h3
        clear h h2
        go_enter Tryz.func128, Tryz.ntmps128
        go_wp2
        go_ret
        exact ⟨rfl, rfl⟩
      · have h4 : v = 65533 := by omega
        subst h4
        clear h h1 h2 h3 e2
        go_enter Tryz.func128, Tryz.ntmps128
        go_wp2
        go_ret
        exact ⟨rfl, rfl⟩

set_option maxHeartbeats 1000000 in
theorem barred_no (v : Nat) (h : ¬ Bar v) (w : World) :
    Calls Tryz.prog 128 #[.int .i32 v] w fun e w' => e = .returned (.bool false) ∧ w = w' := by
  unfold Bar at h
  have h1 : decide ((v : Int) < 33) = false := decide_eq_false (by omega)
  have e2 : ((v : Int) == 47) = false := by rw [beq_eq_false_iff_ne]; omega
  have e3 : ((v : Int) == 65533) = false := by rw [beq_eq_false_iff_ne]; omega
  by_cases h3 : 127 ≤ v
  · have h4 : decide ((v : Int) ≤ 159) = false := decide_eq_false (by omega)
    clear h
    go_enter Tryz.func128, Tryz.ntmps128
    go_wp2
    go_ret
    exact ⟨rfl, rfl⟩
  · clear h
    go_enter Tryz.func128, Tryz.ntmps128
    go_wp2
    go_ret
    exact ⟨rfl, rfl⟩

theorem iter_below (w : World) (s : ByteArray) (p : Nat) : Below w.heap.size w (w.iter s p) := (Below.refl _ w).alloc (Nat.le_refl _) _
theorem drop_nil_iff {l : Tx} {p : Nat} : l.drop p = [] ↔ ¬ p < l.length := by rw [List.drop_eq_nil_iff]; omega

set_option maxRecDepth 100000 in
set_option maxHeartbeats 2000000 in
theorem runes_any (l : Tx) (w : World) :
    Calls Tryz.prog 115 #[SV l] w fun e w' => e = .returned (.int .i64 (runes l : Nat)) ∧ Below w.heap.size w w' := by
  unfold SV
  go_enter Tryz.func115, Tryz.ntmps115
  go_wp2
  go_step3
  go_wp2
  go_step3
  go_wp2
  go_loopw [3] (fun n wr => ∃ pos j : Nat, wr = w.iter ⟨l.toArray⟩ pos ∧ n = .int .i64 ((16 - j : Nat) : Int) ∧ j ≤ 16 ∧ rn j (l.drop pos) = runes l) (fun _ wr => l.length - wr.iterPos w.heap.size)
  case atStart => exact ⟨0, 16, rfl, rfl, Nat.le_refl _, rfl⟩
  case round =>
    obtain ⟨pos, j, rfl, rfl, hj, hr⟩ := hrel
    by_cases hp : pos < l.length
    · have hnx : ∀ ty, (Instr.next (.pointer (some ⟨w.heap.size, 0, none⟩)) true ty).run Tryz.prog (w.iter ⟨l.toArray⟩ pos) = _ := fun ty => run_next_any w ⟨l.toArray⟩ pos ty (by rw [sv_size]; exact hp)
      have hwd := dec_width (l.drop pos)
      have hlt := dec_lt (l.drop pos)
      have hne : l.drop pos ≠ [] := fun h => (drop_nil_iff.1 h) hp
      rw [decode_dec] at hnx
      have HJ := Lib.hid (l.drop_drop (i := (dec (l.drop pos)).2) (j := pos))
      generalize hd : dec (l.drop pos) = d at *
      obtain ⟨v, n⟩ := d
      simp only at hnx hwd hlt HJ
      have HR := Lib.hid hr
      have HD := Lib.hid hd
      have HNE := Lib.hid hne
      clear hr hd hne
      by_cases hb : Bar v
      · have HB := Lib.hid hb
        clear hb
        go_wp2_with (go_at_call 128; refine (barred_yes v HB.out _).mono ?_; rintro e w1 ⟨rfl, rfl⟩)
        rw [Exit.noGoto_ret]
        go_ret
        refine ⟨?_, iter_below _ _ _⟩
        rw [← HR.out, rn_bar HNE.out (by rw [HD.out]; exact HB.out)]
        rfl
      · have HB := Lib.hid hb
        clear hb
        by_cases hj0 : j = 0
        · subst hj0
          go_wp2_with (go_at_call 128; refine (barred_no v HB.out _).mono ?_; rintro e w1 ⟨rfl, rfl⟩)
          rw [Exit.noGoto_ret]
          go_ret
          refine ⟨?_, iter_below _ _ _⟩
          rw [← HR.out, rn_zero HNE.out]
          rfl
        · obtain ⟨m, rfl⟩ : ∃ m, j = m + 1 := ⟨j - 1, by omega⟩
          have h16 : (((16 - (m + 1) : Nat) : Int) == 16) = false := by rw [beq_eq_false_iff_ne]; omega
          go_wp2_with (go_at_call 128; refine (barred_no v HB.out _).mono ?_; rintro e w1 ⟨rfl, rfl⟩)
          go_roundw
          case rel =>
            refine ⟨pos + n, m, rfl, ?_, by omega, ?_⟩
            · go_num
            · rw [← HR.out, rn_step HNE.out (by rw [HD.out]; exact HB.out), HD.out, HJ.out]
          case measure =>
            simp
            omega
    · have hnx : ∀ ty, (Instr.next (.pointer (some ⟨w.heap.size, 0, none⟩)) true ty).run Tryz.prog (w.iter ⟨l.toArray⟩ pos) = _ := fun ty => run_next_end w ⟨l.toArray⟩ pos ty (by rw [sv_size]; exact hp)
      have hz := drop_nil_iff.2 hp
      rw [hz, rn_nil _ hj] at hr
      have HR := Lib.hid hr
      clear hr hz
      go_wp2
      rw [Exit.noGoto_ret]
      go_ret
      exact ⟨by rw [← HR.out]; rfl, iter_below _ _ _⟩

theorem name_any (l : Tx) (w : World) :
    Calls Tryz.prog 94 #[SV l] w fun e w' => e = .returned (.bool (name l)) ∧ Below w.heap.size w w' := by
  have HC := Lib.hid (runes_any l w)
  unfold name
  generalize runes l = r at *
  go_enter Tryz.func94, Tryz.ntmps94
  go_wp2_with (go_at_call 115; refine HC.out.mono ?_; rintro e w1 ⟨rfl, hb⟩)
  go_ret
  exact ⟨by simp, hb⟩

end Go.Proofs.YtebjjkhiniccgaaGreat.Pa

/-
  Layer 6 (op): the contracts of fieldsOf, holdMore, isLong and areRecords; an operation in memory.
-/
namespace Go.Proofs.YtebjjkhiniccgaaGreat.Pe
set_option linter.unusedSimpArgs false
open Go Go.RowKit Ck Kw Pm Pa
set_option linter.unusedVariables false

/-- The fields that a kind has, as a value. -/
def FV (k : Int) : Value := .agg #[.bool (hasT k), .bool (hasG k), .bool (hasO k), .bool (hasR k)]
theorem size_fields : (Tryz.prog.info? 135).map (·.size) = some 4 := by kernel_rfl
set_option maxRecDepth 100000 in
set_option maxHeartbeats 2000000 in
theorem fields_any (k : Int) (w : World) :
    Calls Tryz.prog 90 #[.int .i64 k] w fun e w' => e = .returned (.tuple #[FV k, .bool (known k)]) ∧ Below w.heap.size w w' := by
  by_cases hk : known k = true
  · rcases kind_cases hk with rfl | rfl | rfl | rfl | rfl
    · clear hk
      go_enter Tryz.func90, Tryz.ntmps90
      go_wp2
      refine bodyPost_ret (results_row_tmp rfl _ _ w.heap.size 135 #[.bool false, .bool false, .bool false, .bool false] (0, 0) _ rfl ?_ Tryz.underlying135 rfl size_fields) rfl ?_
      · exact heap_alloc_new w _
      · exact ⟨rfl, (Below.refl _ w).alloc (Nat.le_refl _) _⟩
    · clear hk
      go_enter Tryz.func90, Tryz.ntmps90
      go_wp2
      refine bodyPost_ret (results_row_tmp rfl _ _ w.heap.size 135 #[.bool true, .bool false, .bool false, .bool false] (0, 0) _ rfl ?_ Tryz.underlying135 rfl size_fields) rfl ?_
      · exact heap_alloc_new w _
      · exact ⟨rfl, (Below.refl _ w).alloc (Nat.le_refl _) _⟩
    · clear hk
      go_enter Tryz.func90, Tryz.ntmps90
      go_wp2
      refine bodyPost_ret (results_row_tmp rfl _ _ w.heap.size 135 #[.bool true, .bool false, .bool false, .bool true] (0, 0) _ rfl ?_ Tryz.underlying135 rfl size_fields) rfl ?_
      · exact heap_alloc_new w _
      · exact ⟨rfl, (Below.refl _ w).alloc (Nat.le_refl _) _⟩
    · clear hk
      go_enter Tryz.func90, Tryz.ntmps90
      go_wp2
      refine bodyPost_ret (results_row_tmp rfl _ _ w.heap.size 135 #[.bool true, .bool true, .bool true, .bool false] (0, 0) _ rfl ?_ Tryz.underlying135 rfl size_fields) rfl ?_
      · exact heap_alloc_new w _
      · exact ⟨rfl, (Below.refl _ w).alloc (Nat.le_refl _) _⟩
    · clear hk
      go_enter Tryz.func90, Tryz.ntmps90
      go_wp2
      refine bodyPost_ret (results_row_tmp rfl _ _ w.heap.size 135 #[.bool true, .bool false, .bool true, .bool false] (0, 0) _ rfl ?_ Tryz.underlying135 rfl size_fields) rfl ?_
      · exact heap_alloc_new w _
      · exact ⟨rfl, (Below.refl _ w).alloc (Nat.le_refl _) _⟩
  · have hn := Bool.eq_false_iff.2 hk
    have hv := kind_none hn
    have e0 : (k == 0) = false := beq_eq_false_iff_ne.2 hv.1
    have e1 : (k == 1) = false := beq_eq_false_iff_ne.2 hv.2.1
    have e2 : (k == 2) = false := beq_eq_false_iff_ne.2 hv.2.2.1
    have e3 : (k == 3) = false := beq_eq_false_iff_ne.2 hv.2.2.2.1
    have e4 : (k == 4) = false := beq_eq_false_iff_ne.2 hv.2.2.2.2
    have hF : FV k = .agg #[.bool false, .bool false, .bool false, .bool false] := by simp [FV, hasT, hasG, hasO, hasR, e1, e2, e3, e4]
    rw [hn, hF]
    clear hk hn hv hF
    go_enter Tryz.func90, Tryz.ntmps90
    go_wp2
    refine bodyPost_ret (results_row_tmp rfl _ _ w.heap.size 135 #[.bool false, .bool false, .bool false, .bool false] (0, 0) _ rfl ?_ Tryz.underlying135 rfl size_fields) rfl ?_
    · exact heap_alloc_new w _
    · exact ⟨rfl, (Below.refl _ w).alloc (Nat.le_refl _) _⟩

/-- An operation as a value: its records lie at A. -/
def OV (o : O) (A : Option Addr) (c : Nat) : Value := .agg #[.int .i64 o.kind, .string ⟨o.topic.toArray⟩, .string ⟨o.group.toArray⟩, .int .i64 o.off, .slice A o.recs.length c]
/-- The value v is the operation o, its records in no block of X. -/
def OI (w : World) (X : Nat → Prop) (v : Value) (o : O) : Prop := ∃ A c, v = OV o A c ∧ Ls w X (.slice A o.recs.length c) o.recs
section
variable {w w' : World} {X Y : Nat → Prop} {v : Value} {o : O}
theorem OI.keep (h : OI w X v o) (hs : w.heap.size ≤ w'.heap.size) (hk : ∀ b, b < w.heap.size → ¬ X b → w'.heap[b]? = w.heap[b]?) : OI w' X v o := by
  obtain ⟨A, c, hv, hl⟩ := h
  exact ⟨A, c, hv, hl.keep hs hk⟩
theorem OI.weaken (h : OI w X v o) (hk : ∀ b, b < w.heap.size → Y b → X b) : OI w Y v o := by
  obtain ⟨A, c, hv, hl⟩ := h
  exact ⟨A, c, hv, hl.weaken hk⟩
theorem OI.after (h : OI w X v o) (hb : Below w.heap.size w w') : OI w' X v o := by
  obtain ⟨A, c, hv, hl⟩ := h
  exact ⟨A, c, hv, hl.after hb⟩
theorem OI.ch {S : Nat → Prop} (h : OI w X v o) (c : Ch S w w') (hd : ∀ k, k < w.heap.size → S k → X k) : OI w' X v o := by
  obtain ⟨A, c', hv, hl⟩ := h
  exact ⟨A, c', hv, hl.ch c hd⟩
end
theorem long_any (A : Option Addr) (n c : Nat) (w : World) :
    Calls Tryz.prog 117 #[.slice A n c] w fun e w' => e = .returned (.bool (decide (64 < n))) ∧ w = w' := by
  go_enter Tryz.func117, Tryz.ntmps117
  go_wp2
  go_ret
  exact ⟨by simp; omega, rfl⟩

/-- Where the first long record stands. -/
def ixLong : List Tx → Nat → Int
  | [], _ => -1
  | x :: l, i => if 64 < x.length then (i : Int) else ixLong l (i + 1)
theorem ix_at {l : List Tx} {k : Nat} (h : k < l.length) : ixLong (l.drop k) k = if 64 < l[k].length then (k : Int) else ixLong (l.drop (k + 1)) (k + 1) := by
  rw [List.drop_eq_getElem_cons h]
  rfl
theorem ix_all : ∀ (l : List Tx) (i : Nat), decide (0 ≤ ixLong l i) = !(l.all fun x => decide (x.length ≤ 64))
  | [], i => rfl
  | x :: l, i => by
    rw [ixLong, List.all_cons]
    by_cases h : 64 < x.length
    · rw [if_pos h]
      have : decide (x.length ≤ 64) = false := decide_eq_false (by omega)
      simp [this]
    · rw [if_neg h, ix_all l]
      have : decide (x.length ≤ 64) = true := decide_eq_true (by omega)
      simp [this]

set_option maxHeartbeats 1000000 in
theorem index_any (w : World) (X : Nat → Prop) (A : Option Addr) (c : Nat) (ls : List Tx) (ha : Ls w X (.slice A ls.length c) ls) (hl : ls.length ≤ 140737488355328) :
    Calls Tryz.prog 129 #[.slice A ls.length c, .func (.func 117) #[] #[]] w fun e w' => e = .returned (.int .i64 (ixLong ls 0)) ∧ w = w' := by
  have HA := Lib.hid ha
  clear ha
  go_enter Tryz.func129, Tryz.ntmps129
  go_wp2
  go_loop [8] (fun i => ∃ k : Nat, k ≤ ls.length ∧ i = .int .i64 k ∧ ixLong (ls.drop k) k = ixLong ls 0) (fun i => ls.length - (intOf i).toNat)
  case atStart => exact ⟨0, Nat.zero_le _, rfl, rfl⟩
  case round =>
    obtain ⟨k, hk, rfl, hix⟩ := hrel
    by_cases hlt : k < ls.length
    · obtain ⟨ad, B, d, rfl, hcell, -⟩ := HA.out.at_ hlt
      rw [ix_at hlt] at hix
      by_cases h64 : 64 < ls[k].length
      · rw [if_pos h64] at hix
        have hd : decide (64 < ls[k].length) = true := decide_eq_true h64
        have HIX := Lib.hid hix
        clear hix h64
        go_wp2_with (go_at_call 117; refine (long_any _ _ _ _).mono ?_; rintro e w1 ⟨rfl, rfl⟩)
        go_ret
        exact ⟨by rw [← HIX.out]; rfl, rfl⟩
      · rw [if_neg h64] at hix
        have hd : decide (64 < ls[k].length) = false := decide_eq_false h64
        have HIX := Lib.hid hix
        clear hix h64
        go_wp2_with (go_at_call 117; refine (long_any _ _ _ _).mono ?_; rintro e w1 ⟨rfl, rfl⟩)
        go_round
        case rel => exact ⟨k + 1, by omega, by go_num, HIX.out⟩
        case measure => simp [intOf]; omega
    · have hz : ls.drop k = [] := List.drop_eq_nil_iff.2 (by omega)
      rw [hz] at hix
      have HIX := Lib.hid hix
      clear hix hz
      go_wp2
      go_ret
      exact ⟨by rw [← HIX.out]; rfl, rfl⟩

theorem contains_any (w : World) (X : Nat → Prop) (A : Option Addr) (c : Nat) (ls : List Tx) (ha : Ls w X (.slice A ls.length c) ls) (hl : ls.length ≤ 140737488355328) :
    Calls Tryz.prog 116 #[.slice A ls.length c, .func (.func 117) #[] #[]] w fun e w' => e = .returned (.bool (!(ls.all fun x => decide (x.length ≤ 64)))) ∧ w = w' := by
  have HC := Lib.hid (index_any w X A c ls ha hl)
  rw [← ix_all ls 0]
  clear ha
  go_enter Tryz.func116, Tryz.ntmps116
  go_wp2_with (go_at_call 129; refine HC.out.mono ?_; rintro e w1 ⟨rfl, rfl⟩)
  go_ret
  exact ⟨rfl, rfl⟩

theorem arerecs_any (w : World) (X : Nat → Prop) (A : Option Addr) (c : Nat) (ls : List Tx) (ha : Ls w X (.slice A ls.length c) ls) (hl : ls.length ≤ 140737488355328) :
    Calls Tryz.prog 95 #[.slice A ls.length c] w fun e w' => e = .returned (.bool (areRecs ls)) ∧ w = w' := by
  have HC := Lib.hid (contains_any w X A c ls ha hl)
  clear ha
  unfold areRecs
  generalize (ls.all fun x => decide (x.length ≤ 64)) = q at *
  by_cases h0 : 0 < ls.length
  · have d0 : decide (0 < (ls.length : Int)) = true := decide_eq_true (by omega)
    have d0' : decide (0 < ls.length) = true := decide_eq_true h0
    by_cases h4 : ls.length ≤ 4
    · have d4 : decide ((ls.length : Int) ≤ 4) = true := decide_eq_true (by omega)
      have d4' : decide (ls.length ≤ 4) = true := decide_eq_true h4
      rw [d0', d4']
      clear d0' d4' d0 d4
      go_enter Tryz.func95, Tryz.ntmps95
      go_wp2_with (go_at_call 116; refine HC.out.mono ?_; rintro e w1 ⟨rfl, rfl⟩)
      go_ret
      exact ⟨by simp, rfl⟩
    · have d4 : decide ((ls.length : Int) ≤ 4) = false := decide_eq_false (by omega)
      have h4' : 4 < ls.length := by omega
      have d4' : decide (ls.length ≤ 4) = false := decide_eq_false h4
      rw [d0', d4']
      clear d0' d4' d0 d4
      go_enter Tryz.func95, Tryz.ntmps95
      go_wp2
      go_ret
      exact ⟨rfl, rfl⟩
  · have d0 : decide (0 < (ls.length : Int)) = false := decide_eq_false (by omega)
    have d0' : decide (0 < ls.length) = false := decide_eq_false h0
    rw [d0']
    clear d0' d0
    go_enter Tryz.func95, Tryz.ntmps95
    go_wp2
    go_ret
    exact ⟨rfl, rfl⟩

end Go.Proofs.YtebjjkhiniccgaaGreat.Pe

/-
  Layer 6 (op): opening operations and results under the form's own reach.
-/
namespace Go.Proofs.YtebjjkhiniccgaaGreat.Py
set_option linter.unusedSimpArgs false
open Go Go.RowKit Go.ChangeShapes Go.WideShapes Go.ChangeAt Go.Deep Ck Kp Pm Pe
set_option linter.unusedVariables false

section
variable {H : Type} {enc : TypeId × Value → H}
theorem cells_rec : Tryz.prog.cellsOf 112 = 1 := by kernel_rfl
theorem bytes_rec : Tryz.prog.bytesOf 112 = 24 := by kernel_rfl
theorem cells_op : Tryz.prog.cellsOf 25 = 5 := by kernel_rfl
theorem cells_int : Tryz.prog.cellsOf 3 = 1 := by kernel_rfl
theorem cells_i64 : Tryz.prog.cellsOf 2 = 1 := by kernel_rfl
theorem cells_str : Tryz.prog.cellsOf 9 = 1 := by kernel_rfl
theorem cells_recs : Tryz.prog.cellsOf 23 = 1 := by kernel_rfl

theorem open_recW {w : World} {fuel : Nat} {base : Nat} {v : Value} {x : DataW H × List MemPlace} (h : DataW.trod enc Tryz.prog w base (fun _ => true) true fuel 112 [v] = some x) :
    ∃ b : List UInt8, Sl w (fun k => w.heap.size ≤ k) 1 v b.length (BVs b) ∧ ∀ R, (∀ n ∈ x.1.weights Tryz.prog 112, n ≤ R) → b.length ≤ R := by
  rcases open_ints Tryz.underlying112 Tryz.underlying5 cells_u8 h with ⟨hcs, rfl⟩ | ⟨a, len, cap, zs, hcs, _, hl, hm, hz, rfl, hc, hw⟩
  · obtain rfl : v = .slice none 0 0 := by simpa using hcs
    exact ⟨[], Sl.nil _ _ _, fun R _ => Nat.zero_le _⟩
  · obtain rfl : v = .slice (some a) len cap := by simpa using hcs
    simp only [if_true] at hz
    have hbl : ((zs.take len).map fun z => UInt8.ofNat z.toNat).length = len := by simp only [List.length_map, List.length_take]; omega
    refine ⟨(zs.take len).map fun z => UInt8.ofNat z.toNat, ?_, fun R hR => ?_⟩
    · refine ⟨some a, cap, by rw [hbl], by rw [BVs_len]; omega, by omega, hm, fun hn => ?_⟩
      rw [hbl] at hn
      have h0 := hc 0 (by omega)
      refine ⟨a, rfl, by have := World.block_lt_of_cell? w _ h0; rw [add_block] at this; exact this, by have := World.block_lt_of_cell? w _ h0; rw [add_block] at this; omega, fun j u hu => ?_⟩
      have hj : j < (BVs ((zs.take len).map fun z => UInt8.ofNat z.toNat)).length := (List.getElem?_eq_some_iff.1 hu).1
      rw [BVs_len, hbl] at hj
      rw [hc j (by omega), ← hu]
      have hjz : j < zs.length := by omega
      simp only [BVs, BV, List.map_map, List.getElem?_map, List.getElem?_take, if_pos hj, List.getElem?_eq_getElem hjz, Option.map_some, Function.comp, List.getD_eq_getElem?_getD, Option.getD_some]
      rw [ofNat_int (hw _ (List.getElem_mem hjz))]
    · have := hR _ (by simp only [DataW.weights, Tryz.underlying112]; exact List.mem_cons_self)
      rw [bytes_u8] at this
      rw [hbl]
      simp only [lits, List.length_map, List.length_take] at this
      omega

theorem open_recsW {w : World} {fuel : Nat} {base : Nat} {v : Value} {x : DataW H × List MemPlace} (h : DataW.trod enc Tryz.prog w base (fun _ => true) true fuel 23 [v] = some x) :
    ∃ ls : List (List UInt8), Ls w (fun k => w.heap.size ≤ k) v ls ∧ ∀ R, (∀ n ∈ x.1.weights Tryz.prog 23, n ≤ R) → ls.length * 24 ≤ R ∧ ∀ l ∈ ls, l.length ≤ R := by
  rcases open_slice1 Tryz.underlying23 cells_rec h with ⟨hcs, rfl⟩ | ⟨a, len, cap, m, n, V, D, Pl, hcs, _, hl, hm, hmm, rfl, hx⟩
  · obtain rfl : v = .slice none 0 0 := by simpa using hcs
    exact ⟨[], ⟨[], Sl.nil _ _ _, fun i hi => absurd hi (by simp)⟩, fun R _ => by simp⟩
  · obtain rfl : v = .slice (some a) len cap := by simpa using hcs
    simp only [if_true] at hmm
    have each : ∀ r, ∃ b : List UInt8, r < len → w.cell? (a.add r) = some (V r) ∧ Sl w (fun k => w.heap.size ≤ k) 1 (V r) b.length (BVs b) ∧ ∀ R, (∀ n ∈ (D r).weights Tryz.prog 112, n ≤ R) → b.length ≤ R := by
      intro r
      by_cases hr : r < len
      · obtain ⟨hc, ht⟩ := hx r (by omega)
        obtain ⟨b, hb1, hb2⟩ := open_recW ht
        exact ⟨b, fun _ => ⟨hc, hb1, hb2⟩⟩
      · exact ⟨[], fun h => absurd h hr⟩
    obtain ⟨f, hf⟩ := Classical.axiomOfChoice each
    refine ⟨(List.range len).map f, ⟨(List.range len).map V, ?_, fun i hi => ?_⟩, fun R hR => ⟨?_, fun l hl2 => ?_⟩⟩
    · refine ⟨some a, cap, by simp, by simp, by simpa using hl, hm, fun hn => ?_⟩
      have hn' : 0 < len := by simpa using hn
      have h0 := (hf 0 hn').1
      refine ⟨a, rfl, by have := World.block_lt_of_cell? w _ h0; rw [add_block] at this; exact this, by have := World.block_lt_of_cell? w _ h0; rw [add_block] at this; omega, fun j u hu => ?_⟩
      have hj : j < ((List.range len).map V).length := (List.getElem?_eq_some_iff.1 hu).1
      simp only [List.length_map, List.length_range] at hj
      rw [(hf j hj).1, ← hu]
      simp [hj]
    · have hi' : i < len := by simpa using hi
      refine ⟨V i, by simp [hi'], ?_⟩
      simpa using (hf i hi').2.1
    · have := hR _ (by simp only [DataW.weights, Tryz.underlying23]; exact List.mem_cons_self)
      rw [bytes_rec] at this
      simp only [List.length_map, List.length_range] at this ⊢
      omega
    · obtain ⟨r, hr, rfl⟩ := List.mem_map.1 hl2
      have hr' : r < len := by simpa using hr
      refine (hf r hr').2.2 R (fun n hn => hR n ?_)
      simp only [DataW.weights, Tryz.underlying23, List.mem_cons, List.mem_append]
      exact .inr (.inl (all_mem hn (List.mem_map.2 ⟨r, hr, rfl⟩)))


theorem one_str {w : World} {base : Nat} {sp : Nat → Bool} {held : Bool} {n : Nat} {cs : List Value} {xs : List (DataW H × List MemPlace)} {j : Nat} (hj : j < xs.length)
    (h : DataW.trod enc Tryz.prog w base sp held n 9 cs = xs[j]?) : ∃ s : Tx, cs = [.string ⟨s.toArray⟩] ∧ ∀ R, (∀ n ∈ xs[j].1.weights Tryz.prog 9, n ≤ R) → s.length ≤ R := by
  rw [List.getElem?_eq_getElem hj] at h
  obtain ⟨s, h1, h2, _⟩ := DataW.trod_string Tryz.underlying9 h
  refine ⟨s.data.toList, by rw [h1], fun R hR => ?_⟩
  rw [h2] at hR
  exact hR _ (by simp [DataW.weights])

/-- How far an operation goes. -/
def far (o : O) (R : Nat) : Prop := o.topic.length ≤ R ∧ o.group.length ≤ R ∧ o.recs.length * 24 ≤ R ∧ ∀ l ∈ o.recs, l.length ≤ R
def wfO (o : O) : Prop := (-9223372036854775808 ≤ o.kind ∧ o.kind ≤ 9223372036854775807) ∧ (-9223372036854775808 ≤ o.off ∧ o.off ≤ 9223372036854775807)

set_option maxRecDepth 100000 in
theorem open_op {w : World} {base : Nat} {fuel : Nat} {cs : List Value} {x : DataW H × List MemPlace} (h : DataW.trod enc Tryz.prog w base (fun _ => true) true fuel 25 cs = some x) :
    ∃ (o : O) (A : Option Addr) (c : Nat), cs = [.int .i64 o.kind, .string ⟨o.topic.toArray⟩, .string ⟨o.group.toArray⟩, .int .i64 o.off, .slice A o.recs.length c] ∧ Ls w (fun k => w.heap.size ≤ k) (.slice A o.recs.length c) o.recs
      ∧ wfO o ∧ ∀ R, (∀ n ∈ x.1.weights Tryz.prog 25, n ≤ R) → far o R := by
  obtain ⟨xs, n', _, hx, hl, hxl, hf⟩ := DataW.trod_struct Tryz.underlying25 h
  rw [cells_op] at hl
  have hxl' : xs.length = 5 := hxl
  match cs, hl with
  | [v0, v1, v2, v3, v4], _ =>
    have f0 : DataW.trod enc Tryz.prog w base (fun _ => true) true n' 3 (([v0, v1, v2, v3, v4].drop 0).take (Tryz.prog.cellsOf 3)) = xs[0]? := hf 0 _ rfl
    have f1 : DataW.trod enc Tryz.prog w base (fun _ => true) true n' 9 (([v0, v1, v2, v3, v4].drop 1).take (Tryz.prog.cellsOf 9)) = xs[1]? := hf 1 _ rfl
    have f2 : DataW.trod enc Tryz.prog w base (fun _ => true) true n' 9 (([v0, v1, v2, v3, v4].drop 2).take (Tryz.prog.cellsOf 9)) = xs[2]? := hf 2 _ rfl
    have f3 : DataW.trod enc Tryz.prog w base (fun _ => true) true n' 2 (([v0, v1, v2, v3, v4].drop 3).take (Tryz.prog.cellsOf 2)) = xs[3]? := hf 3 _ rfl
    have f4 : DataW.trod enc Tryz.prog w base (fun _ => true) true n' 23 (([v0, v1, v2, v3, v4].drop 4).take (Tryz.prog.cellsOf 23)) = xs[4]? := hf 4 _ rfl
    rw [cells_int] at f0
    rw [cells_i64] at f3
    rw [cells_str] at f1 f2
    rw [cells_recs] at f4
    simp only [List.drop_zero, List.drop_succ_cons, List.take_succ_cons, List.take_zero] at f0 f1 f2 f3 f4
    obtain ⟨z0, e0, w0⟩ := one_int Tryz.underlying3 (by omega) f0
    obtain ⟨s1, e1, r1⟩ := one_str (by omega) f1
    obtain ⟨s2, e2, r2⟩ := one_str (by omega) f2
    obtain ⟨z3, e3, w3⟩ := one_int Tryz.underlying2 (by omega) f3
    rw [List.getElem?_eq_getElem (by omega)] at f4
    obtain ⟨ls, hb, r4⟩ := open_recsW f4
    have b0 : -9223372036854775808 ≤ z0 ∧ z0 ≤ 9223372036854775807 := by simpa [Lit.wf, IntKind.min, IntKind.max, IntKind.signed, IntKind.bits] using w0
    have b3 : -9223372036854775808 ≤ z3 ∧ z3 ≤ 9223372036854775807 := by simpa [Lit.wf, IntKind.min, IntKind.max, IntKind.signed, IntKind.bits] using w3
    simp only [List.cons.injEq, and_true] at e0 e1 e2 e3
    obtain ⟨B, c, hv⟩ : ∃ B c, v4 = .slice B ls.length c := by
      obtain ⟨vals, ⟨B, c, hv, _⟩, _⟩ := id hb
      exact ⟨B, c, hv⟩
    refine ⟨⟨z0, s1, s2, z3, ls⟩, B, c, by rw [e0, e1, e2, e3, hv], by rw [← hv]; exact hb, ⟨b0, b3⟩, fun R hR => ?_⟩
    have hm : ∀ (j : Nat) (t : TypeId) (hj : j < xs.length), [3, 9, 9, 2, 23][j]? = some t → ∀ n ∈ xs[j].1.weights Tryz.prog t, n ≤ R := fun j t hj ht n hn => by
      refine hR n ?_
      rw [hx]
      simp only [DataW.weights, Tryz.underlying25]
      exact DataW.weights_mem_each (ts := [3, 9, 9, 2, 23]) ht (by simp [List.getElem?_eq_getElem hj]) n hn
    have q := r4 R (hm 4 _ (by omega) rfl)
    exact ⟨r1 R (hm 1 _ (by omega) rfl), r2 R (hm 2 _ (by omega) rfl), q.1, q.2⟩

end

end Go.Proofs.YtebjjkhiniccgaaGreat.Py

/-
  Layer 6 (op): the document's own runes and names.
-/
namespace Go.Proofs.YtebjjkhiniccgaaGreat.Pb
set_option linter.unusedSimpArgs false
open Go Go.RowKit Ck Kw Pm Pa
set_option linter.unusedVariables false

set_option maxRecDepth 100000 in
set_option maxHeartbeats 1000000 in
theorem size_any (b : Nat) (h : b < 256) (w : World) :
    Calls Tryz.prog 131 #[.int .u8 b] w fun e w' => e = .returned (.int .i64 (sz b : Nat)) ∧ w = w' := by
  rcases sz_cases b with ⟨e, hb⟩ | ⟨e, hb⟩ | ⟨e, hb, hb'⟩ | ⟨e, hb, hb'⟩ | ⟨e, hb, hb'⟩
  · rw [e]
    clear e
    rcases hb with ⟨hb, hb'⟩ | hb
    · have h1 : ¬ b < 128 := by omega
      have d2 : decide (194 ≤ (b : Int)) = false := decide_eq_false (by omega)
      have d3 : decide (224 ≤ (b : Int)) = false := decide_eq_false (by omega)
      have d4 : decide (240 ≤ (b : Int)) = false := decide_eq_false (by omega)
      go_enter Tryz.func131, Tryz.ntmps131
      go_wp2
      go_ret
      exact ⟨rfl, rfl⟩
    · have h1 : ¬ b < 128 := by omega
      have d2 : decide ((b : Int) < 224) = false := decide_eq_false (by omega)
      have d3 : decide ((b : Int) < 240) = false := decide_eq_false (by omega)
      have d4 : decide ((b : Int) < 245) = false := decide_eq_false (by omega)
      go_enter Tryz.func131, Tryz.ntmps131
      go_wp2
      go_ret
      exact ⟨rfl, rfl⟩
  · rw [e]
    clear e
    go_enter Tryz.func131, Tryz.ntmps131
    go_wp2
    go_ret
    exact ⟨rfl, rfl⟩
  · rw [e]
    clear e
    have h1 : ¬ b < 128 := by omega
    go_enter Tryz.func131, Tryz.ntmps131
    go_wp2
    go_ret
    exact ⟨rfl, rfl⟩
  · rw [e]
    clear e
    have h1 : ¬ b < 128 := by omega
    have d2 : decide ((b : Int) < 224) = false := decide_eq_false (by omega)
    go_enter Tryz.func131, Tryz.ntmps131
    go_wp2
    go_ret
    exact ⟨rfl, rfl⟩
  · rw [e]
    clear e
    have h1 : ¬ b < 128 := by omega
    have d2 : decide ((b : Int) < 224) = false := decide_eq_false (by omega)
    have d3 : decide ((b : Int) < 240) = false := decide_eq_false (by omega)
    go_enter Tryz.func131, Tryz.ntmps131
    go_wp2
    go_ret
    exact ⟨rfl, rfl⟩

theorem gath_le {m : Nat} (l : Tx) (hm : m ≤ 32) (h0 : 0 < m) : ∀ k, k ≤ 3 → gath l m k ≤ 8388607 := by
  have b0 : gath l m 0 < m := Nat.mod_lt _ h0
  have e1 : gath l m 1 = gath l m 0 * 64 + byte l 1 % 64 := rfl
  have e2 : gath l m 2 = gath l m 1 * 64 + byte l 2 % 64 := rfl
  have e3 : gath l m 3 = gath l m 2 * 64 + byte l 3 % 64 := rfl
  intro k hk
  have : k = 0 ∨ k = 1 ∨ k = 2 ∨ k = 3 := by omega
  rcases this with rfl | rfl | rfl | rfl <;> omega
theorem byte_ix {l : Tx} {k : Nat} (h : k < (ByteArray.mk l.toArray).size) : ((ByteArray.mk l.toArray)[k]'h).toNat = byte l k := by
  rw [byte_get (by rw [← sv_size l]; exact h)]
  rfl
theorem and31 (b : Nat) (h : b < 256) : bits .and .i64 (b : Int) 31 = ((b % 32 : Nat) : Int) := by
  have : ∀ b : Fin 256, bits .and .i64 ((b.val : Nat) : Int) 31 = ((b.val % 32 : Nat) : Int) := by decide +kernel
  exact this ⟨b, h⟩
theorem and15 (b : Nat) (h : b < 256) : bits .and .i64 (b : Int) 15 = ((b % 16 : Nat) : Int) := by
  have : ∀ b : Fin 256, bits .and .i64 ((b.val : Nat) : Int) 15 = ((b.val % 16 : Nat) : Int) := by decide +kernel
  exact this ⟨b, h⟩
theorem and7 (b : Nat) (h : b < 256) : bits .and .i64 (b : Int) 7 = ((b % 8 : Nat) : Int) := by
  have : ∀ b : Fin 256, bits .and .i64 ((b.val : Nat) : Int) 7 = ((b.val % 8 : Nat) : Int) := by decide +kernel
  exact this ⟨b, h⟩

theorem lits_at (w : World) (nq k z : Nat) (h : (#[.int .i64 0, .int .i64 0, .int .i64 128, .int .i64 2048, .int .i64 65536] : Array Value)[k]? = some (.int .i64 (z : Int))) :
    ((w.drewN nq).alloc (.cells #[.int .i64 0, .int .i64 0, .int .i64 128, .int .i64 2048, .int .i64 65536] 3)).cell? ⟨w.heap.size, k, none⟩ = some (.int .i64 (z : Int)) :=
  (Blk.cell (Blk.new (w.drewN nq) 3 #[.int .i64 0, .int .i64 0, .int .i64 128, .int .i64 2048, .int .i64 65536]) k).trans h
/-- What rune1 answers. -/
def Rune (l : Tx) (w : World) (e : Ending) (w' : World) : Prop := e = .returned (.tuple #[.int .i64 ((r1 l).1 : Nat), .int .i64 ((r1 l).2 : Nat)]) ∧ Below w.heap.size w w'
theorem rune_of {l : Tx} {w w' : World} {v n : Nat} (h : r1 l = (v, n)) (hb : Below w.heap.size w w') : Rune l w (.returned (.tuple #[.int .i64 (v : Nat), .int .i64 (n : Nat)])) w' := by
  rw [Rune, h]
  exact ⟨rfl, hb⟩
theorem size_call {b n : Nat} (hb : b < 256) (h : sz b = n) (w : World) : Calls Tryz.prog 131 #[.int .u8 b] w fun e w' => e = .returned (.int .i64 (n : Nat)) ∧ w = w' := by
  subst h
  exact size_any b hb w

set_option maxRecDepth 100000 in
set_option maxHeartbeats 1000000 in
theorem rune_no (l : Tx) (hl : 1 ≤ l.length) (h : sz (byte l 0) = 0 ∨ l.length < sz (byte l 0)) (w : World) :
    Calls Tryz.prog 130 #[SV l] w (Rune l w) := by
  have h0 := byte_lt l 0
  have HS := Lib.hid (size_any _ h0 w)
  have HR := Lib.hid (r1_none hl h)
  unfold SV
  have hz0 : 0 < (ByteArray.mk l.toArray).size := by rw [sv_size]; omega
  have hx0 := byte_ix hz0
  have hsz := sv_size l
  generalize sz (byte l 0) = q at *
  by_cases hq : q = 0
  · subst hq
    clear h
    go_enter Tryz.func130, Tryz.ntmps130
    go_wp2_with (go_at_call 131; refine HS.out.mono ?_; rintro e w1 ⟨rfl, rfl⟩)
    go_ret2
    exact rune_of HR.out (Below.refl _ _)
  · have hq1 : ((q : Int) == 0) = false := by rw [beq_eq_false_iff_ne]; omega
    have hq2 : (l.length : Int) < (q : Int) := by omega
    clear h hq
    go_enter Tryz.func130, Tryz.ntmps130
    go_wp2_with (go_at_call 131; refine HS.out.mono ?_; rintro e w1 ⟨rfl, rfl⟩)
    go_ret2
    exact rune_of HR.out (Below.refl _ _)

set_option maxRecDepth 100000 in
set_option maxHeartbeats 1000000 in
theorem rune_one (l : Tx) (hl : 1 ≤ l.length) (h : sz (byte l 0) = 1) (w : World) :
    Calls Tryz.prog 130 #[SV l] w (Rune l w) := by
  have h0 := byte_lt l 0
  have HS := Lib.hid (size_call h0 h w)
  have HR := Lib.hid (r1_one h)
  unfold SV
  have hz0 : 0 < (ByteArray.mk l.toArray).size := by rw [sv_size]; omega
  have hx0 := byte_ix hz0
  have hsz := sv_size l
  have hq2 : ¬ ((l.length : Int) < 1) := by omega
  clear h
  go_enter Tryz.func130, Tryz.ntmps130
  go_wp2_with (go_at_call 131; refine HS.out.mono ?_; rintro e w1 ⟨rfl, rfl⟩)
  go_ret2
  exact rune_of HR.out (Below.refl _ _)

set_option maxRecDepth 100000 in
set_option maxHeartbeats 4000000 in
theorem rune_two (l : Tx) (h : sz (byte l 0) = 2) (hl : 2 ≤ l.length) (w : World) :
    Calls Tryz.prog 130 #[SV l] w (Rune l w) := by
  have h0 := byte_lt l 0
  have HS := Lib.hid (size_call h0 h w)
  have HR := Lib.hid (r1_two h hl)
  unfold SV
  have hz0 : 0 < (ByteArray.mk l.toArray).size := by rw [sv_size]; omega
  have hx0 := byte_ix hz0
  have hsz := sv_size l
  have hm := and31 (byte l 0) h0
  have HSZ := Lib.hid hsz
  have hq2 : ¬ ((l.length : Int) < 2) := by omega
  have hq3 : ¬ (2 > (l.length : Int)) := by omega
  clear h
  go_enter Tryz.func130, Tryz.ntmps130
  go_wp2_with (go_at_call 131; refine HS.out.mono ?_; rintro e w1 ⟨rfl, rfl⟩)
  go_quiet (fail)
  go_wp2
  go_loop [5, 6] (fun v i => ∃ k : Nat, 1 ≤ k ∧ k ≤ 2 ∧ i = .int .i64 k ∧ v = .int .i64 ((gath l 32 (k - 1) : Nat) : Int) ∧ (∀ p, 1 ≤ p → p < k → cont l p)) (fun _ i => 2 - (intOf i).toNat)
  case atStart => exact ⟨1, by omega, by omega, rfl, rfl, fun p h1 h2 => by omega⟩
  case round =>
    obtain ⟨k, hk1, hkn, rfl, rfl, hc⟩ := hrel
    have HC := Lib.hid hc
    have hg := gath_le l (m := 32) (by omega) (by omega) (k - 1) (by omega)
    have HG := Lib.hid hg
    clear hc
    by_cases hk : k < 2
    · have hxk := byte_ix (l := l) (k := k) (by rw [HSZ.out]; omega)
      have hzk : k < (ByteArray.mk l.toArray).size := by rw [HSZ.out]; omega
      have hbk := byte_lt l k
      have HB := Lib.hid (show gath l 32 k = gath l 32 (k - 1) * 64 + byte l k % 64 from by obtain ⟨j, rfl⟩ : ∃ j, k = j + 1 := ⟨k - 1, by omega⟩; rfl)
      generalize hG : gath l 32 (k - 1) = G at *
      by_cases h1 : byte l k < 128
      · have HN := Lib.hid (HR.out.1 (by
          intro hh
          have : k = 1 := by omega
          rcases this with rfl
          all_goals first | exact absurd hh (by unfold cont; omega)))
        clear hm hx0
        go_wp2
        go_ret2
        exact rune_of HN.out (below_drewN (Below.refl _ _) _)
      · by_cases h2 : 192 ≤ byte l k
        · have HN := Lib.hid (HR.out.1 (by
            intro hh
            have : k = 1  := by omega
            rcases this with rfl
            all_goals first | exact absurd hh (by unfold cont; omega)))
          clear hm hx0
          go_wp2
          go_ret2
          exact rune_of HN.out (below_drewN (Below.refl _ _) _)
        · have h2' : byte l k < 192 := by omega
          have h2'' : decide (192 ≤ (byte l k : Int)) = false := decide_eq_false (by omega)
          have HCK := Lib.hid (show cont l k from ⟨h1, h2⟩)
          clear h2
          clear hm hx0
          go_wp2
          go_round
          case rel =>
            refine ⟨k + 1, by omega, by omega, by go_num, ?_, fun p hp1 hp2 => ?_⟩
            · rw [Nat.add_sub_cancel, HB.out]; go_num
            · rcases Nat.lt_or_ge p k with hp | hp
              · exact HC.out p hp1 hp
              · obtain rfl : p = k := by omega
                exact HCK.out
          case measure => simp [intOf]; omega
    · obtain rfl : k = 2 := by omega
      have hld := lits_at w nq 2 128 rfl
      have HX := Lib.hid (HR.out.2 (HC.out 1 (by omega) (by omega)))
      simp only [Nat.reduceSub] at hg
      generalize hG : gath l 32 1 = G at *
      clear hm hx0
      by_cases q1 : G < 128
      · have HN := Lib.hid (HX.out.2 (fun h => h.1 q1))
        have q1' : decide ((G : Int) < 128) = true := decide_eq_true (by omega)
        clear q1
        go_wp2
        go_ret2
        exact rune_of HN.out (((below_drewN (Below.refl _ _) _).alloc (Nat.le_refl _) _))
      · have q1' : decide ((G : Int) < 128) = false := decide_eq_false (by omega)
        by_cases q2 : 1114111 < G
        · have HN := Lib.hid (HX.out.2 (fun h => h.2.1 q2))
          have q2' : decide (1114111 < (G : Int)) = true := decide_eq_true (by omega)
          clear q1 q2
          go_wp2
          go_ret2
          exact rune_of HN.out (((below_drewN (Below.refl _ _) _).alloc (Nat.le_refl _) _))
        · have q2' : decide (1114111 < (G : Int)) = false := decide_eq_false (by omega)
          by_cases q3 : 55296 ≤ G ∧ G < 57344
          · have HN := Lib.hid (HX.out.2 (fun h => h.2.2 q3))
            have q5 : decide (55296 ≤ (G : Int)) = true := decide_eq_true (by omega)
            have q6 : decide ((G : Int) < 57344) = true := decide_eq_true (by omega)
            clear q1 q2 q3
            go_wp2
            go_ret2
            exact rune_of HN.out (((below_drewN (Below.refl _ _) _).alloc (Nat.le_refl _) _))
          · have HN := Lib.hid (HX.out.1 ⟨q1, q2, q3⟩)
            clear q1 q2
            by_cases q4 : 55296 ≤ G
            · have q5 : decide ((G : Int) < 57344) = false := decide_eq_false (by omega)
              have q6 : decide (55296 ≤ (G : Int)) = true := decide_eq_true (by omega)
              clear q3 q4
              go_wp2
              go_ret2
              exact rune_of HN.out (((below_drewN (Below.refl _ _) _).alloc (Nat.le_refl _) _))
            · have q5 : decide (55296 ≤ (G : Int)) = false := decide_eq_false (by omega)
              clear q3 q4
              go_wp2
              go_ret2
              exact rune_of HN.out (((below_drewN (Below.refl _ _) _).alloc (Nat.le_refl _) _))

end Go.Proofs.YtebjjkhiniccgaaGreat.Pb

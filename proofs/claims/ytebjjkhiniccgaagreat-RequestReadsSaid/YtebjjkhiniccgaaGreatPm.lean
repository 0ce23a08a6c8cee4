/-
  The plain mathematics of layer 6 (op): runes of a text, names, which operations may be, their bytes and what is read of bytes. No program is named here.
-/
import Derived.Test.YtebjjkhiniccgaaGreatCm
import Derived.Lib.DecodeN
namespace Go.Proofs.YtebjjkhiniccgaaGreat.Pm
set_option linter.unusedSimpArgs false
set_option linter.unusedVariables false
open Cm

abbrev Tx := List UInt8
/-- A byte of a text; 0 beyond its end. -/
def byte (l : Tx) (i : Nat) : Nat := (l[i]?.getD 0).toNat
theorem byte_lt (l : Tx) (i : Nat) : byte l i < 256 := UInt8.toNat_lt _
theorem byte_get {l : Tx} {i : Nat} (h : i < l.length) : byte l i = l[i].toNat := by simp [byte, h]
theorem byte_drop (l : Tx) (i k : Nat) : byte (l.drop i) k = byte l (i + k) := by simp [byte, List.getElem?_drop]
/-- The rune with which a text begins, and its width. -/
def dec (l : Tx) : Nat × Nat := Go.Lib.decodeN l.length (byte l 0) (byte l 1) (byte l 2) (byte l 3)
theorem get_byte (l : Tx) (i : Nat) : ((ByteArray.mk l.toArray).get! i).toNat = byte l i := by
  show (l.toArray[i]!).toNat = _
  rw [byte, getElem!_def]
  cases h : l[i]? with
  | none => simp [h]; rfl
  | some x => simp [h]
theorem decode_dec (l : Tx) (i : Nat) : Go.Utf8.decode ⟨l.toArray⟩ i = dec (l.drop i) := by
  rw [Go.Lib.decode_at, dec]
  have hs : (ByteArray.mk l.toArray).size = l.length := by show l.toArray.size = _; simp
  rw [hs, get_byte, get_byte, get_byte, get_byte, List.length_drop, byte_drop, byte_drop, byte_drop, byte_drop]
  rfl
theorem dec_width (l : Tx) : 1 ≤ (dec l).2 := by
  unfold dec Go.Lib.decodeN
  repeat' split
  all_goals simp
theorem dec_width_le (l : Tx) (h : 1 ≤ l.length) : (dec l).2 ≤ l.length := by
  unfold dec Go.Lib.decodeN
  repeat' split
  all_goals (simp only; omega)
theorem dec_lt (l : Tx) : (dec l).1 ≤ 1114111 := by
  have h0 := byte_lt l 0; have h1 := byte_lt l 1; have h2 := byte_lt l 2; have h3 := byte_lt l 3
  unfold dec Go.Lib.decodeN
  repeat' split
  all_goals (simp only; omega)

/-- A rune that stands in no name. -/
def Bar (v : Nat) : Prop := v < 33 ∨ v = 47 ∨ (127 ≤ v ∧ v ≤ 159) ∨ v = 65533
instance (v : Nat) : Decidable (Bar v) := by unfold Bar; infer_instance
/-- How many runes: so many more may come. -/
def rn : Nat → Tx → Nat
  | 0, l => if l = [] then 16 else 0
  | j + 1, l => if l = [] then 15 - j else if Bar (dec l).1 then 0 else rn j (l.drop (dec l).2)
def runes (l : Tx) : Nat := rn 16 l
def name (l : Tx) : Bool := decide (0 < runes l)
theorem rn_nil : ∀ j, j ≤ 16 → rn j [] = 16 - j
  | 0, _ => rfl
  | j + 1, h => by rw [rn, if_pos rfl]; omega
theorem rn_zero {l : Tx} (h : l ≠ []) : rn 0 l = 0 := by rw [rn, if_neg h]
theorem rn_bar {l : Tx} {j : Nat} (h : l ≠ []) (hb : Bar (dec l).1) : rn j l = 0 := by
  cases j with
  | zero => exact rn_zero h
  | succ j => rw [rn, if_neg h, if_pos hb]
theorem rn_step {l : Tx} {j : Nat} (h : l ≠ []) (hb : ¬ Bar (dec l).1) : rn (j + 1) l = rn j (l.drop (dec l).2) := by rw [rn, if_neg h, if_neg hb]
theorem rn_le : ∀ j l, rn j l ≤ 16
  | 0, l => by unfold rn; split <;> omega
  | j + 1, l => by
    unfold rn
    split
    · omega
    · split
      · omega
      · exact rn_le j _

/-- How many bytes a rune has that begins so. -/
def sz (b : Nat) : Nat := if b < 128 then 1 else if 194 ≤ b ∧ b < 224 then 2 else if 224 ≤ b ∧ b < 240 then 3 else if 240 ≤ b ∧ b < 245 then 4 else 0
theorem sz_cases (b : Nat) : (sz b = 0 ∧ (128 ≤ b ∧ b < 194 ∨ 245 ≤ b)) ∨ (sz b = 1 ∧ b < 128) ∨ (sz b = 2 ∧ 194 ≤ b ∧ b < 224) ∨ (sz b = 3 ∧ 224 ≤ b ∧ b < 240) ∨ (sz b = 4 ∧ 240 ≤ b ∧ b < 245) := by
  unfold sz
  repeat' split
  all_goals omega
/-- The document's rune: none of what is no rune's form. -/
def r1 (l : Tx) : Nat × Nat := if dec l = (65533, 1) then (0, 0) else dec l
theorem r1_bad {l : Tx} (h : dec l = (65533, 1)) : r1 l = (0, 0) := by rw [r1, if_pos h]
theorem r1_ok {l : Tx} {v n : Nat} (h : dec l = (v, n)) (hn : v ≠ 65533 ∨ n ≠ 1) : r1 l = (v, n) := by
  rw [r1, h, if_neg]
  intro e
  have := Prod.mk.inj e
  omega
theorem r1_none {l : Tx} (hl : 1 ≤ l.length) (h : sz (byte l 0) = 0 ∨ l.length < sz (byte l 0)) : r1 l = (0, 0) := by
  have h0 := byte_lt l 0; have h1 := byte_lt l 1; have h2 := byte_lt l 2; have h3 := byte_lt l 3
  have hc := sz_cases (byte l 0)
  refine r1_bad ?_
  unfold dec Go.Lib.decodeN
  generalize sz (byte l 0) = q at *
  repeat' split
  all_goals first | rfl | (exfalso; omega)
theorem r1_one {l : Tx} (h : sz (byte l 0) = 1) : r1 l = (byte l 0, 1) := by
  have hc := sz_cases (byte l 0)
  have hb : byte l 0 < 128 := by omega
  have hd : dec l = (byte l 0, 1) := by rw [dec, Go.Lib.decodeN, if_pos hb]
  exact r1_ok hd (.inl (by omega))
/-- A rune of so many bytes: what was gathered, byte by byte. -/
def gath (l : Tx) (m : Nat) : Nat → Nat
  | 0 => byte l 0 % m
  | k + 1 => gath l m k * 64 + byte l (k + 1) % 64
def cont (l : Tx) (i : Nat) : Prop := ¬ byte l i < 128 ∧ ¬ 192 ≤ byte l i
def good (v least : Nat) : Prop := ¬ v < least ∧ ¬ 1114111 < v ∧ ¬ (55296 ≤ v ∧ v < 57344)
theorem r1_two {l : Tx} (h : sz (byte l 0) = 2) (hl : 2 ≤ l.length) : (¬ (cont l 1) → r1 l = (0, 0)) ∧ ((cont l 1) → (good (gath l 32 1) 128 → r1 l = (gath l 32 1, 2)) ∧ (¬ good (gath l 32 1) 128 → r1 l = (0, 0))) := by
  have h0 := byte_lt l 0; have h1 := byte_lt l 1; have h2 := byte_lt l 2; have h3 := byte_lt l 3
  have hc := sz_cases (byte l 0)
  generalize sz (byte l 0) = q at *
  subst h
  refine ⟨fun hk => r1_bad ?_, fun hk => ⟨fun hg => r1_ok ?_ (.inr (by omega)), fun hg => r1_bad ?_⟩⟩
  all_goals (simp only [cont, good, gath, dec, Go.Lib.decodeN, Nat.zero_add, Nat.reduceAdd] at *)
  all_goals (repeat' split)
  all_goals first | rfl | (exfalso; omega) | (refine Prod.ext ?_ ?_ <;> simp only <;> omega)
theorem r1_three {l : Tx} (h : sz (byte l 0) = 3) (hl : 3 ≤ l.length) : (¬ (cont l 1 ∧ cont l 2) → r1 l = (0, 0)) ∧ ((cont l 1 ∧ cont l 2) → (good (gath l 16 2) 2048 → r1 l = (gath l 16 2, 3)) ∧ (¬ good (gath l 16 2) 2048 → r1 l = (0, 0))) := by
  have h0 := byte_lt l 0; have h1 := byte_lt l 1; have h2 := byte_lt l 2; have h3 := byte_lt l 3
  have hc := sz_cases (byte l 0)
  generalize sz (byte l 0) = q at *
  subst h
  refine ⟨fun hk => r1_bad ?_, fun hk => ⟨fun hg => r1_ok ?_ (.inr (by omega)), fun hg => r1_bad ?_⟩⟩
  all_goals (simp only [cont, good, gath, dec, Go.Lib.decodeN, Nat.zero_add, Nat.reduceAdd] at *)
  all_goals (repeat' split)
  all_goals first | rfl | (exfalso; omega) | (refine Prod.ext ?_ ?_ <;> simp only <;> omega)
theorem r1_four {l : Tx} (h : sz (byte l 0) = 4) (hl : 4 ≤ l.length) : (¬ (cont l 1 ∧ cont l 2 ∧ cont l 3) → r1 l = (0, 0)) ∧ ((cont l 1 ∧ cont l 2 ∧ cont l 3) → (good (gath l 8 3) 65536 → r1 l = (gath l 8 3, 4)) ∧ (¬ good (gath l 8 3) 65536 → r1 l = (0, 0))) := by
  have h0 := byte_lt l 0; have h1 := byte_lt l 1; have h2 := byte_lt l 2; have h3 := byte_lt l 3
  have hc := sz_cases (byte l 0)
  generalize sz (byte l 0) = q at *
  subst h
  refine ⟨fun hk => r1_bad ?_, fun hk => ⟨fun hg => r1_ok ?_ (.inr (by omega)), fun hg => r1_bad ?_⟩⟩
  all_goals (simp only [cont, good, gath, dec, Go.Lib.decodeN, Nat.zero_add, Nat.reduceAdd] at *)
  all_goals (repeat' split)
  all_goals first | rfl | (exfalso; omega) | (refine Prod.ext ?_ ?_ <;> simp only <;> omega)

/-- An operation. -/
structure O where
  kind : Int
  topic : Tx
  group : Tx
  off : Int
  recs : List Tx
deriving DecidableEq
def O.zero : O := ⟨0, [], [], 0, []⟩

/-- What a kind has: a topic, a group, an offset, records. -/
def hasT (k : Int) : Bool := k == 1 || k == 2 || k == 3 || k == 4
def hasG (k : Int) : Bool := k == 3
def hasO (k : Int) : Bool := k == 3 || k == 4
def hasR (k : Int) : Bool := k == 2
def known (k : Int) : Bool := decide (0 ≤ k) && decide (k ≤ 4)
theorem kind_cases {k : Int} (h : known k = true) : k = 0 ∨ k = 1 ∨ k = 2 ∨ k = 3 ∨ k = 4 := by
  simp only [known, Bool.and_eq_true, decide_eq_true_eq] at h
  omega
theorem kind_none {k : Int} (h : known k = false) : k ≠ 0 ∧ k ≠ 1 ∧ k ≠ 2 ∧ k ≠ 3 ∧ k ≠ 4 := by
  simp only [known, Bool.and_eq_false_iff, decide_eq_false_iff_not] at h
  omega
/-- Does it hold something beside its fields? -/
def more (o : O) : Bool := (!hasT o.kind && !o.topic.isEmpty) || (!hasG o.kind && !o.group.isEmpty) || (!hasO o.kind && (o.off != 0)) || (!hasR o.kind && !o.recs.isEmpty)
def badName (o : O) : Bool := (hasT o.kind && !name o.topic) || (hasG o.kind && !name o.group)
def areRecs (l : List Tx) : Bool := decide (0 < l.length) && decide (l.length ≤ 4) && l.all fun x => decide (x.length ≤ 64)
def badRecs (o : O) : Bool := hasR o.kind && !areRecs o.recs
def badOff (o : O) : Bool := hasO o.kind && (decide (o.off < 0) || decide (9007199254740992 < o.off))
/-- What keeps an operation from being one. -/
def check (o : O) : Int := if !known o.kind || more o then 60 else if badName o then 61 else if badRecs o then 62 else if badOff o then 60 else 0
theorem check_ok {o : O} (h : check o = 0) : known o.kind = true ∧ more o = false ∧ badName o = false ∧ badRecs o = false ∧ badOff o = false := by
  unfold check at h
  split at h
  · cases h
  · rename_i h1
    split at h
    · cases h
    · rename_i h2
      split at h
      · cases h
      · rename_i h3
        split at h
        · cases h
        · rename_i h4
          simp only [Bool.or_eq_true, Bool.not_eq_true', not_or, Bool.not_eq_false, Bool.not_eq_true] at h1 h2 h3 h4
          exact ⟨h1.1, h1.2, h2, h3, h4⟩

/-- An operation's bytes, if it may be one. -/
def raw (o : O) : Tx := enc o.kind.toNat ++ ((if hasT o.kind then encB o.topic else []) ++ ((if hasG o.kind then encB o.group else []) ++ ((if hasO o.kind then enc o.off.toNat else []) ++ (if hasR o.kind then encL o.recs else []))))
def form (o : O) : Tx := if check o ≠ 0 then [] else raw o
/-- What is read, as far as it goes. -/
def rdT (k : Int) (s : RS) : Tx × RS := if hasT k then bytesS s 64 else ([], s)
def rdG (k : Int) (s : RS) : Tx × RS := if hasG k then bytesS s 64 else ([], s)
def rdO (k : Int) (s : RS) : Nat × RS := if hasO k then numS s 9007199254740992 else (0, s)
def rdR (k : Int) (s : RS) : List Tx × RS := if hasR k then listS s 4 64 else ([], s)
def rd (s : RS) : O × RS :=
  let k := numS s 4
  let t := rdT k.1 k.2
  let g := rdG k.1 t.2
  let f := rdO k.1 g.2
  let r := rdR k.1 f.2
  (⟨k.1, t.1, g.1, f.1, r.1⟩, r.2)
def take (s : RS) : O × RS := if (failS (rd s).2 (check (rd s).1)).2 ≠ 0 then (O.zero, failS (rd s).2 (check (rd s).1)) else ((rd s).1, failS (rd s).2 (check (rd s).1))
def parse (b : Tx) : O × Int := if doneS (take (b, 0)).2 ≠ 0 then (O.zero, doneS (take (b, 0)).2) else ((take (b, 0)).1, 0)
/-- A result's bytes, and what is read of them. -/
def resB (e f : Int) : Tx := enc (max e 0).toNat ++ enc (max f 0).toNat
def takeR (s : RS) : (Int × Int) × RS :=
  if (numS (numS s 65536).2 9007199254740992).2.2 ≠ 0 then ((0, 0), (numS (numS s 65536).2 9007199254740992).2)
  else (((numS s 65536).1, (numS (numS s 65536).2 9007199254740992).1), (numS (numS s 65536).2 9007199254740992).2)

end Go.Proofs.YtebjjkhiniccgaaGreat.Pm

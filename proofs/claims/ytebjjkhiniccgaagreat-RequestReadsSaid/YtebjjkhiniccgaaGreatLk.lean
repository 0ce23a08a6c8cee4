/-
  Words for memory, for layer 2's ledgers: signatures, slices of them, the map of them, the program's ledger and the document's.
-/
import Derived.Test.YtebjjkhiniccgaaGreatIk
import Derived.DeepKeys4
namespace Go.Proofs.YtebjjkhiniccgaaGreat.Lk
set_option linter.unusedSimpArgs false
set_option linter.unusedVariables false
set_option maxRecDepth 100000
open Go Go.RowKit Ck Im Kw Ik

/-- A signature: its key, its digest. -/
abbrev Sg := Int × Int
def GV (s : Sg) : Value := .agg #[.int .i64 s.1, .int .i64 s.2]
def GVs (l : List Sg) : List Value := l.flatMap fun s => [.int .i64 s.1, .int .i64 s.2]
def wfS (s : Sg) : Prop := -9223372036854775808 ≤ s.1 ∧ s.1 ≤ 9223372036854775807 ∧ -9223372036854775808 ≤ s.2 ∧ s.2 ≤ 9223372036854775807
theorem GVs_len (l : List Sg) : (GVs l).length = l.length * 2 := by
  induction l with
  | nil => rfl
  | cons s l ih => rw [GVs, List.flatMap_cons, List.length_append, ← GVs, ih]; simp only [List.length_cons, List.length_nil]; omega
theorem GVs_app (l m : List Sg) : GVs (l ++ m) = GVs l ++ GVs m := by simp [GVs]
theorem GVs_one (l : List Sg) : ∀ u ∈ GVs l, u.oneCell' = true := by
  intro u hu
  simp only [GVs, List.mem_flatMap, List.mem_cons, List.not_mem_nil, or_false] at hu
  obtain ⟨s, _, rfl | rfl⟩ := hu <;> rfl
theorem GVs_get : ∀ (l : List Sg) (i : Nat) (h : i < l.length), (GVs l)[i * 2]? = some (.int .i64 l[i].1) ∧ (GVs l)[i * 2 + 1]? = some (.int .i64 l[i].2)
  | [], i, h => absurd h (by simp)
  | s :: l, 0, _ => by simp [GVs]
  | s :: l, i + 1, h => by
    have ih := GVs_get l i (by simpa using h)
    have e : GVs (s :: l) = Value.int .i64 s.1 :: Value.int .i64 s.2 :: GVs l := by simp [GVs]
    rw [e, show (i + 1) * 2 = i * 2 + 1 + 1 by omega, show i * 2 + 1 + 1 + 1 = (i * 2 + 1) + 1 + 1 by omega]
    simpa using ih

theorem keyLits_int {n : Nat} {t : TypeId} {a : Int} (ht : Tryz.prog.underlying t = some (.int .i64)) (h : (Lit.int .i64 a).wf = true) : Tryz.prog.keyLits (n + 1) t [.int .i64 a] = some [.int .i64 a] := by
  simp [Program.keyLits, ht, h]
theorem wf_of {a : Int} (h1 : -9223372036854775808 ≤ a) (h2 : a ≤ 9223372036854775807) : (Lit.int .i64 a).wf = true := WalkArith.wf_i64 (by omega)
theorem cells_sign : Tryz.prog.cellsOf 47 = 2 := by kernel_rfl
theorem cells_int : Tryz.prog.cellsOf 3 = 1 := by kernel_rfl
theorem cells_dig : Tryz.prog.cellsOf 45 = 1 := by kernel_rfl
theorem keytype_sign : Tryz.prog.keyType 47 = true := by kernel_rfl
def KL (s : Sg) : Lit := .string (keyBytes [.int .i64 s.1, .int .i64 s.2])
theorem key_sign (s : Sg) (h : wfS s) : keyOf Tryz.prog 47 (GV s) = some (KL s) := by
  obtain ⟨n, hn⟩ : ∃ n, Tryz.prog.types.size + 1 = n + 1 + 1 := ⟨Tryz.prog.types.size - 1, by have : 0 < Tryz.prog.types.size := of_decide_eq_true (by kernel_rfl); omega⟩
  have hf : (GV s).formed Tryz.prog 47 = true := by simp [GV, Value.formed, Tryz.underlying47, cells_sign]
  have hl : Tryz.prog.keyLits (n + 1 + 1) 47 [.int .i64 s.1, .int .i64 s.2] = some [.int .i64 s.1, .int .i64 s.2] := by
    have k1 := keyLits_int (n := n) (t := 3) Tryz.underlying3 (wf_of h.1 h.2.1)
    have k2 := keyLits_int (n := n) (t := 45) Tryz.underlying45 (wf_of h.2.2.1 h.2.2.2)
    unfold Program.keyLits
    simp [Tryz.underlying47, cells_sign, cells_int, cells_dig, k1, k2]
  unfold keyOf
  rw [Tryz.underlying47, keytype_sign, hf, hn]
  show (if (true && true) = true then (Tryz.prog.keyLits (n + 1 + 1) 47 [.int .i64 s.1, .int .i64 s.2]).map fun ls => Lit.string (keyBytes ls) else none) = _
  rw [hl]
  rfl
theorem law_sign : Maps.Keyed Tryz.prog 47 :=
  Maps.Keyed.of_law (deep_law_laid (by kernel_rfl) (m := 3) (by omega) (of_decide_eq_true (by kernel_rfl)) (by kernel_rfl) (by rw [Tryz.underlying47]))
theorem KL_inj {s t : Sg} (hs : wfS s) (ht : wfS t) (h : KL s = KL t) : s = t := by
  have := law_sign.inj (key_sign s hs) (h ▸ key_sign t ht)
  simp only [GV, Value.agg.injEq] at this
  have h1 := congrArg (fun a : Array Value => a[0]?) this
  have h2 := congrArg (fun a : Array Value => a[1]?) this
  simp only [List.getElem?_toArray, List.getElem?_cons_zero, List.getElem?_cons_succ, Option.some.injEq, Value.int.injEq, true_and] at h1 h2
  exact Prod.ext h1 h2

/-- Is it signed? (A word of its own.) -/
def isS (L : List Sg) (s : Sg) : Bool := decide (s ∈ L)
theorem isS_true {L : List Sg} {s : Sg} (h : s ∈ L) : isS L s = true := by simp [isS, h]
theorem isS_false {L : List Sg} {s : Sg} (h : ¬ s ∈ L) : isS L s = false := by simp [isS, h]
/-- What Sign answers and leaves. -/
def code (s : Sg) : Int := if s.1 < 0 ∨ 21 ≤ s.1 then 20 else if s.2 < 1 then 1 else 0
def pay (L : List Sg) (s : Sg) : List Sg := if code s = 0 then (if s ∈ L then L else L ++ [s]) else L
def ans (s : Sg) : Sg := if code s = 0 then s else (0, 0)
theorem pay_len (L : List Sg) (s : Sg) : (pay L s).length ≤ L.length + 1 := by
  unfold pay
  split
  · split <;> simp
  · omega
def pays (l : List Sg) : List Sg := l.foldl pay []
theorem pays_take {l : List Sg} {k : Nat} (h : k < l.length) : pays (l.take (k + 1)) = pay (pays (l.take k)) l[k] := by
  rw [List.take_succ_eq_append_getElem h, pays, List.foldl_append]; rfl
theorem pays_len (l : List Sg) (k : Nat) : (pays (l.take k)).length ≤ k := by
  induction k with
  | zero => simp [pays]
  | succ k ih =>
    by_cases h : k < l.length
    · rw [pays_take h]
      have := pay_len (pays (l.take k)) l[k]
      omega
    · rw [List.take_of_length_le (by omega : l.length ≤ k + 1), ← List.take_of_length_le (by omega : l.length ≤ k)]
      omega

/-- The map's datum tells which are signed. -/
def Known (D : DataW Unit) (L : List Sg) : Prop := ∀ s, wfS s → Maps.has D (KL s) = isS L s
theorem Known.empty : Known (.map []) [] := fun _ _ => rfl
theorem Known.put {D : DataW Unit} {L : List Sg} {t : Sg} (h : Known D L) (hD : Maps.IsMap D) (ht : wfS t) (d : DataW Unit) : Known (D.put (KL t) d) (L ++ [t]) := by
  intro s hs
  by_cases he : s = t
  · subst he
    rw [Maps.has_put_same hD (law_sign.key (key_sign s hs))]
    simp [isS]
  · have hne : KL s ≠ KL t := fun e => he (KL_inj hs ht e)
    rw [Maps.has_put_other hne, h s hs]
    simp [isS, he]

/-- Block p is a ledger of these signatures; all its blocks are in S. -/
def Lg (w : World) (S : Nat → Prop) (p : Nat) (L : List Sg) : Prop :=
  ∃ m ov D, Blk w p 93 #[.map (some m), ov] ∧ w.ownsMap Tryz.prog 47 unitElem m L.length D ∧ Known D L ∧ w.ownsRow 0 47 2 ov L.length (GVs L) ∧
    S p ∧ S m ∧ (∀ g, ov.ownBlock = some g → S g)
/-- Block p is the document's ledger of these. -/
def Rl (w : World) (S : Nat → Prop) (p : Nat) (L : List Sg) : Prop :=
  ∃ lv, Blk w p 65 #[lv] ∧ S p ∧ Sl w (fun k => ¬ S k ∨ k = p) 2 lv L.length (GVs L)
theorem Lg.ch {S T : Nat → Prop} {w w' : World} {p : Nat} {L : List Sg} (h : Lg w S p L) (c : Ch T w w') (hd : ∀ k, S k → T k → False) : Lg w' S p L := by
  obtain ⟨m, tv, D, h1, h2, h3, h4, h5, h6, h7⟩ := h
  exact ⟨m, tv, D, h1.ch c (fun ht => hd _ h5 ht), map_ch h2 c (fun ht => hd _ h6 ht), h3, own_ch h4 c (fun g hg ht => hd _ (h7 g hg) ht), h5, h6, h7⟩
theorem Lg.weaken {S T : Nat → Prop} {w : World} {p : Nat} {L : List Sg} (h : Lg w S p L) (hd : ∀ k, S k → T k) : Lg w T p L := by
  obtain ⟨m, tv, D, h1, h2, h3, h4, h5, h6, h7⟩ := h
  exact ⟨m, tv, D, h1, h2, h3, h4, hd _ h5, hd _ h6, fun g hg => hd _ (h7 g hg)⟩
theorem Rl.ch {S T : Nat → Prop} {w w' : World} {p : Nat} {L : List Sg} (h : Rl w S p L) (c : Ch T w w') (hd : ∀ k, S k → T k → False) : Rl w' S p L := by
  obtain ⟨lv, h1, h2, h3⟩ := h
  exact ⟨lv, h1.ch c (fun ht => hd _ h2 ht), h2, h3.ch c (fun k _ ht => .inl (fun hs => hd _ hs ht))⟩
theorem Rl.up {w w' : World} {S : Nat → Prop} {p : Nat} {L : List Sg} (h : Rl w' S p L) : Rl w' (Up S w w') p L := by
  obtain ⟨lv, h1, h2, h3⟩ := h
  refine ⟨lv, h1, .inl h2, h3.weaken ?_⟩
  rintro k _ (hn | rfl)
  · exact .inl fun hs => hn (.inl hs)
  · exact .inr rfl

end Go.Proofs.YtebjjkhiniccgaaGreat.Lk

/-
  Opening a law's arguments under the form's own reach (byte strings, strings, numbers), and closing its row: the result is true and the arguments read as they did. For any layer.
-/
import Derived.Test.YtmefagflnhkbdaaGreatVD01
import Derived.ProofKit
import Derived.OpenShut
import Derived.JoinedCond
import Derived.Deep.Slices
import Derived.SizedLaws
import Derived.JoinedOf
import Derived.Lib.DecodeN
import Derived.LoopTactic
import Derived.Outline
import Derived.Laws.RangeAny
import Derived.WalkMore
import Derived.Laws.RangeString
namespace Go.Proofs.YtmefagflnhkbdaaGreat.Kp
set_option linter.unusedSimpArgs false
set_option linter.unusedVariables false
open Go Go.RowKit Go.ChangeShapes Go.WideShapes Go.ChangeAt Go.Deep Ck

section
variable {H : Type} {enc : TypeId × Value → H} {P : Program}

theorem trodAll_below (hl : laidOutB P = true) : ∀ (ts : List TypeId) (vs : List Value) (ds : List (DataW H)) (ps : List MemPlace) {W W' : World} {sp : Nat → Bool},
    (ts.all fun t => P.readableRec t && decide (t < P.types.size)) = true → DataW.TrodAll enc P W 0 (fun _ => true) true ts vs ds ps → Below W.heap.size W W' →
    (∀ x ∈ ps, x.block < W.heap.size) → (∀ x ∈ ps, sp x.block = true) → DataW.TrodAll enc P W' 0 sp true ts vs ds ps
  | [], [], [], ps, W, W', sp, _, h, _, _, _ => h
  | t :: ts, v :: vs, d :: ds, ps, W, W', sp, hr, h, hb, hlt, hs => by
    obtain ⟨p, q, h1, h2, rfl⟩ := h
    simp only [List.all_cons, Bool.and_eq_true, decide_eq_true_eq] at hr
    refine ⟨p, q, ?_, ?_, rfl⟩
    · exact WideElems.Trod_stays hl hr.1.1 hr.1.2 h1 (fun x hx => hb.same (hlt x (by simp [hx]))) (fun x hx => hs x (by simp [hx]))
    · exact trodAll_below hl ts vs ds q (by simpa using hr.2) h2 hb (fun x hx => hlt x (by simp [hx])) (fun x hx => hs x (by simp [hx]))
  | [], [], _ :: _, _, _, _, _, _, h, _, _, _ => h.elim
  | [], _ :: _, _, _, _, _, _, _, h, _, _, _ => h.elim
  | _ :: _, [], _, _, _, _, _, _, h, _, _, _ => h.elim
  | _ :: _, _ :: _, [], _, _, _, _, _, h, _, _, _ => h.elim

/-- THE ROW's LAST STEP, for a law that answers true and leaves what was there as it was. -/
theorem law_post {f : Func} {s : ChangeSpec} {W W' : World} {args : Array Value} {ds gs : List (DataW H)} {before : List MemPlace} {tb : TypeId} (hl : laidOutB P = true) (hr : (f.params.toList.all fun t => P.readableRec t && decide (t < P.types.size)) = true)
    (hv : s.vars = []) (ht : f.resultTypes = #[tb]) (htb : P.underlying tb = some .bool) (hW : DataW.Whole enc P f.params.toList s.vars false W args.toList ds gs before)
    (hsr : (s.fn H (ds ++ gs)).results = [.lit (.bool true)]) (hsa : (s.fn H (ds ++ gs)).args = ds) (hsv : (s.fn H (ds ++ gs)).vars = []) (hb : Below W.heap.size W W') : s.post enc P f false true false false W args (.bool true) W' := by
  have hlt : ∀ p ∈ before, p.block < W.heap.size := fun p hp => hW.lt p hp
  have hW2 := hW
  obtain ⟨p, q, hA, hV, rfl, _, _⟩ := hW2
  rw [hv] at hV
  obtain ⟨rfl, rfl⟩ := trodVars_none hV
  have hold : ∀ x ∈ p, (fun b => decide (b < W.heap.size)) x.block = true := fun x hx => by simpa using hlt x (by simp [hx])
  refine ⟨ds, [], p ++ [], [], p, [], hW, ?_, ?_, ?_, World.keptBut_mono (fun x hx => ⟨hx, ?_⟩) (hb.frame (· ∈ p ++ [])), fun h => by cases h⟩
  · rw [hsr, ht]
    exact trodAll_cons_mk (shut_bool htb true) trodAll_mk0
  · rw [hsa]
    exact trodAll_below hl _ _ _ _ hr hA hb (fun x hx => hlt x (by simp [hx])) hold
  · rw [hsv, hv]
    rfl
  · rw [List.append_nil] at hx
    exact .inr (.inl hx)
end

section
variable {H : Type} {enc : TypeId × Value → H}
theorem cells_u8 : Tryz.prog.cellsOf 5 = 1 := by kernel_rfl

theorem ofNat_int {z : Int} (h : (Lit.int .u8 z).wf = true) : ((UInt8.ofNat z.toNat).toNat : Int) = z := by
  have h2 : 0 ≤ z ∧ z ≤ 255 := by simpa [Lit.wf, IntKind.min, IntKind.max, IntKind.signed, IntKind.bits] using h
  rw [Cm.toNat_ofNat (by omega)]
  omega
theorem bytes_u8 : Tryz.prog.bytesOf 5 = 1 := by kernel_rfl
theorem all_mem {P : Program} {e : TypeId} {d : DataW H} {n : Nat} (hn : n ∈ d.weights P e) : ∀ {l : List (DataW H)}, d ∈ l → n ∈ DataW.weightsAll P e l
  | x :: r, h => by
    simp only [DataW.weightsAll, List.mem_append]
    rcases List.mem_cons.1 h with rfl | h
    · exact .inl hn
    · exact .inr (all_mem hn h)

theorem one_int {w : World} {base : Nat} {sp : Nat → Bool} {held : Bool} {n : Nat} {t : TypeId} {k : IntKind} {cs : List Value} {xs : List (DataW H × List MemPlace)} {j : Nat} (ht : Tryz.prog.underlying t = some (.int k)) (hj : j < xs.length)
    (h : DataW.trod enc Tryz.prog w base sp held n t cs = xs[j]?) : ∃ z, cs = [.int k z] ∧ (Lit.int k z).wf = true := by
  rw [List.getElem?_eq_getElem hj] at h
  obtain ⟨z, h1, _, h2⟩ := DataW.trod_int ht h
  exact ⟨z, h1, h2⟩
end

end Go.Proofs.YtmefagflnhkbdaaGreat.Kp

/-
  The plain mathematics of layer 6 (op): runes of a text, names, which operations may be, their bytes and what is read of bytes. No program is named here.
-/
namespace Go.Proofs.YtmefagflnhkbdaaGreat.Pm
set_option linter.unusedSimpArgs false
set_option linter.unusedVariables false
open Cm

abbrev Tx := List UInt8
/-- A byte of a text; 0 beyond its end. -/
def byte (l : Tx) (i : Nat) : Nat := (l[i]?.getD 0).toNat
theorem byte_lt (l : Tx) (i : Nat) : byte l i < 256 := UInt8.toNat_lt _
theorem byte_drop (l : Tx) (i k : Nat) : byte (l.drop i) k = byte l (i + k) := by simp [byte, List.getElem?_drop]
/-- The rune with which a text begins, and its width. -/
def dec (l : Tx) : Nat × Nat := Go.Lib.decodeN l.length (byte l 0) (byte l 1) (byte l 2) (byte l 3)
theorem get_byte (l : Tx) (i : Nat) : ((ByteArray.mk l.toArray).get! i).toNat = byte l i := by
  show (l.toArray[i]!).toNat = _
  rw [byte, getElem!_def]
  cases h : l[i]? with
  | none => simp [h]; rfl
  | some x => simp [h]
theorem decode_dec (l : Tx) (i : Nat) : Go.Utf8.decode ⟨l.toArray⟩ i = dec (l.drop i) := by
  rw [Go.Lib.decode_at, dec]
  have hs : (ByteArray.mk l.toArray).size = l.length := by show l.toArray.size = _; simp
  rw [hs, get_byte, get_byte, get_byte, get_byte, List.length_drop, byte_drop, byte_drop, byte_drop, byte_drop]
  rfl
theorem dec_width (l : Tx) : 1 ≤ (dec l).2 := by
  unfold dec Go.Lib.decodeN
  repeat' split
  all_goals simp
theorem dec_lt (l : Tx) : (dec l).1 ≤ 1114111 := by
  have h0 := byte_lt l 0; have h1 := byte_lt l 1; have h2 := byte_lt l 2; have h3 := byte_lt l 3
  unfold dec Go.Lib.decodeN
  repeat' split
  all_goals (simp only; omega)

/-- A rune that stands in no name. -/
def Bar (v : Nat) : Prop := v < 33 ∨ v = 47 ∨ (127 ≤ v ∧ v ≤ 159) ∨ v = 65533
instance (v : Nat) : Decidable (Bar v) := by unfold Bar; infer_instance
/-- How many runes: so many more may come. -/
def rn : Nat → Tx → Nat
  | 0, l => if l = [] then 16 else 0
  | j + 1, l => if l = [] then 15 - j else if Bar (dec l).1 then 0 else rn j (l.drop (dec l).2)
def runes (l : Tx) : Nat := rn 16 l
def name (l : Tx) : Bool := decide (0 < runes l)
theorem rn_nil : ∀ j, j ≤ 16 → rn j [] = 16 - j
  | 0, _ => rfl
  | j + 1, h => by rw [rn, if_pos rfl]; omega
theorem rn_zero {l : Tx} (h : l ≠ []) : rn 0 l = 0 := by rw [rn, if_neg h]
theorem rn_bar {l : Tx} {j : Nat} (h : l ≠ []) (hb : Bar (dec l).1) : rn j l = 0 := by
  cases j with
  | zero => exact rn_zero h
  | succ j => rw [rn, if_neg h, if_pos hb]
theorem rn_step {l : Tx} {j : Nat} (h : l ≠ []) (hb : ¬ Bar (dec l).1) : rn (j + 1) l = rn j (l.drop (dec l).2) := by rw [rn, if_neg h, if_neg hb]
/-- The document's rune: none of what is no rune's form. -/
def r1 (l : Tx) : Nat × Nat := if dec l = (65533, 1) then (0, 0) else dec l
def good (v least : Nat) : Prop := ¬ v < least ∧ ¬ 1114111 < v ∧ ¬ (55296 ≤ v ∧ v < 57344)
/-- An operation. -/
structure O where
  kind : Int
  topic : Tx
  group : Tx
  off : Int
  recs : List Tx
deriving DecidableEq
def O.zero : O := ⟨0, [], [], 0, []⟩

/-- What a kind has: a topic, a group, an offset, records. -/
def hasT (k : Int) : Bool := k == 1 || k == 2 || k == 3 || k == 4
def hasG (k : Int) : Bool := k == 3
def hasO (k : Int) : Bool := k == 3 || k == 4
def hasR (k : Int) : Bool := k == 2
def known (k : Int) : Bool := decide (0 ≤ k) && decide (k ≤ 4)
theorem kind_cases {k : Int} (h : known k = true) : k = 0 ∨ k = 1 ∨ k = 2 ∨ k = 3 ∨ k = 4 := by
  simp only [known, Bool.and_eq_true, decide_eq_true_eq] at h
  omega
theorem kind_none {k : Int} (h : known k = false) : k ≠ 0 ∧ k ≠ 1 ∧ k ≠ 2 ∧ k ≠ 3 ∧ k ≠ 4 := by
  simp only [known, Bool.and_eq_false_iff, decide_eq_false_iff_not] at h
  omega
/-- Does it hold something beside its fields? -/
def more (o : O) : Bool := (!hasT o.kind && !o.topic.isEmpty) || (!hasG o.kind && !o.group.isEmpty) || (!hasO o.kind && (o.off != 0)) || (!hasR o.kind && !o.recs.isEmpty)
def badName (o : O) : Bool := (hasT o.kind && !name o.topic) || (hasG o.kind && !name o.group)
def areRecs (l : List Tx) : Bool := decide (0 < l.length) && decide (l.length ≤ 4) && l.all fun x => decide (x.length ≤ 64)
def badRecs (o : O) : Bool := hasR o.kind && !areRecs o.recs
def badOff (o : O) : Bool := hasO o.kind && (decide (o.off < 0) || decide (9007199254740992 < o.off))
/-- What keeps an operation from being one. -/
def check (o : O) : Int := if !known o.kind || more o then 60 else if badName o then 61 else if badRecs o then 62 else if badOff o then 60 else 0
theorem check_ok {o : O} (h : check o = 0) : known o.kind = true ∧ more o = false ∧ badName o = false ∧ badRecs o = false ∧ badOff o = false := by
  unfold check at h
  split at h
  · cases h
  · rename_i h1
    split at h
    · cases h
    · rename_i h2
      split at h
      · cases h
      · rename_i h3
        split at h
        · cases h
        · rename_i h4
          simp only [Bool.or_eq_true, Bool.not_eq_true', not_or, Bool.not_eq_false, Bool.not_eq_true] at h1 h2 h3 h4
          exact ⟨h1.1, h1.2, h2, h3, h4⟩

/-- An operation's bytes, if it may be one. -/
def raw (o : O) : Tx := enc o.kind.toNat ++ ((if hasT o.kind then encB o.topic else []) ++ ((if hasG o.kind then encB o.group else []) ++ ((if hasO o.kind then enc o.off.toNat else []) ++ (if hasR o.kind then encL o.recs else []))))
def form (o : O) : Tx := if check o ≠ 0 then [] else raw o
/-- What is read, as far as it goes. -/
def rdT (k : Int) (s : RS) : Tx × RS := if hasT k then bytesS s 64 else ([], s)
def rdG (k : Int) (s : RS) : Tx × RS := if hasG k then bytesS s 64 else ([], s)
def rdO (k : Int) (s : RS) : Nat × RS := if hasO k then numS s 9007199254740992 else (0, s)
def rdR (k : Int) (s : RS) : List Tx × RS := if hasR k then listS s 4 64 else ([], s)
def rd (s : RS) : O × RS :=
  let k := numS s 4
  let t := rdT k.1 k.2
  let g := rdG k.1 t.2
  let f := rdO k.1 g.2
  let r := rdR k.1 f.2
  (⟨k.1, t.1, g.1, f.1, r.1⟩, r.2)
def take (s : RS) : O × RS := if (failS (rd s).2 (check (rd s).1)).2 ≠ 0 then (O.zero, failS (rd s).2 (check (rd s).1)) else ((rd s).1, failS (rd s).2 (check (rd s).1))
end Go.Proofs.YtmefagflnhkbdaaGreat.Pm

/-
  Layer 6 (op): the contracts of barred, Runes and Name.
-/
namespace Go.Proofs.YtmefagflnhkbdaaGreat.Pa
set_option linter.unusedSimpArgs false
open Go Go.RowKit Ck Kw Pm
set_option linter.unusedVariables false

theorem sv_size (l : Tx) : (ByteArray.mk l.toArray).size = l.length := by show l.toArray.size = _; simp

set_option maxHeartbeats 1000000 in
theorem barred_yes (v : Nat) (h : Bar v) (w : World) :
    Calls Tryz.prog 150 #[.int .i32 v] w fun e w' => e = .returned (.bool true) ∧ w = w' := by
  unfold Bar at h
  by_cases h1 : v < 33
  · clear h
    go_enter Tryz.func150, Tryz.ntmps150
    go_wp2
    go_ret
    exact ⟨rfl, rfl⟩
  · by_cases h2 : v = 47
    · subst h2
      clear h h1
      go_enter Tryz.func150, Tryz.ntmps150
      go_wp2
      go_ret
      exact ⟨rfl, rfl⟩
    · have e2 : ((v : Int) == 47) = false := by rw [beq_eq_false_iff_ne]; omega
      by_cases h3 : 127 ≤ v ∧ v ≤ 159
      · obtain ⟨h3, h4⟩ := h3
        clear h h2
        go_enter Tryz.func150, Tryz.ntmps150
        go_wp2
        go_ret
        exact ⟨rfl, rfl⟩
      · have h4 : v = 65533 := by omega
        subst h4
        clear h h1 h2 h3 e2
        go_enter Tryz.func150, Tryz.ntmps150
        go_wp2
        go_ret
        exact ⟨rfl, rfl⟩

set_option maxHeartbeats 1000000 in
theorem barred_no (v : Nat) (h : ¬ Bar v) (w : World) :
    Calls Tryz.prog 150 #[.int .i32 v] w fun e w' => e = .returned (.bool false) ∧ w = w' := by
  unfold Bar at h
  have h1 : decide ((v : Int) < 33) = false := decide_eq_false (by omega)
  have e2 : ((v : Int) == 47) = false := by rw [beq_eq_false_iff_ne]; omega
  have e3 : ((v : Int) == 65533) = false := by rw [beq_eq_false_iff_ne]; omega
  by_cases h3 : 127 ≤ v
  · have h4 : decide ((v : Int) ≤ 159) = false := decide_eq_false (by omega)
    clear h
    go_enter Tryz.func150, Tryz.ntmps150
    go_wp2
    go_ret
    exact ⟨rfl, rfl⟩
  · clear h
    go_enter Tryz.func150, Tryz.ntmps150
    go_wp2
    go_ret
    exact ⟨rfl, rfl⟩

theorem iter_below (w : World) (s : ByteArray) (p : Nat) : Below w.heap.size w (w.iter s p) := (Below.refl _ w).alloc (Nat.le_refl _) _
theorem drop_nil_iff {l : Tx} {p : Nat} : l.drop p = [] ↔ ¬ p < l.length := by rw [List.drop_eq_nil_iff]; omega

set_option maxRecDepth 100000 in
set_option maxHeartbeats 2000000 in
theorem runes_any (l : Tx) (w : World) :
    Calls Tryz.prog 129 #[SV l] w fun e w' => e = .returned (.int .i64 (runes l : Nat)) ∧ Below w.heap.size w w' := by
  unfold SV
  go_enter Tryz.func129, Tryz.ntmps129
  go_wp2
  go_step3
  go_wp2
  go_step3
  go_wp2
  go_loopw [3] (fun n wr => ∃ pos j : Nat, wr = w.iter ⟨l.toArray⟩ pos ∧ n = .int .i64 ((16 - j : Nat) : Int) ∧ j ≤ 16 ∧ rn j (l.drop pos) = runes l) (fun _ wr => l.length - wr.iterPos w.heap.size)
  case atStart => exact ⟨0, 16, rfl, rfl, Nat.le_refl _, rfl⟩
  case round =>
    obtain ⟨pos, j, rfl, rfl, hj, hr⟩ := hrel
    by_cases hp : pos < l.length
    · have hnx : ∀ ty, (Instr.next (.pointer (some ⟨w.heap.size, 0, none⟩)) true ty).run Tryz.prog (w.iter ⟨l.toArray⟩ pos) = _ := fun ty => run_next_any w ⟨l.toArray⟩ pos ty (by rw [sv_size]; exact hp)
      have hwd := dec_width (l.drop pos)
      have hlt := dec_lt (l.drop pos)
      have hne : l.drop pos ≠ [] := fun h => (drop_nil_iff.1 h) hp
      rw [decode_dec] at hnx
      have HJ := Lib.hid (l.drop_drop (i := (dec (l.drop pos)).2) (j := pos))
      generalize hd : dec (l.drop pos) = d at *
      obtain ⟨v, n⟩ := d
      simp only at hnx hwd hlt HJ
      have HR := Lib.hid hr
      have HD := Lib.hid hd
      have HNE := Lib.hid hne
      clear hr hd hne
      by_cases hb : Bar v
      · have HB := Lib.hid hb
        clear hb
        go_wp2_with (go_at_call 150; refine (barred_yes v HB.out _).mono ?_; rintro e w1 ⟨rfl, rfl⟩)
        rw [Exit.noGoto_ret]
        go_ret
        refine ⟨?_, iter_below _ _ _⟩
        rw [← HR.out, rn_bar HNE.out (by rw [HD.out]; exact HB.out)]
        rfl
      · have HB := Lib.hid hb
        clear hb
        by_cases hj0 : j = 0
        · subst hj0
          go_wp2_with (go_at_call 150; refine (barred_no v HB.out _).mono ?_; rintro e w1 ⟨rfl, rfl⟩)
          rw [Exit.noGoto_ret]
          go_ret
          refine ⟨?_, iter_below _ _ _⟩
          rw [← HR.out, rn_zero HNE.out]
          rfl
        · obtain ⟨m, rfl⟩ : ∃ m, j = m + 1 := ⟨j - 1, by omega⟩
          have h16 : (((16 - (m + 1) : Nat) : Int) == 16) = false := by rw [beq_eq_false_iff_ne]; omega
          go_wp2_with (go_at_call 150; refine (barred_no v HB.out _).mono ?_; rintro e w1 ⟨rfl, rfl⟩)
          go_roundw
          case rel =>
            refine ⟨pos + n, m, rfl, ?_, by omega, ?_⟩
            · go_num
            · rw [← HR.out, rn_step HNE.out (by rw [HD.out]; exact HB.out), HD.out, HJ.out]
          case measure =>
            simp
            omega
    · have hnx : ∀ ty, (Instr.next (.pointer (some ⟨w.heap.size, 0, none⟩)) true ty).run Tryz.prog (w.iter ⟨l.toArray⟩ pos) = _ := fun ty => run_next_end w ⟨l.toArray⟩ pos ty (by rw [sv_size]; exact hp)
      have hz := drop_nil_iff.2 hp
      rw [hz, rn_nil _ hj] at hr
      have HR := Lib.hid hr
      clear hr hz
      go_wp2
      rw [Exit.noGoto_ret]
      go_ret
      exact ⟨by rw [← HR.out]; rfl, iter_below _ _ _⟩

theorem name_any (l : Tx) (w : World) :
    Calls Tryz.prog 104 #[SV l] w fun e w' => e = .returned (.bool (name l)) ∧ Below w.heap.size w w' := by
  have HC := Lib.hid (runes_any l w)
  unfold name
  generalize runes l = r at *
  go_enter Tryz.func104, Tryz.ntmps104
  go_wp2_with (go_at_call 129; refine HC.out.mono ?_; rintro e w1 ⟨rfl, hb⟩)
  go_ret
  exact ⟨by simp, hb⟩

end Go.Proofs.YtmefagflnhkbdaaGreat.Pa

/-
  Layer 6 (op): the contracts of fieldsOf, holdMore, isLong and areRecords; an operation in memory.
-/
namespace Go.Proofs.YtmefagflnhkbdaaGreat.Pe
set_option linter.unusedSimpArgs false
open Go Go.RowKit Ck Kw Pm Pa
set_option linter.unusedVariables false

/-- The fields that a kind has, as a value. -/
def FV (k : Int) : Value := .agg #[.bool (hasT k), .bool (hasG k), .bool (hasO k), .bool (hasR k)]
theorem size_fields : (Tryz.prog.info? 169).map (·.size) = some 4 := by kernel_rfl
set_option maxRecDepth 100000 in
set_option maxHeartbeats 2000000 in
theorem fields_any (k : Int) (w : World) :
    Calls Tryz.prog 102 #[.int .i64 k] w fun e w' => e = .returned (.tuple #[FV k, .bool (known k)]) ∧ Below w.heap.size w w' := by
  by_cases hk : known k = true
  · rcases kind_cases hk with rfl | rfl | rfl | rfl | rfl
    · clear hk
      go_enter Tryz.func102, Tryz.ntmps102
      go_wp2
      refine bodyPost_ret (results_row_tmp rfl _ _ w.heap.size 169 #[.bool false, .bool false, .bool false, .bool false] (0, 0) _ rfl ?_ Tryz.underlying169 rfl size_fields) rfl ?_
      · exact heap_alloc_new w _
      · exact ⟨rfl, (Below.refl _ w).alloc (Nat.le_refl _) _⟩
    · clear hk
      go_enter Tryz.func102, Tryz.ntmps102
      go_wp2
      refine bodyPost_ret (results_row_tmp rfl _ _ w.heap.size 169 #[.bool true, .bool false, .bool false, .bool false] (0, 0) _ rfl ?_ Tryz.underlying169 rfl size_fields) rfl ?_
      · exact heap_alloc_new w _
      · exact ⟨rfl, (Below.refl _ w).alloc (Nat.le_refl _) _⟩
    · clear hk
      go_enter Tryz.func102, Tryz.ntmps102
      go_wp2
      refine bodyPost_ret (results_row_tmp rfl _ _ w.heap.size 169 #[.bool true, .bool false, .bool false, .bool true] (0, 0) _ rfl ?_ Tryz.underlying169 rfl size_fields) rfl ?_
      · exact heap_alloc_new w _
      · exact ⟨rfl, (Below.refl _ w).alloc (Nat.le_refl _) _⟩
    · clear hk
      go_enter Tryz.func102, Tryz.ntmps102
      go_wp2
      refine bodyPost_ret (results_row_tmp rfl _ _ w.heap.size 169 #[.bool true, .bool true, .bool true, .bool false] (0, 0) _ rfl ?_ Tryz.underlying169 rfl size_fields) rfl ?_
      · exact heap_alloc_new w _
      · exact ⟨rfl, (Below.refl _ w).alloc (Nat.le_refl _) _⟩
    · clear hk
      go_enter Tryz.func102, Tryz.ntmps102
      go_wp2
      refine bodyPost_ret (results_row_tmp rfl _ _ w.heap.size 169 #[.bool true, .bool false, .bool true, .bool false] (0, 0) _ rfl ?_ Tryz.underlying169 rfl size_fields) rfl ?_
      · exact heap_alloc_new w _
      · exact ⟨rfl, (Below.refl _ w).alloc (Nat.le_refl _) _⟩
  · have hn := Bool.eq_false_iff.2 hk
    have hv := kind_none hn
    have e0 : (k == 0) = false := beq_eq_false_iff_ne.2 hv.1
    have e1 : (k == 1) = false := beq_eq_false_iff_ne.2 hv.2.1
    have e2 : (k == 2) = false := beq_eq_false_iff_ne.2 hv.2.2.1
    have e3 : (k == 3) = false := beq_eq_false_iff_ne.2 hv.2.2.2.1
    have e4 : (k == 4) = false := beq_eq_false_iff_ne.2 hv.2.2.2.2
    have hF : FV k = .agg #[.bool false, .bool false, .bool false, .bool false] := by simp [FV, hasT, hasG, hasO, hasR, e1, e2, e3, e4]
    rw [hn, hF]
    clear hk hn hv hF
    go_enter Tryz.func102, Tryz.ntmps102
    go_wp2
    refine bodyPost_ret (results_row_tmp rfl _ _ w.heap.size 169 #[.bool false, .bool false, .bool false, .bool false] (0, 0) _ rfl ?_ Tryz.underlying169 rfl size_fields) rfl ?_
    · exact heap_alloc_new w _
    · exact ⟨rfl, (Below.refl _ w).alloc (Nat.le_refl _) _⟩

/-- An operation as a value: its records lie at A. -/
def OV (o : O) (A : Option Addr) (c : Nat) : Value := .agg #[.int .i64 o.kind, .string ⟨o.topic.toArray⟩, .string ⟨o.group.toArray⟩, .int .i64 o.off, .slice A o.recs.length c]
/-- The value v is the operation o, its records in no block of X. -/
def OI (w : World) (X : Nat → Prop) (v : Value) (o : O) : Prop := ∃ A c, v = OV o A c ∧ Ls w X (.slice A o.recs.length c) o.recs
section
variable {w w' : World} {X Y : Nat → Prop} {v : Value} {o : O}
theorem OI.keep (h : OI w X v o) (hs : w.heap.size ≤ w'.heap.size) (hk : ∀ b, b < w.heap.size → ¬ X b → w'.heap[b]? = w.heap[b]?) : OI w' X v o := by
  obtain ⟨A, c, hv, hl⟩ := h
  exact ⟨A, c, hv, hl.keep hs hk⟩
theorem OI.weaken (h : OI w X v o) (hk : ∀ b, b < w.heap.size → Y b → X b) : OI w Y v o := by
  obtain ⟨A, c, hv, hl⟩ := h
  exact ⟨A, c, hv, hl.weaken hk⟩
theorem OI.after (h : OI w X v o) (hb : Below w.heap.size w w') : OI w' X v o := by
  obtain ⟨A, c, hv, hl⟩ := h
  exact ⟨A, c, hv, hl.after hb⟩
theorem OI.ch {S : Nat → Prop} (h : OI w X v o) (c : Ch S w w') (hd : ∀ k, k < w.heap.size → S k → X k) : OI w' X v o := by
  obtain ⟨A, c', hv, hl⟩ := h
  exact ⟨A, c', hv, hl.ch c hd⟩
end
theorem long_any (A : Option Addr) (n c : Nat) (w : World) :
    Calls Tryz.prog 131 #[.slice A n c] w fun e w' => e = .returned (.bool (decide (64 < n))) ∧ w = w' := by
  go_enter Tryz.func131, Tryz.ntmps131
  go_wp2
  go_ret
  exact ⟨by simp; omega, rfl⟩

/-- Where the first long record stands. -/
def ixLong : List Tx → Nat → Int
  | [], _ => -1
  | x :: l, i => if 64 < x.length then (i : Int) else ixLong l (i + 1)
theorem ix_at {l : List Tx} {k : Nat} (h : k < l.length) : ixLong (l.drop k) k = if 64 < l[k].length then (k : Int) else ixLong (l.drop (k + 1)) (k + 1) := by
  rw [List.drop_eq_getElem_cons h]
  rfl
theorem ix_all : ∀ (l : List Tx) (i : Nat), decide (0 ≤ ixLong l i) = !(l.all fun x => decide (x.length ≤ 64))
  | [], i => rfl
  | x :: l, i => by
    rw [ixLong, List.all_cons]
    by_cases h : 64 < x.length
    · rw [if_pos h]
      have : decide (x.length ≤ 64) = false := decide_eq_false (by omega)
      simp [this]
    · rw [if_neg h, ix_all l]
      have : decide (x.length ≤ 64) = true := decide_eq_true (by omega)
      simp [this]

set_option maxHeartbeats 1000000 in
theorem index_any (w : World) (X : Nat → Prop) (A : Option Addr) (c : Nat) (ls : List Tx) (ha : Ls w X (.slice A ls.length c) ls) (hl : ls.length ≤ 140737488355328) :
    Calls Tryz.prog 151 #[.slice A ls.length c, .func (.func 131) #[] #[]] w fun e w' => e = .returned (.int .i64 (ixLong ls 0)) ∧ w = w' := by
  have HA := Lib.hid ha
  clear ha
  go_enter Tryz.func151, Tryz.ntmps151
  go_wp2
  go_loop [8] (fun i => ∃ k : Nat, k ≤ ls.length ∧ i = .int .i64 k ∧ ixLong (ls.drop k) k = ixLong ls 0) (fun i => ls.length - (intOf i).toNat)
  case atStart => exact ⟨0, Nat.zero_le _, rfl, rfl⟩
  case round =>
    obtain ⟨k, hk, rfl, hix⟩ := hrel
    by_cases hlt : k < ls.length
    · obtain ⟨ad, B, d, rfl, hcell, -⟩ := HA.out.at_ hlt
      rw [ix_at hlt] at hix
      by_cases h64 : 64 < ls[k].length
      · rw [if_pos h64] at hix
        have hd : decide (64 < ls[k].length) = true := decide_eq_true h64
        have HIX := Lib.hid hix
        clear hix h64
        go_wp2_with (go_at_call 131; refine (long_any _ _ _ _).mono ?_; rintro e w1 ⟨rfl, rfl⟩)
        go_ret
        exact ⟨by rw [← HIX.out]; rfl, rfl⟩
      · rw [if_neg h64] at hix
        have hd : decide (64 < ls[k].length) = false := decide_eq_false h64
        have HIX := Lib.hid hix
        clear hix h64
        go_wp2_with (go_at_call 131; refine (long_any _ _ _ _).mono ?_; rintro e w1 ⟨rfl, rfl⟩)
        go_round
        case rel => exact ⟨k + 1, by omega, by go_num, HIX.out⟩
        case measure => simp [intOf]; omega
    · have hz : ls.drop k = [] := List.drop_eq_nil_iff.2 (by omega)
      rw [hz] at hix
      have HIX := Lib.hid hix
      clear hix hz
      go_wp2
      go_ret
      exact ⟨by rw [← HIX.out]; rfl, rfl⟩

theorem contains_any (w : World) (X : Nat → Prop) (A : Option Addr) (c : Nat) (ls : List Tx) (ha : Ls w X (.slice A ls.length c) ls) (hl : ls.length ≤ 140737488355328) :
    Calls Tryz.prog 130 #[.slice A ls.length c, .func (.func 131) #[] #[]] w fun e w' => e = .returned (.bool (!(ls.all fun x => decide (x.length ≤ 64)))) ∧ w = w' := by
  have HC := Lib.hid (index_any w X A c ls ha hl)
  rw [← ix_all ls 0]
  clear ha
  go_enter Tryz.func130, Tryz.ntmps130
  go_wp2_with (go_at_call 151; refine HC.out.mono ?_; rintro e w1 ⟨rfl, rfl⟩)
  go_ret
  exact ⟨rfl, rfl⟩

theorem arerecs_any (w : World) (X : Nat → Prop) (A : Option Addr) (c : Nat) (ls : List Tx) (ha : Ls w X (.slice A ls.length c) ls) (hl : ls.length ≤ 140737488355328) :
    Calls Tryz.prog 105 #[.slice A ls.length c] w fun e w' => e = .returned (.bool (areRecs ls)) ∧ w = w' := by
  have HC := Lib.hid (contains_any w X A c ls ha hl)
  clear ha
  unfold areRecs
  generalize (ls.all fun x => decide (x.length ≤ 64)) = q at *
  by_cases h0 : 0 < ls.length
  · have d0 : decide (0 < (ls.length : Int)) = true := decide_eq_true (by omega)
    have d0' : decide (0 < ls.length) = true := decide_eq_true h0
    by_cases h4 : ls.length ≤ 4
    · have d4 : decide ((ls.length : Int) ≤ 4) = true := decide_eq_true (by omega)
      have d4' : decide (ls.length ≤ 4) = true := decide_eq_true h4
      rw [d0', d4']
      clear d0' d4' d0 d4
      go_enter Tryz.func105, Tryz.ntmps105
      go_wp2_with (go_at_call 130; refine HC.out.mono ?_; rintro e w1 ⟨rfl, rfl⟩)
      go_ret
      exact ⟨by simp, rfl⟩
    · have d4 : decide ((ls.length : Int) ≤ 4) = false := decide_eq_false (by omega)
      have h4' : 4 < ls.length := by omega
      have d4' : decide (ls.length ≤ 4) = false := decide_eq_false h4
      rw [d0', d4']
      clear d0' d4' d0 d4
      go_enter Tryz.func105, Tryz.ntmps105
      go_wp2
      go_ret
      exact ⟨rfl, rfl⟩
  · have d0 : decide (0 < (ls.length : Int)) = false := decide_eq_false (by omega)
    have d0' : decide (0 < ls.length) = false := decide_eq_false h0
    rw [d0']
    clear d0' d0
    go_enter Tryz.func105, Tryz.ntmps105
    go_wp2
    go_ret
    exact ⟨rfl, rfl⟩

end Go.Proofs.YtmefagflnhkbdaaGreat.Pe

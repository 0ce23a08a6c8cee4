/-
  Layer 7: the program's reading of topics: takeName, isAnswer, mayBe, takeAnswered.
-/
import Derived.Test.YtmefagflnhkbdaaGreatVC18
import Derived.Test.YtmefagflnhkbdaaGreatVC06
import Derived.Test.YtmefagflnhkbdaaGreatVC13
import Derived.Test.YtmefagflnhkbdaaGreatVC03
import Derived.Laws.StructEq
import Derived.Test.YtmefagflnhkbdaaGreatVC08
namespace Go.Proofs.YtmefagflnhkbdaaGreat.Xa
set_option linter.unusedSimpArgs false
open Go Go.RowKit Ck Kw Ca Cb Ce Cf Cg Ch Ga Kf Km Pm Pa Pz Qt Tm Tn Tq Te Aa
attribute [local go_sem ↓] Go.wp_at_zero Go.wp_at_succ
set_option linter.unusedVariables false
set_option maxRecDepth 100000

theorem less_eq (x y : List UInt8) : Op.bytesLess x y = decide (x < y) := by
  induction x generalizing y with
  | nil => cases y <;> simp [Op.bytesLess]
  | cons a x ih =>
    cases y with
    | nil => simp [Op.bytesLess]
    | cons b y =>
      rw [Op.bytesLess, ih y]
      rw [Bool.eq_iff_iff]
      simp [List.cons_lt_cons_iff]
/-- What takeName leaves. -/
def NameTaken (w : World) (X : Nat → Prop) (g : Nat) (r : Tx × Cm.RS) (e : Ending) (w' : World) : Prop := e = .returned (SV r.1) ∧ w.grownBy w' (some g) ∧ CR w' X g r.2
theorem leq_of {x a : Tx} (h : a < x) : (Op.bytesLess x a || x == a) = false := by
  rw [less_eq]
  simp only [Bool.or_eq_false_iff, decide_eq_false_iff_not, beq_eq_false_iff_ne]
  refine ⟨fun h2 => ?_, fun h2 => by rw [h2] at h; exact List.lt_irrefl _ h⟩
  exact List.lt_irrefl _ (List.lt_trans h h2)
theorem leq_not {x a : Tx} (h : ¬ a < x) : (Op.bytesLess x a || x == a) = true := by
  rw [less_eq]
  simp only [Bool.or_eq_true, decide_eq_true_eq, beq_iff_eq]
  by_cases e : x = a
  · exact .inr e
  · refine .inl ?_
    rcases List.le_total x a with h1 | h1
    · exact Classical.byContradiction fun h2 => e (List.le_antisymm h1 (List.not_lt.1 h2))
    · exact absurd (Classical.byContradiction fun h2 => e (List.le_antisymm (List.not_lt.1 h2) h1)) h
set_option maxHeartbeats 2000000 in
theorem tname_any (w : World) (X : Nat → Prop) (g : Nat) (s : Cm.RS) (a : Tx) (h : CR w X g s) (hl : s.1.length ≤ 140737488355328) :
    Calls Tryz.prog 81 #[P_ g, SV a] w (NameTaken w X g (nmQ a s)) := by
  have HB := Lib.hid (Ch.bytes_any w X g s h 64 (by omega) (by omega) hl)
  unfold Taken at HB
  have HQ : Hid (nmQ a s = ((Cm.bytesS s 64).1, if (name (Cm.bytesS s 64).1 && decide (a < (Cm.bytesS s 64).1)) = true then (Cm.bytesS s 64).2 else Cm.failS (Cm.bytesS s 64).2 70)) := Lib.hid rfl
  generalize nmQ a s = Q at *
  generalize Cm.bytesS s 64 = b at *
  obtain ⟨x, s1⟩ := b
  simp only at HB HQ
  clear h hl
  unfold SV
  go_enter Tryz.func81, Tryz.ntmps81
  go_wp2_with fail
  refine HB.out.mono ?_
  rintro e w1 ⟨v, rfl, ho, hg, hc⟩
  obtain ⟨A, c, rfl⟩ := own_shape ho
  have hcv := run_convert_sl (P := Tryz.prog) w1 (fun _ => False) 49 9 5 A c x Tryz.underlying49 Tryz.underlying5 Tryz.underlying9 (Sl.of_own ho (fun _ _ _ h => h))
  have HG := Lib.hid hg
  have HC := Lib.hid hc
  clear ho hg hc HB
  go_wp2_with fail
  refine (name_any x w1).mono ?_
  rintro e w2 ⟨rfl, hb⟩
  have HG2 := Lib.hid (grown_below HG.out hb)
  have HC2 := Lib.hid (HC.out.after hb)
  have HF := Lib.hid (fail_any w2 X g s1 HC2.out 70)
  clear hb hcv
  by_cases hn : name x = true
  · by_cases hlt : a < x
    · have hq := leq_of hlt
      have HZ : Hid (Q = (x, s1)) := Lib.hid (by rw [HQ.out, if_pos (by rw [hn, decide_eq_true hlt]; rfl)])
      simp only [Bool.or_eq_false_iff] at hq
      obtain ⟨q1, q2⟩ := hq
      clear hlt HQ
      go_wp2_with fail
      go_ret
      exact ⟨by rw [HZ.out]; rfl, HG2.out, by rw [HZ.out]; exact HC2.out⟩
    · have hq := leq_not hlt
      have HZ : Hid (Q = (x, Cm.failS s1 70)) := Lib.hid (by rw [HQ.out, if_neg (by rw [decide_eq_false hlt, Bool.and_false]; simp)])
      clear hlt HQ
      go_wp2_with fail
      refine HF.out.mono ?_
      rintro e w3 ⟨rfl, hg3, hc3⟩
      have HG3 := Lib.hid (HG2.out.trans hg3)
      have HC3 := Lib.hid hc3
      clear hg3 hc3
      go_wp2_with fail
      go_ret
      exact ⟨by rw [HZ.out]; rfl, HG3.out, by rw [HZ.out]; exact HC3.out⟩
  · have hn' : name x = false := by simpa using hn
    have HZ : Hid (Q = (x, Cm.failS s1 70)) := Lib.hid (by rw [HQ.out, if_neg (by rw [hn', Bool.false_and]; simp)])
    clear hn HQ
    go_wp2_with fail
    refine HF.out.mono ?_
    rintro e w3 ⟨rfl, hg3, hc3⟩
    have HG3 := Lib.hid (HG2.out.trans hg3)
    have HC3 := Lib.hid hc3
    clear hg3 hc3
    go_wp2_with fail
    go_ret
    exact ⟨by rw [HZ.out]; rfl, HG3.out, by rw [HZ.out]; exact HC3.out⟩

theorem told_iff (e : Int) : told e = true ↔ (e = 0 ∨ e = 4 ∨ e = 5 ∨ e = 6 ∨ e = 71 ∨ e = 72 ∨ e = 60 ∨ e = 61 ∨ e = 62) := by
  simp only [told, Bool.or_eq_true, beq_iff_eq, or_assoc]
set_option maxHeartbeats 2000000 in
theorem isanswer_any (w : World) (z : Int) : Calls Tryz.prog 136 #[.int .i64 z] w fun e w' => e = .returned (.bool (told z)) ∧ w = w' := by
  by_cases h : told z = true
  · rw [h]
    rcases (told_iff z).1 h with rfl | rfl | rfl | rfl | rfl | rfl | rfl | rfl | rfl
    all_goals
      clear h
      go_enter Tryz.func136, Tryz.ntmps136
      go_wp2
      go_ret
      exact ⟨rfl, rfl⟩
  · have hf : told z = false := by simpa using h
    rw [hf]
    rw [told_iff] at h
    simp only [not_or] at h
    obtain ⟨h0, h4, h5, h6, h71, h72, h60, h61, h62⟩ := h
    have e0 : (z == 0) = false := beq_eq_false_iff_ne.2 h0
    have e4 : (z == 4) = false := beq_eq_false_iff_ne.2 h4
    have e5 : (z == 5) = false := beq_eq_false_iff_ne.2 h5
    have e6 : (z == 6) = false := beq_eq_false_iff_ne.2 h6
    have e71 : (z == 71) = false := beq_eq_false_iff_ne.2 h71
    have e72 : (z == 72) = false := beq_eq_false_iff_ne.2 h72
    have e60 : (z == 60) = false := beq_eq_false_iff_ne.2 h60
    have e61 : (z == 61) = false := beq_eq_false_iff_ne.2 h61
    have e62 : (z == 62) = false := beq_eq_false_iff_ne.2 h62
    clear hf h0 h4 h5 h6 h71 h72 h60 h61 h62
    go_enter Tryz.func136, Tryz.ntmps136
    go_wp2
    go_ret
    exact ⟨rfl, rfl⟩

/-- Are two results the same? -/
def rsB (s t : Int × Int) : Bool := decide (s = t)
theorem stood_res : Tryz.prog.stoodInHeld 30 = false := by kernel_rfl
theorem fields_res : Tryz.prog.underlying 30 = some (.struct (Tryz.prog.fieldsOf 30)) := by kernel_rfl
theorem run_equalIn_res (W : World) (d : Nat) (a b c e : Int) : (Op.equalIn (d + 1 + 1) 30 (.agg #[.int .i64 a, .int .i64 b]) (.agg #[.int .i64 c, .int .i64 e])).run Tryz.prog W = .ok (rsB (a, b) (c, e)) W := by
  rw [run_equalIn_struct W (d + 1) 30 _ _ fields_res stood_res]
  have hf : (Tryz.prog.fieldsOf 30).toList = [{ name := "Err", type := 28, offset := 0, embedded := false, tag := "", pkgPath := "", byteOffset := 0 }, { name := "Offset", type := 2, offset := 1, embedded := false, tag := "", pkgPath := "", byteOffset := 8 }] := by kernel_rfl
  rw [hf]
  have h1 := fun (x y : Int) (W : World) => run_equalIn_int (P := Tryz.prog) W d 28 .i64 .i64 x y Tryz.underlying28
  have h2 := fun (x y : Int) (W : World) => run_equalIn_int (P := Tryz.prog) W d 2 .i64 .i64 x y Tryz.underlying2
  have p1 : ∀ (u v : Value) (W : World), (part 28 #[u, v] 0).run Tryz.prog W = .ok u W := fun u v W => by simp [part, isAgg, run_underlying Tryz.underlying28]
  have p2 : ∀ (u v : Value) (W : World), (part 2 #[u, v] 1).run Tryz.prog W = .ok v W := fun u v W => by simp [part, isAgg, run_underlying Tryz.underlying2]
  by_cases hac : a = c
  · by_cases hbe : b = e
    · subst hac; subst hbe
      simp [Op.eqFields, p1, p2, h1, h2, Result.andThen, rsB]
    · subst hac
      simp [Op.eqFields, p1, p2, h1, h2, Result.andThen, rsB, hbe]
  · simp [Op.eqFields, p1, h1, Result.andThen, rsB, hac]
theorem run_eql_rs (W : World) (a b c e : Int) : (binOp .eql 30 (.agg #[.int .i64 a, .int .i64 b]) (.agg #[.int .i64 c, .int .i64 e])).run Tryz.prog W = .ok (.bool (rsB (a, b) (c, e))) W := by
  rw [run_eql_struct, show (10000 : Nat) = 9998 + 1 + 1 from rfl, run_equalIn_res]
  rfl
theorem run_neq_rs (W : World) (a b c e : Int) : (binOp .neq 30 (.agg #[.int .i64 a, .int .i64 b]) (.agg #[.int .i64 c, .int .i64 e])).run Tryz.prog W = .ok (.bool (!rsB (a, b) (c, e))) W := by
  rw [run_neq_struct, show (10000 : Nat) = 9998 + 1 + 1 from rfl, run_equalIn_res]
  rfl
end Go.Proofs.YtmefagflnhkbdaaGreat.Xa

/-
  Layer 7: plain words for the program's reading of topics: what the machine of Te keeps, element by element.
-/
namespace Go.Proofs.YtmefagflnhkbdaaGreat.Xm
set_option linter.unusedSimpArgs false
open Cm Pm Pz Tm Tn Tq Te
set_option linter.unusedVariables false

theorem anQ_eq (s : RS) : anQ s = ((⟨((numS s 9007199254740992).1 : Nat), (takeR (numS s 9007199254740992).2).1.1, (takeR (numS s 9007199254740992).2).1.2⟩ : An),
    if okA ⟨((numS s 9007199254740992).1 : Nat), (takeR (numS s 9007199254740992).2).1.1, (takeR (numS s 9007199254740992).2).1.2⟩ = true then (takeR (numS s 9007199254740992).2).2 else failS (takeR (numS s 9007199254740992).2).2 70) := by
  unfold anQ takeR
  simp only [anR]
  by_cases h : (numS (numS (numS s 9007199254740992).2 65536).2 9007199254740992).2.2 = 0 <;> simp [h]
/-- All that stand are a, or below it. -/
def Low (a : Tx) (ns : List Tx) : Prop := ∀ x ∈ ns, x = a ∨ x < a
theorem Low.nil (a : Tx) : Low a [] := fun x hx => by cases hx
theorem Low.more {a b : Tx} {ns : List Tx} (h : Low a ns) (hb : a < b) : Low b (ns ++ [b]) := by
  intro x hx
  rcases List.mem_append.1 hx with hx | hx
  · rcases h x hx with e | e
    · exact .inr (by rw [e]; exact hb)
    · exact .inr (List.lt_trans e hb)
  · exact .inl (List.mem_singleton.1 hx)
theorem Low.fresh {a b : Tx} {ns : List Tx} (h : Low a ns) (hb : a < b) : ∀ x ∈ ns, x ≠ b := by
  intro x hx e
  subst e
  rcases h x hx with e | e
  · rw [e] at hb; exact List.lt_irrefl _ hb
  · exact List.lt_irrefl _ (List.lt_trans e hb)
theorem nm_up {a : Tx} {s : RS} (h : (nmQ a s).2.2 = 0) : a < (nmQ a s).1 ∧ s.2 = 0 := by
  refine ⟨?_, ?_⟩
  · rcases nmQ_rel a s with ⟨_, h2, _, h4⟩ | ⟨h1, _⟩
    · rw [h2]; exact h4
    · exact absurd h h1
  · by_cases hs : s.2 = 0
    · exact hs
    · exact absurd h (nmQ_err hs)
theorem num_up {s : RS} {m : Nat} (h : (numS s m).2.2 = 0) : s.2 = 0 := (numS_ok h).1
/-- What is left never grows. -/
theorem fail_len (s : RS) (e : Int) : (failS s e).1.length ≤ s.1.length := by
  unfold failS
  split
  · exact Nat.le_refl _
  · split
    · simp
    · exact Nat.le_refl _
theorem nm_len (a : Tx) (s : RS) : (nmQ a s).2.1.length ≤ s.1.length := by
  have h1 := bytesS_len s 64
  have h2 := fail_len (bytesS s 64).2 70
  unfold nmQ
  simp only
  split <;> omega
theorem gs_len (next : Nat) : ∀ (n : Nat) (a : Tx) (s : RS) (acc : List Gp), (gsQ next n a s acc).2.1.length ≤ s.1.length
  | 0, a, s, acc => Nat.le_refl _
  | n + 1, a, s, acc => by
    unfold gsQ
    have h1 := gs_len next n (nmQ a s).1 (numS (nmQ a s).2 next).2 (acc ++ [⟨(nmQ a s).1, (numS (nmQ a s).2 next).1⟩])
    have h2 := numS_len (nmQ a s).2 next
    have h3 := nm_len a s
    omega
theorem all_len {α : Type} {f : RS → α × RS} (hf : ∀ s, (f s).2.1.length ≤ s.1.length) : ∀ (n : Nat) (s : RS) (acc : List α), (allS f n s acc).2.1.length ≤ s.1.length
  | 0, s, acc => Nat.le_refl _
  | n + 1, s, acc => by
    unfold allS
    have h1 := all_len hf n (f s).2 (acc ++ [(f s).1])
    have h2 := hf s
    omega
theorem rc_len (s : RS) : (rcQ s).2.1.length ≤ s.1.length := by
  unfold rcQ
  have h1 := all_len (f := fun r => bytesS r 64) (fun r => bytesS_len r 64) (numS s 64).1 (numS s 64).2 []
  have h2 := numS_len s 64
  omega
theorem nx_len (b : Nat) (l : List Tx) (s : RS) : (nxQ b l s).1.length ≤ s.1.length := by
  unfold nxQ
  split
  · exact Nat.le_refl _
  · exact fail_len _ _
theorem tp_len (n : Tx) (s : RS) : (tpQ n s).2.1.length ≤ s.1.length := by
  simp only [tpQ]
  have h1 := gs_len ((numS s 9007199254740992).1 + (rcQ (numS s 9007199254740992).2).1.length) (numS (nxQ (numS s 9007199254740992).1 (rcQ (numS s 9007199254740992).2).1 (rcQ (numS s 9007199254740992).2).2) 8).1 [] (numS (nxQ (numS s 9007199254740992).1 (rcQ (numS s 9007199254740992).2).1 (rcQ (numS s 9007199254740992).2).2) 8).2 []
  have h2 := numS_len (nxQ (numS s 9007199254740992).1 (rcQ (numS s 9007199254740992).2).1 (rcQ (numS s 9007199254740992).2).2) 8
  have h3 := nx_len (numS s 9007199254740992).1 (rcQ (numS s 9007199254740992).2).1 (rcQ (numS s 9007199254740992).2).2
  have h4 := rc_len (numS s 9007199254740992).2
  have h5 := numS_len s 9007199254740992
  omega
theorem ite_len {c : Prop} [Decidable c] {s : RS} {e : Int} : (if c then s else failS s e).1.length ≤ s.1.length := by
  split
  · exact Nat.le_refl _
  · exact fail_len _ _
theorem an_len (s : RS) : (anQ s).2.1.length ≤ s.1.length := by
  have h1 := numS_len s 9007199254740992
  have h2 := numS_len (numS s 9007199254740992).2 65536
  have h3 := numS_len (numS (numS s 9007199254740992).2 65536).2 9007199254740992
  refine Nat.le_trans (show (anQ s).2.1.length ≤ (anR s).2.1.length from ite_len) ?_
  show (numS (numS (numS s 9007199254740992).2 65536).2 9007199254740992).2.1.length ≤ _
  omega
theorem tp_up {n : Tx} {s : RS} (h : (tpQ n s).2.2 = 0) : s.2 = 0 := by
  by_cases hs : s.2 = 0
  · exact hs
  · exact absurd h (tpQ_err hs)
end Go.Proofs.YtmefagflnhkbdaaGreat.Xm

/-
  Layer 7: the program's reading of topics: mayBe, takeAnswered, next of a topic that is read.
-/
namespace Go.Proofs.YtmefagflnhkbdaaGreat.Xb
set_option linter.unusedSimpArgs false
open Go Go.RowKit Ck Kw Ca Cb Ce Cf Cg Ch Ga Kf Km Pm Pa Pe Pf Pg Pz Qb Qt Tm Tn Tq Te Aa Ab Xa Xm
attribute [local go_sem ↓] Go.wp_at_zero Go.wp_at_succ
set_option linter.unusedVariables false
set_option maxRecDepth 100000

theorem op_below (w : World) (x : Obj) : Below w.heap.size w (w.alloc x) := (Below.refl _ w).alloc (Nat.le_refl _) _
theorem okA_eq (t e f : Int) : okA ⟨t, e, f⟩ = (rsB (e, f) (0, 0) || (decide (0 < t) && told e && (e == 0 || f == 0))) := by
  by_cases h : (e, f) = ((0 : Int), (0 : Int))
  · injection h with h1 h2
    subst h1; subst h2
    simp [okA, rsB, told]
  · have h1 : rsB (e, f) (0, 0) = false := by simp only [rsB, decide_eq_false_iff_not]; exact h
    have h2 : (e == 0 && f == 0) = false := by
      rw [Bool.and_eq_false_iff, beq_eq_false_iff_ne, beq_eq_false_iff_ne]
      by_cases he : e = 0
      · exact .inr fun hf => h (by rw [he, hf])
      · exact .inl he
    rw [h1, okA]
    simp only [h2, Bool.or_false, Bool.false_or]
    cases decide (0 < t) <;> cases told e <;> simp
set_option maxHeartbeats 2000000 in
theorem maybe_any (w : World) (t e f : Int) : Calls Tryz.prog 117 #[.agg #[.int .i64 t, .int .i64 e, .int .i64 f]] w fun en w' => en = .returned (.bool (okA ⟨t, e, f⟩)) ∧ Below w.heap.size w w' := by
  have hq := run_eql_rs
  have hb1 := op_below w (.cells #[.int .i64 t, .int .i64 e, .int .i64 f] 72)
  have HB1 := Lib.hid hb1
  have hk : Blk (w.alloc (.cells #[.int .i64 t, .int .i64 e, .int .i64 f] 72)) w.heap.size 72 #[.int .i64 t, .int .i64 e, .int .i64 f] := Blk.new _ _ _
  have c0 := hk.cell 0
  have c1 := hk.cell 1
  have c2 := hk.cell 2
  simp only [List.getElem?_toArray, List.getElem?_cons_zero, List.getElem?_cons_succ] at c0 c1 c2
  have HE := Lib.hid (okA_eq t e f)
  have HI := fun W => Lib.hid (isanswer_any W e)
  generalize okA ⟨t, e, f⟩ = z at *
  clear hb1 hk
  cases h1 : rsB (e, f) (0, 0) with
  | true =>
    have hq1 := fun W => hq W e f 0 0
    simp only [h1] at hq1
    have HZ : Hid (z = true) := Lib.hid (by rw [HE.out, h1]; rfl)
    clear HE h1 hq
    go_enter Tryz.func117, Tryz.ntmps117
    go_wp2_with fail
    go_ret
    exact ⟨by rw [HZ.out]; rfl, HB1.out⟩
  | false =>
    have hq1 := fun W => hq W e f 0 0
    simp only [h1] at hq1
    clear hq
    by_cases ht : 0 < t
    · have ht1 : decide (0 < t) = true := decide_eq_true ht
      cases hk : told e with
      | true =>
        have HI1 := fun W => Lib.hid (HI W).out
        simp only [hk] at HI1
        have HZ : Hid (z = (e == 0 || f == 0)) := Lib.hid (by rw [HE.out, h1, ht1, hk]; simp)
        clear HE h1 HI hk
        cases h0 : (e == 0) with
        | true =>
          have HZ2 : Hid (z = true) := Lib.hid (by rw [HZ.out, h0]; rfl)
          clear HZ
          go_enter Tryz.func117, Tryz.ntmps117
          go_wp2_with fail
          refine (HI1 _).out.mono ?_
          rintro en w' ⟨rfl, rfl⟩
          go_wp2_with fail
          go_ret
          exact ⟨by rw [HZ2.out]; rfl, HB1.out⟩
        | false =>
          have HZ2 : Hid (z = (f == 0)) := Lib.hid (by rw [HZ.out, h0, Bool.false_or])
          clear HZ
          go_enter Tryz.func117, Tryz.ntmps117
          go_wp2_with fail
          refine (HI1 _).out.mono ?_
          rintro en w' ⟨rfl, rfl⟩
          go_wp2_with fail
          go_ret
          exact ⟨by rw [HZ2.out]; rfl, HB1.out⟩
      | false =>
        have HI1 := fun W => Lib.hid (HI W).out
        simp only [hk] at HI1
        have HZ : Hid (z = false) := Lib.hid (by rw [HE.out, h1, ht1, hk]; simp)
        clear HE h1 HI hk
        go_enter Tryz.func117, Tryz.ntmps117
        go_wp2_with fail
        refine (HI1 _).out.mono ?_
        rintro en w' ⟨rfl, rfl⟩
        go_wp2_with fail
        go_ret
        exact ⟨by rw [HZ.out]; rfl, HB1.out⟩
    · have ht1 : decide (0 < t) = false := decide_eq_false ht
      have ht2 : t ≤ 0 := by omega
      have HZ : Hid (z = false) := Lib.hid (by rw [HE.out, h1, ht1]; simp)
      clear HE h1 HI ht
      go_enter Tryz.func117, Tryz.ntmps117
      go_wp2_with fail
      go_ret
      exact ⟨by rw [HZ.out]; rfl, HB1.out⟩

theorem info_ans : (Tryz.prog.info? 72).map (·.size) = some 3 := by kernel_rfl
theorem blk3 {w : World} {g : Nat} {t : TypeId} {x y z a b c : Value} (h : Blk w g t #[a, b, c]) : Blk (((w.setCell ⟨g, 0, none⟩ x).setCell ⟨g, 1, none⟩ y).setCell ⟨g, 2, none⟩ z) g t #[x, y, z] := by
  have := ((h.set_ 0 x).set_ 1 y).set_ 2 z
  simpa using this
/-- What takeAnswered leaves. -/
def AnsTaken (w : World) (X : Nat → Prop) (g : Nat) (r : An × Cm.RS) (e : Ending) (w' : World) : Prop := e = .returned (.agg #[.int .i64 r.1.time, .int .i64 r.1.err, .int .i64 r.1.off]) ∧ w.grownBy w' (some g) ∧ CR w' X g r.2
theorem anst_of {w W : World} {X : Nat → Prop} {g g1 g2 : Nat} {t : TypeId} {zs cs : Array Value} {s : Cm.RS} {r : An × Cm.RS} {x y z : Int} (h : RC w X g g1 g2 t zs cs s W) (hr : r = (⟨x, y, z⟩, s)) :
    AnsTaken w X g r (.returned (.agg #[.int .i64 x, .int .i64 y, .int .i64 z])) (((W.setCell ⟨g1, 0, none⟩ (.int .i64 x)).setCell ⟨g1, 1, none⟩ (.int .i64 y)).setCell ⟨g1, 2, none⟩ (.int .i64 z)) := by
  subst hr
  have n1 := h.new1
  have o1 := h.old
  have cg : W.grownBy (((W.setCell ⟨g1, 0, none⟩ (.int .i64 x)).setCell ⟨g1, 1, none⟩ (.int .i64 y)).setCell ⟨g1, 2, none⟩ (.int .i64 z)) (some g1) :=
    grown_setCell (grown_setCell (grown_setCell (World.grownBy.refl W (some g1)) (p := ⟨g1, 0, none⟩) (.inl rfl) _) (p := ⟨g1, 1, none⟩) (.inl rfl) _) (p := ⟨g1, 2, none⟩) (.inl rfl) _
  exact ⟨rfl, grown_step h.grown cg (.inr fun q hq => by injection hq with hq; omega), (h.rd.grown cg (by simp; omega) (fun q hq _ => by injection hq with hq; exact .inr (by omega))).weaken (fun k _ hk => .inl hk)⟩

set_option maxHeartbeats 4000000 in
theorem tans_any (w : World) (X : Nat → Prop) (g : Nat) (s : Cm.RS) (h : CR w X g s) :
    Calls Tryz.prog 83 #[P_ g] w (AnsTaken w X g (anQ s)) := by
  have b0 : Below w.heap.size w (w.alloc (.cells #[.int .i64 0, .int .i64 0, .int .i64 0] 72)) := op_below w _
  have hc0 : CR (w.alloc (.cells #[.int .i64 0, .int .i64 0, .int .i64 0] 72)) (fun k => X k ∨ w.heap.size ≤ k) g s := (h.old (Nat.le_refl _)).after b0
  have HD := Lib.hid (rc_first (cs := #[.int .i64 0, .int .i64 0, .int .i64 0]) h (World.grownBy.refl (w.alloc (.cells #[.int .i64 0, .int .i64 0, .int .i64 0] 72)) (some g)) hc0)
  have HN := Lib.hid (num_any _ _ g s HD.out.rd 9007199254740992)
  have m1 := Cm.numS_le s 9007199254740992
  have HT := Lib.hid (anQ_eq s)
  generalize anQ s = TK at *
  generalize Cm.numS s 9007199254740992 = x at *
  obtain ⟨x, s1⟩ := x
  simp only at HN HT m1
  have hw1 := wrap_i64n x (by omega)
  have n12 : ¬ (w.heap.size = w.heap.size + 1) := by omega
  have n21 : ¬ (w.heap.size + 1 = w.heap.size) := by omega
  have hsz : (w.alloc (.cells #[.int .i64 0, .int .i64 0, .int .i64 0] 72)).heap.size = w.heap.size + 1 := by simp
  rw [hsz] at HD
  clear b0 hc0 h hsz
  unfold Numed at HN
  go_enter Tryz.func83, Tryz.ntmps83
  go_wp2_with fail
  refine HN.out.mono ?_
  rintro e w1 ⟨rfl, hg1, hc1⟩
  have HD1 := Lib.hid (HD.out.next hg1 hc1)
  have HD1' := Lib.hid (HD1.out.put 0 (.int .i64 (x : Nat)) (cs' := #[.int .i64 (x : Nat), .int .i64 0, .int .i64 0]) rfl)
  have a0 := HD1.out.op.cell 0
  have f0 := HD1.out.op.frozen 0
  simp only [List.getElem?_toArray, List.getElem?_cons_zero, List.getElem?_cons_succ] at a0
  have HR := Lib.hid (taker_any _ _ g s1 HD1'.out.rd)
  have M1 := Lib.hid m1
  unfold TookR at HR
  clear hg1 hc1 m1
  generalize takeR s1 = k at *
  obtain ⟨⟨e0, f0'⟩, s2⟩ := k
  simp only at HR HT
  go_wp2_with fail
  refine HR.out.mono ?_
  rintro e w2 ⟨rfl, hg2, hc2⟩
  have HD2 := Lib.hid (HD1'.out.next hg2 hc2)
  have HD2' := Lib.hid ((HD2.out.put 1 (.int .i64 e0) (cs' := #[.int .i64 (x : Nat), .int .i64 e0, .int .i64 0]) rfl).put 2 (.int .i64 f0') (cs' := #[.int .i64 (x : Nat), .int .i64 e0, .int .i64 f0']) rfl)
  clear a0 f0 hg2 hc2
  have a0 := HD2.out.op.cell 0
  have a1 := HD2.out.op.cell 1
  have a2 := HD2.out.op.cell 2
  have fr0 := HD2.out.op.frozen 0
  have fr1 := HD2.out.op.frozen 1
  have fr2 := HD2.out.op.frozen 2
  simp only [List.getElem?_toArray, List.getElem?_cons_zero, List.getElem?_cons_succ] at a0 a1 a2
  have HM := fun W => Lib.hid (maybe_any W (x : Nat) e0 f0')
  generalize okA ⟨(x : Nat), e0, f0'⟩ = z at *
  go_wp2_with fail
  refine (HM _).out.mono ?_
  rintro e w3 ⟨rfl, hb3⟩
  have HD3 := Lib.hid (HD2'.out.later hb3)
  clear a0 a1 a2 fr0 fr1 fr2 hb3
  have HF := Lib.hid (fail_any _ _ g s2 HD3.out.rd 70)
  have a0 := HD3.out.op.cell 0
  have a1 := HD3.out.op.cell 1
  have a2 := HD3.out.op.cell 2
  have r0 := HD3.out.res.cell 0
  have r1 := HD3.out.res.cell 1
  have r2 := HD3.out.res.cell 2
  have q0 := HD3.out.res.frozen 0
  have q1 := HD3.out.res.frozen 1
  have q2 := HD3.out.res.frozen 2
  simp only [List.getElem?_toArray, List.getElem?_cons_zero, List.getElem?_cons_succ] at a0 a1 a2 r0 r1 r2
  cases z with
  | true =>
    go_wp2_with fail
    refine bodyPost_ret (results_row1 rfl _ _ w.heap.size 72 #[.int .i64 (x : Nat), .int .i64 e0, .int .i64 f0'] (0, 0) _ rfl (blk3 HD3.out.res) Tryz.underlying72 rfl info_ans) rfl ?_
    exact anst_of HD3.out (by rw [HT.out]; rfl)
  | false =>
    clear a0 a1 a2 r0 r1 r2 q0 q1 q2
    go_wp2_with fail
    refine HF.out.mono ?_
    rintro e w4 ⟨rfl, hg4, hc4⟩
    have HD4 := Lib.hid (HD3.out.next hg4 hc4)
    clear hg4 hc4
    have a0 := HD4.out.op.cell 0
    have a1 := HD4.out.op.cell 1
    have a2 := HD4.out.op.cell 2
    have r0 := HD4.out.res.cell 0
    have r1 := HD4.out.res.cell 1
    have r2 := HD4.out.res.cell 2
    have q0 := HD4.out.res.frozen 0
    have q1 := HD4.out.res.frozen 1
    have q2 := HD4.out.res.frozen 2
    simp only [List.getElem?_toArray, List.getElem?_cons_zero, List.getElem?_cons_succ] at a0 a1 a2 r0 r1 r2
    go_wp2_with fail
    refine bodyPost_ret (results_row1 rfl _ _ w.heap.size 72 #[.int .i64 (x : Nat), .int .i64 e0, .int .i64 f0'] (0, 0) _ rfl (blk3 HD4.out.res) Tryz.underlying72 rfl info_ans) rfl ?_
    exact anst_of HD4.out (by rw [HT.out]; rfl)

/-- The next offset of a topic that is being read. -/
theorem next_raw (w : World) (gt mg : Nat) (b : Nat) (A : Option Addr) (c n : Nat) (h : Blk w gt 128 #[.int .i64 (b : Int), .slice A n c, .map (some mg)]) (h1 : b ≤ 9007199254740992) (hn : n ≤ 64) :
    Calls Tryz.prog 57 #[.pointer (some ⟨gt, 0, none⟩)] w fun e w' => e = .returned (.int .i64 ((b + n : Nat) : Int)) ∧ Below w.heap.size w w' := by
  have c0 : w.cell? ⟨gt, 0, none⟩ = some (.int .i64 (b : Int)) := h.cell 0
  have c1 : w.cell? ⟨gt, 1, none⟩ = some (.slice A n c) := h.cell 1
  have hw : IntKind.i64.wrap ((b : Int) + (n : Int)) = ((b + n : Nat) : Int) := by rw [Ga.wrap64 (by omega) (by omega)]; omega
  clear h
  generalize b + n = z at *
  go_enter Tryz.func57, Tryz.ntmps57
  go_wp2_with fail
  go_quiet (fail)
  go_wp2_with fail
  go_ret
  exact ⟨by first | rfl | (rw [← hw]; rfl), below_drewN (Below.refl _ _) _⟩
end Go.Proofs.YtmefagflnhkbdaaGreat.Xb

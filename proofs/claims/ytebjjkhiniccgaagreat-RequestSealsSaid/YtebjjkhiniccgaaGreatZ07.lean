/-
  Words for memory, for layer 2's ledgers: signatures, slices of them, the map of them, the program's ledger and the document's.
-/
import Derived.Test.YtebjjkhiniccgaaGreatZ06
import Derived.DeepKeys4
import Derived.Test.YtebjjkhiniccgaaGreatZ03
import Derived.Test.YtebjjkhiniccgaaGreatZ04
import Derived.Test.YtebjjkhiniccgaaGreatZ01
namespace Go.Proofs.YtebjjkhiniccgaaGreat.Lk
set_option linter.unusedSimpArgs false
set_option linter.unusedVariables false
set_option maxRecDepth 100000
open Go Go.RowKit Ck Im Kw Ik

/-- A signature: its key, its digest. -/
abbrev Sg := Int × Int
def GV (s : Sg) : Value := .agg #[.int .i64 s.1, .int .i64 s.2]
def GVs (l : List Sg) : List Value := l.flatMap fun s => [.int .i64 s.1, .int .i64 s.2]
def wfS (s : Sg) : Prop := -9223372036854775808 ≤ s.1 ∧ s.1 ≤ 9223372036854775807 ∧ -9223372036854775808 ≤ s.2 ∧ s.2 ≤ 9223372036854775807
theorem GVs_app (l m : List Sg) : GVs (l ++ m) = GVs l ++ GVs m := by simp [GVs]
theorem GVs_one (l : List Sg) : ∀ u ∈ GVs l, u.oneCell' = true := by
  intro u hu
  simp only [GVs, List.mem_flatMap, List.mem_cons, List.not_mem_nil, or_false] at hu
  obtain ⟨s, _, rfl | rfl⟩ := hu <;> rfl
theorem GVs_get : ∀ (l : List Sg) (i : Nat) (h : i < l.length), (GVs l)[i * 2]? = some (.int .i64 l[i].1) ∧ (GVs l)[i * 2 + 1]? = some (.int .i64 l[i].2)
  | [], i, h => absurd h (by simp)
  | s :: l, 0, _ => by simp [GVs]
  | s :: l, i + 1, h => by
    have ih := GVs_get l i (by simpa using h)
    have e : GVs (s :: l) = Value.int .i64 s.1 :: Value.int .i64 s.2 :: GVs l := by simp [GVs]
    rw [e, show (i + 1) * 2 = i * 2 + 1 + 1 by omega, show i * 2 + 1 + 1 + 1 = (i * 2 + 1) + 1 + 1 by omega]
    simpa using ih

theorem keyLits_int {n : Nat} {t : TypeId} {a : Int} (ht : Tryz.prog.underlying t = some (.int .i64)) (h : (Lit.int .i64 a).wf = true) : Tryz.prog.keyLits (n + 1) t [.int .i64 a] = some [.int .i64 a] := by
  simp [Program.keyLits, ht, h]
theorem wf_of {a : Int} (h1 : -9223372036854775808 ≤ a) (h2 : a ≤ 9223372036854775807) : (Lit.int .i64 a).wf = true := WalkArith.wf_i64 (by omega)
theorem cells_sign : Tryz.prog.cellsOf 47 = 2 := by kernel_rfl
theorem cells_int : Tryz.prog.cellsOf 3 = 1 := by kernel_rfl
theorem cells_dig : Tryz.prog.cellsOf 45 = 1 := by kernel_rfl
theorem keytype_sign : Tryz.prog.keyType 47 = true := by kernel_rfl
def KL (s : Sg) : Lit := .string (keyBytes [.int .i64 s.1, .int .i64 s.2])
theorem key_sign (s : Sg) (h : wfS s) : keyOf Tryz.prog 47 (GV s) = some (KL s) := by
  obtain ⟨n, hn⟩ : ∃ n, Tryz.prog.types.size + 1 = n + 1 + 1 := ⟨Tryz.prog.types.size - 1, by have : 0 < Tryz.prog.types.size := of_decide_eq_true (by kernel_rfl); omega⟩
  have hf : (GV s).formed Tryz.prog 47 = true := by simp [GV, Value.formed, Tryz.underlying47, cells_sign]
  have hl : Tryz.prog.keyLits (n + 1 + 1) 47 [.int .i64 s.1, .int .i64 s.2] = some [.int .i64 s.1, .int .i64 s.2] := by
    have k1 := keyLits_int (n := n) (t := 3) Tryz.underlying3 (wf_of h.1 h.2.1)
    have k2 := keyLits_int (n := n) (t := 45) Tryz.underlying45 (wf_of h.2.2.1 h.2.2.2)
    unfold Program.keyLits
    simp [Tryz.underlying47, cells_sign, cells_int, cells_dig, k1, k2]
  unfold keyOf
  rw [Tryz.underlying47, keytype_sign, hf, hn]
  show (if (true && true) = true then (Tryz.prog.keyLits (n + 1 + 1) 47 [.int .i64 s.1, .int .i64 s.2]).map fun ls => Lit.string (keyBytes ls) else none) = _
  rw [hl]
  rfl
theorem law_sign : Maps.Keyed Tryz.prog 47 :=
  Maps.Keyed.of_law (deep_law_laid (by kernel_rfl) (m := 3) (by omega) (of_decide_eq_true (by kernel_rfl)) (by kernel_rfl) (by rw [Tryz.underlying47]))
theorem KL_inj {s t : Sg} (hs : wfS s) (ht : wfS t) (h : KL s = KL t) : s = t := by
  have := law_sign.inj (key_sign s hs) (h ▸ key_sign t ht)
  simp only [GV, Value.agg.injEq] at this
  have h1 := congrArg (fun a : Array Value => a[0]?) this
  have h2 := congrArg (fun a : Array Value => a[1]?) this
  simp only [List.getElem?_toArray, List.getElem?_cons_zero, List.getElem?_cons_succ, Option.some.injEq, Value.int.injEq, true_and] at h1 h2
  exact Prod.ext h1 h2

/-- Is it signed? (A word of its own.) -/
def isS (L : List Sg) (s : Sg) : Bool := decide (s ∈ L)
theorem isS_true {L : List Sg} {s : Sg} (h : s ∈ L) : isS L s = true := by simp [isS, h]
theorem isS_false {L : List Sg} {s : Sg} (h : ¬ s ∈ L) : isS L s = false := by simp [isS, h]
/-- What Sign answers and leaves. -/
def code (s : Sg) : Int := if s.1 < 0 ∨ 21 ≤ s.1 then 20 else if s.2 < 1 then 1 else 0
def pay (L : List Sg) (s : Sg) : List Sg := if code s = 0 then (if s ∈ L then L else L ++ [s]) else L
def ans (s : Sg) : Sg := if code s = 0 then s else (0, 0)
theorem pay_len (L : List Sg) (s : Sg) : (pay L s).length ≤ L.length + 1 := by
  unfold pay
  split
  · split <;> simp
  · omega
/-- The map's datum tells which are signed. -/
def Known (D : DataW Unit) (L : List Sg) : Prop := ∀ s, wfS s → Maps.has D (KL s) = isS L s
theorem Known.empty : Known (.map []) [] := fun _ _ => rfl
theorem Known.put {D : DataW Unit} {L : List Sg} {t : Sg} (h : Known D L) (hD : Maps.IsMap D) (ht : wfS t) (d : DataW Unit) : Known (D.put (KL t) d) (L ++ [t]) := by
  intro s hs
  by_cases he : s = t
  · subst he
    rw [Maps.has_put_same hD (law_sign.key (key_sign s hs))]
    simp [isS]
  · have hne : KL s ≠ KL t := fun e => he (KL_inj hs ht e)
    rw [Maps.has_put_other hne, h s hs]
    simp [isS, he]

/-- Block p is a ledger of these signatures; all its blocks are in S. -/
def Lg (w : World) (S : Nat → Prop) (p : Nat) (L : List Sg) : Prop :=
  ∃ m ov D, Blk w p 93 #[.map (some m), ov] ∧ w.ownsMap Tryz.prog 47 unitElem m L.length D ∧ Known D L ∧ w.ownsRow 0 47 2 ov L.length (GVs L) ∧
    S p ∧ S m ∧ (∀ g, ov.ownBlock = some g → S g)
/-- Block p is the document's ledger of these. -/
def Rl (w : World) (S : Nat → Prop) (p : Nat) (L : List Sg) : Prop :=
  ∃ lv, Blk w p 65 #[lv] ∧ S p ∧ Sl w (fun k => ¬ S k ∨ k = p) 2 lv L.length (GVs L)
theorem Lg.ch {S T : Nat → Prop} {w w' : World} {p : Nat} {L : List Sg} (h : Lg w S p L) (c : Ch T w w') (hd : ∀ k, S k → T k → False) : Lg w' S p L := by
  obtain ⟨m, tv, D, h1, h2, h3, h4, h5, h6, h7⟩ := h
  exact ⟨m, tv, D, h1.ch c (fun ht => hd _ h5 ht), map_ch h2 c (fun ht => hd _ h6 ht), h3, own_ch h4 c (fun g hg ht => hd _ (h7 g hg) ht), h5, h6, h7⟩
theorem Lg.weaken {S T : Nat → Prop} {w : World} {p : Nat} {L : List Sg} (h : Lg w S p L) (hd : ∀ k, S k → T k) : Lg w T p L := by
  obtain ⟨m, tv, D, h1, h2, h3, h4, h5, h6, h7⟩ := h
  exact ⟨m, tv, D, h1, h2, h3, h4, hd _ h5, hd _ h6, fun g hg => hd _ (h7 g hg)⟩
theorem Rl.ch {S T : Nat → Prop} {w w' : World} {p : Nat} {L : List Sg} (h : Rl w S p L) (c : Ch T w w') (hd : ∀ k, S k → T k → False) : Rl w' S p L := by
  obtain ⟨lv, h1, h2, h3⟩ := h
  exact ⟨lv, h1.ch c (fun ht => hd _ h2 ht), h2, h3.ch c (fun k _ ht => .inl (fun hs => hd _ hs ht))⟩
theorem Rl.up {w w' : World} {S : Nat → Prop} {p : Nat} {L : List Sg} (h : Rl w' S p L) : Rl w' (Up S w w') p L := by
  obtain ⟨lv, h1, h2, h3⟩ := h
  refine ⟨lv, h1, .inl h2, h3.weaken ?_⟩
  rintro k _ (hn | rfl)
  · exact .inl fun hs => hn (.inl hs)
  · exact .inr rfl

end Go.Proofs.YtebjjkhiniccgaaGreat.Lk

/-
  Layer 8 (request): requests and signed requests in memory; the contracts of isClient, Key, Check, CheckSign, both sides.
-/
namespace Go.Proofs.YtebjjkhiniccgaaGreat.Ja
set_option linter.unusedSimpArgs false
open Go Go.RowKit Ck Kw Ga Pm Pe Pg Ph Lk Jm
attribute [local go_sem ↓] Go.wp_at_zero Go.wp_at_succ
set_option linter.unusedVariables false

/-- A request as a value: its records lie at A. -/
def QC (q : Q) (A : Option Addr) (c : Nat) : Array Value := #[.int .i64 q.client, .int .i64 q.time, .int .i64 q.o.kind, .string ⟨q.o.topic.toArray⟩, .string ⟨q.o.group.toArray⟩, .int .i64 q.o.off, .slice A q.o.recs.length c]
def QV (q : Q) (A : Option Addr) (c : Nat) : Value := .agg (QC q A c)
def QB (W : World) (g : Nat) (q : Q) (A : Option Addr) (c : Nat) : Prop := Blk W g 27 (QC q A c)
theorem QB.cells {W : World} {g : Nat} {q : Q} {A : Option Addr} {c : Nat} (h : QB W g q A c) :
    W.cell? ⟨g, 0, none⟩ = some (.int .i64 q.client) ∧ W.cell? ⟨g, 1, none⟩ = some (.int .i64 q.time) ∧ W.cell? ⟨g, 2, none⟩ = some (.int .i64 q.o.kind) ∧ W.cell? ⟨g, 3, none⟩ = some (.string ⟨q.o.topic.toArray⟩) ∧ W.cell? ⟨g, 4, none⟩ = some (.string ⟨q.o.group.toArray⟩) ∧ W.cell? ⟨g, 5, none⟩ = some (.int .i64 q.o.off) ∧ W.cell? ⟨g, 6, none⟩ = some (.slice A q.o.recs.length c) :=
  ⟨Blk.cell h 0, Blk.cell h 1, Blk.cell h 2, Blk.cell h 3, Blk.cell h 4, Blk.cell h 5, Blk.cell h 6⟩
/-- The value v is the request q, its records in no block of X. -/
def QI (w : World) (X : Nat → Prop) (v : Value) (q : Q) : Prop := ∃ A c, v = QV q A c ∧ Ls w X (.slice A q.o.recs.length c) q.o.recs
/-- A signed request as a value. -/
def DC (d : Sd) (A : Option Addr) (c : Nat) : Array Value := #[.int .i64 d.q.client, .int .i64 d.q.time, .int .i64 d.q.o.kind, .string ⟨d.q.o.topic.toArray⟩, .string ⟨d.q.o.group.toArray⟩, .int .i64 d.q.o.off, .slice A d.q.o.recs.length c, .int .i64 d.s.1, .int .i64 d.s.2]
def DV (d : Sd) (A : Option Addr) (c : Nat) : Value := .agg (DC d A c)
def DK (W : World) (g : Nat) (d : Sd) (A : Option Addr) (c : Nat) : Prop := Blk W g 53 (DC d A c)
theorem DK.cells {W : World} {g : Nat} {d : Sd} {A : Option Addr} {c : Nat} (h : DK W g d A c) :
    W.cell? ⟨g, 0, none⟩ = some (.int .i64 d.q.client) ∧ W.cell? ⟨g, 1, none⟩ = some (.int .i64 d.q.time) ∧ W.cell? ⟨g, 2, none⟩ = some (.int .i64 d.q.o.kind) ∧ W.cell? ⟨g, 3, none⟩ = some (.string ⟨d.q.o.topic.toArray⟩) ∧ W.cell? ⟨g, 4, none⟩ = some (.string ⟨d.q.o.group.toArray⟩) ∧ W.cell? ⟨g, 5, none⟩ = some (.int .i64 d.q.o.off) ∧ W.cell? ⟨g, 6, none⟩ = some (.slice A d.q.o.recs.length c) ∧ W.cell? ⟨g, 7, none⟩ = some (.int .i64 d.s.1) ∧ W.cell? ⟨g, 8, none⟩ = some (.int .i64 d.s.2) :=
  ⟨Blk.cell h 0, Blk.cell h 1, Blk.cell h 2, Blk.cell h 3, Blk.cell h 4, Blk.cell h 5, Blk.cell h 6, Blk.cell h 7, Blk.cell h 8⟩
def DI (w : World) (X : Nat → Prop) (v : Value) (d : Sd) : Prop := ∃ A c, v = DV d A c ∧ Ls w X (.slice A d.q.o.recs.length c) d.q.o.recs
section
variable {w w' : World} {X Y S : Nat → Prop} {v : Value} {q : Q} {d : Sd}
theorem QI.after (h : QI w X v q) (hb : Below w.heap.size w w') : QI w' X v q := by
  obtain ⟨A, c, hv, hl⟩ := h
  exact ⟨A, c, hv, hl.after hb⟩
theorem QI.weaken (h : QI w X v q) (hk : ∀ b, b < w.heap.size → Y b → X b) : QI w Y v q := by
  obtain ⟨A, c, hv, hl⟩ := h
  exact ⟨A, c, hv, hl.weaken hk⟩
theorem QI.ch (h : QI w X v q) (c : Ch S w w') (hd : ∀ k, k < w.heap.size → S k → X k) : QI w' X v q := by
  obtain ⟨A, c', hv, hl⟩ := h
  exact ⟨A, c', hv, hl.ch c hd⟩
theorem DI.after (h : DI w X v d) (hb : Below w.heap.size w w') : DI w' X v d := by
  obtain ⟨A, c, hv, hl⟩ := h
  exact ⟨A, c, hv, hl.after hb⟩
theorem DI.weaken (h : DI w X v d) (hk : ∀ b, b < w.heap.size → Y b → X b) : DI w Y v d := by
  obtain ⟨A, c, hv, hl⟩ := h
  exact ⟨A, c, hv, hl.weaken hk⟩
theorem DI.ch (h : DI w X v d) (c : Ch S w w') (hd : ∀ k, k < w.heap.size → S k → X k) : DI w' X v d := by
  obtain ⟨A, c', hv, hl⟩ := h
  exact ⟨A, c', hv, hl.ch c hd⟩
end
theorem op_below (w : World) (o : Obj) : Below w.heap.size w (w.alloc o) := (Below.refl _ w).alloc (Nat.le_refl _) o

theorem isclient_any (w : World) (c : Int) : Calls Tryz.prog 80 #[.int .i64 c] w fun e w' => e = .returned (.bool (isC c)) ∧ w = w' := by
  unfold isC
  by_cases h0 : 0 ≤ c
  · have h1 : decide (0 ≤ c) = true := decide_eq_true h0
    go_enter Tryz.func80, Tryz.ntmps80
    go_wp2
    go_ret
    exact ⟨by simp [h0], rfl⟩
  · have h1 : decide (0 ≤ c) = false := decide_eq_false h0
    have h2 : c < 0 := by omega
    go_enter Tryz.func80, Tryz.ntmps80
    go_wp2
    go_ret
    exact ⟨by simp [h0], rfl⟩
theorem key_any (w : World) (c : Int) : Calls Tryz.prog 47 #[.int .i64 c] w fun e w' => e = .returned (.int .i64 (key c)) ∧ w = w' := by
  have HC := Lib.hid (isclient_any w c)
  by_cases hc : isC c = true
  · have h0 := (isC_iff c).1 hc
    have HK := Lib.hid (show key c = 13 + c by rw [key, if_pos hc])
    rw [hc] at HC
    have hw : IntKind.i64.wrap (13 + c) = 13 + c := wrap64 (by omega) (by omega)
    clear hc
    go_enter Tryz.func47, Tryz.ntmps47
    go_wp2_with fail
    refine HC.out.mono ?_
    rintro e w1 ⟨rfl, rfl⟩
    go_wp2_with fail
    go_ret
    exact ⟨by rw [HK.out]; rfl, rfl⟩
  · have HK := Lib.hid (show key c = -1 by rw [key, if_neg hc])
    have hc := Bool.eq_false_iff.2 hc
    rw [hc] at HC
    clear hc
    go_enter Tryz.func47, Tryz.ntmps47
    go_wp2_with fail
    refine HC.out.mono ?_
    rintro e w1 ⟨rfl, rfl⟩
    go_wp2_with fail
    go_ret
    exact ⟨by rw [HK.out]; rfl, rfl⟩
theorem rkey_any (w : World) (c : Int) : Calls Tryz.prog 52 #[.int .i64 c] w fun e w' => e = .returned (.int .i64 (key c)) ∧ w = w' := by
  by_cases h0 : c < 0
  · have HK := Lib.hid (show key c = -1 by rw [key, if_neg]; rw [isC_iff]; omega)
    have h1 : decide (c < 0) = true := decide_eq_true h0
    go_enter Tryz.func52, Tryz.ntmps52
    go_wp2_with fail
    go_ret
    exact ⟨by rw [HK.out]; rfl, rfl⟩
  · have h1 : decide (c < 0) = false := decide_eq_false h0
    by_cases h8 : 8 ≤ c
    · have HK := Lib.hid (show key c = -1 by rw [key, if_neg]; rw [isC_iff]; omega)
      have h2 : decide (8 ≤ c) = true := decide_eq_true h8
      clear h0
      go_enter Tryz.func52, Tryz.ntmps52
      go_wp2_with fail
      go_ret
      exact ⟨by rw [HK.out]; rfl, rfl⟩
    · have HK := Lib.hid (show key c = 13 + c by rw [key, if_pos]; rw [isC_iff]; omega)
      have h2 : decide (8 ≤ c) = false := decide_eq_false h8
      have hw : IntKind.i64.wrap (13 + c) = 13 + c := wrap64 (by omega) (by omega)
      have h3 : 0 ≤ c := by omega
      have h4 : c < 8 := by omega
      clear h0 h8
      go_enter Tryz.func52, Tryz.ntmps52
      go_wp2_with fail
      go_ret
      exact ⟨by rw [HK.out]; rfl, rfl⟩
theorem key_neg {c : Int} (h : isC c = false) : key c = -1 := by rw [key, h]; rfl
theorem key_pos {c : Int} (h : isC c = true) : key c = 13 + c := by rw [key, h]; rfl

set_option maxHeartbeats 1000000 in
theorem check_any (x : Q) (v : Value) (X : Nat → Prop) (w : World) (h : QI w X v x) (hl : x.o.recs.length ≤ 140737488355328) :
    Calls Tryz.prog 72 #[v] w fun e w' => e = .returned (.int .i64 (qcheck x)) ∧ Below w.heap.size w w' := by
  obtain ⟨A, c, rfl, hls⟩ := h
  have hb0 := op_below w (.cells (QC x A c) 27)
  have hq0 : QB (w.alloc (.cells (QC x A c) 27)) w.heap.size x A c := Blk.new w _ _
  have HC := Lib.hid (Pg.check_any x.o (OV x.o A c) X _ ⟨A, c, rfl, hls.after hb0⟩ hl)
  obtain ⟨a0, a1, a2, a3, a4, a5, a6⟩ := hq0.cells
  have HB := Lib.hid hb0
  have HQ : Hid (qcheck x = if (!isC x.client || decide (x.time < 1) || decide (9007199254740992 < x.time)) = true then 80 else check x.o) := Lib.hid rfl
  clear hb0 hq0 hls
  unfold QV
  unfold OV QC at HC
  unfold QC at a0 a1 a2 a3 a4 a5 a6 HB ⊢
  have HI := fun W : World => Lib.hid (isclient_any W x.client)
  by_cases hc : isC x.client = true
  · rw [hc] at HQ; simp only [hc] at HI
    by_cases h1 : x.time < 1
    · have d1 : decide (x.time < 1) = true := decide_eq_true h1
      rw [d1] at HQ
      skip
      clear hc
      go_enter Tryz.func72, Tryz.ntmps72
      go_wp2_with fail
      refine (HI _).out.mono ?_; rintro e w1 ⟨rfl, rfl⟩
      go_wp2_with fail
      go_ret
      exact ⟨by rw [HQ.out]; rfl, HB.out⟩
    · have d1 : decide (x.time < 1) = false := decide_eq_false h1
      rw [d1] at HQ
      by_cases h2 : 9007199254740992 < x.time
      · have d2 : decide (9007199254740992 < x.time) = true := decide_eq_true h2
        rw [d2] at HQ
        skip
        clear hc h1 h2
        go_enter Tryz.func72, Tryz.ntmps72
        go_wp2_with fail
        refine (HI _).out.mono ?_; rintro e w1 ⟨rfl, rfl⟩
        go_wp2_with fail
        go_ret
        exact ⟨by rw [HQ.out]; rfl, HB.out⟩
      · have d2 : decide (9007199254740992 < x.time) = false := decide_eq_false h2
        rw [d2] at HQ
        skip
        clear hc h1 h2
        go_enter Tryz.func72, Tryz.ntmps72
        go_wp2_with fail
        refine (HI _).out.mono ?_; rintro e w1 ⟨rfl, rfl⟩
        go_wp2_with fail
        refine HC.out.mono ?_
        rintro e w1 ⟨rfl, hb1⟩
        have HB1 := Lib.hid (HB.out.trans (hb1.mono HB.out.size))
        clear hb1
        go_wp2_with fail
        go_ret
        exact ⟨by rw [HQ.out]; rfl, HB1.out⟩
  · have hc := Bool.eq_false_iff.2 hc
    rw [hc] at HQ; simp only [hc] at HI
    skip
    clear hc
    go_enter Tryz.func72, Tryz.ntmps72
    go_wp2_with fail
    refine (HI _).out.mono ?_; rintro e w1 ⟨rfl, rfl⟩
    go_wp2_with fail
    go_ret
    exact ⟨by rw [HQ.out]; rfl, HB.out⟩

set_option maxHeartbeats 1000000 in
theorem rcheck_any (x : Q) (v : Value) (X : Nat → Prop) (w : World) (h : QI w X v x) (hl : x.o.recs.length ≤ 140737488355328) :
    Calls Tryz.prog 70 #[v] w fun e w' => e = .returned (.int .i64 (qcheck x)) ∧ Below w.heap.size w w' := by
  obtain ⟨A, c, rfl, hls⟩ := h
  have hb0 := op_below w (.cells (QC x A c) 27)
  have hq0 : QB (w.alloc (.cells (QC x A c) 27)) w.heap.size x A c := Blk.new w _ _
  have HC := Lib.hid (Ph.rcheck_any x.o (OV x.o A c) X _ ⟨A, c, rfl, hls.after hb0⟩ hl)
  obtain ⟨a0, a1, a2, a3, a4, a5, a6⟩ := hq0.cells
  have HB := Lib.hid hb0
  have HQ : Hid (qcheck x = if (!isC x.client || decide (x.time < 1) || decide (9007199254740992 < x.time)) = true then 80 else check x.o) := Lib.hid rfl
  clear hb0 hq0 hls
  unfold QV
  unfold OV QC at HC
  unfold QC at a0 a1 a2 a3 a4 a5 a6 HB ⊢
  have HI := fun W : World => Lib.hid (rkey_any W x.client)
  by_cases hc : isC x.client = true
  · rw [hc] at HQ
    by_cases h1 : x.time < 1
    · have d1 : decide (x.time < 1) = true := decide_eq_true h1
      rw [d1] at HQ
      have hkp := key_pos hc; have hc1 := (isC_iff _).1 hc; have hd : decide (key x.client < 0) = false := decide_eq_false (by omega); clear hkp hc1
      clear hc
      go_enter Tryz.func70, Tryz.ntmps70
      go_wp2_with fail
      refine (HI _).out.mono ?_; rintro e w1 ⟨rfl, rfl⟩
      go_wp2_with fail
      go_ret
      exact ⟨by rw [HQ.out]; rfl, HB.out⟩
    · have d1 : decide (x.time < 1) = false := decide_eq_false h1
      rw [d1] at HQ
      by_cases h2 : 9007199254740992 < x.time
      · have d2 : decide (9007199254740992 < x.time) = true := decide_eq_true h2
        rw [d2] at HQ
        have hkp := key_pos hc; have hc1 := (isC_iff _).1 hc; have hd : decide (key x.client < 0) = false := decide_eq_false (by omega); clear hkp hc1
        clear hc h1 h2
        go_enter Tryz.func70, Tryz.ntmps70
        go_wp2_with fail
        refine (HI _).out.mono ?_; rintro e w1 ⟨rfl, rfl⟩
        go_wp2_with fail
        go_ret
        exact ⟨by rw [HQ.out]; rfl, HB.out⟩
      · have d2 : decide (9007199254740992 < x.time) = false := decide_eq_false h2
        rw [d2] at HQ
        have hkp := key_pos hc; have hc1 := (isC_iff _).1 hc; have hd : decide (key x.client < 0) = false := decide_eq_false (by omega); clear hkp hc1
        clear hc h1 h2
        go_enter Tryz.func70, Tryz.ntmps70
        go_wp2_with fail
        refine (HI _).out.mono ?_; rintro e w1 ⟨rfl, rfl⟩
        go_wp2_with fail
        refine HC.out.mono ?_
        rintro e w1 ⟨rfl, hb1⟩
        have HB1 := Lib.hid (HB.out.trans (hb1.mono HB.out.size))
        clear hb1
        go_wp2_with fail
        go_ret
        exact ⟨by rw [HQ.out]; rfl, HB1.out⟩
  · have hc := Bool.eq_false_iff.2 hc
    rw [hc] at HQ
    have hkp := key_neg hc; have hd : decide (key x.client < 0) = true := decide_eq_true (by omega); clear hkp
    clear hc
    go_enter Tryz.func70, Tryz.ntmps70
    go_wp2_with fail
    refine (HI _).out.mono ?_; rintro e w1 ⟨rfl, rfl⟩
    go_wp2_with fail
    go_ret
    exact ⟨by rw [HQ.out]; rfl, HB.out⟩

set_option maxHeartbeats 1000000 in
theorem csign_any (s : Int × Int) (w : World) :
    Calls Tryz.prog 99 #[GV s] w fun e w' => e = .returned (.int .i64 (scheck s)) ∧ Below w.heap.size w w' := by
  obtain ⟨k, d⟩ := s
  have hb0 := op_below w (.cells #[.int .i64 k, .int .i64 d] 47)
  have hq0 : Blk (w.alloc (.cells #[.int .i64 k, .int .i64 d] 47)) w.heap.size 47 #[.int .i64 k, .int .i64 d] := Blk.new w _ _
  have a0 : (w.alloc (.cells #[.int .i64 k, .int .i64 d] 47)).cell? ⟨w.heap.size, 0, none⟩ = some (.int .i64 k) := hq0.cell 0
  have a1 : (w.alloc (.cells #[.int .i64 k, .int .i64 d] 47)).cell? ⟨w.heap.size, 1, none⟩ = some (.int .i64 d) := hq0.cell 1
  have HB := Lib.hid hb0
  have HQ : Hid (scheck (k, d) = if (decide (k < 0) || decide (21 ≤ k) || decide (d < 1) || decide (9007199254740992 < d)) = true then 81 else 0) := Lib.hid rfl
  clear hb0 hq0
  unfold GV
  simp only
  by_cases h1 : k < 0
  · have d1 : decide (k < 0) = true := decide_eq_true h1
    rw [d1] at HQ
    go_enter Tryz.func99, Tryz.ntmps99
    go_wp2_with fail
    go_ret
    exact ⟨by rw [HQ.out]; rfl, HB.out⟩
  · have d1 : decide (k < 0) = false := decide_eq_false h1
    rw [d1] at HQ
    by_cases h2 : 21 ≤ k
    · have d2 : decide (21 ≤ k) = true := decide_eq_true h2
      rw [d2] at HQ
      clear h1
      go_enter Tryz.func99, Tryz.ntmps99
      go_wp2_with fail
      go_ret
      exact ⟨by rw [HQ.out]; rfl, HB.out⟩
    · have d2 : decide (21 ≤ k) = false := decide_eq_false h2
      rw [d2] at HQ
      by_cases h3 : d < 1
      · have d3 : decide (d < 1) = true := decide_eq_true h3
        rw [d3] at HQ
        clear h1 h2
        go_enter Tryz.func99, Tryz.ntmps99
        go_wp2_with fail
        go_ret
        exact ⟨by rw [HQ.out]; rfl, HB.out⟩
      · have d3 : decide (d < 1) = false := decide_eq_false h3
        rw [d3] at HQ
        by_cases h4 : 9007199254740992 < d
        · have d4 : decide (9007199254740992 < d) = true := decide_eq_true h4
          rw [d4] at HQ
          clear h1 h2 h3
          go_enter Tryz.func99, Tryz.ntmps99
          go_wp2_with fail
          go_ret
          exact ⟨by rw [HQ.out]; rfl, HB.out⟩
        · have d4 : decide (9007199254740992 < d) = false := decide_eq_false h4
          rw [d4] at HQ
          clear h1 h2 h3 h4
          go_enter Tryz.func99, Tryz.ntmps99
          go_wp2_with fail
          go_ret
          exact ⟨by rw [HQ.out]; rfl, HB.out⟩

set_option maxHeartbeats 1000000 in
theorem rcsign_any (s : Int × Int) (w : World) :
    Calls Tryz.prog 71 #[GV s] w fun e w' => e = .returned (.int .i64 (scheck s)) ∧ Below w.heap.size w w' := by
  obtain ⟨k, d⟩ := s
  have hb0 := op_below w (.cells #[.int .i64 k, .int .i64 d] 47)
  have hq0 : Blk (w.alloc (.cells #[.int .i64 k, .int .i64 d] 47)) w.heap.size 47 #[.int .i64 k, .int .i64 d] := Blk.new w _ _
  have a0 : (w.alloc (.cells #[.int .i64 k, .int .i64 d] 47)).cell? ⟨w.heap.size, 0, none⟩ = some (.int .i64 k) := hq0.cell 0
  have a1 : (w.alloc (.cells #[.int .i64 k, .int .i64 d] 47)).cell? ⟨w.heap.size, 1, none⟩ = some (.int .i64 d) := hq0.cell 1
  have HB := Lib.hid hb0
  have HQ : Hid (scheck (k, d) = if (decide (k < 0) || decide (21 ≤ k) || decide (d < 1) || decide (9007199254740992 < d)) = true then 81 else 0) := Lib.hid rfl
  clear hb0 hq0
  unfold GV
  simp only
  by_cases h1 : k < 0
  · have d1 : decide (k < 0) = true := decide_eq_true h1
    rw [d1] at HQ
    go_enter Tryz.func71, Tryz.ntmps71
    go_wp2_with fail
    go_ret
    exact ⟨by rw [HQ.out]; rfl, HB.out⟩
  · have d1 : decide (k < 0) = false := decide_eq_false h1
    rw [d1] at HQ
    by_cases h2 : 21 ≤ k
    · have d2 : decide (21 ≤ k) = true := decide_eq_true h2
      rw [d2] at HQ
      clear h1
      go_enter Tryz.func71, Tryz.ntmps71
      go_wp2_with fail
      go_ret
      exact ⟨by rw [HQ.out]; rfl, HB.out⟩
    · have d2 : decide (21 ≤ k) = false := decide_eq_false h2
      rw [d2] at HQ
      by_cases h3 : d < 1
      · have d3 : decide (d < 1) = true := decide_eq_true h3
        rw [d3] at HQ
        clear h1 h2
        go_enter Tryz.func71, Tryz.ntmps71
        go_wp2_with fail
        go_ret
        exact ⟨by rw [HQ.out]; rfl, HB.out⟩
      · have d3 : decide (d < 1) = false := decide_eq_false h3
        rw [d3] at HQ
        by_cases h4 : 9007199254740992 < d
        · have d4 : decide (9007199254740992 < d) = true := decide_eq_true h4
          rw [d4] at HQ
          clear h1 h2 h3
          go_enter Tryz.func71, Tryz.ntmps71
          go_wp2_with fail
          go_ret
          exact ⟨by rw [HQ.out]; rfl, HB.out⟩
        · have d4 : decide (9007199254740992 < d) = false := decide_eq_false h4
          rw [d4] at HQ
          clear h1 h2 h3 h4
          go_enter Tryz.func71, Tryz.ntmps71
          go_wp2_with fail
          go_ret
          exact ⟨by rw [HQ.out]; rfl, HB.out⟩

end Go.Proofs.YtebjjkhiniccgaaGreat.Ja

/-
  Generic: rows of elements of several cells, laid out flat.
-/
namespace Go.Proofs.YtebjjkhiniccgaaGreat.Kf
set_option linter.unusedSimpArgs false
open Go Go.RowKit Ck Kw
set_option linter.unusedVariables false

section
variable {α : Type} {m : Nat} {F : α → List Value} (hF : ∀ x, (F x).length = m)
include hF
theorem flat_len (l : List α) : (l.flatMap F).length = l.length * m := by
  induction l with
  | nil => simp
  | cons x l ih => rw [List.flatMap_cons, List.length_append, ih, List.length_cons, hF, Nat.succ_mul]; omega
theorem flat_get (l : List α) (i : Nat) (hi : i < l.length) (j : Nat) (hj : j < m) : (l.flatMap F)[i * m + j]? = (F l[i])[j]? := by
  induction l generalizing i with
  | nil => exact absurd hi (by simp)
  | cons x l ih =>
    have hx := hF x
    rw [List.flatMap_cons]
    cases i with
    | zero => rw [List.getElem?_append_left (by omega)]; simp
    | succ i =>
      rw [List.getElem?_append_right (by rw [hx, Nat.succ_mul]; omega), hx, show (i + 1) * m + j - m = i * m + j from by rw [Nat.succ_mul]; omega]
      exact ih i (by simpa using hi)
theorem flat_take (l : List α) (i : Nat) : (l.take i).flatMap F = (l.flatMap F).take (i * m) := by
  induction l generalizing i with
  | nil => simp
  | cons x l ih =>
    have hx := hF x
    cases i with
    | zero => simp
    | succ i => rw [List.take_succ_cons, List.flatMap_cons, List.flatMap_cons, ih, List.take_append, hx, List.take_of_length_le (l := F x) (by rw [Nat.succ_mul]; omega), show (i + 1) * m - m = i * m from by rw [Nat.succ_mul]; omega]
end

end Go.Proofs.YtebjjkhiniccgaaGreat.Kf

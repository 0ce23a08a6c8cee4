/-
  Layer 6 (op): the contracts of Same, the document's and the program's.
-/
import Derived.Test.YtfdhaodgnenhcaaR02
import Derived.Deep.QuietTactic
import Derived.BigQuiet
import Derived.Test.YtfdhaodgnenhcaaR04
import Derived.Deep.RegionHeld3
import Derived.Laws.StructEq
import Derived.Outline
import Derived.Test.YtfdhaodgnenhcaaR01
import Derived.ProofKit
import Derived.OpenShut
import Derived.JoinedCond
import Derived.Deep.Slices
import Derived.SizedLaws
import Derived.JoinedOf
import Derived.Deep.RegionWith
import Derived.Deep.DrawnRows
namespace Go.Proofs.Ytfdhaodgnenhcaa.Qs
set_option linter.unusedSimpArgs false
open Go Go.RowKit Ck Kw Ca Cb Pm Pa Pe Pg Ph Ppi Pp
set_option linter.unusedVariables false

def sameO (a b : O) : Bool := decide (a = b)
/-- Two operations stand there. -/
structure SB (w0 : World) (g1 g2 : Nat) (a b : O) (A B : Option Addr) (c d : Nat) (X Y : Nat → Prop) (W : World) : Prop where
  below : Below w0.heap.size w0 W
  one : OB W g1 a A c
  two : OB W g2 b B d
  la : Ls W X (.slice A a.recs.length c) a.recs
  lb : Ls W Y (.slice B b.recs.length d) b.recs
theorem sb_start {w : World} {a b : O} {A B : Option Addr} {c d : Nat} {X Y : Nat → Prop} (ha : Ls w X (.slice A a.recs.length c) a.recs) (hb : Ls w Y (.slice B b.recs.length d) b.recs) :
    SB w w.heap.size (w.heap.size + 1) a b A B c d X Y ((w.alloc (.cells (OC a A c) 67)).alloc (.cells (OC b B d) 67)) := by
  have b1 : Below w.heap.size w (w.alloc (.cells (OC a A c) 67)) := (Below.refl _ w).alloc (Nat.le_refl _) _
  have b2 : Below w.heap.size w ((w.alloc (.cells (OC a A c) 67)).alloc (.cells (OC b B d) 67)) := b1.alloc b1.size _
  exact ⟨b2, Blk.alloc (Blk.new w _ _) _, Blk.new_at (by simp) rfl, ha.after b2, hb.after b2⟩
theorem SB.drewN {w0 W : World} {g1 g2 : Nat} {a b : O} {A B : Option Addr} {c d : Nat} {X Y : Nat → Prop} (h : SB w0 g1 g2 a b A B c d X Y W) (n : Nat) : SB w0 g1 g2 a b A B c d X Y (W.drewN n) :=
  ⟨below_drewN h.below n, h.one, h.two, h.la, h.lb⟩

set_option maxRecDepth 100000 in
set_option maxHeartbeats 4000000 in
theorem rsame_any (a b : O) (va vb : Value) (X Y : Nat → Prop) (w : World) (ha : OI w X va a) (hb : OI w Y vb b) (hl : a.recs.length ≤ 140737488355328) :
    Calls Try.prog 36 #[va, vb] w fun e w' => e = .returned (.bool (sameO a b)) ∧ Below w.heap.size w w' := by
  obtain ⟨A, c, rfl, hla⟩ := ha
  obtain ⟨B, d, rfl, hlb⟩ := hb
  have HS := Lib.hid (sb_start hla hlb)
  clear hla hlb
  unfold OV
  by_cases h_kind : a.kind = b.kind
  · skip
    have e_kind : (a.kind == b.kind) = true := by rw [h_kind]; exact beq_self_eq_true _
    have n_kind : (a.kind != b.kind) = false := by rw [bne, e_kind]; rfl
    have H_kind := Lib.hid h_kind
    clear h_kind
    by_cases h_topic : a.topic = b.topic
    · skip
      have e_topic : (a.topic == b.topic) = true := by rw [h_topic]; exact beq_self_eq_true _
      have n_topic : (a.topic != b.topic) = false := by rw [bne, e_topic]; rfl
      have H_topic := Lib.hid h_topic
      clear h_topic
      by_cases h_group : a.group = b.group
      · skip
        have e_group : (a.group == b.group) = true := by rw [h_group]; exact beq_self_eq_true _
        have n_group : (a.group != b.group) = false := by rw [bne, e_group]; rfl
        have H_group := Lib.hid h_group
        clear h_group
        by_cases h_off : a.off = b.off
        · skip
          have e_off : (a.off == b.off) = true := by rw [h_off]; exact beq_self_eq_true _
          have n_off : (a.off != b.off) = false := by rw [bne, e_off]; rfl
          have H_off := Lib.hid h_off
          clear h_off
          by_cases h_len : a.recs.length = b.recs.length
          · skip
            have n_len : ((a.recs.length : Int) != (b.recs.length : Int)) = false := by simp [h_len]
            have H_len := Lib.hid h_len
            clear h_len
            go_enter Try.func36, Try.ntmps36
            go_wp2_with fail
            go_loopw [5] (fun i wr => ∃ k : Nat, k ≤ a.recs.length ∧ i = .int .i64 k ∧ a.recs.take k = b.recs.take k ∧ SB w w.heap.size (w.heap.size + 1) a b A B c d X Y wr) (fun i _ => a.recs.length - (intOf i).toNat)
            case atStart => exact ⟨0, Nat.zero_le _, rfl, rfl, HS.out⟩
            case round =>
              obtain ⟨k, hk, rfl, htk, hsb⟩ := hrel
              have HT := Lib.hid htk
              have HSB := Lib.hid hsb
              clear htk hsb
              obtain ⟨a0, a1, a2, a3, a4⟩ := HSB.out.one.cells
              obtain ⟨b0, b1, b2, b3, b4⟩ := HSB.out.two.cells
              by_cases hlt : k < a.recs.length
              · have hlt2 : k < b.recs.length := by have := H_len.out; omega
                obtain ⟨ad, A1, c1, rfl, hc1, hx1⟩ := HSB.out.la.at_ hlt
                obtain ⟨ad2, B1, d1, rfl, hc2, hx2⟩ := HSB.out.lb.at_ hlt2
                have e1 := fun nq : Nat => run_convert_sl (P := Try.prog) (wr.drewN nq) X 86 9 5 A1 c1 a.recs[k] Try.underlying86 Try.underlying5 Try.underlying9 (hx1.drewN nq)
                have e2 := fun nq : Nat => run_convert_sl (P := Try.prog) (wr.drewN nq) Y 86 9 5 B1 d1 b.recs[k] Try.underlying86 Try.underlying5 Try.underlying9 (hx2.drewN nq)
                clear hx1 hx2
                by_cases heq : a.recs[k] = b.recs[k]
                · have q1 : (a.recs[k] == b.recs[k]) = true := by rw [heq]; exact beq_self_eq_true _
                  have q2 : (a.recs[k] != b.recs[k]) = false := by rw [bne, q1]; rfl
                  have HN := Lib.hid (show a.recs.take (k + 1) = b.recs.take (k + 1) by rw [List.take_succ_eq_append_getElem hlt, List.take_succ_eq_append_getElem hlt2, HT.out, heq])
                  clear heq
                  go_wp2
                  go_quiet (fail)
                  go_wp2
                  go_roundw
                  case rel => exact ⟨k + 1, by omega, by go_num, HN.out, HSB.out.drewN _⟩
                  case measure => simp [intOf]; omega
                · have q1 : (a.recs[k] == b.recs[k]) = false := by rw [beq_eq_false_iff_ne]; exact heq
                  have q2 : (a.recs[k] != b.recs[k]) = true := by rw [bne, q1]; rfl
                  have HN : Hid (sameO a b = false) := Lib.hid (by
                    simp only [sameO, decide_eq_false_iff_not]
                    intro e
                    subst e
                    exact heq rfl)
                  clear heq
                  go_wp2
                  go_quiet (fail)
                  go_wp2
                  go_ret
                  exact ⟨by rw [HN.out]; rfl, (HSB.out.drewN _).below⟩
              · have hke : k = a.recs.length := by omega
                have HN : Hid (sameO a b = true) := Lib.hid (by
                  have h := HT.out
                  have h2 := H_len.out
                  rw [hke, List.take_length, h2, List.take_length] at h
                  simp only [sameO, decide_eq_true_eq]
                  exact O_ext H_kind.out H_topic.out H_group.out H_off.out h)
                go_wp2
                go_ret
                exact ⟨by rw [HN.out]; rfl, HSB.out.below⟩
          · skip
            have n_len : ((a.recs.length : Int) != (b.recs.length : Int)) = true := by simp only [bne_iff_ne, ne_eq]; omega
            have HN : Hid (sameO a b = false) := Lib.hid (decide_eq_false (fun h => h_len (by rw [h])))
            clear h_len
            go_enter Try.func36, Try.ntmps36
            go_wp2_with fail
            go_ret
            exact ⟨by rw [HN.out]; rfl, HS.out.below⟩
        · skip
          have e_off : (a.off == b.off) = false := beq_eq_false_iff_ne.2 h_off
          have n_off : (a.off != b.off) = true := by rw [bne, e_off]; rfl
          have HN : Hid (sameO a b = false) := Lib.hid (decide_eq_false (fun h => h_off (by rw [h])))
          clear h_off
          go_enter Try.func36, Try.ntmps36
          go_wp2_with fail
          go_ret
          exact ⟨by rw [HN.out]; rfl, HS.out.below⟩
      · skip
        have e_group : (a.group == b.group) = false := beq_eq_false_iff_ne.2 h_group
        have n_group : (a.group != b.group) = true := by rw [bne, e_group]; rfl
        have HN : Hid (sameO a b = false) := Lib.hid (decide_eq_false (fun h => h_group (by rw [h])))
        clear h_group
        go_enter Try.func36, Try.ntmps36
        go_wp2_with fail
        go_ret
        exact ⟨by rw [HN.out]; rfl, HS.out.below⟩
    · skip
      have e_topic : (a.topic == b.topic) = false := beq_eq_false_iff_ne.2 h_topic
      have n_topic : (a.topic != b.topic) = true := by rw [bne, e_topic]; rfl
      have HN : Hid (sameO a b = false) := Lib.hid (decide_eq_false (fun h => h_topic (by rw [h])))
      clear h_topic
      go_enter Try.func36, Try.ntmps36
      go_wp2_with fail
      go_ret
      exact ⟨by rw [HN.out]; rfl, HS.out.below⟩
  · skip
    have e_kind : (a.kind == b.kind) = false := beq_eq_false_iff_ne.2 h_kind
    have n_kind : (a.kind != b.kind) = true := by rw [bne, e_kind]; rfl
    have HN : Hid (sameO a b = false) := Lib.hid (decide_eq_false (fun h => h_kind (by rw [h])))
    clear h_kind
    go_enter Try.func36, Try.ntmps36
    go_wp2_with fail
    go_ret
    exact ⟨by rw [HN.out]; rfl, HS.out.below⟩

end Go.Proofs.Ytfdhaodgnenhcaa.Qs

/-
  Layer 6 (op): bytes.HasPrefix; the walk of the statement OpApart.
-/
namespace Go.Proofs.Ytfdhaodgnenhcaa.Qf
set_option linter.unusedSimpArgs false
open Go Go.RowKit Ck Kw Ca Cb Ci Pm Pa Pe Pg Ph Ppi Pl Pp Qs
set_option linter.unusedVariables false

def pre (k l : Tx) : Bool := decide (k <+: l)
/-- A row of new bytes, kept. -/
structure VB (w0 : World) (v : Value) (l : Tx) (W : World) : Prop where
  below : Below w0.heap.size w0 W
  row : Sl W (fun k => k < w0.heap.size) 1 v l.length (BVs l)
theorem VB.later {w0 W W' : World} {v : Value} {l : Tx} (h : VB w0 v l W) (b : Below W.heap.size W W') : VB w0 v l W' := ⟨h.below.trans (b.mono h.below.size), h.row.after b⟩

end Go.Proofs.Ytfdhaodgnenhcaa.Qf

/-
  Layer 8 (request): the contracts of Bytes, both sides; a signature's form; put; PutSign, both sides.
-/
namespace Go.Proofs.Ytfdhaodgnenhcaa.Jd
set_option linter.unusedSimpArgs false
open Go Go.RowKit Ck Kw Ca Cb Cd Ga Kf Pm Pe Pg Ph Pn Pj Qb Lk Jm Ja Jb
attribute [local go_sem ↓] Go.wp_at_zero Go.wp_at_succ
set_option linter.unusedVariables false

/-- A request lies there. -/
structure K0 (w0 : World) (g : Nat) (q : Q) (A : Option Addr) (c : Nat) (W : World) : Prop where
  below : Below w0.heap.size w0 W
  one : QB W g q A c
theorem K0.later {w0 W W' : World} {g : Nat} {q : Q} {A : Option Addr} {c : Nat} (h : K0 w0 g q A c W) (b : Below W.heap.size W W') : K0 w0 g q A c W' := ⟨h.below.trans (b.mono h.below.size), h.one.below b h.one.lt⟩
end Go.Proofs.Ytfdhaodgnenhcaa.Jd

/-
  Layer 6 (op): the walk of the statement OpReads.
-/
namespace Go.Proofs.Ytfdhaodgnenhcaa.Qd
set_option linter.unusedSimpArgs false
open Go Go.RowKit Ck Kw Ca Cb Ci Pm Pa Pe Pg Ph Ppi Pl Pp Qb Qs
attribute [local go_sem ↓] Go.wp_at_zero Go.wp_at_succ
set_option linter.unusedVariables false

/-- An operation's cells, kept in a block. -/
structure KO (W : World) (B g : Nat) (o : O) (A : Option Addr) (c : Nat) : Prop where
  op : OB W g o A c
  new : B ≤ g
  ls : Ls W (fun k => k < B) (.slice A o.recs.length c) o.recs
theorem KO.later {W W' : World} {B g : Nat} {o : O} {A : Option Addr} {c : Nat} (h : KO W B g o A c) (hb : Below W.heap.size W W') : KO W' B g o A c := ⟨Blk.below h.op hb (Blk.lt h.op), h.new, h.ls.after hb⟩
theorem al_below (W : World) (o : Obj) : Below W.heap.size W (W.alloc o) := (Below.refl _ W).alloc (Nat.le_refl _) _
theorem OB.cells' {W : World} {g : Nat} {o : O} {A : Option Addr} {c : Nat} (h : OB W g o A c) :
    W.cell? ⟨g, 0, none⟩ = some (.int .i64 o.kind) ∧ W.cell? ⟨g, 1, none⟩ = some (.string ⟨o.topic.toArray⟩) ∧ W.cell? ⟨g, 2, none⟩ = some (.string ⟨o.group.toArray⟩) ∧ W.cell? ⟨g, 3, none⟩ = some (.int .i64 o.off) ∧ W.cell? ⟨g, 4, none⟩ = some (.slice A o.recs.length c) := h.cells

end Go.Proofs.Ytfdhaodgnenhcaa.Qd

/-
  Opening a law's arguments under the form's own reach (byte strings, strings, numbers), and closing its row: the result is true and the arguments read as they did. For any layer.
-/
namespace Go.Proofs.Ytfdhaodgnenhcaa.Kp
set_option linter.unusedSimpArgs false
set_option linter.unusedVariables false
open Go Go.RowKit Go.ChangeShapes Go.WideShapes Go.ChangeAt Go.Deep Ck

section
variable {H : Type} {enc : TypeId × Value → H} {P : Program}

theorem trodAll_below (hl : laidOutB P = true) : ∀ (ts : List TypeId) (vs : List Value) (ds : List (DataW H)) (ps : List MemPlace) {W W' : World} {sp : Nat → Bool},
    (ts.all fun t => P.readableRec t && decide (t < P.types.size)) = true → DataW.TrodAll enc P W 0 (fun _ => true) true ts vs ds ps → Below W.heap.size W W' →
    (∀ x ∈ ps, x.block < W.heap.size) → (∀ x ∈ ps, sp x.block = true) → DataW.TrodAll enc P W' 0 sp true ts vs ds ps
  | [], [], [], ps, W, W', sp, _, h, _, _, _ => h
  | t :: ts, v :: vs, d :: ds, ps, W, W', sp, hr, h, hb, hlt, hs => by
    obtain ⟨p, q, h1, h2, rfl⟩ := h
    simp only [List.all_cons, Bool.and_eq_true, decide_eq_true_eq] at hr
    refine ⟨p, q, ?_, ?_, rfl⟩
    · exact WideElems.Trod_stays hl hr.1.1 hr.1.2 h1 (fun x hx => hb.same (hlt x (by simp [hx]))) (fun x hx => hs x (by simp [hx]))
    · exact trodAll_below hl ts vs ds q (by simpa using hr.2) h2 hb (fun x hx => hlt x (by simp [hx])) (fun x hx => hs x (by simp [hx]))
  | [], [], _ :: _, _, _, _, _, _, h, _, _, _ => h.elim
  | [], _ :: _, _, _, _, _, _, _, h, _, _, _ => h.elim
  | _ :: _, [], _, _, _, _, _, _, h, _, _, _ => h.elim
  | _ :: _, _ :: _, [], _, _, _, _, _, h, _, _, _ => h.elim

/-- THE ROW's LAST STEP, for a law that answers true and leaves what was there as it was. -/
theorem law_post {f : Func} {s : ChangeSpec} {W W' : World} {args : Array Value} {ds gs : List (DataW H)} {before : List MemPlace} {tb : TypeId} (hl : laidOutB P = true) (hr : (f.params.toList.all fun t => P.readableRec t && decide (t < P.types.size)) = true)
    (hv : s.vars = []) (ht : f.resultTypes = #[tb]) (htb : P.underlying tb = some .bool) (hW : DataW.Whole enc P f.params.toList s.vars false W args.toList ds gs before)
    (hsr : (s.fn H (ds ++ gs)).results = [.lit (.bool true)]) (hsa : (s.fn H (ds ++ gs)).args = ds) (hsv : (s.fn H (ds ++ gs)).vars = []) (hb : Below W.heap.size W W') : s.post enc P f false true false false W args (.bool true) W' := by
  have hlt : ∀ p ∈ before, p.block < W.heap.size := fun p hp => hW.lt p hp
  have hW2 := hW
  obtain ⟨p, q, hA, hV, rfl, _, _⟩ := hW2
  rw [hv] at hV
  obtain ⟨rfl, rfl⟩ := trodVars_none hV
  have hold : ∀ x ∈ p, (fun b => decide (b < W.heap.size)) x.block = true := fun x hx => by simpa using hlt x (by simp [hx])
  refine ⟨ds, [], p ++ [], [], p, [], hW, ?_, ?_, ?_, World.keptBut_mono (fun x hx => ⟨hx, ?_⟩) (hb.frame (· ∈ p ++ [])), fun h => by cases h⟩
  · rw [hsr, ht]
    exact trodAll_cons_mk (shut_bool htb true) trodAll_mk0
  · rw [hsa]
    exact trodAll_below hl _ _ _ _ hr hA hb (fun x hx => hlt x (by simp [hx])) hold
  · rw [hsv, hv]
    rfl
  · rw [List.append_nil] at hx
    exact .inr (.inl hx)
end

section
variable {H : Type} {enc : TypeId × Value → H}
theorem cells_u8 : Try.prog.cellsOf 5 = 1 := by kernel_rfl

theorem ofNat_int {z : Int} (h : (Lit.int .u8 z).wf = true) : ((UInt8.ofNat z.toNat).toNat : Int) = z := by
  have h2 : 0 ≤ z ∧ z ≤ 255 := by simpa [Lit.wf, IntKind.min, IntKind.max, IntKind.signed, IntKind.bits] using h
  rw [Cm.toNat_ofNat (by omega)]
  omega
theorem bytes_u8 : Try.prog.bytesOf 5 = 1 := by kernel_rfl
theorem all_mem {P : Program} {e : TypeId} {d : DataW H} {n : Nat} (hn : n ∈ d.weights P e) : ∀ {l : List (DataW H)}, d ∈ l → n ∈ DataW.weightsAll P e l
  | x :: r, h => by
    simp only [DataW.weightsAll, List.mem_append]
    rcases List.mem_cons.1 h with rfl | h
    · exact .inl hn
    · exact .inr (all_mem hn h)

theorem one_int {w : World} {base : Nat} {sp : Nat → Bool} {held : Bool} {n : Nat} {t : TypeId} {k : IntKind} {cs : List Value} {xs : List (DataW H × List MemPlace)} {j : Nat} (ht : Try.prog.underlying t = some (.int k)) (hj : j < xs.length)
    (h : DataW.trod enc Try.prog w base sp held n t cs = xs[j]?) : ∃ z, cs = [.int k z] ∧ (Lit.int k z).wf = true := by
  rw [List.getElem?_eq_getElem hj] at h
  obtain ⟨z, h1, _, h2⟩ := DataW.trod_int ht h
  exact ⟨z, h1, h2⟩
theorem reach_of {P : Program} {ts : List TypeId} {ds : List (DataW H)} (h : (DataW.weightsEach P ts ds).all (· ≤ reachBytes) = true) {j : Nat} {t : TypeId} {d : DataW H} (ht : ts[j]? = some t) (hd : ds[j]? = some d) : ∀ n ∈ d.weights P t, n ≤ 140737488351232 := fun n hn => by
  have := List.all_eq_true.1 h n (DataW.weights_mem_each ht hd n hn)
  exact (of_decide_eq_true this : n ≤ reachBytes)
end

end Go.Proofs.Ytfdhaodgnenhcaa.Kp

/-
  Layer 6 (op): opening operations and results under the form's own reach.
-/
namespace Go.Proofs.Ytfdhaodgnenhcaa.Py
set_option linter.unusedSimpArgs false
open Go Go.RowKit Go.ChangeShapes Go.WideShapes Go.ChangeAt Go.Deep Ck Kp Pm Pe
set_option linter.unusedVariables false

section
variable {H : Type} {enc : TypeId × Value → H}
theorem cells_rec : Try.prog.cellsOf 86 = 1 := by kernel_rfl
theorem bytes_rec : Try.prog.bytesOf 86 = 24 := by kernel_rfl
theorem cells_op : Try.prog.cellsOf 67 = 5 := by kernel_rfl
theorem cells_int : Try.prog.cellsOf 3 = 1 := by kernel_rfl
theorem cells_i64 : Try.prog.cellsOf 2 = 1 := by kernel_rfl
theorem cells_str : Try.prog.cellsOf 9 = 1 := by kernel_rfl
theorem cells_recs : Try.prog.cellsOf 65 = 1 := by kernel_rfl

theorem open_recW {w : World} {fuel : Nat} {base : Nat} {v : Value} {x : DataW H × List MemPlace} (h : DataW.trod enc Try.prog w base (fun _ => true) true fuel 86 [v] = some x) :
    ∃ b : List UInt8, Sl w (fun k => w.heap.size ≤ k) 1 v b.length (BVs b) ∧ ∀ R, (∀ n ∈ x.1.weights Try.prog 86, n ≤ R) → b.length ≤ R := by
  rcases open_ints Try.underlying86 Try.underlying5 cells_u8 h with ⟨hcs, rfl⟩ | ⟨a, len, cap, zs, hcs, _, hl, hm, hz, rfl, hc, hw⟩
  · obtain rfl : v = .slice none 0 0 := by simpa using hcs
    exact ⟨[], Sl.nil _ _ _, fun R _ => Nat.zero_le _⟩
  · obtain rfl : v = .slice (some a) len cap := by simpa using hcs
    simp only [if_true] at hz
    have hbl : ((zs.take len).map fun z => UInt8.ofNat z.toNat).length = len := by simp only [List.length_map, List.length_take]; omega
    refine ⟨(zs.take len).map fun z => UInt8.ofNat z.toNat, ?_, fun R hR => ?_⟩
    · refine ⟨some a, cap, by rw [hbl], by rw [BVs_len]; omega, by omega, hm, fun hn => ?_⟩
      rw [hbl] at hn
      have h0 := hc 0 (by omega)
      refine ⟨a, rfl, by have := World.block_lt_of_cell? w _ h0; rw [add_block] at this; exact this, by have := World.block_lt_of_cell? w _ h0; rw [add_block] at this; omega, fun j u hu => ?_⟩
      have hj : j < (BVs ((zs.take len).map fun z => UInt8.ofNat z.toNat)).length := (List.getElem?_eq_some_iff.1 hu).1
      rw [BVs_len, hbl] at hj
      rw [hc j (by omega), ← hu]
      have hjz : j < zs.length := by omega
      simp only [BVs, BV, List.map_map, List.getElem?_map, List.getElem?_take, if_pos hj, List.getElem?_eq_getElem hjz, Option.map_some, Function.comp, List.getD_eq_getElem?_getD, Option.getD_some]
      rw [ofNat_int (hw _ (List.getElem_mem hjz))]
    · have := hR _ (by simp only [DataW.weights, Try.underlying86]; exact List.mem_cons_self)
      rw [bytes_u8] at this
      rw [hbl]
      simp only [lits, List.length_map, List.length_take] at this
      omega

theorem open_recsW {w : World} {fuel : Nat} {base : Nat} {v : Value} {x : DataW H × List MemPlace} (h : DataW.trod enc Try.prog w base (fun _ => true) true fuel 65 [v] = some x) :
    ∃ ls : List (List UInt8), Ls w (fun k => w.heap.size ≤ k) v ls ∧ ∀ R, (∀ n ∈ x.1.weights Try.prog 65, n ≤ R) → ls.length * 24 ≤ R ∧ ∀ l ∈ ls, l.length ≤ R := by
  rcases open_slice1 Try.underlying65 cells_rec h with ⟨hcs, rfl⟩ | ⟨a, len, cap, m, n, V, D, Pl, hcs, _, hl, hm, hmm, rfl, hx⟩
  · obtain rfl : v = .slice none 0 0 := by simpa using hcs
    exact ⟨[], ⟨[], Sl.nil _ _ _, fun i hi => absurd hi (by simp)⟩, fun R _ => by simp⟩
  · obtain rfl : v = .slice (some a) len cap := by simpa using hcs
    simp only [if_true] at hmm
    have each : ∀ r, ∃ b : List UInt8, r < len → w.cell? (a.add r) = some (V r) ∧ Sl w (fun k => w.heap.size ≤ k) 1 (V r) b.length (BVs b) ∧ ∀ R, (∀ n ∈ (D r).weights Try.prog 86, n ≤ R) → b.length ≤ R := by
      intro r
      by_cases hr : r < len
      · obtain ⟨hc, ht⟩ := hx r (by omega)
        obtain ⟨b, hb1, hb2⟩ := open_recW ht
        exact ⟨b, fun _ => ⟨hc, hb1, hb2⟩⟩
      · exact ⟨[], fun h => absurd h hr⟩
    obtain ⟨f, hf⟩ := Classical.axiomOfChoice each
    refine ⟨(List.range len).map f, ⟨(List.range len).map V, ?_, fun i hi => ?_⟩, fun R hR => ⟨?_, fun l hl2 => ?_⟩⟩
    · refine ⟨some a, cap, by simp, by simp, by simpa using hl, hm, fun hn => ?_⟩
      have hn' : 0 < len := by simpa using hn
      have h0 := (hf 0 hn').1
      refine ⟨a, rfl, by have := World.block_lt_of_cell? w _ h0; rw [add_block] at this; exact this, by have := World.block_lt_of_cell? w _ h0; rw [add_block] at this; omega, fun j u hu => ?_⟩
      have hj : j < ((List.range len).map V).length := (List.getElem?_eq_some_iff.1 hu).1
      simp only [List.length_map, List.length_range] at hj
      rw [(hf j hj).1, ← hu]
      simp [hj]
    · have hi' : i < len := by simpa using hi
      refine ⟨V i, by simp [hi'], ?_⟩
      simpa using (hf i hi').2.1
    · have := hR _ (by simp only [DataW.weights, Try.underlying65]; exact List.mem_cons_self)
      rw [bytes_rec] at this
      simp only [List.length_map, List.length_range] at this ⊢
      omega
    · obtain ⟨r, hr, rfl⟩ := List.mem_map.1 hl2
      have hr' : r < len := by simpa using hr
      refine (hf r hr').2.2 R (fun n hn => hR n ?_)
      simp only [DataW.weights, Try.underlying65, List.mem_cons, List.mem_append]
      exact .inr (.inl (all_mem hn (List.mem_map.2 ⟨r, hr, rfl⟩)))


theorem one_str {w : World} {base : Nat} {sp : Nat → Bool} {held : Bool} {n : Nat} {cs : List Value} {xs : List (DataW H × List MemPlace)} {j : Nat} (hj : j < xs.length)
    (h : DataW.trod enc Try.prog w base sp held n 9 cs = xs[j]?) : ∃ s : Tx, cs = [.string ⟨s.toArray⟩] ∧ ∀ R, (∀ n ∈ xs[j].1.weights Try.prog 9, n ≤ R) → s.length ≤ R := by
  rw [List.getElem?_eq_getElem hj] at h
  obtain ⟨s, h1, h2, _⟩ := DataW.trod_string Try.underlying9 h
  refine ⟨s.data.toList, by rw [h1], fun R hR => ?_⟩
  rw [h2] at hR
  exact hR _ (by simp [DataW.weights])

/-- How far an operation goes. -/
def far (o : O) (R : Nat) : Prop := o.topic.length ≤ R ∧ o.group.length ≤ R ∧ o.recs.length * 24 ≤ R ∧ ∀ l ∈ o.recs, l.length ≤ R
def wfO (o : O) : Prop := (-9223372036854775808 ≤ o.kind ∧ o.kind ≤ 9223372036854775807) ∧ (-9223372036854775808 ≤ o.off ∧ o.off ≤ 9223372036854775807)

set_option maxRecDepth 100000 in
theorem open_op {w : World} {base : Nat} {fuel : Nat} {cs : List Value} {x : DataW H × List MemPlace} (h : DataW.trod enc Try.prog w base (fun _ => true) true fuel 67 cs = some x) :
    ∃ (o : O) (A : Option Addr) (c : Nat), cs = [.int .i64 o.kind, .string ⟨o.topic.toArray⟩, .string ⟨o.group.toArray⟩, .int .i64 o.off, .slice A o.recs.length c] ∧ Ls w (fun k => w.heap.size ≤ k) (.slice A o.recs.length c) o.recs
      ∧ wfO o ∧ ∀ R, (∀ n ∈ x.1.weights Try.prog 67, n ≤ R) → far o R := by
  obtain ⟨xs, n', _, hx, hl, hxl, hf⟩ := DataW.trod_struct Try.underlying67 h
  rw [cells_op] at hl
  have hxl' : xs.length = 5 := hxl
  match cs, hl with
  | [v0, v1, v2, v3, v4], _ =>
    have f0 : DataW.trod enc Try.prog w base (fun _ => true) true n' 3 (([v0, v1, v2, v3, v4].drop 0).take (Try.prog.cellsOf 3)) = xs[0]? := hf 0 _ rfl
    have f1 : DataW.trod enc Try.prog w base (fun _ => true) true n' 9 (([v0, v1, v2, v3, v4].drop 1).take (Try.prog.cellsOf 9)) = xs[1]? := hf 1 _ rfl
    have f2 : DataW.trod enc Try.prog w base (fun _ => true) true n' 9 (([v0, v1, v2, v3, v4].drop 2).take (Try.prog.cellsOf 9)) = xs[2]? := hf 2 _ rfl
    have f3 : DataW.trod enc Try.prog w base (fun _ => true) true n' 2 (([v0, v1, v2, v3, v4].drop 3).take (Try.prog.cellsOf 2)) = xs[3]? := hf 3 _ rfl
    have f4 : DataW.trod enc Try.prog w base (fun _ => true) true n' 65 (([v0, v1, v2, v3, v4].drop 4).take (Try.prog.cellsOf 65)) = xs[4]? := hf 4 _ rfl
    rw [cells_int] at f0
    rw [cells_i64] at f3
    rw [cells_str] at f1 f2
    rw [cells_recs] at f4
    simp only [List.drop_zero, List.drop_succ_cons, List.take_succ_cons, List.take_zero] at f0 f1 f2 f3 f4
    obtain ⟨z0, e0, w0⟩ := one_int Try.underlying3 (by omega) f0
    obtain ⟨s1, e1, r1⟩ := one_str (by omega) f1
    obtain ⟨s2, e2, r2⟩ := one_str (by omega) f2
    obtain ⟨z3, e3, w3⟩ := one_int Try.underlying2 (by omega) f3
    rw [List.getElem?_eq_getElem (by omega)] at f4
    obtain ⟨ls, hb, r4⟩ := open_recsW f4
    have b0 : -9223372036854775808 ≤ z0 ∧ z0 ≤ 9223372036854775807 := by simpa [Lit.wf, IntKind.min, IntKind.max, IntKind.signed, IntKind.bits] using w0
    have b3 : -9223372036854775808 ≤ z3 ∧ z3 ≤ 9223372036854775807 := by simpa [Lit.wf, IntKind.min, IntKind.max, IntKind.signed, IntKind.bits] using w3
    simp only [List.cons.injEq, and_true] at e0 e1 e2 e3
    obtain ⟨B, c, hv⟩ : ∃ B c, v4 = .slice B ls.length c := by
      obtain ⟨vals, ⟨B, c, hv, _⟩, _⟩ := id hb
      exact ⟨B, c, hv⟩
    refine ⟨⟨z0, s1, s2, z3, ls⟩, B, c, by rw [e0, e1, e2, e3, hv], by rw [← hv]; exact hb, ⟨b0, b3⟩, fun R hR => ?_⟩
    have hm : ∀ (j : Nat) (t : TypeId) (hj : j < xs.length), [3, 9, 9, 2, 65][j]? = some t → ∀ n ∈ xs[j].1.weights Try.prog t, n ≤ R := fun j t hj ht n hn => by
      refine hR n ?_
      rw [hx]
      simp only [DataW.weights, Try.underlying67]
      exact DataW.weights_mem_each (ts := [3, 9, 9, 2, 65]) ht (by simp [List.getElem?_eq_getElem hj]) n hn
    have q := r4 R (hm 4 _ (by omega) rfl)
    exact ⟨r1 R (hm 1 _ (by omega) rfl), r2 R (hm 2 _ (by omega) rfl), q.1, q.2⟩

end

end Go.Proofs.Ytfdhaodgnenhcaa.Py

/-
  Layer 6 (op): the walk of the statement OpBack.
-/
namespace Go.Proofs.Ytfdhaodgnenhcaa.Qe
set_option linter.unusedSimpArgs false
open Go Go.RowKit Ck Kw Ca Cb Ci Kx Pm Pa Pe Pg Ph Ppi Pl Pp Py Qb Qs Qd
attribute [local go_sem ↓] Go.wp_at_zero Go.wp_at_succ
set_option linter.unusedVariables false

/-- What stands there: the operation and the bytes. -/
structure EB (w0 : World) (o : O) (A : Option Addr) (c : Nat) (vb : Value) (b : Tx) (W : World) : Prop where
  below : Below w0.heap.size w0 W
  op : OB W w0.heap.size o A c
  ls : Ls W (fun k => w0.heap.size ≤ k) (.slice A o.recs.length c) o.recs
  b : Sl W (fun k => w0.heap.size ≤ k) 1 vb b.length (BVs b)
variable {w0 W W' : World} {o : O} {A : Option Addr} {c : Nat} {vb : Value} {b : Tx}
theorem EB.later (h : EB w0 o A c vb b W) (hb : Below W.heap.size W W') : EB w0 o A c vb b W' :=
  ⟨h.below.trans (hb.mono h.below.size), Blk.below h.op hb (Blk.lt h.op), h.ls.after hb, h.b.after hb⟩
theorem EB.drew (h : EB w0 o A c vb b W) : EB w0 o A c vb b W.drew := h.later (below_drewN (Below.refl _ W) 1)
end Go.Proofs.Ytfdhaodgnenhcaa.Qe

/-
  Layer 6 (op): the contract of Clone.
-/
namespace Go.Proofs.Ytfdhaodgnenhcaa.Qg
set_option linter.unusedSimpArgs false
open Go Go.RowKit Ck Kw Ca Cb Ci Kx Pm Pa Pe Pg Ph Ppi Pj Pl Pp Py Qb Qs Qd
attribute [local go_sem ↓] Go.wp_at_zero Go.wp_at_succ
set_option linter.unusedVariables false

/-- A row of records of one's own: the first k of them clones, the others as they were. -/
structure CL (w0 : World) (v : Value) (recs : List Tx) (vals : List Value) (k : Nat) (W : World) : Prop where
  below : Below w0.heap.size w0 W
  row : W.ownsRow w0.heap.size 86 1 v recs.length vals
  mine : ∀ i (hi : i < recs.length), i < k → ∃ u, vals[i]? = some u ∧ W.ownsRow w0.heap.size 5 1 u recs[i].length (BVs recs[i])
  rest : ∀ i (hi : i < recs.length), k ≤ i → ∃ u, vals[i]? = some u ∧ Sl W (fun q => w0.heap.size ≤ q) 1 u recs[i].length (BVs recs[i])
variable {w0 W W' : World} {v : Value} {recs : List Tx} {vals : List Value} {k : Nat}
theorem CL.later (h : CL w0 v recs vals k W) (hb : Below W.heap.size W W') : CL w0 v recs vals k W' :=
  ⟨h.below.trans (hb.mono h.below.size), own_below h.row hb, fun i hi hk => by
    obtain ⟨u, hu, ho⟩ := h.mine i hi hk
    exact ⟨u, hu, own_below ho hb⟩, fun i hi hk => by
    obtain ⟨u, hu, ho⟩ := h.rest i hi hk
    exact ⟨u, hu, ho.after hb⟩⟩
/-- The row's value, and the record at k. -/
theorem CL.at_ (h : CL w0 v recs vals k W) (hk : k < recs.length) :
    ∃ g c u, v = .slice (some ⟨g, 0, none⟩) recs.length c ∧ vals[k]? = some u ∧ W.cell? ⟨g, k, none⟩ = some u ∧ W.frozen? ⟨g, k, none⟩ = false ∧ Sl W (fun q => w0.heap.size ≤ q) 1 u recs[k].length (BVs recs[k]) := by
  obtain ⟨g, c, rfl, hb, hlt⟩ := h.row.form (by omega)
  obtain ⟨u, hu, hs⟩ := h.rest k hk (Nat.le_refl _)
  exact ⟨g, c, u, rfl, hu, by rw [h.row.cellAt k (by omega), hu], h.row.frozenAt k, hs⟩
theorem own_types {g c n : Nat} {xs : List Value} {t : TypeId} {base m : Nat} {u : Value} {ys : List Value} {t' : TypeId} (h : W.ownsRow base t 1 (.slice (some ⟨g, 0, none⟩) n c) n xs) (h' : W.ownsRow base t' 1 u m ys) (ht : t ≠ t') : u.ownBlock ≠ some g := by
  rcases h'.2 with ⟨rfl, _⟩ | ⟨g', cap', cur', rfl, _, hg', _⟩
  · simp [Value.ownBlock]
  · rcases h.2 with ⟨hn, _⟩ | ⟨g2, cap2, cur2, hv, _, hg2, _⟩
    · simp at hn
    · simp only [Value.slice.injEq, Option.some.injEq, Addr.mk.injEq, and_true] at hv
      obtain ⟨rfl, _⟩ := hv
      simp only [Value.ownBlock, ne_eq, Option.some.injEq]
      rintro rfl
      rw [hg2] at hg'
      simp only [Option.some.injEq, Obj.cells.injEq] at hg'
      exact ht hg'.2.1
theorem CL.step {g c : Nat} {u : Value} (h : CL w0 (.slice (some ⟨g, 0, none⟩) recs.length c) recs vals k W) (hk : k < recs.length) (hu : W.ownsRow w0.heap.size 5 1 u recs[k].length (BVs recs[k])) :
    CL w0 (.slice (some ⟨g, 0, none⟩) recs.length c) recs (vals.set k u) (k + 1) (W.setCell ⟨g, k, none⟩ u) := by
  have hst := h.row.stored k u
  have hvl : vals.length = recs.length := by have := h.row.1; omega
  have hgb : w0.heap.size ≤ g := by
    obtain ⟨g', c', hv, hb, _⟩ := h.row.form (by omega)
    simp only [Value.slice.injEq, Option.some.injEq, Addr.mk.injEq, and_true] at hv
    omega
  refine ⟨h.below.grown hst.2 h.below.size (fun q hq => by injection hq with hq; omega), hst.1, fun i hi hik => ?_, fun i hi hik => ?_⟩
  · by_cases he : i = k
    · subst he
      exact ⟨u, by rw [List.getElem?_set_self (by omega)], hu.kept hst.2 (by
        have := own_types h.row hu (by decide)
        first | exact this | (intro h1; exact this h1) | (cases hq : u.ownBlock <;> simp_all))⟩
    · obtain ⟨u', hu', ho⟩ := h.mine i hi (by omega)
      exact ⟨u', by rw [List.getElem?_set_ne (fun q => he q.symm)]; exact hu', ho.kept hst.2 (by
        have := own_types h.row ho (by decide)
        first | exact this | (intro h1; exact this h1) | (cases hq : u'.ownBlock <;> simp_all))⟩
  · obtain ⟨u', hu', ho⟩ := h.rest i hi (by omega)
    exact ⟨u', by rw [List.getElem?_set_ne (by omega)]; exact hu', ho.grown hst.2 (fun q hq _ => by injection hq with hq; show w0.heap.size ≤ q; omega)⟩
/-- A clone, and what is one's own of it. -/
def Cloned (w : World) (o : O) (e : Ending) (w' : World) : Prop := ∃ A c vals, e = .returned (OV o A c) ∧ CL w (.slice A o.recs.length c) o.recs vals o.recs.length w'
theorem CL.ls {A : Option Addr} {c : Nat} (h : CL w0 (.slice A recs.length c) recs vals recs.length W) : Ls W (fun q => q < w0.heap.size) (.slice A recs.length c) recs :=
  ⟨vals, Sl.of_own h.row (fun q h1 _ h2 => by omega), fun i hi => by
    obtain ⟨u, hu, ho⟩ := h.mine i hi hi
    exact ⟨u, hu, Sl.of_own ho (fun q h1 _ h2 => by omega)⟩⟩

theorem own_blk {g g' c n : Nat} {xs : List Value} {t t' : TypeId} {base : Nat} {cs : Array Value} (h : W.ownsRow base t 1 (.slice (some ⟨g, 0, none⟩) n c) n xs) (h' : Blk W g' t' cs) (ht : t ≠ t') : g' ≠ g := by
  rcases h.2 with ⟨hn, _⟩ | ⟨g2, cap2, cur2, hv, _, hg2, _⟩
  · simp at hn
  · simp only [Value.slice.injEq, Option.some.injEq, Addr.mk.injEq, and_true] at hv
    obtain ⟨rfl, _⟩ := hv
    rintro rfl
    have hb : W.heap[g']? = some (.cells cs t' (0, 0)) := h'
    rw [hg2] at hb
    simp only [Option.some.injEq, Obj.cells.injEq] at hb
    exact ht hb.2.1
/-- The operation's own copy. -/
structure SK (w0 : World) (o : O) (A : Option Addr) (c : Nat) (W : World) : Prop where
  below : Below w0.heap.size w0 W
  op : OB W w0.heap.size o A c
  res : Blk W (w0.heap.size + 1) 67 Z5
  ls : Ls W (fun k => w0.heap.size ≤ k) (.slice A o.recs.length c) o.recs
variable {o : O} {A : Option Addr} {c : Nat}
theorem SK.later (h : SK w0 o A c W) (hb : Below W.heap.size W W') : SK w0 o A c W' := ⟨h.below.trans (hb.mono h.below.size), Blk.below h.op hb (Blk.lt h.op), Blk.below h.res hb (Blk.lt h.res), h.ls.after hb⟩
theorem sk_new {X : Nat → Prop} (hls : Ls w0 X (.slice A o.recs.length c) o.recs) : SK w0 o A c ((w0.alloc (.cells (OC o A c) 67)).alloc (.cells Z5 67)) := by
  have hz : (w0.alloc (.cells (OC o A c) 67)).heap.size = w0.heap.size + 1 := by simp
  refine ⟨(al_below _ _).trans ((al_below _ _).mono (by omega)), Blk.below (Blk.new _ _ _) (al_below _ _) (by omega), by rw [← hz]; exact Blk.new _ _ _, ((hls.old' (Nat.le_refl _)).after (al_below _ _)).after (al_below _ _)⟩
theorem SK.put (h : SK w0 o A c W) (i : Nat) (u : Value) (hcs : (OC o A c).setIfInBounds i u = OC o A c) : SK w0 o A c (W.setCell ⟨w0.heap.size, i, none⟩ u) := by
  have n0 := h.below.size
  have cg : W.grownBy (W.setCell ⟨w0.heap.size, i, none⟩ u) (some w0.heap.size) := grown_setCell (World.grownBy.refl W (some w0.heap.size)) (p := ⟨w0.heap.size, i, none⟩) (.inl rfl) u
  refine ⟨h.below.grown cg n0 (fun q hq => by injection hq with hq; omega), ?_, Blk.grown h.res cg (by simp), h.ls.grown cg (fun q hq _ => by injection hq with hq; show w0.heap.size ≤ q; omega)⟩
  have := Blk.set_ h.op i u
  rw [hcs] at this
  exact this
/-- The copy, and the row of its records. -/
structure LP (w0 : World) (o : O) (A : Option Addr) (c : Nat) (vals : List Value) (k : Nat) (W : World) : Prop where
  op : OB W w0.heap.size o A c
  res : Blk W (w0.heap.size + 1) 67 Z5
  cl : CL w0 (.slice A o.recs.length c) o.recs vals k W
theorem LP.later (h : LP w0 o A c vals k W) (hb : Below W.heap.size W W') : LP w0 o A c vals k W' := ⟨Blk.below h.op hb (Blk.lt h.op), Blk.below h.res hb (Blk.lt h.res), h.cl.later hb⟩
theorem lp_start {A' : Option Addr} {c' : Nat} (h : SK w0 o A c W) (hrow : W'.ownsRow W.heap.size 86 1 (.slice A' o.recs.length c') o.recs.length vals) (hv : ∀ i (hi : i < o.recs.length), ∃ u, vals[i]? = some u ∧ Sl W (fun k => w0.heap.size ≤ k) 1 u o.recs[i].length (BVs o.recs[i])) (hb : Below W.heap.size W W') :
    LP w0 o A' c' vals 0 (W'.setCell ⟨w0.heap.size, 4, none⟩ (.slice A' o.recs.length c')) := by
  have n0 := h.below.size
  have h' := h.later hb
  have n1 := Blk.lt h.op
  have cg : W'.grownBy (W'.setCell ⟨w0.heap.size, 4, none⟩ (.slice A' o.recs.length c')) (some w0.heap.size) := grown_setCell (World.grownBy.refl W' (some w0.heap.size)) (p := ⟨w0.heap.size, 4, none⟩) (.inl rfl) _
  refine ⟨Blk.set_ h'.op 4 _, Blk.grown h'.res cg (by simp), h'.below.grown cg h'.below.size (fun q hq => by injection hq with hq; omega), own_base (ownsRow_setCell_below hrow (a := ⟨w0.heap.size, 4, none⟩) n1 _) n0, fun i hi hk => absurd hk (by omega), fun i hi _ => ?_⟩
  obtain ⟨u, hu, hs⟩ := hv i hi
  exact ⟨u, hu, (hs.after hb).grown cg (fun q hq _ => by injection hq with hq; show w0.heap.size ≤ q; omega)⟩
theorem LP.slot {g : Nat} (h : LP w0 o (some ⟨g, 0, none⟩) c vals k W) (hk : k < o.recs.length) : (∃ u, W.cell? ⟨g, k, none⟩ = some u) ∧ W.frozen? ⟨g, k, none⟩ = false := by
  obtain ⟨g', cc, u, hv, hu, hc, hf, hs⟩ := h.cl.at_ hk
  simp only [Value.slice.injEq, Option.some.injEq, Addr.mk.injEq, and_true, true_and] at hv
  obtain ⟨rfl, rfl⟩ := hv
  exact ⟨⟨u, hc⟩, hf⟩
theorem LP.step {g : Nat} {u : Value} (h : LP w0 o (some ⟨g, 0, none⟩) c vals k W) (hk : k < o.recs.length) (hu : W.ownsRow w0.heap.size 5 1 u o.recs[k].length (BVs o.recs[k])) :
    LP w0 o (some ⟨g, 0, none⟩) c (vals.set k u) (k + 1) (W.setCell ⟨g, k, none⟩ u) := by
  have hne := own_blk h.cl.row h.op (by decide)
  have hne2 := own_blk h.cl.row h.res (by decide)
  have cg : W.grownBy (W.setCell ⟨g, k, none⟩ u) (some g) := grown_setCell (World.grownBy.refl W (some g)) (p := ⟨g, k, none⟩) (.inl rfl) _
  exact ⟨Blk.grown h.op cg (by simp; exact hne), Blk.grown h.res cg (by simp; exact hne2), h.cl.step hk hu⟩

theorem own_blk' {g' n : Nat} {u : Value} {xs : List Value} {t t' : TypeId} {base : Nat} {cs : Array Value} (h : W.ownsRow base t 1 u n xs) (h' : Blk W g' t' cs) (ht : t ≠ t') : u.ownBlock ≠ some g' := by
  rcases h.2 with ⟨rfl, _⟩ | ⟨g2, cap2, cur2, rfl, _, hg2, _⟩
  · simp [Value.ownBlock]
  · simp only [Value.ownBlock, ne_eq, Option.some.injEq]
    rintro rfl
    have hb : W.heap[g2]? = some (.cells cs t' (0, 0)) := h'
    rw [hg2] at hb
    simp only [Option.some.injEq, Obj.cells.injEq] at hb
    exact ht hb.2.1
theorem LP.fin (h : LP w0 o A c vals o.recs.length W) (x0 x1 x2 x3 x4 : Value) :
    Cloned w0 o (.returned (.agg #[.int .i64 o.kind, .string ⟨o.topic.toArray⟩, .string ⟨o.group.toArray⟩, .int .i64 o.off, .slice A o.recs.length c])) (((((W.setCell ⟨w0.heap.size + 1, 0, none⟩ x0).setCell ⟨w0.heap.size + 1, 1, none⟩ x1).setCell ⟨w0.heap.size + 1, 2, none⟩ x2).setCell ⟨w0.heap.size + 1, 3, none⟩ x3).setCell ⟨w0.heap.size + 1, 4, none⟩ x4) := by
  have cg : W.grownBy (((((W.setCell ⟨w0.heap.size + 1, 0, none⟩ x0).setCell ⟨w0.heap.size + 1, 1, none⟩ x1).setCell ⟨w0.heap.size + 1, 2, none⟩ x2).setCell ⟨w0.heap.size + 1, 3, none⟩ x3).setCell ⟨w0.heap.size + 1, 4, none⟩ x4) (some (w0.heap.size + 1)) :=
    grown_setCell (grown_setCell (grown_setCell (grown_setCell (grown_setCell (World.grownBy.refl W (some (w0.heap.size + 1))) (p := ⟨w0.heap.size + 1, 0, none⟩) (.inl rfl) x0) (p := ⟨w0.heap.size + 1, 1, none⟩) (.inl rfl) x1) (p := ⟨w0.heap.size + 1, 2, none⟩) (.inl rfl) x2) (p := ⟨w0.heap.size + 1, 3, none⟩) (.inl rfl) x3) (p := ⟨w0.heap.size + 1, 4, none⟩) (.inl rfl) x4
  refine ⟨A, c, vals, rfl, h.cl.below.grown cg h.cl.below.size (fun q hq => by injection hq with hq; omega), h.cl.row.kept cg (by
        have := own_blk' h.cl.row h.res (by decide)
        first | exact this | (intro h1; exact this h1) | (cases hq : (Value.slice A o.recs.length c).ownBlock <;> simp_all)), fun i hi hk => ?_, fun i hi hk => absurd hi (by omega)⟩
  obtain ⟨u, hu, ho⟩ := h.cl.mine i hi hk
  exact ⟨u, hu, ho.kept cg (by
        have := own_blk' ho h.res (by decide)
        first | exact this | (intro h1; exact this h1) | (cases hq : u.ownBlock <;> simp_all))⟩

set_option maxRecDepth 100000 in
set_option maxHeartbeats 8000000 in
theorem clone_any (w : World) (o : O) (X : Nat → Prop) (A : Option Addr) (c : Nat) (hls : Ls w X (.slice A o.recs.length c) o.recs) (hlo : far o 140737488351232) :
    Calls Try.prog 42 #[OV o A c] w (Cloned w o) := by
  have HK0 := Lib.hid (sk_new hls)
  have HLO := Lib.hid hlo
  have LT : Hid (o.topic.length ≤ 140737488355328) := Lib.hid (by have := hlo.1; omega)
  have LG : Hid (o.group.length ≤ 140737488355328) := Lib.hid (by have := hlo.2.1; omega)
  have LR : Hid (o.recs.length * 24 ≤ 140737488355328) := Lib.hid (by have := hlo.2.2.1; omega)
  have LE : Hid (∀ i (hi : i < o.recs.length), o.recs[i].length ≤ 140737488355328) := Lib.hid (fun i hi => by have := hlo.2.2.2 _ (List.getElem_mem hi); omega)
  clear hls hlo
  have HS1 : Hid (∀ W : World, Calls Try.prog 43 #[.string ⟨o.topic.toArray⟩] W fun e w' => e = .returned (.string ⟨o.topic.toArray⟩) ∧ Below W.heap.size W w') := Lib.hid fun W => sclone_any o.topic W LT.out
  have HS2 : Hid (∀ W : World, Calls Try.prog 43 #[.string ⟨o.group.toArray⟩] W fun e w' => e = .returned (.string ⟨o.group.toArray⟩) ∧ Below W.heap.size W w') := Lib.hid fun W => sclone_any o.group W LG.out
  unfold OV
  unfold OC Z5 at HK0
  go_enter Try.func42, Try.ntmps42
  obtain ⟨a0, a1, a2, a3, a4⟩ := OB.cells' HK0.out.op
  go_wp2_with fail
  refine (HS1.out _).mono ?_
  rintro e w1 ⟨rfl, hb1⟩
  have HK1 := Lib.hid (HK0.out.later hb1)
  have HK1' := Lib.hid (HK1.out.put 1 (.string ⟨o.topic.toArray⟩) rfl)
  clear hb1 a0 a1 a2 a3 a4
  obtain ⟨a0, a1, a2, a3, a4⟩ := OB.cells' HK1.out.op
  have f1 := Blk.frozen HK1.out.op 1
  obtain ⟨b0, b1, b2, b3, b4⟩ := OB.cells' HK1'.out.op
  go_wp2_with fail
  refine (HS2.out _).mono ?_
  rintro e w2 ⟨rfl, hb2⟩
  have HK2 := Lib.hid (HK1'.out.later hb2)
  have HK2' := Lib.hid (HK2.out.put 2 (.string ⟨o.group.toArray⟩) rfl)
  clear hb2 a0 a1 a2 a3 a4 b0 b1 b2 b3 b4 f1
  obtain ⟨a0, a1, a2, a3, a4⟩ := OB.cells' HK2.out.op
  have f2 := Blk.frozen HK2.out.op 2
  obtain ⟨b0, b1, b2, b3, b4⟩ := OB.cells' HK2'.out.op
  have HRC := Lib.hid (rclone_any _ _ A c o.recs HK2'.out.ls LR.out)
  go_wp2_with fail
  refine HRC.out.mono ?_
  rintro e w3 ⟨v3, vals, rfl, hown3, hvs3, hb3⟩
  obtain ⟨A3, c3, rfl⟩ := own_shape hown3
  have HK3 := Lib.hid (HK2'.out.later hb3)
  have HL3 := Lib.hid (lp_start HK2'.out hown3 hvs3 hb3)
  clear hown3 hvs3 hb3 a0 a1 a2 a3 a4 b0 b1 b2 b3 b4 f2
  obtain ⟨a0, a1, a2, a3, a4⟩ := OB.cells' HK3.out.op
  have f4 := Blk.frozen HK3.out.op 4
  obtain ⟨b0, b1, b2, b3, b4⟩ := OB.cells' HL3.out.op
  go_wp2_with fail
  clear a0 a1 a2 a3 a4 b0 b1 b2 b3 b4 f4 HK3 HRC HK2' HK2 HK1' HK1 HK0 HS1 HS2
  have hnl : o.recs.length ≤ 140737488355328 := by have := LR.out; omega
  (try go_frame)
  go_loopw [20] (fun i wr => ∃ (k : Nat) (vs : List Value), k ≤ o.recs.length ∧ i = .int .i64 k ∧ LP w o A3 c3 vs k wr) (fun i _ => o.recs.length - (intOf i).toNat)
  case atStart => exact ⟨0, vals, Nat.zero_le _, rfl, HL3.out⟩
  case round =>
    obtain ⟨k, vs, hk, rfl, hl⟩ := hrel
    clear HL3
    by_cases hlt : k < o.recs.length
    · have HLT := Lib.hid hlt
      obtain ⟨g, cc, u, hv, hu, hc, hf, hs⟩ := hl.cl.at_ hlt
      simp only [Value.slice.injEq, true_and] at hv
      obtain ⟨rfl, rfl⟩ := hv
      have HLd := Lib.hid (hl.later (below_drewN (Below.refl _ _) 1))
      have HSd := Lib.hid (hs.after (below_drewN (Below.refl _ _) 1))
      have hle := LE.out k hlt
      have HLE := Lib.hid hle
      have q4 := (OB.cells' HLd.out.op).2.2.2.2
      obtain ⟨A5, d5, rfl, -⟩ := id hs
      clear hl hs hle hu
      go_wp2_with fail
      go_region_held3 (fun w' => w'.cell? ⟨w.heap.size, 4, none⟩ = some (.slice (some ⟨g, 0, none⟩) o.recs.length c3)) (first | exact q4 | exact j4 | exact n4)
        (first
        | (go_at_call 45; refine (Cd.clone_any _ _ _ o.recs[k] _ HSd.out HLE.out).mono ?_; rintro e w4 ⟨v4, rfl, hown4, hb4⟩; obtain ⟨A4, c4, rfl⟩ := own_shape hown4; have HL4 := Lib.hid (HLd.out.later hb4); have HO4 := Lib.hid (own_base hown4 HLd.out.cl.below.size); have j4 := (OB.cells' HL4.out.op).2.2.2.2; obtain ⟨⟨u4, hc4⟩, hf4⟩ := HL4.out.slot HLT.out; have HN := Lib.hid (HL4.out.step HLT.out HO4.out); have n4 := (OB.cells' HN.out.op).2.2.2.2; clear hown4 hb4))
      all_goals
        go_wp2_with fail
        go_roundw
      all_goals first
        | exact ⟨k + 1, _, by have := HLT.out; omega, by go_num, HN.out⟩
        | (simp [intOf]; omega)
    · have hke : k = o.recs.length := by omega
      subst hke
      have HL := Lib.hid hl
      obtain ⟨b0, b1, b2, b3, b4⟩ := OB.cells' hl.op
      obtain ⟨⟨r0, r1, r2, r3, r4⟩, ⟨q0, q1, q2, q3, q4⟩⟩ := Blk.cells5 hl.res
      clear hl
      go_wp2_with fail
      refine bodyPost_ret (results_row1 rfl _ _ (w.heap.size + 1) 67 #[.int .i64 o.kind, .string ⟨o.topic.toArray⟩, .string ⟨o.group.toArray⟩, .int .i64 o.off, .slice A3 o.recs.length c3] (0, 0) _ rfl (res_blk HL.out.res _ _ _ _ _) Try.underlying67 rfl size_op) rfl ?_
      exact HL.out.fin _ _ _ _ _
end Go.Proofs.Ytfdhaodgnenhcaa.Qg

/-
  Layer 8 (request): a table beside its ledger; the contracts of madeTable, madeLedger, clone.
-/
namespace Go.Proofs.Ytfdhaodgnenhcaa.Jf
set_option linter.unusedSimpArgs false
open Go Go.RowKit Ck Kw Ga Kf Pm Pe Pg Py Qb Qg Ik Lk Jm Ja Jb Jd
attribute [local go_sem ↓] Go.wp_at_zero Go.wp_at_succ
set_option linter.unusedVariables false
set_option maxRecDepth 100000

section
variable {w w' : World} {S T : Nat → Prop} {p g : Nat} {L L' : List (List UInt8)} {G G' : List Sg}
end

theorem size_req : (Try.prog.info? 69).map (·.size) = some 7 := by kernel_rfl
/-- The cells of no request, of no signed one. -/
def Z7 : Array Value := #[.int .i64 0, .int .i64 0, .int .i64 0, .string ⟨#[]⟩, .string ⟨#[]⟩, .int .i64 0, .slice none 0 0]
def Z9 : Array Value := #[.int .i64 0, .int .i64 0, .int .i64 0, .string ⟨#[]⟩, .string ⟨#[]⟩, .int .i64 0, .slice none 0 0, .int .i64 0, .int .i64 0]
theorem blk7 {w : World} {g : Nat} {t : TypeId} {a b c d e f h x0 x1 x2 x3 x4 x5 x6 : Value} (hb : Blk w g t #[a, b, c, d, e, f, h]) :
    Blk (((((((w.setCell ⟨g, 0, none⟩ x0).setCell ⟨g, 1, none⟩ x1).setCell ⟨g, 2, none⟩ x2).setCell ⟨g, 3, none⟩ x3).setCell ⟨g, 4, none⟩ x4).setCell ⟨g, 5, none⟩ x5).setCell ⟨g, 6, none⟩ x6) g t #[x0, x1, x2, x3, x4, x5, x6] := by
  have := ((((((hb.set_ 0 x0).set_ 1 x1).set_ 2 x2).set_ 3 x3).set_ 4 x4).set_ 5 x5).set_ 6 x6
  simpa using this
theorem ch5 {a w : World} {g : Nat} {x2 x3 x4 x5 x6 : Value} (h : Ch (fun k => k = g) a w) :
    Ch (fun k => k = g) a (((((w.setCell ⟨g, 2, none⟩ x2).setCell ⟨g, 3, none⟩ x3).setCell ⟨g, 4, none⟩ x4).setCell ⟨g, 5, none⟩ x5).setCell ⟨g, 6, none⟩ x6) :=
  ((((h.setCell (fun _ => rfl) _).setCell (fun _ => rfl) _).setCell (fun _ => rfl) _).setCell (fun _ => rfl) _).setCell (fun _ => rfl) _
theorem ch7 {a w : World} {g : Nat} {x0 x1 x2 x3 x4 x5 x6 : Value} (h : Ch (fun k => k = g) a w) :
    Ch (fun k => k = g) a (((((((w.setCell ⟨g, 0, none⟩ x0).setCell ⟨g, 1, none⟩ x1).setCell ⟨g, 2, none⟩ x2).setCell ⟨g, 3, none⟩ x3).setCell ⟨g, 4, none⟩ x4).setCell ⟨g, 5, none⟩ x5).setCell ⟨g, 6, none⟩ x6) :=
  ((((((h.setCell (fun _ => rfl) _).setCell (fun _ => rfl) _).setCell (fun _ => rfl) _).setCell (fun _ => rfl) _).setCell (fun _ => rfl) _).setCell (fun _ => rfl) _).setCell (fun _ => rfl) _
theorem Blk.cells7 {W : World} {g : Nat} {t : TypeId} {a b c d e f h : Value} (hb : Blk W g t #[a, b, c, d, e, f, h]) :
    (W.cell? ⟨g, 0, none⟩ = some a ∧ W.cell? ⟨g, 1, none⟩ = some b ∧ W.cell? ⟨g, 2, none⟩ = some c ∧ W.cell? ⟨g, 3, none⟩ = some d ∧ W.cell? ⟨g, 4, none⟩ = some e ∧ W.cell? ⟨g, 5, none⟩ = some f ∧ W.cell? ⟨g, 6, none⟩ = some h) ∧
    (W.frozen? ⟨g, 0, none⟩ = false ∧ W.frozen? ⟨g, 1, none⟩ = false ∧ W.frozen? ⟨g, 2, none⟩ = false ∧ W.frozen? ⟨g, 3, none⟩ = false ∧ W.frozen? ⟨g, 4, none⟩ = false ∧ W.frozen? ⟨g, 5, none⟩ = false ∧ W.frozen? ⟨g, 6, none⟩ = false) :=
  ⟨⟨hb.cell 0, hb.cell 1, hb.cell 2, hb.cell 3, hb.cell 4, hb.cell 5, hb.cell 6⟩, ⟨hb.frozen 0, hb.frozen 1, hb.frozen 2, hb.frozen 3, hb.frozen 4, hb.frozen 5, hb.frozen 6⟩⟩
/-- A request's clone. -/
def ClonedQ (w : World) (q : Q) (e : Ending) (w' : World) : Prop := ∃ A c, e = .returned (QV q A c) ∧ Ls w' (fun k => k < w.heap.size) (.slice A q.o.recs.length c) q.o.recs ∧ Below w.heap.size w w'
theorem fin {w w2 w3 : World} {q : Q} {A : Option Addr} {c : Nat} (h : Ls w2 (fun k => k < w.heap.size + 2) (.slice A q.o.recs.length c) q.o.recs) (b : Below w.heap.size w w2) (hc : Ch (fun k => w.heap.size ≤ k ∧ k < w.heap.size + 2) w2 w3) :
    ClonedQ w q (.returned (QV q A c)) w3 :=
  ⟨A, c, rfl, (h.ch hc (fun k _ hk => hk.2)).weaken (fun k _ hk => by omega), b.trans (hc.below (fun k hk h => by omega) b.size)⟩
end Go.Proofs.Ytfdhaodgnenhcaa.Jf

/-
  Layer 8 (request): the contracts of Seal and Valid.
-/
namespace Go.Proofs.Ytfdhaodgnenhcaa.Jg
set_option linter.unusedSimpArgs false
open Go Go.RowKit Ck Kw Ga Kf Pm Pe Pg Py Qb Ik Lk Ld Jm Ja Jb Jc Jd Jf
open Im (num isIn add sum)
attribute [local go_sem ↓] Go.wp_at_zero Go.wp_at_succ
set_option linter.unusedVariables false
set_option maxRecDepth 100000

/-- What Seal answers and leaves. -/
def sgOf (L : List (List UInt8)) (q : Q) : Sg := (key q.client, (sum L (qraw q) : Int))
def sealR (L : List (List UInt8)) (q : Q) : Sd × Int := if qcheck q ≠ 0 then (Sd.zero, qcheck q) else if code (sgOf L q) ≠ 0 then (Sd.zero, code (sgOf L q)) else (⟨q, sgOf L q⟩, 0)
def sealT (L : List (List UInt8)) (q : Q) : List (List UInt8) := if qcheck q ≠ 0 then L else add L (qraw q)
def sealG (L : List (List UInt8)) (G : List Sg) (q : Q) : List Sg := if qcheck q ≠ 0 then G else pay G (sgOf L q)
theorem sealR_bad {L : List (List UInt8)} {q : Q} (h : qcheck q ≠ 0) : sealR L q = (Sd.zero, qcheck q) := by rw [sealR, if_pos h]
theorem sealR_code {L : List (List UInt8)} {q : Q} (h : qcheck q = 0) (hc : code (sgOf L q) ≠ 0) : sealR L q = (Sd.zero, code (sgOf L q)) := by rw [sealR, if_neg (by omega), if_pos hc]
theorem sealR_ok {L : List (List UInt8)} {q : Q} (h : qcheck q = 0) (hc : code (sgOf L q) = 0) : sealR L q = (⟨q, sgOf L q⟩, 0) := by rw [sealR, if_neg (by omega), if_neg (by omega)]
theorem sealT_bad {L : List (List UInt8)} {q : Q} (h : qcheck q ≠ 0) : sealT L q = L := by rw [sealT, if_pos h]
theorem sealT_ok {L : List (List UInt8)} {q : Q} (h : qcheck q = 0) : sealT L q = add L (qraw q) := by rw [sealT, if_neg (by omega)]
theorem sealG_bad {L : List (List UInt8)} {G : List Sg} {q : Q} (h : qcheck q ≠ 0) : sealG L G q = G := by rw [sealG, if_pos h]
theorem sealG_ok {L : List (List UInt8)} {G : List Sg} {q : Q} (h : qcheck q = 0) : sealG L G q = pay G (sgOf L q) := by rw [sealG, if_neg (by omega)]
/-- Seal's own blocks. -/
structure SS (S : Nat → Prop) (w0 : World) (q : Q) (A : Option Addr) (c : Nat) (W : World) : Prop where
  ch : Ch S w0 W
  two : w0.heap.size + 2 ≤ W.heap.size
  req : QB W w0.heap.size q A c
  res : Blk W (w0.heap.size + 1) 71 Z9
theorem SS.step {S X : Nat → Prop} {w0 W W' : World} {q : Q} {A : Option Addr} {c : Nat} (h : SS S w0 q A c W) (k : Ch X W W') (hX : ∀ k, k < W.heap.size → X k → S k ∧ k < w0.heap.size) : SS S w0 q A c W' :=
  ⟨h.ch.trans k (fun i hi hx => (hX i (Nat.lt_of_lt_of_le hi h.ch.size) hx).1), Nat.le_trans h.two k.size, Blk.ch h.req k (fun hx => by have := (hX _ (Blk.lt h.req) hx).2; omega), Blk.ch h.res k (fun hx => by have := (hX _ (Blk.lt h.res) hx).2; omega)⟩
theorem SS.later {S : Nat → Prop} {w0 W W' : World} {q : Q} {A : Option Addr} {c : Nat} (h : SS S w0 q A c W) (b : Below W.heap.size W W') : SS S w0 q A c W' := h.step (Ch.of_below (S := fun _ => False) b (Nat.le_refl _)) (fun _ _ h => h.elim)
end Go.Proofs.Ytfdhaodgnenhcaa.Jg

/-
  Layer 8 (request): the contracts of Valid and of bullalaw08.begun.
-/
namespace Go.Proofs.Ytfdhaodgnenhcaa.Jh
set_option linter.unusedSimpArgs false
open Go Go.RowKit Ck Kw Ga Kf Pm Pe Pg Py Qb Ik Lk Ld Jm Ja Jb Jc Jd Jf Jg
open Im (num isIn add sum)
attribute [local go_sem ↓] Go.wp_at_zero Go.wp_at_succ
set_option linter.unusedVariables false
set_option maxRecDepth 100000

/-- The request that begun asks about. -/
def q0 : Q := ⟨2, 7, ⟨1, [116], [], 0, []⟩⟩
end Go.Proofs.Ytfdhaodgnenhcaa.Jh

/-
  Layer 8 (request): mathematics of what was sealed: who is valid, and the numbers of batches. No program is named here.
-/
namespace Go.Proofs.Ytfdhaodgnenhcaa.Jn
set_option linter.unusedSimpArgs false
open Im (num isIn add sum)
open Lk Ld Jm Jg
set_option linter.unusedVariables false

theorem num_add {L : List (List UInt8)} {b s : List UInt8} (h : num L s ≠ 0) : num (add L b) s = num L s := by
  unfold Im.add
  split
  · rfl
  · split
    · rfl
    · exact Im.num_left L [b] s h
theorem sum_num {L : List (List UInt8)} {b : List UInt8} (h : sum L b ≠ 0) : num (add L b) b = sum L b ∧ num (add L b) b ≠ 0 := by
  unfold Im.sum at h ⊢
  unfold Im.add
  by_cases h1 : num L b ≠ 0
  · rw [if_pos h1, if_pos h1]; exact ⟨rfl, h1⟩
  · rw [if_neg h1] at h ⊢
    rw [if_neg h1]
    by_cases h2 : 1048576 ≤ L.length
    · rw [if_pos h2] at h; exact absurd rfl h
    · rw [if_neg h2] at h ⊢
      rw [if_neg h2]
      have := Im.num_snoc L b b
      rw [if_neg h1, if_pos rfl] at this
      rw [this]
      exact ⟨rfl, by omega⟩
theorem add_full {L : List (List UInt8)} {b : List UInt8} (h : sum L b = 0) : add L b = L := by
  unfold Im.sum at h
  unfold Im.add
  by_cases h1 : num L b ≠ 0
  · rw [if_pos h1]
  · rw [if_neg h1] at h ⊢
    by_cases h2 : 1048576 ≤ L.length
    · rw [if_pos h2]
    · rw [if_neg h2] at h; omega
theorem code_ok {L : List (List UInt8)} {q : Q} (h : qcheck q = 0) : code (sgOf L q) = 0 ↔ sum L (qraw q) ≠ 0 := by
  have h1 := (qcheck_ok h).1
  have h2 := Ja.key_pos ((isC_iff q.client).2 h1)
  unfold code sgOf
  simp only
  rw [h2, if_neg (by omega)]
  by_cases h0 : sum L (qraw q) = 0
  · rw [h0, if_pos (by simp)]; simp
  · rw [if_neg (by omega)]; simp [h0]
/-- These, and just these, were sealed. -/
structure Inv (L : List (List UInt8)) (G : List Sg) (R : List Sd) : Prop where
  good : ∀ d ∈ R, qcheck d.q = 0 ∧ d.s = (key d.q.client, (num L (qraw d.q) : Int)) ∧ num L (qraw d.q) ≠ 0 ∧ d.s ∈ G
  just : ∀ s ∈ G, ∃ d ∈ R, d.s = s
/-- What is sealed with q. -/
def sealS (L : List (List UInt8)) (q : Q) (R : List Sd) : List Sd := if (sealR L q).2 = 0 then R ++ [(sealR L q).1] else R
theorem Inv.step {L : List (List UInt8)} {G : List Sg} {R : List Sd} (h : Inv L G R) (q : Q) : Inv (sealT L q) (sealG L G q) (sealS L q R) := by
  by_cases hq : qcheck q = 0
  · rw [sealT_ok hq, sealG_ok hq]
    by_cases hc : code (sgOf L q) = 0
    · have hs := (code_ok hq).1 hc
      obtain ⟨n1, n2⟩ := sum_num hs
      have hR : sealS L q R = R ++ [⟨q, sgOf L q⟩] := by rw [sealS, sealR_ok hq hc]; rfl
      have hp : pay G (sgOf L q) = if sgOf L q ∈ G then G else G ++ [sgOf L q] := by rw [pay, if_pos hc]
      have hmem : ∀ s, s ∈ pay G (sgOf L q) ↔ s ∈ G ∨ s = sgOf L q := fun s => by
        rw [hp]
        split
        · rename_i hin
          exact ⟨.inl, fun h => h.elim id (fun e => by rw [e]; exact hin)⟩
        · simp
      rw [hR]
      refine ⟨fun d hd => ?_, fun s hs2 => ?_⟩
      · rcases List.mem_append.1 hd with hd | hd
        · obtain ⟨g1, g2, g3, g4⟩ := h.good d hd
          rw [num_add g3]
          exact ⟨g1, g2, g3, (hmem _).2 (.inl g4)⟩
        · obtain rfl : d = ⟨q, sgOf L q⟩ := by simpa using hd
          refine ⟨hq, ?_, n2, (hmem _).2 (.inr rfl)⟩
          simp only
          rw [n1]
          rfl
      · rcases (hmem s).1 hs2 with hs2 | rfl
        · obtain ⟨d, hd, e⟩ := h.just s hs2
          exact ⟨d, List.mem_append_left _ hd, e⟩
        · exact ⟨⟨q, sgOf L q⟩, List.mem_append_right _ (by simp), rfl⟩
    · have hs : sum L (qraw q) = 0 := by
        by_cases h0 : sum L (qraw q) = 0
        · exact h0
        · exact absurd ((code_ok hq).2 h0) hc
      have hR : sealS L q R = R := by rw [sealS, sealR_code hq hc, if_neg (by simpa using hc)]
      have hp : pay G (sgOf L q) = G := by rw [pay, if_neg hc]
      rw [add_full hs, hR, hp]
      exact h
  · have hR : sealS L q R = R := by rw [sealS, sealR_bad hq, if_neg (by simpa using hq)]
    rw [sealT_bad hq, sealG_bad hq, hR]
    exact h
/-- A batch's number. -/
def digR (L : List (List UInt8)) (l : List Sd) : Int × Int := if bcheck l ≠ 0 then (0, bcheck l) else if sum L (braw l) = 0 then (0, 6) else ((sum L (braw l) : Int), 0)
def digT (L : List (List UInt8)) (l : List Sd) : List (List UInt8) := if bcheck l ≠ 0 then L else add L (braw l)
end Go.Proofs.Ytfdhaodgnenhcaa.Jn

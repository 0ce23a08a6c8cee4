/-
  Contracts of the program's disk: Used, Room.
-/
import Derived.Test.YtncppflmpfefkaaDc
import Derived.Sort.KeysCollected
namespace Go.Proofs.Ytncppflmpfefkaa.Dd
open Go Go.RowKit Go.Maps Ck Kw Ga Dm Dw Da Db Dc
attribute [local go_sem ↓] Go.wp_at_zero Go.wp_at_succ
set_option linter.unusedVariables false

theorem used_filter_all (L : List Fl) (P : Fl → Bool) (h : ∀ f ∈ L, P f = true) : used (L.filter P) = used L := by rw [List.filter_eq_self.2 h]
theorem used_none (L : List Fl) (P : Fl → Bool) (h : ∀ f ∈ L, P f = false) : used (L.filter P) = 0 := by
  rw [List.filter_eq_nil_iff.2 (fun f hf => by rw [h f hf]; simp)]
  rfl
theorem used_strike {L : List Fl} (hn : (L.map (·.n)).Nodup) {f : Fl} (hf : f ∈ L) (P : Tx → Bool) (hp : P f.n = true) :
    used (L.filter (fun h => P h.n)) = f.b.length + used (L.filter (fun h => P h.n && !(h.n == f.n))) := by
  induction L with
  | nil => cases hf
  | cons x L ih =>
    rw [List.map_cons, List.nodup_cons] at hn
    by_cases hx : x.n = f.n
    · have hxf : x = f := by
        rcases List.mem_cons.1 hf with h | h
        · exact h.symm
        · exact absurd (List.mem_map.2 ⟨f, h, hx.symm⟩) hn.1
      subst hxf
      have hrest : ∀ h ∈ L, (h.n == x.n) = false := fun h hh => by
        rw [beq_eq_false_iff_ne]
        intro e
        exact hn.1 (List.mem_map.2 ⟨h, hh, e⟩)
      have e1 : L.filter (fun h => P h.n && !(h.n == x.n)) = L.filter (fun h => P h.n) := List.filter_congr (fun h hh => by rw [hrest h hh]; simp)
      rw [List.filter_cons_of_pos (by exact hp), List.filter_cons_of_neg (by simp), e1]
      rfl
    · have hf' : f ∈ L := by
        rcases List.mem_cons.1 hf with h | h
        · exact absurd (by rw [h]) hx
        · exact h
      have := ih hn.2 hf'
      have hxb : (x.n == f.n) = false := by rw [beq_eq_false_iff_ne]; exact hx
      by_cases hpx : P x.n = true
      · rw [List.filter_cons_of_pos (by exact hpx), List.filter_cons_of_pos (by simp [hpx, hxb])]
        simp only [used]
        omega
      · rw [List.filter_cons_of_neg (by exact hpx), List.filter_cons_of_neg (by simp [hpx])]
        exact this

theorem sameKey_str (a b : Tx) : (Lit.string a).sameKey (.string b) = (a == b) := by simp [Lit.sameKey]
theorem pv_at {c : Option Nat} {y : DataW Unit × List MemPlace} {g : Nat} (h : ptrElem (PV c) = some y) (hy : y.1 = .lit (.int .i64 (g : Int))) : c = some g := by
  cases c with
  | none =>
    have h' : ptrElem (.pointer none) = some y := h
    rw [ptrElem_nil] at h'
    injection h' with h'
    rw [← h'] at hy
    cases hy
  | some k =>
    have h' : ptrElem (.pointer (some ⟨k, 0, none⟩)) = some y := h
    rw [ptrElem_mk] at h'
    injection h' with h'
    rw [← h'] at hy
    simp at hy
    have : k = g := by omega
    rw [this]

/-- The next step of a loop over a disk's files. -/
theorem wpList_next_files (w : World) {ops : Array Oper} {rest : List Oper} {o : Oper} {a : Act} {Q : Exit → Act → World → Prop} (hg : o.guard = none) (it : Operand) (hop : o.op = Op.next it false)
    (b r n : Nat) (D : DataW Unit) (left : Lit → Bool) (cnt : Nat) (L : List Fl) (G : Tx → Nat) (hT : TellsD D L G)
    (hit : a.eval it = .pointer (some ⟨r, 0, none⟩)) (h : w.ranges Try.prog 9 ptrElem b r n D left cnt)
    (hDone : (∀ s : Tx, left (.string s) = false) → wpList Try.prog ops Q rest (a.put o.dst (.tuple #[.bool false])) w)
    (hMore : ∀ (f : Fl) (w' : World) (cnt' : Nat), f ∈ L → left (.string f.n) = true → w'.ranges Try.prog 9 ptrElem b r n D (fun z => left z && !z.sameKey (.string f.n)) cnt' → cnt' < cnt →
      w.grownBy w' (some r) → w'.heap.size = w.heap.size → (Instr.entry (.pointer (some ⟨r, 0, none⟩))).run Try.prog w' = .ok (.tuple #[.string ⟨f.n.toArray⟩, .pointer (some ⟨G f.n, 0, none⟩)]) w' → wpList Try.prog ops Q rest (a.put o.dst (.tuple #[.bool true, .string ⟨f.n.toArray⟩, .pointer (some ⟨G f.n, 0, none⟩)])) w') :
    wpList Try.prog ops Q (o :: rest) a w := by
  refine wpList_next_ranges w hg it hop 9 law_str ptrElem encStr PV (fun key kl hk => by obtain ⟨x, hx, _⟩ := Maps.keyOf_str Try.underlying9 hk; exact ⟨x, hx⟩) (fun v y hv => by obtain ⟨c, hc, _⟩ := ptrElem_inv hv; exact ⟨c, hc⟩) b r n D left cnt hit h (fun _ h0 => hDone (fun s => h0 _)) ?_
  intro x c kl y w' cnt' hkey hlk hv hat hrg hlt hgr hsz hen
  obtain ⟨x', ex, rfl, _⟩ := Maps.keyOf_str Try.underlying9 hkey
  obtain rfl : x = x' := encStr_inj ex
  have hin : isIn L x = true := by rw [← hT.1 x]; exact has_true_of_atKey hat
  obtain ⟨f, hf, rfl⟩ := isIn_iff.1 hin
  have hy : y.1 = .lit (.int .i64 (G f.n : Int)) := by rw [← hat .nil]; exact hT.2 f hf _
  obtain rfl := pv_at hv hy
  exact hMore f w' cnt' hf hlk hrg hlt hgr hsz hen

set_option maxRecDepth 100000 in
set_option maxHeartbeats 1000000 in
theorem used_on (w : World) (S : Nat → Prop) (p : Nat) (L : List Fl) (room : Nat) (off : Bool) (h : Dk w S p L room off) :
    Calls Try.prog 25 #[.pointer (some ⟨p, 0, none⟩)] w fun e w' => e = .returned (.int .i64 (used L : Int)) ∧ Below w.heap.size w w' := by
  have HM := Lib.hid (made_on w S p L room off h)
  obtain ⟨m, D, G, T, hP⟩ := h.opened
  have c0 : w.cell? ⟨p, 0, none⟩ = some (.map (some m)) := hP.blk.cell 0
  have hfit := hP.good.fits
  have hroom := hP.good.room
  have hin : ∀ f ∈ L, Maps.has D (.string f.n) = true := fun f hf => by rw [hP.tells.1]; exact isIn_iff.2 ⟨f, hf, rfl⟩
  have hstart := used_filter_all L (fun f => Maps.has D (.string f.n)) hin
  have HP := Lib.hid hP
  have HS := Lib.hid hstart
  clear h hP hin hstart
  go_enter Try.func25, Try.ntmps25
  go_wp2_with (first
    | (go_at_call 47; refine HM.out.mono ?_; rintro e w' ⟨rfl, rfl⟩)
    | (at_range; refine wpList_range_own _ rfl _ 60 rfl 9 69 law_str Try.underlying60 _ m 64 D rfl HP.out.own ?_; intro w0 hrg0 hg0 hs0))
  have hb0 : Below w.heap.size w w0 := below_of_grown hg0 (fun k hk => by cases hk)
  clear hg0 hs0
  go_frame
  go_loopw [3] (fun i wr => ∃ (left : Lit → Bool) (cnt acc : Nat), i = .int .i64 (acc : Int) ∧ acc + used (L.filter (fun f => left (.string f.n))) = used L ∧ wr.ranges Try.prog 9 ptrElem m w.heap.size 64 D left cnt ∧ Below w.heap.size w wr)
    (fun _ wr => wr.rangeLeft m w.heap.size)
  case atStart => exact ⟨_, _, 0, rfl, by rw [HS.out]; omega, hrg0, hb0⟩
  case round =>
    obtain ⟨left, cnt, acc, rfl, hacc, hrg, hbw⟩ := hrel
    go_wp2_with (at_next; refine wpList_next_files _ rfl _ rfl m w.heap.size 64 D left cnt L G HP.out.tells rfl hrg ?_ ?_)
    · intro h0
      have he : acc = used L := by rw [used_none L _ (fun f _ => h0 f.n)] at hacc; omega
      subst he
      clear hacc hrg
      go_wp2
      go_ret
      exact ⟨rfl, hbw⟩
    · intro f w1 cnt1 hf hl hrg1 hlt hg1 hs1 hen
      have hb1 : Below w.heap.size w w1 := hbw.grown hg1 hbw.size (fun g hg => by cases hg; exact Nat.le_refl _)
      have hst := used_strike HP.out.good.nodup hf (fun s => left (.string s)) hl
      obtain ⟨v, k1, ho, -⟩ := (HP.out.later hb1).file f hf
      obtain ⟨A, c, rfl⟩ := own_shape ho
      have d0 : w1.cell? ⟨G f.n, 0, none⟩ = some (.slice A f.b.length c) := k1.cell 0
      have hacc' : acc + f.b.length + used (L.filter (fun h => left (.string h.n) && !(h.n == f.n))) = used L := by
        have : used (L.filter (fun h => left (.string h.n))) = _ := hst
        omega
      have HA := Lib.hid hacc'
      have hbd : acc + f.b.length ≤ 4194304 := by omega
      have HR := Lib.hid hrg1
      have HRO := Lib.hid hrg
      clear hst k1 ho hacc hacc' hg1 hs1 hl hrg1 hrg
      go_wp2
      go_roundw
      case rel => exact ⟨_, cnt1, acc + f.b.length, by go_num, by simp only [sameKey_str]; exact HA.out, HR.out, hb1⟩
      case measure => rw [HR.out.left_eq, HRO.out.left_eq]; exact hlt

theorem used_un (w : World) (v : Value) (h : Un w v) : Calls Try.prog 25 #[v] w fun e w' => e = .returned (.int .i64 0) ∧ w = w' := by
  have H := Lib.hid h
  clear h
  go_enter Try.func25, Try.ntmps25
  go_wp2_with (go_at_call 47; refine (made_un _ _ H.out).mono ?_; rintro e w' ⟨rfl, rfl⟩)
  go_ret
  exact ⟨rfl, rfl⟩
theorem room_un (w : World) (v : Value) (h : Un w v) : Calls Try.prog 31 #[v] w fun e w' => e = .returned (.int .i64 0) ∧ w = w' := by
  have H := Lib.hid h
  clear h
  go_enter Try.func31, Try.ntmps31
  go_wp2_with (go_at_call 47; refine (made_un _ _ H.out).mono ?_; rintro e w' ⟨rfl, rfl⟩)
  go_ret
  exact ⟨rfl, rfl⟩
set_option maxHeartbeats 1000000 in
theorem room_on (w : World) (S : Nat → Prop) (p : Nat) (L : List Fl) (room : Nat) (off : Bool) (h : Dk w S p L room off) :
    Calls Try.prog 31 #[.pointer (some ⟨p, 0, none⟩)] w fun e w' => e = .returned (.int .i64 ((room : Int) - (used L : Int))) ∧ Below w.heap.size w w' := by
  have HM := Lib.hid (made_on w S p L room off h)
  have HU := Lib.hid (used_on w.drew S p L room off (h.drewN 1))
  obtain ⟨m, D, G, T, hP⟩ := h.opened
  have c1 : w.cell? ⟨p, 1, none⟩ = some (.int .i64 (room : Int)) := hP.blk.cell 1
  have hfit := hP.good.fits
  have hroom := hP.good.room
  have HP := Lib.hid hP
  clear h hP
  have hw1 : IntKind.i64.wrap ((room : Int) - (used L : Int)) = (room : Int) - (used L : Int) := wrap64 (by omega) (by omega)
  go_enter Try.func31, Try.ntmps31
  go_wp2_with (go_at_call 47; refine HM.out.mono ?_; rintro e w' ⟨rfl, rfl⟩)
  go_region_held3 (fun w' => w'.cell? ⟨p, 1, none⟩ = some (.int .i64 (room : Int))) (first | exact c1 | exact j1)
    (first
    | (go_at_call 25; refine HU.out.mono ?_; rintro e w1 ⟨rfl, hb1⟩; have j1 : w1.cell? ⟨p, 1, none⟩ = some (.int .i64 (room : Int)) := (HP.out.later (below_of_drew hb1)).blk.cell 1))
  all_goals
    go_wp2
    go_ret
    exact ⟨rfl, below_of_drew hb1⟩

end Go.Proofs.Ytncppflmpfefkaa.Dd

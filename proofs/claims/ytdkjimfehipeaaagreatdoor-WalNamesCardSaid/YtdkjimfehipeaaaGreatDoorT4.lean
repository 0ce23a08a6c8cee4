import Derived.Test.YtdkjimfehipeaaaGreatDoorT3
import Derived.Sort.KeysCollected
/-
  Contracts of the program's disk: Used, Room.
-/
namespace Go.Proofs.YtdkjimfehipeaaaGreatDoor.Dd
open Go Go.RowKit Go.Maps Ck Kw Ga Dm Dw Da Db Dc
attribute [local go_sem ↓] Go.wp_at_zero Go.wp_at_succ
set_option linter.unusedVariables false

theorem used_filter_all (L : List Fl) (P : Fl → Bool) (h : ∀ f ∈ L, P f = true) : used (L.filter P) = used L := by rw [List.filter_eq_self.2 h]
theorem used_none (L : List Fl) (P : Fl → Bool) (h : ∀ f ∈ L, P f = false) : used (L.filter P) = 0 := by
  rw [List.filter_eq_nil_iff.2 (fun f hf => by rw [h f hf]; simp)]
  rfl
theorem used_strike {L : List Fl} (hn : (L.map (·.n)).Nodup) {f : Fl} (hf : f ∈ L) (P : Tx → Bool) (hp : P f.n = true) :
    used (L.filter (fun h => P h.n)) = f.b.length + used (L.filter (fun h => P h.n && !(h.n == f.n))) := by
  induction L with
  | nil => cases hf
  | cons x L ih =>
    rw [List.map_cons, List.nodup_cons] at hn
    by_cases hx : x.n = f.n
    · have hxf : x = f := by
        rcases List.mem_cons.1 hf with h | h
        · exact h.symm
        · exact absurd (List.mem_map.2 ⟨f, h, hx.symm⟩) hn.1
      subst hxf
      have hrest : ∀ h ∈ L, (h.n == x.n) = false := fun h hh => by
        rw [beq_eq_false_iff_ne]
        intro e
        exact hn.1 (List.mem_map.2 ⟨h, hh, e⟩)
      have e1 : L.filter (fun h => P h.n && !(h.n == x.n)) = L.filter (fun h => P h.n) := List.filter_congr (fun h hh => by rw [hrest h hh]; simp)
      rw [List.filter_cons_of_pos (by exact hp), List.filter_cons_of_neg (by simp), e1]
      rfl
    · have hf' : f ∈ L := by
        rcases List.mem_cons.1 hf with h | h
        · exact absurd (by rw [h]) hx
        · exact h
      have := ih hn.2 hf'
      have hxb : (x.n == f.n) = false := by rw [beq_eq_false_iff_ne]; exact hx
      by_cases hpx : P x.n = true
      · rw [List.filter_cons_of_pos (by exact hpx), List.filter_cons_of_pos (by simp [hpx, hxb])]
        simp only [used]
        omega
      · rw [List.filter_cons_of_neg (by exact hpx), List.filter_cons_of_neg (by simp [hpx])]
        exact this

theorem sameKey_str (a b : Tx) : (Lit.string a).sameKey (.string b) = (a == b) := by simp [Lit.sameKey]
theorem pv_at {c : Option Nat} {y : DataW Unit × List MemPlace} {g : Nat} (h : ptrElem (PV c) = some y) (hy : y.1 = .lit (.int .i64 (g : Int))) : c = some g := by
  cases c with
  | none =>
    have h' : ptrElem (.pointer none) = some y := h
    rw [ptrElem_nil] at h'
    injection h' with h'
    rw [← h'] at hy
    cases hy
  | some k =>
    have h' : ptrElem (.pointer (some ⟨k, 0, none⟩)) = some y := h
    rw [ptrElem_mk] at h'
    injection h' with h'
    rw [← h'] at hy
    simp at hy
    have : k = g := by omega
    rw [this]

/-- The next step of a loop over a disk's files. -/
theorem wpList_next_files (w : World) {ops : Array Oper} {rest : List Oper} {o : Oper} {a : Act} {Q : Exit → Act → World → Prop} (hg : o.guard = none) (it : Operand) (hop : o.op = Op.next it false)
    (b r n : Nat) (D : DataW Unit) (left : Lit → Bool) (cnt : Nat) (L : List Fl) (G : Tx → Nat) (hT : TellsD D L G)
    (hit : a.eval it = .pointer (some ⟨r, 0, none⟩)) (h : w.ranges Tryz.prog 9 ptrElem b r n D left cnt)
    (hDone : (∀ s : Tx, left (.string s) = false) → wpList Tryz.prog ops Q rest (a.put o.dst (.tuple #[.bool false])) w)
    (hMore : ∀ (f : Fl) (w' : World) (cnt' : Nat), f ∈ L → left (.string f.n) = true → w'.ranges Tryz.prog 9 ptrElem b r n D (fun z => left z && !z.sameKey (.string f.n)) cnt' → cnt' < cnt →
      w.grownBy w' (some r) → w'.heap.size = w.heap.size → (Instr.entry (.pointer (some ⟨r, 0, none⟩))).run Tryz.prog w' = .ok (.tuple #[.string ⟨f.n.toArray⟩, .pointer (some ⟨G f.n, 0, none⟩)]) w' → wpList Tryz.prog ops Q rest (a.put o.dst (.tuple #[.bool true, .string ⟨f.n.toArray⟩, .pointer (some ⟨G f.n, 0, none⟩)])) w') :
    wpList Tryz.prog ops Q (o :: rest) a w := by
  refine wpList_next_ranges w hg it hop 9 law_str ptrElem encStr PV (fun key kl hk => by obtain ⟨x, hx, _⟩ := Maps.keyOf_str Tryz.underlying9 hk; exact ⟨x, hx⟩) (fun v y hv => by obtain ⟨c, hc, _⟩ := ptrElem_inv hv; exact ⟨c, hc⟩) b r n D left cnt hit h (fun _ h0 => hDone (fun s => h0 _)) ?_
  intro x c kl y w' cnt' hkey hlk hv hat hrg hlt hgr hsz hen
  obtain ⟨x', ex, rfl, _⟩ := Maps.keyOf_str Tryz.underlying9 hkey
  obtain rfl : x = x' := encStr_inj ex
  have hin : isIn L x = true := by rw [← hT.1 x]; exact has_true_of_atKey hat
  obtain ⟨f, hf, rfl⟩ := isIn_iff.1 hin
  have hy : y.1 = .lit (.int .i64 (G f.n : Int)) := by rw [← hat .nil]; exact hT.2 f hf _
  obtain rfl := pv_at hv hy
  exact hMore f w' cnt' hf hlk hrg hlt hgr hsz hen

set_option maxRecDepth 100000 in
set_option maxHeartbeats 16000000 in
theorem used_on (w : World) (S : Nat → Prop) (p : Nat) (L : List Fl) (room : Nat) (off : Bool) (h : Dk w S p L room off) :
    Calls Tryz.prog 30 #[.pointer (some ⟨p, 0, none⟩)] w fun e w' => e = .returned (.int .i64 (used L : Int)) ∧ Below w.heap.size w w' := by
  have HM := Lib.hid (made_on w S p L room off h)
  obtain ⟨m, D, G, T, hP⟩ := h.opened
  have c0 : w.cell? ⟨p, 0, none⟩ = some (.map (some m)) := hP.blk.cell 0
  have hfit := hP.good.fits
  have hroom := hP.good.room
  have hin : ∀ f ∈ L, Maps.has D (.string f.n) = true := fun f hf => by rw [hP.tells.1]; exact isIn_iff.2 ⟨f, hf, rfl⟩
  have hstart := used_filter_all L (fun f => Maps.has D (.string f.n)) hin
  have HP := Lib.hid hP
  have HS := Lib.hid hstart
  clear h hP hin hstart
  go_enter Tryz.func30, Tryz.ntmps30
  go_wp2_with (first
    | (go_at_call 64; refine HM.out.mono ?_; rintro e w' ⟨rfl, rfl⟩)
    | (at_range; refine wpList_range_own _ rfl _ 84 rfl 9 102 law_str Tryz.underlying84 _ m 64 D rfl HP.out.own ?_; intro w0 hrg0 hg0 hs0))
  have hb0 : Below w.heap.size w w0 := below_of_grown hg0 (fun k hk => by cases hk)
  clear hg0 hs0
  go_frame
  go_loopw [3] (fun i wr => ∃ (left : Lit → Bool) (cnt acc : Nat), i = .int .i64 (acc : Int) ∧ acc + used (L.filter (fun f => left (.string f.n))) = used L ∧ wr.ranges Tryz.prog 9 ptrElem m w.heap.size 64 D left cnt ∧ Below w.heap.size w wr)
    (fun _ wr => wr.rangeLeft m w.heap.size)
  case atStart => exact ⟨_, _, 0, rfl, by rw [HS.out]; omega, hrg0, hb0⟩
  case round =>
    obtain ⟨left, cnt, acc, rfl, hacc, hrg, hbw⟩ := hrel
    go_wp2_with (at_next; refine wpList_next_files _ rfl _ rfl m w.heap.size 64 D left cnt L G HP.out.tells rfl hrg ?_ ?_)
    · intro h0
      have he : acc = used L := by rw [used_none L _ (fun f _ => h0 f.n)] at hacc; omega
      subst he
      clear hacc hrg
      go_wp2
      go_ret
      exact ⟨rfl, hbw⟩
    · intro f w1 cnt1 hf hl hrg1 hlt hg1 hs1 hen
      have hb1 : Below w.heap.size w w1 := hbw.grown hg1 hbw.size (fun g hg => by cases hg; exact Nat.le_refl _)
      have hst := used_strike HP.out.good.nodup hf (fun s => left (.string s)) hl
      obtain ⟨v, k1, ho, -⟩ := (HP.out.later hb1).file f hf
      obtain ⟨A, c, rfl⟩ := own_shape ho
      have d0 : w1.cell? ⟨G f.n, 0, none⟩ = some (.slice A f.b.length c) := k1.cell 0
      have hacc' : acc + f.b.length + used (L.filter (fun h => left (.string h.n) && !(h.n == f.n))) = used L := by
        have : used (L.filter (fun h => left (.string h.n))) = _ := hst
        omega
      have HA := Lib.hid hacc'
      have hbd : acc + f.b.length ≤ 4194304 := by omega
      have HR := Lib.hid hrg1
      have HRO := Lib.hid hrg
      clear hst k1 ho hacc hacc' hg1 hs1 hl hrg1 hrg
      go_wp2
      go_roundw
      case rel => exact ⟨_, cnt1, acc + f.b.length, by go_num, by simp only [sameKey_str]; exact HA.out, HR.out, hb1⟩
      case measure => rw [HR.out.left_eq, HRO.out.left_eq]; exact hlt

theorem used_un (w : World) (v : Value) (h : Un w v) : Calls Tryz.prog 30 #[v] w fun e w' => e = .returned (.int .i64 0) ∧ w = w' := by
  have H := Lib.hid h
  clear h
  go_enter Tryz.func30, Tryz.ntmps30
  go_wp2_with (go_at_call 64; refine (made_un _ _ H.out).mono ?_; rintro e w' ⟨rfl, rfl⟩)
  go_ret
  exact ⟨rfl, rfl⟩
theorem room_un (w : World) (v : Value) (h : Un w v) : Calls Tryz.prog 101 #[v] w fun e w' => e = .returned (.int .i64 0) ∧ w = w' := by
  have H := Lib.hid h
  clear h
  go_enter Tryz.func101, Tryz.ntmps101
  go_wp2_with (go_at_call 64; refine (made_un _ _ H.out).mono ?_; rintro e w' ⟨rfl, rfl⟩)
  go_ret
  exact ⟨rfl, rfl⟩
set_option maxHeartbeats 16000000 in
theorem room_on (w : World) (S : Nat → Prop) (p : Nat) (L : List Fl) (room : Nat) (off : Bool) (h : Dk w S p L room off) :
    Calls Tryz.prog 101 #[.pointer (some ⟨p, 0, none⟩)] w fun e w' => e = .returned (.int .i64 ((room : Int) - (used L : Int))) ∧ Below w.heap.size w w' := by
  have HM := Lib.hid (made_on w S p L room off h)
  have HU := Lib.hid (used_on w.drew S p L room off (h.drewN 1))
  obtain ⟨m, D, G, T, hP⟩ := h.opened
  have c1 : w.cell? ⟨p, 1, none⟩ = some (.int .i64 (room : Int)) := hP.blk.cell 1
  have hfit := hP.good.fits
  have hroom := hP.good.room
  have HP := Lib.hid hP
  clear h hP
  have hw1 : IntKind.i64.wrap ((room : Int) - (used L : Int)) = (room : Int) - (used L : Int) := wrap64 (by omega) (by omega)
  go_enter Tryz.func101, Tryz.ntmps101
  go_wp2_with (go_at_call 64; refine HM.out.mono ?_; rintro e w' ⟨rfl, rfl⟩)
  go_region_held3 (fun w' => w'.cell? ⟨p, 1, none⟩ = some (.int .i64 (room : Int))) (first | exact c1 | exact j1)
    (first
    | (go_at_call 30; refine HU.out.mono ?_; rintro e w1 ⟨rfl, hb1⟩; have j1 : w1.cell? ⟨p, 1, none⟩ = some (.int .i64 (room : Int)) := (HP.out.later (below_of_drew hb1)).blk.cell 1))
  all_goals
    go_wp2
    go_ret
    exact ⟨rfl, below_of_drew hb1⟩

end Go.Proofs.YtdkjimfehipeaaaGreatDoor.Dd

/-
  Contracts of the program's disk: put, Append, Write.
-/
namespace Go.Proofs.YtdkjimfehipeaaaGreatDoor.De
open Go Go.RowKit Go.Maps Ck Kw Ga Dm Dw Da Db Dc Dd
attribute [local go_sem ↓] Go.wp_at_zero Go.wp_at_succ
set_option linter.unusedVariables false

theorem isIn_names (L K : List Fl) (h : L.map (·.n) = K.map (·.n)) (s : Tx) : isIn L s = isIn K s := by
  have e : ∀ M : List Fl, isIn M s = (M.map (·.n)).any (· == s) := fun M => by rw [List.any_map]; rfl
  rw [e, e, h]
theorem mem_upd {L : List Fl} {s : Tx} {g : Fl → Fl} {f : Fl} (h : f ∈ upd L s g) : ∃ f0 ∈ L, f = if f0.n = s then g f0 else f0 := by
  obtain ⟨f0, h0, e⟩ := List.mem_map.1 h
  exact ⟨f0, h0, e.symm⟩
theorem upd_other {L : List Fl} {s : Tx} {g : Fl → Fl} (h : ∀ f ∈ L, f.n ≠ s) : upd L s g = L := by
  unfold upd
  rw [List.map_congr_left (g := id) (fun f hf => by rw [if_neg (h f hf)]; rfl), List.map_id]
theorem used_upd {L : List Fl} (hn : (L.map (·.n)).Nodup) {f : Fl} (hf : f ∈ L) (g : Fl → Fl) : used (upd L f.n g) + f.b.length = used L + (g f).b.length := by
  induction L with
  | nil => cases hf
  | cons x L ih =>
    rw [List.map_cons, List.nodup_cons] at hn
    by_cases hx : x.n = f.n
    · have hxf : x = f := by
        rcases List.mem_cons.1 hf with h | h
        · exact h.symm
        · exact absurd (List.mem_map.2 ⟨f, h, hx.symm⟩) hn.1
      subst hxf
      have : upd L x.n g = L := upd_other (fun h hh e => hn.1 (List.mem_map.2 ⟨h, hh, e⟩))
      show used ((if x.n = x.n then g x else x) :: upd L x.n g) + _ = _
      rw [this, if_pos rfl]
      simp only [used]
      omega
    · have hf' : f ∈ L := by
        rcases List.mem_cons.1 hf with h | h
        · exact absurd (by rw [h]) hx
        · exact h
      have := ih hn.2 hf'
      show used ((if x.n = f.n then g x else x) :: upd L f.n g) + _ = _
      rw [if_neg hx]
      simp only [used]
      omega

/-- A file of other bytes. -/
def setf (b : Tx) (d : Nat) (f : Fl) : Fl := ⟨f.n, b, d⟩
theorem good_upd {L : List Fl} {room : Nat} (h : GoodL L room) {f : Fl} (hf : f ∈ L) {b : Tx} {d : Nat} (hd : d ≤ b.length) (hu : used (upd L f.n (setf b d)) ≤ room) : GoodL (upd L f.n (setf b d)) room := by
  refine ⟨by rw [upd_names (g := setf b d) (fun _ => rfl)]; exact h.nodup, by simpa [upd] using h.few, hu, h.room, fun x hx => ?_, fun x hx => ?_⟩
  · obtain ⟨f0, h0, rfl⟩ := mem_upd hx
    split
    · exact h.name f0 h0
    · exact h.name f0 h0
  · obtain ⟨f0, h0, rfl⟩ := mem_upd hx
    split
    · exact hd
    · exact h.done f0 h0
theorem parts_put {w w' : World} {S : Nat → Prop} {p m room : Nat} {L : List Fl} {off : Bool} {D : DataW Unit} {G : Tx → Nat} {T : Tx → Nat → Prop} (h : Parts w S p m L room off D G T) {f : Fl} (hf : f ∈ L) {b : Tx} {d : Nat}
    (hF : Fw w' (Up (T f.n) w w') (G f.n) b d) (c : Ch (T f.n) w w') (hu : used (upd L f.n (setf b d)) ≤ room) :
    Parts w' (Up S w w') p m (upd L f.n (setf b d)) room off D G (fun s => if s = f.n then Up (T f.n) w w' else T s) := by
  have hnm := upd_names (L := L) (s := f.n) (g := setf b d) (fun _ => rfl)
  have hplt : p < w.heap.size := h.blk.lt
  have hmlt : m < w.heap.size := h.own.lt
  have hle : d ≤ b.length := by obtain ⟨v, _, _, _, _, _, h6⟩ := hF; exact h6
  refine ⟨h.blk.ch c (fun hk => (h.sub f hf _ hk).2.1 rfl), .inl h.sp, map_ch h.own c (fun hk => (h.sub f hf _ hk).2.2.1 rfl), ⟨fun s => ?_, fun x hx zd => ?_⟩, ⟨.inl h.sm.1, h.sm.2⟩, fun x hx => ?_, fun x hx k hk => ?_, fun x hx y hy hne k hk hk' => ?_, good_upd h.good hf hle hu⟩
  · rw [h.tells.1 s]
    exact isIn_names _ _ hnm.symm s
  · obtain ⟨f0, h0, rfl⟩ := mem_upd hx
    have e : (if f0.n = f.n then setf b d f0 else f0).n = f0.n := by split <;> rfl
    rw [e]
    exact h.tells.2 f0 h0 zd
  · obtain ⟨f0, h0, rfl⟩ := mem_upd hx
    by_cases hn : f0.n = f.n
    · rw [if_pos hn]
      show Fw w' (if f0.n = f.n then _ else _) (G f0.n) b d
      rw [if_pos hn, hn]
      exact hF
    · rw [if_neg hn]
      simp only [if_neg hn]
      exact (h.file f0 h0).ch c (fun k h1 h2 => h.apart f0 h0 f hf hn k h1 h2)
  · obtain ⟨f0, h0, rfl⟩ := mem_upd hx
    have e : (if f0.n = f.n then setf b d f0 else f0).n = f0.n := by split <;> rfl
    simp only [e] at hk
    by_cases hn : f0.n = f.n
    · rw [if_pos hn] at hk
      rcases hk with hk | ⟨h1, h2⟩
      · have := h.sub f hf k hk
        exact ⟨.inl this.1, this.2.1, this.2.2.1, Nat.lt_of_lt_of_le this.2.2.2 c.size⟩
      · exact ⟨.inr ⟨h1, h2⟩, by omega, by omega, h2⟩
    · rw [if_neg hn] at hk
      have := h.sub f0 h0 k hk
      exact ⟨.inl this.1, this.2.1, this.2.2.1, Nat.lt_of_lt_of_le this.2.2.2 c.size⟩
  · obtain ⟨f0, h0, rfl⟩ := mem_upd hx
    obtain ⟨f1, h1, rfl⟩ := mem_upd hy
    have e : ∀ z : Fl, (if z.n = f.n then setf b d z else z).n = z.n := fun z => by split <;> rfl
    simp only [e] at hk hk' hne
    by_cases hn0 : f0.n = f.n
    · by_cases hn1 : f1.n = f.n
      · exact hne (hn0.trans hn1.symm)
      · rw [if_pos hn0] at hk
        rw [if_neg hn1] at hk'
        rcases hk with hk | ⟨g1, g2⟩
        · exact h.apart f hf f1 h1 (fun e => hn1 e.symm) k hk hk'
        · have := (h.sub f1 h1 k hk').2.2.2
          omega
    · by_cases hn1 : f1.n = f.n
      · rw [if_neg hn0] at hk
        rw [if_pos hn1] at hk'
        rcases hk' with hk' | ⟨g1, g2⟩
        · exact h.apart f0 h0 f hf hn0 k hk hk'
        · have := (h.sub f0 h0 k hk).2.2.2
          omega
      · rw [if_neg hn0] at hk
        rw [if_neg hn1] at hk'
        exact h.apart f0 h0 f1 h1 hne k hk hk'

/-- Bytes put into a file from k on, if there is room. -/
def putS (L : List Fl) (room : Nat) (f : Fl) (k : Nat) (x : Tx) : List Fl × Nat :=
  if room + f.b.length < x.length + used L + k then (L, 30) else (upd L f.n (setf (wr f.b k x) (min f.d k)), 0)
def appS (L : List Fl) (room : Nat) (off : Bool) (s : Tx) (x : Tx) : List Fl × Nat :=
  if off then (L, 32) else match find L s with | none => (L, 4) | some f => putS L room f f.b.length x
def writeS (L : List Fl) (room : Nat) (off : Bool) (s : Tx) (z : Int) (x : Tx) : List Fl × Nat :=
  if off then (L, 32) else match find L s with | none => (L, 4) | some f => if z < 0 ∨ (f.b.length : Int) < z then (L, 1) else putS L room f z.toNat x
/-- What a call leaves that answers a code. -/
def Did (S : Nat → Prop) (p : Nat) (r : List Fl × Nat) (room : Nat) (off : Bool) (w : World) (e : Ending) (w' : World) : Prop :=
  e = .returned (.int .i64 (r.2 : Int)) ∧ Dk w' (Up S w w') p r.1 room off ∧ Ch S w w'
theorem did_refl {S : Nat → Prop} {p : Nat} {L : List Fl} {c room : Nat} {off : Bool} {w : World} (h : Dk w S p L room off) : Did S p (L, c) room off w (.returned (.int .i64 (c : Int))) w :=
  ⟨rfl, h.weaken (fun k hk => .inl hk), Ch.refl _ _⟩
theorem did_later {S : Nat → Prop} {p : Nat} {L : List Fl} {c room : Nat} {off : Bool} {w w' : World} (h : Dk w S p L room off) (b : Below w.heap.size w w') : Did S p (L, c) room off w (.returned (.int .i64 (c : Int))) w' :=
  ⟨rfl, (h.later b).weaken (fun k hk => .inl hk), Ch.of_below b (Nat.le_refl _)⟩

set_option maxRecDepth 100000 in
set_option maxHeartbeats 16000000 in
theorem put_on (w : World) (S X : Nat → Prop) (p m : Nat) (L : List Fl) (room : Nat) (D : DataW Unit) (G : Tx → Nat) (T : Tx → Nat → Prop) (h : Parts w S p m L room false D G T) (f : Fl) (hf : f ∈ L) (k : Nat) (hk : k ≤ f.b.length) (x : Tx) (B : Option Addr) (c : Nat)
    (hx : Sl w X 1 (.slice B x.length c) x.length (BVs x)) (hX : ∀ k, S k → X k) (hxl : x.length ≤ 140737488355328) :
    Calls Tryz.prog 69 #[.pointer (some ⟨p, 0, none⟩), .pointer (some ⟨G f.n, 0, none⟩), .int .i64 (k : Int), .slice B x.length c] w (Did S p (putS L room f k x) room false w) := by
  have HR := Lib.hid (room_on w.drew S p L room false (h.shut.drewN 1))
  have hF := h.file f hf
  obtain ⟨v, k1, ho, -, -, hfl, -⟩ := hF
  obtain ⟨A, c1, rfl⟩ := own_shape ho
  have c0 : w.cell? ⟨G f.n, 0, none⟩ = some (.slice A f.b.length c1) := k1.cell 0
  have hfit := h.good.fits
  have hroom := h.good.room
  have hw1 : IntKind.i64.wrap ((((room : Int) - (used L : Int)) + (f.b.length : Int)) - (k : Int)) = (((room : Int) - (used L : Int)) + (f.b.length : Int)) - (k : Int) := wrap64 (by omega) (by omega)
  have hw2 : IntKind.i64.wrap (((room : Int) - (used L : Int)) + (f.b.length : Int)) = ((room : Int) - (used L : Int)) + (f.b.length : Int) := wrap64 (by omega) (by omega)
  have HP := Lib.hid h
  have HX := Lib.hid (And.intro hx hX)
  have HK := Lib.hid hk
  have HFL := Lib.hid hfl
  have hG : Hid (∀ w1, Below w.drew.heap.size w.drew w1 → Blk w1 (G f.n) 108 #[.slice A f.b.length c1, .int .i64 (f.d : Int)]) := Lib.hid fun w1 hb => k1.below (below_of_drew hb) k1.lt
  by_cases hov : room + f.b.length < x.length + used L + k
  · have e : putS L room f k x = (L, 30) := by rw [putS, if_pos hov]
    have hgt : (((room : Int) - (used L : Int)) + (f.b.length : Int)) - (k : Int) < (x.length : Int) := by omega
    rw [e]
    clear h hx hX k1 ho hk hov e
    go_enter Tryz.func69, Tryz.ntmps69
    go_wp2_with fail
    go_region_held3 (fun w' => w'.cell? ⟨G f.n, 0, none⟩ = some (.slice A f.b.length c1)) (first | exact c0 | exact j0)
      (first
      | (go_at_call 101; refine HR.out.mono ?_; rintro e w1 ⟨rfl, hb1⟩; have j0 := (hG.out _ hb1).cell 0; simp only [List.getElem?_toArray, List.getElem?_cons_zero] at j0))
    all_goals
      go_wp2
      go_ret
      exact did_later HP.out.shut (below_of_drew hb1)
  · have e : putS L room f k x = (upd L f.n (setf (wr f.b k x) (min f.d k)), 0) := by rw [putS, if_neg hov]
    have hle : (x.length : Int) ≤ (((room : Int) - (used L : Int)) + (f.b.length : Int)) - (k : Int) := by omega
    have hnl := wr_len f.b k x hk
    have hu0 := used_upd h.good.nodup hf (setf (wr f.b k x) (min f.d k))
    have hum := used_mem hf
    have hu : used (upd L f.n (setf (wr f.b k x) (min f.d k))) ≤ room := by
      have : (setf (wr f.b k x) (min f.d k) f).b.length = (wr f.b k x).length := rfl
      omega
    have HU := Lib.hid hu
    have hkx : k + x.length ≤ 4194304 := by omega
    rw [e]
    clear h hx hX k1 ho hk hov e hnl hu0 hum hu
    go_enter Tryz.func69, Tryz.ntmps69
    go_wp2_with fail
    go_region_held3 (fun w' => w'.cell? ⟨G f.n, 0, none⟩ = some (.slice A f.b.length c1)) (first | exact c0 | exact j0)
      (first
      | (go_at_call 101; refine HR.out.mono ?_; rintro e w1 ⟨rfl, hb1⟩; have j0 := (hG.out _ hb1).cell 0; simp only [List.getElem?_toArray, List.getElem?_cons_zero] at j0))
    all_goals
      have hb1 := below_of_drew hb1
      have hP1 := HP.out.later hb1
      have HP1 := Lib.hid hP1
      have HB1 := Lib.hid hb1
      clear hP1 hb1
      go_wp2_with (go_at_call 102; refine (fput_any _ (T f.n) X (G f.n) f.d k f.b x B c HK.out (HP1.out.file f hf) (HX.out.1.after HB1.out) (fun q hq => HX.out.2 q (HP1.out.sub f hf q hq).1) hkx).mono ?_; rintro e w2 ⟨rfl, hF2, hC2⟩)
      go_ret
      have hP2 := parts_put HP1.out hf hF2 hC2 HU.out
      have hs1 := HB1.out.size
      refine ⟨rfl, hP2.shut.weaken (fun q hq => ?_), (Ch.of_below HB1.out (Nat.le_refl _)).trans (hC2.mono (T := S) (fun q _ hq => (HP1.out.sub f hf q hq).1)) (fun _ _ h => h)⟩
      rcases hq with hq | ⟨g1, g2⟩
      · exact .inl hq
      · exact .inr ⟨by omega, g2⟩

end Go.Proofs.YtdkjimfehipeaaaGreatDoor.De

/-
  Contracts of the program's disk: Append, Write, Sync, Truncate, Synced, Get.
-/
namespace Go.Proofs.YtdkjimfehipeaaaGreatDoor.Df
open Go Go.RowKit Go.Maps Ck Kw Ga Dm Dw Da Db Dc Dd De
attribute [local go_sem ↓] Go.wp_at_zero Go.wp_at_succ
set_option linter.unusedVariables false

/-- find, at a file that there is. -/
theorem find_in (w : World) (S : Nat → Prop) (p m : Nat) (L : List Fl) (room : Nat) (D : DataW Unit) (G : Tx → Nat) (T : Tx → Nat → Prop) (s : Tx) (hs : s.length ≤ 140737488355328) (h : Parts w S p m L room false D G T) (f : Fl) (hf : find L s = some f) :
    Calls Tryz.prog 68 #[.pointer (some ⟨p, 0, none⟩), .string ⟨s.toArray⟩] w fun e w' => e = .returned (.tuple #[.pointer (some ⟨G f.n, 0, none⟩), .int .i64 0]) ∧ w = w' := by
  have hc := find_on w S p m L room D G T s hs h
  have hi : isIn L s = true := by rw [isIn_find, hf]; rfl
  rw [hi, if_pos rfl, if_pos rfl, ← (find_some hf).2] at hc
  rw [← (find_some hf).2]
  exact hc
theorem find_out (w : World) (S : Nat → Prop) (p : Nat) (L : List Fl) (room : Nat) (s : Tx) (hs : s.length ≤ 140737488355328) (h : Dk w S p L room false) (hf : find L s = none) :
    Calls Tryz.prog 68 #[.pointer (some ⟨p, 0, none⟩), .string ⟨s.toArray⟩] w fun e w' => e = .returned (.tuple #[.pointer none, .int .i64 4]) ∧ w = w' := by
  obtain ⟨m, D, G, T, hP⟩ := h.opened
  have hc := find_on w S p m L room D G T s hs hP
  have hi : isIn L s = false := by rw [isIn_find, hf]; rfl
  rw [hi, if_neg (by simp), if_neg (by simp)] at hc
  exact hc
/-- find, where nothing comes of it. -/
theorem find_no (w : World) (S : Nat → Prop) (p : Nat) (L : List Fl) (room : Nat) (off : Bool) (s : Tx) (hs : s.length ≤ 140737488355328) (h : Dk w S p L room off) (c : Nat) (hc : (off = true ∧ c = 32) ∨ (off = false ∧ find L s = none ∧ c = 4)) :
    Calls Tryz.prog 68 #[.pointer (some ⟨p, 0, none⟩), .string ⟨s.toArray⟩] w fun e w' => e = .returned (.tuple #[.pointer none, .int .i64 (c : Int)]) ∧ w = w' := by
  rcases hc with ⟨rfl, rfl⟩ | ⟨rfl, hf, rfl⟩
  · exact find_off w S p L room _ h
  · exact find_out w S p L room s hs h hf
/-- What find may come to. -/
theorem find_cases (L : List Fl) (off : Bool) (s : Tx) : (∃ c : Nat, 2 < c ∧ c < 100 ∧ ((off = true ∧ c = 32) ∨ (off = false ∧ find L s = none ∧ c = 4))) ∨ (off = false ∧ ∃ f, find L s = some f) := by
  cases off
  · cases h : find L s with
    | none => exact .inl ⟨4, by omega, by omega, .inr ⟨rfl, rfl, rfl⟩⟩
    | some f => exact .inr ⟨rfl, f, rfl⟩
  · exact .inl ⟨32, by omega, by omega, .inl ⟨rfl, rfl⟩⟩

theorem app_no {L : List Fl} {room : Nat} {off : Bool} {s x : Tx} {c : Nat} (hc : (off = true ∧ c = 32) ∨ (off = false ∧ find L s = none ∧ c = 4)) : appS L room off s x = (L, c) := by
  rcases hc with ⟨rfl, rfl⟩ | ⟨rfl, hf, rfl⟩
  · rfl
  · rw [appS, hf]; rfl
theorem write_no {L : List Fl} {room : Nat} {off : Bool} {s x : Tx} {z : Int} {c : Nat} (hc : (off = true ∧ c = 32) ∨ (off = false ∧ find L s = none ∧ c = 4)) : writeS L room off s z x = (L, c) := by
  rcases hc with ⟨rfl, rfl⟩ | ⟨rfl, hf, rfl⟩
  · rfl
  · rw [writeS, hf]; rfl

theorem write_some {L : List Fl} {room : Nat} {s x : Tx} {z : Int} {f : Fl} (hf : find L s = some f) : writeS L room false s z x = if z < 0 ∨ (f.b.length : Int) < z then (L, 1) else putS L room f z.toNat x := by
  rw [writeS, hf]; rfl

set_option maxHeartbeats 16000000 in
theorem append_on (w : World) (S X : Nat → Prop) (p : Nat) (L : List Fl) (room : Nat) (off : Bool) (s : Tx) (hs : s.length ≤ 140737488355328) (h : Dk w S p L room off) (x : Tx) (B : Option Addr) (c : Nat)
    (hx : Sl w X 1 (.slice B x.length c) x.length (BVs x)) (hX : ∀ k, S k → X k) (hxl : x.length ≤ 140737488355328) :
    Calls Tryz.prog 55 #[.pointer (some ⟨p, 0, none⟩), .string ⟨s.toArray⟩, .slice B x.length c] w (Did S p (appS L room off s x) room off w) := by
  rcases find_cases L off s with ⟨q, hq1, hq2, hq⟩ | ⟨rfl, f, hf⟩
  · have HF := Lib.hid (find_no w S p L room off s hs h q hq)
    have H := Lib.hid h
    rw [app_no hq]
    have hne : ((q : Int) == 0) = false := by rw [beq_eq_false_iff_ne]; omega
    clear h hq hx hX
    go_enter Tryz.func55, Tryz.ntmps55
    go_wp2_with (go_at_call 68; refine HF.out.mono ?_; rintro e w' ⟨rfl, rfl⟩)
    go_ret
    exact did_refl H.out
  · have e : appS L room false s x = putS L room f f.b.length x := by rw [appS, hf]; rfl
    rw [e]
    obtain ⟨m, D, G, T, hP⟩ := h.opened
    have hfm := (find_some hf).1
    have HF := Lib.hid (find_in w S p m L room D G T s hs hP f hf)
    have HPU := Lib.hid (put_on w S X p m L room D G T hP f hfm f.b.length (Nat.le_refl _) x B c hx hX hxl)
    obtain ⟨v, k1, ho, -⟩ := hP.file f hfm
    obtain ⟨A, c1, rfl⟩ := own_shape ho
    have c0 : w.cell? ⟨G f.n, 0, none⟩ = some (.slice A f.b.length c1) := k1.cell 0
    clear h hP hx hX k1 ho hf e
    go_enter Tryz.func55, Tryz.ntmps55
    go_wp2_with (first
      | (go_at_call 68; refine HF.out.mono ?_; rintro e w' ⟨rfl, rfl⟩)
      | (go_at_call 69; refine HPU.out.mono ?_; rintro e w2 ⟨rfl, hD2⟩))
    go_ret
    exact ⟨rfl, hD2⟩

set_option maxHeartbeats 16000000 in
theorem write_on (w : World) (S X : Nat → Prop) (p : Nat) (L : List Fl) (room : Nat) (off : Bool) (s : Tx) (hs : s.length ≤ 140737488355328) (h : Dk w S p L room off) (z : Int) (x : Tx) (B : Option Addr) (c : Nat)
    (hx : Sl w X 1 (.slice B x.length c) x.length (BVs x)) (hX : ∀ k, S k → X k) (hxl : x.length ≤ 140737488355328) :
    Calls Tryz.prog 33 #[.pointer (some ⟨p, 0, none⟩), .string ⟨s.toArray⟩, .int .i64 z, .slice B x.length c] w (Did S p (writeS L room off s z x) room off w) := by
  rcases find_cases L off s with ⟨q, hq1, hq2, hq⟩ | ⟨rfl, f, hf⟩
  · have HF := Lib.hid (find_no w S p L room off s hs h q hq)
    have H := Lib.hid h
    rw [write_no hq]
    have hne : ((q : Int) == 0) = false := by rw [beq_eq_false_iff_ne]; omega
    clear h hq hx hX
    go_enter Tryz.func33, Tryz.ntmps33
    go_wp2_with (go_at_call 68; refine HF.out.mono ?_; rintro e w' ⟨rfl, rfl⟩)
    go_ret
    exact did_refl H.out
  · have H := Lib.hid h
    obtain ⟨m, D, G, T, hP⟩ := h.opened
    have hfm := (find_some hf).1
    have HF := Lib.hid (find_in w S p m L room D G T s hs hP f hf)
    have HPU : ∀ k : Nat, k ≤ f.b.length → _ := fun k hk => put_on w S X p m L room D G T hP f hfm k hk x B c hx hX hxl
    have HPU := Lib.hid HPU
    obtain ⟨v, k1, ho, -⟩ := hP.file f hfm
    obtain ⟨A, c1, rfl⟩ := own_shape ho
    have c0 : w.cell? ⟨G f.n, 0, none⟩ = some (.slice A f.b.length c1) := k1.cell 0
    by_cases h0 : z < 0
    · have e : writeS L room false s z x = (L, 1) := by rw [write_some hf, if_pos (.inl h0)]
      rw [e]
      clear h hP hx hX k1 ho hf e
      go_enter Tryz.func33, Tryz.ntmps33
      go_wp2_with (go_at_call 68; refine HF.out.mono ?_; rintro e w' ⟨rfl, rfl⟩)
      go_ret
      exact did_refl H.out
    · by_cases h1 : (f.b.length : Int) < z
      · have e : writeS L room false s z x = (L, 1) := by rw [write_some hf, if_pos (.inr h1)]
        rw [e]
        clear h hP hx hX k1 ho hf e
        go_enter Tryz.func33, Tryz.ntmps33
        go_wp2_with (go_at_call 68; refine HF.out.mono ?_; rintro e w' ⟨rfl, rfl⟩)
        go_ret
        exact did_refl H.out
      · obtain ⟨k, rfl⟩ : ∃ k : Nat, z = (k : Int) := ⟨z.toNat, by omega⟩
        have e : writeS L room false s (k : Int) x = putS L room f k x := by
          rw [write_some hf, if_neg (by omega)]
          rfl
        rw [e]
        have HK := Lib.hid (show k ≤ f.b.length by omega)
        clear h hP hx hX k1 ho hf e
        go_enter Tryz.func33, Tryz.ntmps33
        go_wp2_with (first
          | (go_at_call 68; refine HF.out.mono ?_; rintro e w' ⟨rfl, rfl⟩)
          | (go_at_call 69; refine (HPU.out k HK.out).mono ?_; rintro e w2 ⟨rfl, hD2⟩))
        go_ret
        exact ⟨rfl, hD2⟩

/-- What is written of a file in its place. -/
def updS (L : List Fl) (off : Bool) (s : Tx) (g : Fl → Fl) : List Fl × Nat := if off then (L, 32) else match find L s with | none => (L, 4) | some f => (upd L f.n (setf (g f).b (g f).d), 0)
def truncS (L : List Fl) (off : Bool) (s : Tx) (z : Int) : List Fl × Nat :=
  if off then (L, 32) else match find L s with | none => (L, 4) | some f => if z < 0 ∨ (f.b.length : Int) < z then (L, 1) else (upd L f.n (setf (f.b.take z.toNat) (min f.d z.toNat)), 0)
def syncS (L : List Fl) (off : Bool) (s : Tx) : List Fl × Nat := if off then (L, 32) else match find L s with | none => (L, 4) | some f => (upd L f.n (setf f.b f.b.length), 0)
theorem sync_no {L : List Fl} {off : Bool} {s : Tx} {c : Nat} (hc : (off = true ∧ c = 32) ∨ (off = false ∧ find L s = none ∧ c = 4)) : syncS L off s = (L, c) := by
  rcases hc with ⟨rfl, rfl⟩ | ⟨rfl, hf, rfl⟩
  · rfl
  · rw [syncS, hf]; rfl
theorem trunc_no {L : List Fl} {off : Bool} {s : Tx} {z : Int} {c : Nat} (hc : (off = true ∧ c = 32) ∨ (off = false ∧ find L s = none ∧ c = 4)) : truncS L off s z = (L, c) := by
  rcases hc with ⟨rfl, rfl⟩ | ⟨rfl, hf, rfl⟩
  · rfl
  · rw [truncS, hf]; rfl
theorem trunc_some {L : List Fl} {s : Tx} {z : Int} {f : Fl} (hf : find L s = some f) : truncS L false s z = if z < 0 ∨ (f.b.length : Int) < z then (L, 1) else (upd L f.n (setf (f.b.take z.toNat) (min f.d z.toNat)), 0) := by
  rw [truncS, hf]; rfl
theorem used_le {L : List Fl} (hn : (L.map (·.n)).Nodup) {f : Fl} (hf : f ∈ L) {b : Tx} {d : Nat} (hb : b.length ≤ f.b.length) : used (upd L f.n (setf b d)) ≤ used L := by
  have h1 := used_upd hn hf (setf b d)
  have h2 : (setf b d f).b.length = b.length := rfl
  omega

theorem sync_on (w : World) (S : Nat → Prop) (p : Nat) (L : List Fl) (room : Nat) (off : Bool) (s : Tx) (hs : s.length ≤ 140737488355328) (h : Dk w S p L room off) :
    Calls Tryz.prog 34 #[.pointer (some ⟨p, 0, none⟩), .string ⟨s.toArray⟩] w (Did S p (syncS L off s) room off w) := by
  rcases find_cases L off s with ⟨q, hq1, hq2, hq⟩ | ⟨rfl, f, hf⟩
  · have HF := Lib.hid (find_no w S p L room off s hs h q hq)
    have H := Lib.hid h
    rw [sync_no hq]
    have hne : ((q : Int) == 0) = false := by rw [beq_eq_false_iff_ne]; omega
    clear h hq
    go_enter Tryz.func34, Tryz.ntmps34
    go_wp2_with (go_at_call 68; refine HF.out.mono ?_; rintro e w' ⟨rfl, rfl⟩)
    go_ret
    exact did_refl H.out
  · have e : syncS L false s = (upd L f.n (setf f.b f.b.length), 0) := by rw [syncS, hf]; rfl
    rw [e]
    obtain ⟨m, D, G, T, hP⟩ := h.opened
    have HF := Lib.hid (find_in w S p m L room D G T s hs hP f hf)
    have hf := (find_some hf).1
    have HP := Lib.hid hP
    have HM := Lib.hid hf
    clear h hP hf e
    go_enter Tryz.func34, Tryz.ntmps34
    go_wp2_with (first
      | (go_at_call 68; refine HF.out.mono ?_; rintro e w' ⟨rfl, rfl⟩)
      | (go_at_call 70; refine (fsync_any _ _ _ _ _ (HP.out.file f HM.out)).mono ?_; rintro e w2 ⟨rfl, hF2, hC2⟩))
    go_ret
    have hu := used_le HP.out.good.nodup HM.out (b := f.b) (d := f.b.length) (Nat.le_refl _)
    exact ⟨rfl, (parts_put HP.out HM.out (hF2.weaken (fun k hk => .inl hk)) hC2 (Nat.le_trans hu HP.out.good.fits)).shut, hC2.mono (fun q _ hq => (HP.out.sub f HM.out q hq).1)⟩

set_option maxHeartbeats 16000000 in
theorem trunc_on (w : World) (S : Nat → Prop) (p : Nat) (L : List Fl) (room : Nat) (off : Bool) (s : Tx) (hs : s.length ≤ 140737488355328) (h : Dk w S p L room off) (z : Int) :
    Calls Tryz.prog 124 #[.pointer (some ⟨p, 0, none⟩), .string ⟨s.toArray⟩, .int .i64 z] w (Did S p (truncS L off s z) room off w) := by
  rcases find_cases L off s with ⟨q, hq1, hq2, hq⟩ | ⟨rfl, f, hf⟩
  · have HF := Lib.hid (find_no w S p L room off s hs h q hq)
    have H := Lib.hid h
    rw [trunc_no hq]
    have hne : ((q : Int) == 0) = false := by rw [beq_eq_false_iff_ne]; omega
    clear h hq
    go_enter Tryz.func124, Tryz.ntmps124
    go_wp2_with (go_at_call 68; refine HF.out.mono ?_; rintro e w' ⟨rfl, rfl⟩)
    go_ret
    exact did_refl H.out
  · obtain ⟨m, D, G, T, hP⟩ := h.opened
    have HF := Lib.hid (find_in w S p m L room D G T s hs hP f hf)
    have hfm := (find_some hf).1
    have HP := Lib.hid hP
    have HM := Lib.hid hfm
    have H := Lib.hid h
    obtain ⟨v, k1, ho, -⟩ := hP.file f hfm
    obtain ⟨A, c1, rfl⟩ := own_shape ho
    have c0 : w.cell? ⟨G f.n, 0, none⟩ = some (.slice A f.b.length c1) := k1.cell 0
    by_cases h0 : z < 0
    · have e : truncS L false s z = (L, 1) := by rw [trunc_some hf, if_pos (.inl h0)]
      rw [e]
      clear h hP k1 ho hf e hfm
      go_enter Tryz.func124, Tryz.ntmps124
      go_wp2_with (go_at_call 68; refine HF.out.mono ?_; rintro e w' ⟨rfl, rfl⟩)
      go_ret
      exact did_refl H.out
    · by_cases h1 : (f.b.length : Int) < z
      · have e : truncS L false s z = (L, 1) := by rw [trunc_some hf, if_pos (.inr h1)]
        rw [e]
        clear h hP k1 ho hf e hfm
        go_enter Tryz.func124, Tryz.ntmps124
        go_wp2_with (go_at_call 68; refine HF.out.mono ?_; rintro e w' ⟨rfl, rfl⟩)
        go_ret
        exact did_refl H.out
      · obtain ⟨k, rfl⟩ : ∃ k : Nat, z = (k : Int) := ⟨z.toNat, by omega⟩
        have e : truncS L false s (k : Int) = (upd L f.n (setf (f.b.take k) (min f.d k)), 0) := by
          rw [trunc_some hf, if_neg (by omega)]
          rfl
        rw [e]
        have HK := Lib.hid (show k ≤ f.b.length by omega)
        clear h hP k1 ho hf e hfm
        go_enter Tryz.func124, Tryz.ntmps124
        go_wp2_with (first
          | (go_at_call 68; refine HF.out.mono ?_; rintro e w' ⟨rfl, rfl⟩)
          | (go_at_call 99; refine (fcut_any _ _ _ _ _ k HK.out (HP.out.file f HM.out)).mono ?_; rintro e w2 ⟨rfl, hF2, hC2⟩))
        go_ret
        have hu := used_le HP.out.good.nodup HM.out (b := f.b.take k) (d := min f.d k) (by rw [List.length_take]; omega)
        exact ⟨rfl, (parts_put HP.out HM.out hF2 hC2 (Nat.le_trans hu HP.out.good.fits)).shut, hC2.mono (fun q _ hq => (HP.out.sub f HM.out q hq).1)⟩

end Go.Proofs.YtdkjimfehipeaaaGreatDoor.Df

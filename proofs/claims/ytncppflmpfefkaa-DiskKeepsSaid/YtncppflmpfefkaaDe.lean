/-
  Contracts of the program's disk: put, Append, Write.
-/
import Derived.Test.YtncppflmpfefkaaDd
namespace Go.Proofs.Ytncppflmpfefkaa.De
open Go Go.RowKit Go.Maps Ck Kw Ga Dm Dw Da Db Dc Dd
attribute [local go_sem ↓] Go.wp_at_zero Go.wp_at_succ
set_option linter.unusedVariables false

theorem isIn_names (L K : List Fl) (h : L.map (·.n) = K.map (·.n)) (s : Tx) : isIn L s = isIn K s := by
  have e : ∀ M : List Fl, isIn M s = (M.map (·.n)).any (· == s) := fun M => by rw [List.any_map]; rfl
  rw [e, e, h]
theorem mem_upd {L : List Fl} {s : Tx} {g : Fl → Fl} {f : Fl} (h : f ∈ upd L s g) : ∃ f0 ∈ L, f = if f0.n = s then g f0 else f0 := by
  obtain ⟨f0, h0, e⟩ := List.mem_map.1 h
  exact ⟨f0, h0, e.symm⟩
theorem upd_other {L : List Fl} {s : Tx} {g : Fl → Fl} (h : ∀ f ∈ L, f.n ≠ s) : upd L s g = L := by
  unfold upd
  rw [List.map_congr_left (g := id) (fun f hf => by rw [if_neg (h f hf)]; rfl), List.map_id]
theorem used_upd {L : List Fl} (hn : (L.map (·.n)).Nodup) {f : Fl} (hf : f ∈ L) (g : Fl → Fl) : used (upd L f.n g) + f.b.length = used L + (g f).b.length := by
  induction L with
  | nil => cases hf
  | cons x L ih =>
    rw [List.map_cons, List.nodup_cons] at hn
    by_cases hx : x.n = f.n
    · have hxf : x = f := by
        rcases List.mem_cons.1 hf with h | h
        · exact h.symm
        · exact absurd (List.mem_map.2 ⟨f, h, hx.symm⟩) hn.1
      subst hxf
      have : upd L x.n g = L := upd_other (fun h hh e => hn.1 (List.mem_map.2 ⟨h, hh, e⟩))
      show used ((if x.n = x.n then g x else x) :: upd L x.n g) + _ = _
      rw [this, if_pos rfl]
      simp only [used]
      omega
    · have hf' : f ∈ L := by
        rcases List.mem_cons.1 hf with h | h
        · exact absurd (by rw [h]) hx
        · exact h
      have := ih hn.2 hf'
      show used ((if x.n = f.n then g x else x) :: upd L f.n g) + _ = _
      rw [if_neg hx]
      simp only [used]
      omega

/-- A file of other bytes. -/
def setf (b : Tx) (d : Nat) (f : Fl) : Fl := ⟨f.n, b, d⟩
theorem good_upd {L : List Fl} {room : Nat} (h : GoodL L room) {f : Fl} (hf : f ∈ L) {b : Tx} {d : Nat} (hd : d ≤ b.length) (hu : used (upd L f.n (setf b d)) ≤ room) : GoodL (upd L f.n (setf b d)) room := by
  refine ⟨by rw [upd_names (g := setf b d) (fun _ => rfl)]; exact h.nodup, by simpa [upd] using h.few, hu, h.room, fun x hx => ?_, fun x hx => ?_⟩
  · obtain ⟨f0, h0, rfl⟩ := mem_upd hx
    split
    · exact h.name f0 h0
    · exact h.name f0 h0
  · obtain ⟨f0, h0, rfl⟩ := mem_upd hx
    split
    · exact hd
    · exact h.done f0 h0
theorem parts_put {w w' : World} {S : Nat → Prop} {p m room : Nat} {L : List Fl} {off : Bool} {D : DataW Unit} {G : Tx → Nat} {T : Tx → Nat → Prop} (h : Parts w S p m L room off D G T) {f : Fl} (hf : f ∈ L) {b : Tx} {d : Nat}
    (hF : Fw w' (Up (T f.n) w w') (G f.n) b d) (c : Ch (T f.n) w w') (hu : used (upd L f.n (setf b d)) ≤ room) :
    Parts w' (Up S w w') p m (upd L f.n (setf b d)) room off D G (fun s => if s = f.n then Up (T f.n) w w' else T s) := by
  have hnm := upd_names (L := L) (s := f.n) (g := setf b d) (fun _ => rfl)
  have hplt : p < w.heap.size := h.blk.lt
  have hmlt : m < w.heap.size := h.own.lt
  have hle : d ≤ b.length := by obtain ⟨v, _, _, _, _, _, h6⟩ := hF; exact h6
  refine ⟨h.blk.ch c (fun hk => (h.sub f hf _ hk).2.1 rfl), .inl h.sp, map_ch h.own c (fun hk => (h.sub f hf _ hk).2.2.1 rfl), ⟨fun s => ?_, fun x hx zd => ?_⟩, ⟨.inl h.sm.1, h.sm.2⟩, fun x hx => ?_, fun x hx k hk => ?_, fun x hx y hy hne k hk hk' => ?_, good_upd h.good hf hle hu⟩
  · rw [h.tells.1 s]
    exact isIn_names _ _ hnm.symm s
  · obtain ⟨f0, h0, rfl⟩ := mem_upd hx
    have e : (if f0.n = f.n then setf b d f0 else f0).n = f0.n := by split <;> rfl
    rw [e]
    exact h.tells.2 f0 h0 zd
  · obtain ⟨f0, h0, rfl⟩ := mem_upd hx
    by_cases hn : f0.n = f.n
    · rw [if_pos hn]
      show Fw w' (if f0.n = f.n then _ else _) (G f0.n) b d
      rw [if_pos hn, hn]
      exact hF
    · rw [if_neg hn]
      simp only [if_neg hn]
      exact (h.file f0 h0).ch c (fun k h1 h2 => h.apart f0 h0 f hf hn k h1 h2)
  · obtain ⟨f0, h0, rfl⟩ := mem_upd hx
    have e : (if f0.n = f.n then setf b d f0 else f0).n = f0.n := by split <;> rfl
    simp only [e] at hk
    by_cases hn : f0.n = f.n
    · rw [if_pos hn] at hk
      rcases hk with hk | ⟨h1, h2⟩
      · have := h.sub f hf k hk
        exact ⟨.inl this.1, this.2.1, this.2.2.1, Nat.lt_of_lt_of_le this.2.2.2 c.size⟩
      · exact ⟨.inr ⟨h1, h2⟩, by omega, by omega, h2⟩
    · rw [if_neg hn] at hk
      have := h.sub f0 h0 k hk
      exact ⟨.inl this.1, this.2.1, this.2.2.1, Nat.lt_of_lt_of_le this.2.2.2 c.size⟩
  · obtain ⟨f0, h0, rfl⟩ := mem_upd hx
    obtain ⟨f1, h1, rfl⟩ := mem_upd hy
    have e : ∀ z : Fl, (if z.n = f.n then setf b d z else z).n = z.n := fun z => by split <;> rfl
    simp only [e] at hk hk' hne
    by_cases hn0 : f0.n = f.n
    · by_cases hn1 : f1.n = f.n
      · exact hne (hn0.trans hn1.symm)
      · rw [if_pos hn0] at hk
        rw [if_neg hn1] at hk'
        rcases hk with hk | ⟨g1, g2⟩
        · exact h.apart f hf f1 h1 (fun e => hn1 e.symm) k hk hk'
        · have := (h.sub f1 h1 k hk').2.2.2
          omega
    · by_cases hn1 : f1.n = f.n
      · rw [if_neg hn0] at hk
        rw [if_pos hn1] at hk'
        rcases hk' with hk' | ⟨g1, g2⟩
        · exact h.apart f0 h0 f hf hn0 k hk hk'
        · have := (h.sub f0 h0 k hk).2.2.2
          omega
      · rw [if_neg hn0] at hk
        rw [if_neg hn1] at hk'
        exact h.apart f0 h0 f1 h1 hne k hk hk'

/-- Bytes put into a file from k on, if there is room. -/
def putS (L : List Fl) (room : Nat) (f : Fl) (k : Nat) (x : Tx) : List Fl × Nat :=
  if room + f.b.length < x.length + used L + k then (L, 30) else (upd L f.n (setf (wr f.b k x) (min f.d k)), 0)
def appS (L : List Fl) (room : Nat) (off : Bool) (s : Tx) (x : Tx) : List Fl × Nat :=
  if off then (L, 32) else match find L s with | none => (L, 4) | some f => putS L room f f.b.length x
def writeS (L : List Fl) (room : Nat) (off : Bool) (s : Tx) (z : Int) (x : Tx) : List Fl × Nat :=
  if off then (L, 32) else match find L s with | none => (L, 4) | some f => if z < 0 ∨ (f.b.length : Int) < z then (L, 1) else putS L room f z.toNat x
/-- What a call leaves that answers a code. -/
def Did (S : Nat → Prop) (p : Nat) (r : List Fl × Nat) (room : Nat) (off : Bool) (w : World) (e : Ending) (w' : World) : Prop :=
  e = .returned (.int .i64 (r.2 : Int)) ∧ Dk w' (Up S w w') p r.1 room off ∧ Ch S w w'
theorem did_refl {S : Nat → Prop} {p : Nat} {L : List Fl} {c room : Nat} {off : Bool} {w : World} (h : Dk w S p L room off) : Did S p (L, c) room off w (.returned (.int .i64 (c : Int))) w :=
  ⟨rfl, h.weaken (fun k hk => .inl hk), Ch.refl _ _⟩
theorem did_later {S : Nat → Prop} {p : Nat} {L : List Fl} {c room : Nat} {off : Bool} {w w' : World} (h : Dk w S p L room off) (b : Below w.heap.size w w') : Did S p (L, c) room off w (.returned (.int .i64 (c : Int))) w' :=
  ⟨rfl, (h.later b).weaken (fun k hk => .inl hk), Ch.of_below b (Nat.le_refl _)⟩

set_option maxRecDepth 100000 in
set_option maxHeartbeats 2000000 in
theorem put_on (w : World) (S X : Nat → Prop) (p m : Nat) (L : List Fl) (room : Nat) (D : DataW Unit) (G : Tx → Nat) (T : Tx → Nat → Prop) (h : Parts w S p m L room false D G T) (f : Fl) (hf : f ∈ L) (k : Nat) (hk : k ≤ f.b.length) (x : Tx) (B : Option Addr) (c : Nat)
    (hx : Sl w X 1 (.slice B x.length c) x.length (BVs x)) (hX : ∀ k, S k → X k) (hxl : x.length ≤ 140737488355328) :
    Calls Try.prog 51 #[.pointer (some ⟨p, 0, none⟩), .pointer (some ⟨G f.n, 0, none⟩), .int .i64 (k : Int), .slice B x.length c] w (Did S p (putS L room f k x) room false w) := by
  have HR := Lib.hid (room_on w.drew S p L room false (h.shut.drewN 1))
  have hF := h.file f hf
  obtain ⟨v, k1, ho, -, -, hfl, -⟩ := hF
  obtain ⟨A, c1, rfl⟩ := own_shape ho
  have c0 : w.cell? ⟨G f.n, 0, none⟩ = some (.slice A f.b.length c1) := k1.cell 0
  have hfit := h.good.fits
  have hroom := h.good.room
  have hw1 : IntKind.i64.wrap ((((room : Int) - (used L : Int)) + (f.b.length : Int)) - (k : Int)) = (((room : Int) - (used L : Int)) + (f.b.length : Int)) - (k : Int) := wrap64 (by omega) (by omega)
  have hw2 : IntKind.i64.wrap (((room : Int) - (used L : Int)) + (f.b.length : Int)) = ((room : Int) - (used L : Int)) + (f.b.length : Int) := wrap64 (by omega) (by omega)
  have HP := Lib.hid h
  have HX := Lib.hid (And.intro hx hX)
  have HK := Lib.hid hk
  have HFL := Lib.hid hfl
  have hG : Hid (∀ w1, Below w.drew.heap.size w.drew w1 → Blk w1 (G f.n) 73 #[.slice A f.b.length c1, .int .i64 (f.d : Int)]) := Lib.hid fun w1 hb => k1.below (below_of_drew hb) k1.lt
  by_cases hov : room + f.b.length < x.length + used L + k
  · have e : putS L room f k x = (L, 30) := by rw [putS, if_pos hov]
    have hgt : (((room : Int) - (used L : Int)) + (f.b.length : Int)) - (k : Int) < (x.length : Int) := by omega
    rw [e]
    clear h hx hX k1 ho hk hov e
    go_enter Try.func51, Try.ntmps51
    go_wp2_with fail
    go_region_held3 (fun w' => w'.cell? ⟨G f.n, 0, none⟩ = some (.slice A f.b.length c1)) (first | exact c0 | exact j0)
      (first
      | (go_at_call 31; refine HR.out.mono ?_; rintro e w1 ⟨rfl, hb1⟩; have j0 := (hG.out _ hb1).cell 0; simp only [List.getElem?_toArray, List.getElem?_cons_zero] at j0))
    all_goals
      go_wp2
      go_ret
      exact did_later HP.out.shut (below_of_drew hb1)
  · have e : putS L room f k x = (upd L f.n (setf (wr f.b k x) (min f.d k)), 0) := by rw [putS, if_neg hov]
    have hle : (x.length : Int) ≤ (((room : Int) - (used L : Int)) + (f.b.length : Int)) - (k : Int) := by omega
    have hnl := wr_len f.b k x hk
    have hu0 := used_upd h.good.nodup hf (setf (wr f.b k x) (min f.d k))
    have hum := used_mem hf
    have hu : used (upd L f.n (setf (wr f.b k x) (min f.d k))) ≤ room := by
      have : (setf (wr f.b k x) (min f.d k) f).b.length = (wr f.b k x).length := rfl
      omega
    have HU := Lib.hid hu
    have hkx : k + x.length ≤ 4194304 := by omega
    rw [e]
    clear h hx hX k1 ho hk hov e hnl hu0 hum hu
    go_enter Try.func51, Try.ntmps51
    go_wp2_with fail
    go_region_held3 (fun w' => w'.cell? ⟨G f.n, 0, none⟩ = some (.slice A f.b.length c1)) (first | exact c0 | exact j0)
      (first
      | (go_at_call 31; refine HR.out.mono ?_; rintro e w1 ⟨rfl, hb1⟩; have j0 := (hG.out _ hb1).cell 0; simp only [List.getElem?_toArray, List.getElem?_cons_zero] at j0))
    all_goals
      have hb1 := below_of_drew hb1
      have hP1 := HP.out.later hb1
      have HP1 := Lib.hid hP1
      have HB1 := Lib.hid hb1
      clear hP1 hb1
      go_wp2_with (go_at_call 60; refine (fput_any _ (T f.n) X (G f.n) f.d k f.b x B c HK.out (HP1.out.file f hf) (HX.out.1.after HB1.out) (fun q hq => HX.out.2 q (HP1.out.sub f hf q hq).1) hkx).mono ?_; rintro e w2 ⟨rfl, hF2, hC2⟩)
      go_ret
      have hP2 := parts_put HP1.out hf hF2 hC2 HU.out
      have hs1 := HB1.out.size
      refine ⟨rfl, hP2.shut.weaken (fun q hq => ?_), (Ch.of_below HB1.out (Nat.le_refl _)).trans (hC2.mono (T := S) (fun q _ hq => (HP1.out.sub f hf q hq).1)) (fun _ _ h => h)⟩
      rcases hq with hq | ⟨g1, g2⟩
      · exact .inl hq
      · exact .inr ⟨by omega, g2⟩

end Go.Proofs.Ytncppflmpfefkaa.De

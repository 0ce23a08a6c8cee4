/-
  Contracts of the program's disk: put, Append, Write.
-/
import Derived.Test.YtjjfhbbaabakmaaGreatDoorWS06
import Derived.Test.YtjjfhbbaabakmaaGreatDoorWS05
import Derived.Test.YtjjfhbbaabakmaaGreatDoorShelf
import Derived.WalkSmall
namespace Go.Proofs.YtjjfhbbaabakmaaGreatDoor.De
set_option linter.unusedSimpArgs false
open Go Go.RowKit Go.Maps Ck Kw Ga Dm Dw Da Db Dc Dd
attribute [local go_sem ↓] Go.wp_at_zero Go.wp_at_succ
set_option linter.unusedVariables false

theorem isIn_names (L K : List Fl) (h : L.map (·.n) = K.map (·.n)) (s : Tx) : isIn L s = isIn K s := by
  have e : ∀ M : List Fl, isIn M s = (M.map (·.n)).any (· == s) := fun M => by rw [List.any_map]; rfl
  rw [e, e, h]
theorem mem_upd {L : List Fl} {s : Tx} {g : Fl → Fl} {f : Fl} (h : f ∈ upd L s g) : ∃ f0 ∈ L, f = if f0.n = s then g f0 else f0 := by
  obtain ⟨f0, h0, e⟩ := List.mem_map.1 h
  exact ⟨f0, h0, e.symm⟩
theorem upd_other {L : List Fl} {s : Tx} {g : Fl → Fl} (h : ∀ f ∈ L, f.n ≠ s) : upd L s g = L := by
  unfold upd
  rw [List.map_congr_left (g := id) (fun f hf => by rw [if_neg (h f hf)]; rfl), List.map_id]
theorem used_upd {L : List Fl} (hn : (L.map (·.n)).Nodup) {f : Fl} (hf : f ∈ L) (g : Fl → Fl) : used (upd L f.n g) + f.b.length = used L + (g f).b.length := by
  induction L with
  | nil => cases hf
  | cons x L ih =>
    rw [List.map_cons, List.nodup_cons] at hn
    by_cases hx : x.n = f.n
    · have hxf : x = f := by
        rcases List.mem_cons.1 hf with h | h
        · exact h.symm
        · exact absurd (List.mem_map.2 ⟨f, h, hx.symm⟩) hn.1
      subst hxf
      have : upd L x.n g = L := upd_other (fun h hh e => hn.1 (List.mem_map.2 ⟨h, hh, e⟩))
      show used ((if x.n = x.n then g x else x) :: upd L x.n g) + _ = _
      rw [this, if_pos rfl]
      simp only [used]
      omega
    · have hf' : f ∈ L := by
        rcases List.mem_cons.1 hf with h | h
        · exact absurd (by rw [h]) hx
        · exact h
      have := ih hn.2 hf'
      show used ((if x.n = f.n then g x else x) :: upd L f.n g) + _ = _
      rw [if_neg hx]
      simp only [used]
      omega

/-- A file of other bytes. -/
def setf (b : Tx) (d : Nat) (f : Fl) : Fl := ⟨f.n, b, d⟩
theorem good_upd {L : List Fl} {room : Nat} (h : GoodL L room) {f : Fl} (hf : f ∈ L) {b : Tx} {d : Nat} (hd : d ≤ b.length) (hu : used (upd L f.n (setf b d)) ≤ room) : GoodL (upd L f.n (setf b d)) room := by
  refine ⟨by rw [upd_names (g := setf b d) (fun _ => rfl)]; exact h.nodup, by simpa [upd] using h.few, hu, h.room, fun x hx => ?_, fun x hx => ?_⟩
  · obtain ⟨f0, h0, rfl⟩ := mem_upd hx
    split
    · exact h.name f0 h0
    · exact h.name f0 h0
  · obtain ⟨f0, h0, rfl⟩ := mem_upd hx
    split
    · exact hd
    · exact h.done f0 h0
theorem parts_put {w w' : World} {S : Nat → Prop} {p m room : Nat} {L : List Fl} {off : Bool} {D : DataW Unit} {G : Tx → Nat} {T : Tx → Nat → Prop} (h : Parts w S p m L room off D G T) {f : Fl} (hf : f ∈ L) {b : Tx} {d : Nat}
    (hF : Fw w' (Up (T f.n) w w') (G f.n) b d) (c : Ch (T f.n) w w') (hu : used (upd L f.n (setf b d)) ≤ room) :
    Parts w' (Up S w w') p m (upd L f.n (setf b d)) room off D G (fun s => if s = f.n then Up (T f.n) w w' else T s) := by
  have hnm := upd_names (L := L) (s := f.n) (g := setf b d) (fun _ => rfl)
  have hplt : p < w.heap.size := h.blk.lt
  have hmlt : m < w.heap.size := h.own.lt
  have hle : d ≤ b.length := by obtain ⟨v, _, _, _, _, _, h6⟩ := hF; exact h6
  refine ⟨h.blk.ch c (fun hk => (h.sub f hf _ hk).2.1 rfl), .inl h.sp, map_ch h.own c (fun hk => (h.sub f hf _ hk).2.2.1 rfl), ⟨fun s => ?_, fun x hx zd => ?_⟩, ⟨.inl h.sm.1, h.sm.2⟩, fun x hx => ?_, fun x hx k hk => ?_, fun x hx y hy hne k hk hk' => ?_, good_upd h.good hf hle hu⟩
  · rw [h.tells.1 s]
    exact isIn_names _ _ hnm.symm s
  · obtain ⟨f0, h0, rfl⟩ := mem_upd hx
    have e : (if f0.n = f.n then setf b d f0 else f0).n = f0.n := by split <;> rfl
    rw [e]
    exact h.tells.2 f0 h0 zd
  · obtain ⟨f0, h0, rfl⟩ := mem_upd hx
    by_cases hn : f0.n = f.n
    · rw [if_pos hn]
      show Fw w' (if f0.n = f.n then _ else _) (G f0.n) b d
      rw [if_pos hn, hn]
      exact hF
    · rw [if_neg hn]
      simp only [if_neg hn]
      exact (h.file f0 h0).ch c (fun k h1 h2 => h.apart f0 h0 f hf hn k h1 h2)
  · obtain ⟨f0, h0, rfl⟩ := mem_upd hx
    have e : (if f0.n = f.n then setf b d f0 else f0).n = f0.n := by split <;> rfl
    simp only [e] at hk
    by_cases hn : f0.n = f.n
    · rw [if_pos hn] at hk
      rcases hk with hk | ⟨h1, h2⟩
      · have := h.sub f hf k hk
        exact ⟨.inl this.1, this.2.1, this.2.2.1, Nat.lt_of_lt_of_le this.2.2.2 c.size⟩
      · exact ⟨.inr ⟨h1, h2⟩, by omega, by omega, h2⟩
    · rw [if_neg hn] at hk
      have := h.sub f0 h0 k hk
      exact ⟨.inl this.1, this.2.1, this.2.2.1, Nat.lt_of_lt_of_le this.2.2.2 c.size⟩
  · obtain ⟨f0, h0, rfl⟩ := mem_upd hx
    obtain ⟨f1, h1, rfl⟩ := mem_upd hy
    have e : ∀ z : Fl, (if z.n = f.n then setf b d z else z).n = z.n := fun z => by split <;> rfl
    simp only [e] at hk hk' hne
    by_cases hn0 : f0.n = f.n
    · by_cases hn1 : f1.n = f.n
      · exact hne (hn0.trans hn1.symm)
      · rw [if_pos hn0] at hk
        rw [if_neg hn1] at hk'
        rcases hk with hk | ⟨g1, g2⟩
        · exact h.apart f hf f1 h1 (fun e => hn1 e.symm) k hk hk'
        · have := (h.sub f1 h1 k hk').2.2.2
          omega
    · by_cases hn1 : f1.n = f.n
      · rw [if_neg hn0] at hk
        rw [if_pos hn1] at hk'
        rcases hk' with hk' | ⟨g1, g2⟩
        · exact h.apart f0 h0 f hf hn0 k hk hk'
        · have := (h.sub f0 h0 k hk).2.2.2
          omega
      · rw [if_neg hn0] at hk
        rw [if_neg hn1] at hk'
        exact h.apart f0 h0 f1 h1 hne k hk hk'

/-- Bytes put into a file from k on, if there is room. -/
def putS (L : List Fl) (room : Nat) (f : Fl) (k : Nat) (x : Tx) : List Fl × Nat :=
  if room + f.b.length < x.length + used L + k then (L, 30) else (upd L f.n (setf (wr f.b k x) (min f.d k)), 0)
def appS (L : List Fl) (room : Nat) (off : Bool) (s : Tx) (x : Tx) : List Fl × Nat :=
  if off then (L, 32) else match find L s with | none => (L, 4) | some f => putS L room f f.b.length x
/-- What a call leaves that answers a code. -/
def Did (S : Nat → Prop) (p : Nat) (r : List Fl × Nat) (room : Nat) (off : Bool) (w : World) (e : Ending) (w' : World) : Prop :=
  e = .returned (.int .i64 (r.2 : Int)) ∧ Dk w' (Up S w w') p r.1 room off ∧ Ch S w w'
theorem did_refl {S : Nat → Prop} {p : Nat} {L : List Fl} {c room : Nat} {off : Bool} {w : World} (h : Dk w S p L room off) : Did S p (L, c) room off w (.returned (.int .i64 (c : Int))) w :=
  ⟨rfl, h.weaken (fun k hk => .inl hk), Ch.refl _ _⟩
theorem did_later {S : Nat → Prop} {p : Nat} {L : List Fl} {c room : Nat} {off : Bool} {w w' : World} (h : Dk w S p L room off) (b : Below w.heap.size w w') : Did S p (L, c) room off w (.returned (.int .i64 (c : Int))) w' :=
  ⟨rfl, (h.later b).weaken (fun k hk => .inl hk), Ch.of_below b (Nat.le_refl _)⟩

set_option maxRecDepth 100000 in
set_option maxHeartbeats 2000000 in
theorem put_on (w : World) (S X : Nat → Prop) (p m : Nat) (L : List Fl) (room : Nat) (D : DataW Unit) (G : Tx → Nat) (T : Tx → Nat → Prop) (h : Parts w S p m L room false D G T) (f : Fl) (hf : f ∈ L) (k : Nat) (hk : k ≤ f.b.length) (x : Tx) (B : Option Addr) (c : Nat)
    (hx : Sl w X 1 (.slice B x.length c) x.length (BVs x)) (hX : ∀ k, S k → X k) (hxl : x.length ≤ 140737488355328) :
    Calls Tryz.prog 50 #[.pointer (some ⟨p, 0, none⟩), .pointer (some ⟨G f.n, 0, none⟩), .int .i64 (k : Int), .slice B x.length c] w (Did S p (putS L room f k x) room false w) := by
  have HR := Lib.hid (room_on w.drew S p L room false (h.shut.drewN 1))
  have hF := h.file f hf
  obtain ⟨v, k1, ho, -, -, hfl, -⟩ := hF
  obtain ⟨A, c1, rfl⟩ := own_shape ho
  have c0 : w.cell? ⟨G f.n, 0, none⟩ = some (.slice A f.b.length c1) := k1.cell 0
  have hfit := h.good.fits
  have hroom := h.good.room
  have hw1 : IntKind.i64.wrap ((((room : Int) - (used L : Int)) + (f.b.length : Int)) - (k : Int)) = (((room : Int) - (used L : Int)) + (f.b.length : Int)) - (k : Int) := wrap64 (by omega) (by omega)
  have hw2 : IntKind.i64.wrap (((room : Int) - (used L : Int)) + (f.b.length : Int)) = ((room : Int) - (used L : Int)) + (f.b.length : Int) := wrap64 (by omega) (by omega)
  have HP := Lib.hid h
  have HX := Lib.hid (And.intro hx hX)
  have HK := Lib.hid hk
  have HFL := Lib.hid hfl
  have hG : Hid (∀ w1, Below w.drew.heap.size w.drew w1 → Blk w1 (G f.n) 87 #[.slice A f.b.length c1, .int .i64 (f.d : Int)]) := Lib.hid fun w1 hb => k1.below (below_of_drew hb) k1.lt
  by_cases hov : room + f.b.length < x.length + used L + k
  · have e : putS L room f k x = (L, 30) := by rw [putS, if_pos hov]
    have hgt : (((room : Int) - (used L : Int)) + (f.b.length : Int)) - (k : Int) < (x.length : Int) := by omega
    rw [e]
    clear h hx hX k1 ho hk hov e
    go_enter Tryz.func50, Tryz.ntmps50
    go_wp2_with fail
    go_region_held3 (fun w' => w'.cell? ⟨G f.n, 0, none⟩ = some (.slice A f.b.length c1)) (first | exact c0 | exact j0)
      (first
      | (go_at_call 67; refine HR.out.mono ?_; rintro e w1 ⟨rfl, hb1⟩; have j0 := (hG.out _ hb1).cell 0; simp only [List.getElem?_toArray, List.getElem?_cons_zero] at j0))
    all_goals
      go_wp2
      go_ret
      exact did_later HP.out.shut (below_of_drew hb1)
  · have e : putS L room f k x = (upd L f.n (setf (wr f.b k x) (min f.d k)), 0) := by rw [putS, if_neg hov]
    have hle : (x.length : Int) ≤ (((room : Int) - (used L : Int)) + (f.b.length : Int)) - (k : Int) := by omega
    have hnl := wr_len f.b k x hk
    have hu0 := used_upd h.good.nodup hf (setf (wr f.b k x) (min f.d k))
    have hum := used_mem hf
    have hu : used (upd L f.n (setf (wr f.b k x) (min f.d k))) ≤ room := by
      have : (setf (wr f.b k x) (min f.d k) f).b.length = (wr f.b k x).length := rfl
      omega
    have HU := Lib.hid hu
    have hkx : k + x.length ≤ 4194304 := by omega
    rw [e]
    clear h hx hX k1 ho hk hov e hnl hu0 hum hu
    go_enter Tryz.func50, Tryz.ntmps50
    go_wp2_with fail
    go_region_held3 (fun w' => w'.cell? ⟨G f.n, 0, none⟩ = some (.slice A f.b.length c1)) (first | exact c0 | exact j0)
      (first
      | (go_at_call 67; refine HR.out.mono ?_; rintro e w1 ⟨rfl, hb1⟩; have j0 := (hG.out _ hb1).cell 0; simp only [List.getElem?_toArray, List.getElem?_cons_zero] at j0))
    all_goals
      have hb1 := below_of_drew hb1
      have hP1 := HP.out.later hb1
      have HP1 := Lib.hid hP1
      have HB1 := Lib.hid hb1
      clear hP1 hb1
      go_wp2_with (go_at_call 68; refine (fput_any _ (T f.n) X (G f.n) f.d k f.b x B c HK.out (HP1.out.file f hf) (HX.out.1.after HB1.out) (fun q hq => HX.out.2 q (HP1.out.sub f hf q hq).1) hkx).mono ?_; rintro e w2 ⟨rfl, hF2, hC2⟩)
      go_ret
      have hP2 := parts_put HP1.out hf hF2 hC2 HU.out
      have hs1 := HB1.out.size
      refine ⟨rfl, hP2.shut.weaken (fun q hq => ?_), (Ch.of_below HB1.out (Nat.le_refl _)).trans (hC2.mono (T := S) (fun q _ hq => (HP1.out.sub f hf q hq).1)) (fun _ _ h => h)⟩
      rcases hq with hq | ⟨g1, g2⟩
      · exact .inl hq
      · exact .inr ⟨by omega, g2⟩

end Go.Proofs.YtjjfhbbaabakmaaGreatDoor.De

/-
  Contracts of the program's disk: Append, Write, Sync, Truncate, Synced, Get.
-/
namespace Go.Proofs.YtjjfhbbaabakmaaGreatDoor.Df
set_option linter.unusedSimpArgs false
open Go Go.RowKit Go.Maps Ck Kw Ga Dm Dw Da Db Dc Dd De
attribute [local go_sem ↓] Go.wp_at_zero Go.wp_at_succ
set_option linter.unusedVariables false

/-- find, at a file that there is. -/
theorem find_in (w : World) (S : Nat → Prop) (p m : Nat) (L : List Fl) (room : Nat) (D : DataW Unit) (G : Tx → Nat) (T : Tx → Nat → Prop) (s : Tx) (hs : s.length ≤ 140737488355328) (h : Parts w S p m L room false D G T) (f : Fl) (hf : find L s = some f) :
    Calls Tryz.prog 49 #[.pointer (some ⟨p, 0, none⟩), .string ⟨s.toArray⟩] w fun e w' => e = .returned (.tuple #[.pointer (some ⟨G f.n, 0, none⟩), .int .i64 0]) ∧ w = w' := by
  have hc := find_on w S p m L room D G T s hs h
  have hi : isIn L s = true := by rw [isIn_find, hf]; rfl
  rw [hi, if_pos rfl, if_pos rfl, ← (find_some hf).2] at hc
  rw [← (find_some hf).2]
  exact hc
theorem find_out (w : World) (S : Nat → Prop) (p : Nat) (L : List Fl) (room : Nat) (s : Tx) (hs : s.length ≤ 140737488355328) (h : Dk w S p L room false) (hf : find L s = none) :
    Calls Tryz.prog 49 #[.pointer (some ⟨p, 0, none⟩), .string ⟨s.toArray⟩] w fun e w' => e = .returned (.tuple #[.pointer none, .int .i64 4]) ∧ w = w' := by
  obtain ⟨m, D, G, T, hP⟩ := h.opened
  have hc := find_on w S p m L room D G T s hs hP
  have hi : isIn L s = false := by rw [isIn_find, hf]; rfl
  rw [hi, if_neg (by simp), if_neg (by simp)] at hc
  exact hc
/-- find, where nothing comes of it. -/
theorem find_no (w : World) (S : Nat → Prop) (p : Nat) (L : List Fl) (room : Nat) (off : Bool) (s : Tx) (hs : s.length ≤ 140737488355328) (h : Dk w S p L room off) (c : Nat) (hc : (off = true ∧ c = 32) ∨ (off = false ∧ find L s = none ∧ c = 4)) :
    Calls Tryz.prog 49 #[.pointer (some ⟨p, 0, none⟩), .string ⟨s.toArray⟩] w fun e w' => e = .returned (.tuple #[.pointer none, .int .i64 (c : Int)]) ∧ w = w' := by
  rcases hc with ⟨rfl, rfl⟩ | ⟨rfl, hf, rfl⟩
  · exact find_off w S p L room _ h
  · exact find_out w S p L room s hs h hf
/-- What find may come to. -/
theorem find_cases (L : List Fl) (off : Bool) (s : Tx) : (∃ c : Nat, 2 < c ∧ c < 100 ∧ ((off = true ∧ c = 32) ∨ (off = false ∧ find L s = none ∧ c = 4))) ∨ (off = false ∧ ∃ f, find L s = some f) := by
  cases off
  · cases h : find L s with
    | none => exact .inl ⟨4, by omega, by omega, .inr ⟨rfl, rfl, rfl⟩⟩
    | some f => exact .inr ⟨rfl, f, rfl⟩
  · exact .inl ⟨32, by omega, by omega, .inl ⟨rfl, rfl⟩⟩

theorem app_no {L : List Fl} {room : Nat} {off : Bool} {s x : Tx} {c : Nat} (hc : (off = true ∧ c = 32) ∨ (off = false ∧ find L s = none ∧ c = 4)) : appS L room off s x = (L, c) := by
  rcases hc with ⟨rfl, rfl⟩ | ⟨rfl, hf, rfl⟩
  · rfl
  · rw [appS, hf]; rfl
set_option maxHeartbeats 1000000 in
theorem append_on (w : World) (S X : Nat → Prop) (p : Nat) (L : List Fl) (room : Nat) (off : Bool) (s : Tx) (hs : s.length ≤ 140737488355328) (h : Dk w S p L room off) (x : Tx) (B : Option Addr) (c : Nat)
    (hx : Sl w X 1 (.slice B x.length c) x.length (BVs x)) (hX : ∀ k, S k → X k) (hxl : x.length ≤ 140737488355328) :
    Calls Tryz.prog 35 #[.pointer (some ⟨p, 0, none⟩), .string ⟨s.toArray⟩, .slice B x.length c] w (Did S p (appS L room off s x) room off w) := by
  rcases find_cases L off s with ⟨q, hq1, hq2, hq⟩ | ⟨rfl, f, hf⟩
  · have HF := Lib.hid (find_no w S p L room off s hs h q hq)
    have H := Lib.hid h
    rw [app_no hq]
    have hne : ((q : Int) == 0) = false := by rw [beq_eq_false_iff_ne]; omega
    clear h hq hx hX
    go_enter Tryz.func35, Tryz.ntmps35
    go_wp2_with (go_at_call 49; refine HF.out.mono ?_; rintro e w' ⟨rfl, rfl⟩)
    go_ret
    exact did_refl H.out
  · have e : appS L room false s x = putS L room f f.b.length x := by rw [appS, hf]; rfl
    rw [e]
    obtain ⟨m, D, G, T, hP⟩ := h.opened
    have hfm := (find_some hf).1
    have HF := Lib.hid (find_in w S p m L room D G T s hs hP f hf)
    have HPU := Lib.hid (put_on w S X p m L room D G T hP f hfm f.b.length (Nat.le_refl _) x B c hx hX hxl)
    obtain ⟨v, k1, ho, -⟩ := hP.file f hfm
    obtain ⟨A, c1, rfl⟩ := own_shape ho
    have c0 : w.cell? ⟨G f.n, 0, none⟩ = some (.slice A f.b.length c1) := k1.cell 0
    clear h hP hx hX k1 ho hf e
    go_enter Tryz.func35, Tryz.ntmps35
    go_wp2_with (first
      | (go_at_call 49; refine HF.out.mono ?_; rintro e w' ⟨rfl, rfl⟩)
      | (go_at_call 50; refine HPU.out.mono ?_; rintro e w2 ⟨rfl, hD2⟩))
    go_ret
    exact ⟨rfl, hD2⟩

def truncS (L : List Fl) (off : Bool) (s : Tx) (z : Int) : List Fl × Nat :=
  if off then (L, 32) else match find L s with | none => (L, 4) | some f => if z < 0 ∨ (f.b.length : Int) < z then (L, 1) else (upd L f.n (setf (f.b.take z.toNat) (min f.d z.toNat)), 0)
def syncS (L : List Fl) (off : Bool) (s : Tx) : List Fl × Nat := if off then (L, 32) else match find L s with | none => (L, 4) | some f => (upd L f.n (setf f.b f.b.length), 0)
theorem sync_no {L : List Fl} {off : Bool} {s : Tx} {c : Nat} (hc : (off = true ∧ c = 32) ∨ (off = false ∧ find L s = none ∧ c = 4)) : syncS L off s = (L, c) := by
  rcases hc with ⟨rfl, rfl⟩ | ⟨rfl, hf, rfl⟩
  · rfl
  · rw [syncS, hf]; rfl
theorem trunc_no {L : List Fl} {off : Bool} {s : Tx} {z : Int} {c : Nat} (hc : (off = true ∧ c = 32) ∨ (off = false ∧ find L s = none ∧ c = 4)) : truncS L off s z = (L, c) := by
  rcases hc with ⟨rfl, rfl⟩ | ⟨rfl, hf, rfl⟩
  · rfl
  · rw [truncS, hf]; rfl
theorem trunc_some {L : List Fl} {s : Tx} {z : Int} {f : Fl} (hf : find L s = some f) : truncS L false s z = if z < 0 ∨ (f.b.length : Int) < z then (L, 1) else (upd L f.n (setf (f.b.take z.toNat) (min f.d z.toNat)), 0) := by
  rw [truncS, hf]; rfl
theorem used_le {L : List Fl} (hn : (L.map (·.n)).Nodup) {f : Fl} (hf : f ∈ L) {b : Tx} {d : Nat} (hb : b.length ≤ f.b.length) : used (upd L f.n (setf b d)) ≤ used L := by
  have h1 := used_upd hn hf (setf b d)
  have h2 : (setf b d f).b.length = b.length := rfl
  omega

theorem sync_on (w : World) (S : Nat → Prop) (p : Nat) (L : List Fl) (room : Nat) (off : Bool) (s : Tx) (hs : s.length ≤ 140737488355328) (h : Dk w S p L room off) :
    Calls Tryz.prog 24 #[.pointer (some ⟨p, 0, none⟩), .string ⟨s.toArray⟩] w (Did S p (syncS L off s) room off w) := by
  rcases find_cases L off s with ⟨q, hq1, hq2, hq⟩ | ⟨rfl, f, hf⟩
  · have HF := Lib.hid (find_no w S p L room off s hs h q hq)
    have H := Lib.hid h
    rw [sync_no hq]
    have hne : ((q : Int) == 0) = false := by rw [beq_eq_false_iff_ne]; omega
    clear h hq
    go_enter Tryz.func24, Tryz.ntmps24
    go_wp2_with (go_at_call 49; refine HF.out.mono ?_; rintro e w' ⟨rfl, rfl⟩)
    go_ret
    exact did_refl H.out
  · have e : syncS L false s = (upd L f.n (setf f.b f.b.length), 0) := by rw [syncS, hf]; rfl
    rw [e]
    obtain ⟨m, D, G, T, hP⟩ := h.opened
    have HF := Lib.hid (find_in w S p m L room D G T s hs hP f hf)
    have hf := (find_some hf).1
    have HP := Lib.hid hP
    have HM := Lib.hid hf
    clear h hP hf e
    go_enter Tryz.func24, Tryz.ntmps24
    go_wp2_with (first
      | (go_at_call 49; refine HF.out.mono ?_; rintro e w' ⟨rfl, rfl⟩)
      | (go_at_call 51; refine (fsync_any _ _ _ _ _ (HP.out.file f HM.out)).mono ?_; rintro e w2 ⟨rfl, hF2, hC2⟩))
    go_ret
    have hu := used_le HP.out.good.nodup HM.out (b := f.b) (d := f.b.length) (Nat.le_refl _)
    exact ⟨rfl, (parts_put HP.out HM.out (hF2.weaken (fun k hk => .inl hk)) hC2 (Nat.le_trans hu HP.out.good.fits)).shut, hC2.mono (fun q _ hq => (HP.out.sub f HM.out q hq).1)⟩

set_option maxHeartbeats 1000000 in
theorem trunc_on (w : World) (S : Nat → Prop) (p : Nat) (L : List Fl) (room : Nat) (off : Bool) (s : Tx) (hs : s.length ≤ 140737488355328) (h : Dk w S p L room off) (z : Int) :
    Calls Tryz.prog 73 #[.pointer (some ⟨p, 0, none⟩), .string ⟨s.toArray⟩, .int .i64 z] w (Did S p (truncS L off s z) room off w) := by
  rcases find_cases L off s with ⟨q, hq1, hq2, hq⟩ | ⟨rfl, f, hf⟩
  · have HF := Lib.hid (find_no w S p L room off s hs h q hq)
    have H := Lib.hid h
    rw [trunc_no hq]
    have hne : ((q : Int) == 0) = false := by rw [beq_eq_false_iff_ne]; omega
    clear h hq
    go_enter Tryz.func73, Tryz.ntmps73
    go_wp2_with (go_at_call 49; refine HF.out.mono ?_; rintro e w' ⟨rfl, rfl⟩)
    go_ret
    exact did_refl H.out
  · obtain ⟨m, D, G, T, hP⟩ := h.opened
    have HF := Lib.hid (find_in w S p m L room D G T s hs hP f hf)
    have hfm := (find_some hf).1
    have HP := Lib.hid hP
    have HM := Lib.hid hfm
    have H := Lib.hid h
    obtain ⟨v, k1, ho, -⟩ := hP.file f hfm
    obtain ⟨A, c1, rfl⟩ := own_shape ho
    have c0 : w.cell? ⟨G f.n, 0, none⟩ = some (.slice A f.b.length c1) := k1.cell 0
    by_cases h0 : z < 0
    · have e : truncS L false s z = (L, 1) := by rw [trunc_some hf, if_pos (.inl h0)]
      rw [e]
      clear h hP k1 ho hf e hfm
      go_enter Tryz.func73, Tryz.ntmps73
      go_wp2_with (go_at_call 49; refine HF.out.mono ?_; rintro e w' ⟨rfl, rfl⟩)
      go_ret
      exact did_refl H.out
    · by_cases h1 : (f.b.length : Int) < z
      · have e : truncS L false s z = (L, 1) := by rw [trunc_some hf, if_pos (.inr h1)]
        rw [e]
        clear h hP k1 ho hf e hfm
        go_enter Tryz.func73, Tryz.ntmps73
        go_wp2_with (go_at_call 49; refine HF.out.mono ?_; rintro e w' ⟨rfl, rfl⟩)
        go_ret
        exact did_refl H.out
      · obtain ⟨k, rfl⟩ : ∃ k : Nat, z = (k : Int) := ⟨z.toNat, by omega⟩
        have e : truncS L false s (k : Int) = (upd L f.n (setf (f.b.take k) (min f.d k)), 0) := by
          rw [trunc_some hf, if_neg (by omega)]
          rfl
        rw [e]
        have HK := Lib.hid (show k ≤ f.b.length by omega)
        clear h hP k1 ho hf e hfm
        go_enter Tryz.func73, Tryz.ntmps73
        go_wp2_with (first
          | (go_at_call 49; refine HF.out.mono ?_; rintro e w' ⟨rfl, rfl⟩)
          | (go_at_call 65; refine (fcut_any _ _ _ _ _ k HK.out (HP.out.file f HM.out)).mono ?_; rintro e w2 ⟨rfl, hF2, hC2⟩))
        go_ret
        have hu := used_le HP.out.good.nodup HM.out (b := f.b.take k) (d := min f.d k) (by rw [List.length_take]; omega)
        exact ⟨rfl, (parts_put HP.out HM.out hF2 hC2 (Nat.le_trans hu HP.out.good.fits)).shut, hC2.mono (fun q _ hq => (HP.out.sub f HM.out q hq).1)⟩

end Go.Proofs.YtjjfhbbaabakmaaGreatDoor.Df

/-
  Contracts of the program's disk: Synced, Get, Remove, Rename, Create.
-/
namespace Go.Proofs.YtjjfhbbaabakmaaGreatDoor.Dg
set_option linter.unusedSimpArgs false
open Go Go.RowKit Go.Maps Ck Kw Ga Dm Dw Da Db Dc Dd De Df
attribute [local go_sem ↓] Go.wp_at_zero Go.wp_at_succ
set_option linter.unusedVariables false

def syncedS (L : List Fl) (off : Bool) (s : Tx) : Nat × Nat := if off then (0, 32) else match find L s with | none => (0, 4) | some f => (f.d, 0)
def getS (L : List Fl) (off : Bool) (s : Tx) : Tx × Nat := if off then ([], 32) else match find L s with | none => ([], 4) | some f => (f.b, 0)
theorem synced_no {L : List Fl} {off : Bool} {s : Tx} {c : Nat} (hc : (off = true ∧ c = 32) ∨ (off = false ∧ find L s = none ∧ c = 4)) : syncedS L off s = (0, c) := by
  rcases hc with ⟨rfl, rfl⟩ | ⟨rfl, hf, rfl⟩
  · rfl
  · rw [syncedS, hf]; rfl
theorem get_no {L : List Fl} {off : Bool} {s : Tx} {c : Nat} (hc : (off = true ∧ c = 32) ∨ (off = false ∧ find L s = none ∧ c = 4)) : getS L off s = ([], c) := by
  rcases hc with ⟨rfl, rfl⟩ | ⟨rfl, hf, rfl⟩
  · rfl
  · rw [getS, hf]; rfl

theorem synced_on (w : World) (S : Nat → Prop) (p : Nat) (L : List Fl) (room : Nat) (off : Bool) (s : Tx) (hs : s.length ≤ 140737488355328) (h : Dk w S p L room off) :
    Calls Tryz.prog 52 #[.pointer (some ⟨p, 0, none⟩), .string ⟨s.toArray⟩] w fun e w' => e = .returned (.tuple #[.int .i64 ((syncedS L off s).1 : Int), .int .i64 ((syncedS L off s).2 : Int)]) ∧ w = w' := by
  rcases find_cases L off s with ⟨q, hq1, hq2, hq⟩ | ⟨rfl, f, hf⟩
  · have HF := Lib.hid (find_no w S p L room off s hs h q hq)
    rw [synced_no hq]
    have hne : ((q : Int) == 0) = false := by rw [beq_eq_false_iff_ne]; omega
    clear h hq
    go_enter Tryz.func52, Tryz.ntmps52
    go_wp2_with (go_at_call 49; refine HF.out.mono ?_; rintro e w' ⟨rfl, rfl⟩)
    go_ret2
    exact ⟨rfl, rfl⟩
  · have e : syncedS L false s = (f.d, 0) := by rw [syncedS, hf]; rfl
    rw [e]
    obtain ⟨m, D, G, T, hP⟩ := h.opened
    have HF := Lib.hid (find_in w S p m L room D G T s hs hP f hf)
    have hfm := (find_some hf).1
    obtain ⟨v, k1, ho, -⟩ := hP.file f hfm
    have c1 : w.cell? ⟨G f.n, 1, none⟩ = some (.int .i64 (f.d : Int)) := k1.cell 1
    clear h hP k1 ho hf e
    go_enter Tryz.func52, Tryz.ntmps52
    go_wp2_with (go_at_call 49; refine HF.out.mono ?_; rintro e w' ⟨rfl, rfl⟩)
    go_ret2
    exact ⟨rfl, rfl⟩

/-- What Get hands back. -/
def Got (w : World) (r : Tx × Nat) (e : Ending) (w' : World) : Prop :=
  ∃ A c, e = .returned (.tuple #[.slice A r.1.length c, .int .i64 (r.2 : Int)]) ∧ w'.ownsRow w.heap.size 5 1 (.slice A r.1.length c) r.1.length (BVs r.1) ∧ Below w.heap.size w w'
theorem get_on (w : World) (S : Nat → Prop) (p : Nat) (L : List Fl) (room : Nat) (off : Bool) (s : Tx) (hs : s.length ≤ 140737488355328) (h : Dk w S p L room off) :
    Calls Tryz.prog 21 #[.pointer (some ⟨p, 0, none⟩), .string ⟨s.toArray⟩] w (Got w (getS L off s)) := by
  rcases find_cases L off s with ⟨q, hq1, hq2, hq⟩ | ⟨rfl, f, hf⟩
  · have HF := Lib.hid (find_no w S p L room off s hs h q hq)
    rw [get_no hq]
    have hne : ((q : Int) == 0) = false := by rw [beq_eq_false_iff_ne]; omega
    clear h hq
    go_enter Tryz.func21, Tryz.ntmps21
    go_wp2_with (go_at_call 49; refine HF.out.mono ?_; rintro e w' ⟨rfl, rfl⟩)
    go_ret2
    exact ⟨none, 0, rfl, World.ownsRow_nil _ _ _ _, Below.refl _ _⟩
  · have e : getS L false s = (f.b, 0) := by rw [getS, hf]; rfl
    rw [e]
    obtain ⟨m, D, G, T, hP⟩ := h.opened
    have HF := Lib.hid (find_in w S p m L room D G T s hs hP f hf)
    have hfm := (find_some hf).1
    have hlen := hP.good.len hfm
    obtain ⟨v, k1, ho, -⟩ := hP.file f hfm
    obtain ⟨A, c1, rfl⟩ := own_shape ho
    have c0 : w.cell? ⟨G f.n, 0, none⟩ = some (.slice A f.b.length c1) := k1.cell 0
    have HS := Lib.hid (Sl.of_own (X := fun _ => False) ho (fun _ _ _ h => h))
    clear h hP k1 ho hf e
    go_enter Tryz.func21, Tryz.ntmps21
    go_wp2_with (first
      | (go_at_call 49; refine HF.out.mono ?_; rintro e w' ⟨rfl, rfl⟩)
      | (go_at_call 37; refine (clone_sh _ _ _ f.b _ HS.out (by omega)).mono ?_; rintro e w2 ⟨A2, c2, rfl, ho2, hb2⟩))
    go_ret2
    exact ⟨A2, c2, rfl, ho2, hb2⟩

/-- The map has turned, and no file. -/
theorem parts_map {w w' : World} {S : Nat → Prop} {p m room : Nat} {L L' : List Fl} {off : Bool} {D D' : DataW Unit} {G : Tx → Nat} {T : Tx → Nat → Prop} (h : Parts w S p m L room off D G T) (c : Ch (fun k => k = m) w w')
    (ho : w'.ownsMap Tryz.prog 9 ptrElem m 64 D') (φ : Tx → Tx) (hT : TellsD D' L' (fun s => G (φ s))) (hg : GoodL L' room) (hL : ∀ f' ∈ L', ∃ f ∈ L, f.n = φ f'.n ∧ f.b = f'.b ∧ f.d = f'.d) (hi : ∀ f ∈ L', ∀ h ∈ L', φ f.n = φ h.n → f.n = h.n) :
    Parts w' S p m L' room off D' (fun s => G (φ s)) (fun s => T (φ s)) := by
  refine ⟨h.blk.ch c (fun e => h.sm.2 e.symm), h.sp, ho, hT, h.sm, fun f' hf' => ?_, fun f' hf' k hk => ?_, fun f' hf' h' hh' hne k hk hk' => ?_, hg⟩
  · obtain ⟨f, hf, e1, e2, e3⟩ := hL f' hf'
    rw [← e1, ← e2, ← e3]
    exact (h.file f hf).ch c (fun k hk e => (h.sub f hf k hk).2.2.1 e)
  · obtain ⟨f, hf, e1, -⟩ := hL f' hf'
    rw [← e1] at hk
    have := h.sub f hf k hk
    exact ⟨this.1, this.2.1, this.2.2.1, Nat.lt_of_lt_of_le this.2.2.2 c.size⟩
  · obtain ⟨f, hf, e1, -⟩ := hL f' hf'
    obtain ⟨g, hg', e2, -⟩ := hL h' hh'
    rw [← e1] at hk
    rw [← e2] at hk'
    exact h.apart f hf g hg' (fun e => hne (hi f' hf' h' hh' (by rw [← e1, ← e2, e]))) k hk hk'

theorem mem_del {L : List Fl} {s : Tx} {f : Fl} : f ∈ del L s ↔ f ∈ L ∧ f.n ≠ s := by
  unfold del
  rw [List.mem_filter]
  simp
theorem used_filter_le (L : List Fl) (P : Fl → Bool) : used (L.filter P) ≤ used L := by
  induction L with
  | nil => exact Nat.le_refl _
  | cons x L ih =>
    by_cases h : P x = true
    · rw [List.filter_cons_of_pos h]
      simp only [used]
      omega
    · rw [List.filter_cons_of_neg h]
      simp only [used]
      omega
theorem good_del {L : List Fl} {room : Nat} (h : GoodL L room) (s : Tx) : GoodL (del L s) room :=
  ⟨h.nodup.sublist (List.filter_sublist.map _), Nat.le_trans (List.length_filter_le _ _) h.few, Nat.le_trans (used_filter_le _ _) h.fits, h.room, fun f hf => h.name f (mem_del.1 hf).1, fun f hf => h.done f (mem_del.1 hf).1⟩
theorem isIn_del (L : List Fl) (s t : Tx) : isIn (del L s) t = (isIn L t && !(t == s)) := by
  rw [Bool.eq_iff_iff, isIn_iff, Bool.and_eq_true, isIn_iff]
  constructor
  · rintro ⟨f, hf, rfl⟩
    have := mem_del.1 hf
    exact ⟨⟨f, this.1, rfl⟩, by simpa using this.2⟩
  · rintro ⟨⟨f, hf, rfl⟩, hne⟩
    exact ⟨f, mem_del.2 ⟨hf, by simpa using hne⟩, rfl⟩
theorem strKey_ne {s t : Tx} (h : s ≠ t) : (Lit.string s) ≠ Lit.string t := fun e => h (by injection e)
theorem strKey (s : Tx) : WideAt.IsKeyLit (.string s) := trivial
theorem tells_del {D : DataW Unit} {L : List Fl} {G : Tx → Nat} (h : TellsD D L G) (s : Tx) : TellsD (D.del (.string s)) (del L s) G := by
  refine ⟨fun t => ?_, fun f hf zd => ?_⟩
  · rw [isIn_del]
    by_cases e : t = s
    · subst e
      rw [Maps.has_del_same]
      simp
    · rw [Maps.has_del_other (strKey_ne e), h.1 t]
      have : (t == s) = false := by rw [beq_eq_false_iff_ne]; exact e
      rw [this]
      simp
  · have := mem_del.1 hf
    rw [Maps.atKey_del_other (strKey_ne this.2)]
    exact h.2 f this.1 zd

def remS (L : List Fl) (off : Bool) (s : Tx) : List Fl × Nat := if off then (L, 32) else match find L s with | none => (L, 4) | some f => (del L f.n, 0)
theorem rem_no {L : List Fl} {off : Bool} {s : Tx} {c : Nat} (hc : (off = true ∧ c = 32) ∨ (off = false ∧ find L s = none ∧ c = 4)) : remS L off s = (L, c) := by
  rcases hc with ⟨rfl, rfl⟩ | ⟨rfl, hf, rfl⟩
  · rfl
  · rw [remS, hf]; rfl
theorem remove_on (w : World) (S : Nat → Prop) (p : Nat) (L : List Fl) (room : Nat) (off : Bool) (s : Tx) (hs : s.length ≤ 140737488355328) (h : Dk w S p L room off) :
    Calls Tryz.prog 40 #[.pointer (some ⟨p, 0, none⟩), .string ⟨s.toArray⟩] w (Did S p (remS L off s) room off w) := by
  rcases find_cases L off s with ⟨q, hq1, hq2, hq⟩ | ⟨rfl, f, hf⟩
  · have HF := Lib.hid (find_no w S p L room off s hs h q hq)
    have H := Lib.hid h
    rw [rem_no hq]
    have hne : ((q : Int) == 0) = false := by rw [beq_eq_false_iff_ne]; omega
    clear h hq
    go_enter Tryz.func40, Tryz.ntmps40
    go_wp2_with (go_at_call 49; refine HF.out.mono ?_; rintro e w' ⟨rfl, rfl⟩)
    go_ret
    exact did_refl H.out
  · have e : remS L false s = (del L s, 0) := by rw [remS, hf, ← (find_some hf).2]; rfl
    rw [e]
    obtain ⟨m, D, G, T, hP⟩ := h.opened
    have HF := Lib.hid (find_in w S p m L room D G T s hs hP f hf)
    have c0 : w.cell? ⟨p, 0, none⟩ = some (.map (some m)) := hP.blk.cell 0
    have HP := Lib.hid hP
    have hK := key_str s (by simp only [maxLen]; omega)
    have HK := Lib.hid hK
    clear h hP hf e hK
    go_enter Tryz.func40, Tryz.ntmps40
    go_wp2_with (first
      | (go_at_call 49; refine HF.out.mono ?_; rintro e w' ⟨rfl, rfl⟩)
      | (at_delete; refine wpList_delete_own _ rfl _ _ 57 9 rfl 81 law_str Tryz.underlying57 ptrElem m 64 D rfl HP.out.own _ _ rfl HK.out ?_; intro w1 hown1 hturn1))
    go_ret
    have hc : Ch (fun k => k = m) w w1 := Ch.of_grown hturn1.grown (fun g hg _ => (Option.some.inj hg).symm)
    have hP1 := parts_map HP.out hc hown1 (fun s => s) (tells_del HP.out.tells s) (good_del HP.out.good s) (fun f' hf' => ⟨f', (mem_del.1 hf').1, rfl, rfl, rfl⟩) (fun _ _ _ _ e => e)
    exact ⟨rfl, (Parts.shut hP1).weaken (fun k hk => Or.inl hk), hc.mono (fun k _ hk => by rw [hk]; exact HP.out.sm.1)⟩

end Go.Proofs.YtjjfhbbaabakmaaGreatDoor.Dg

/-
  Contracts of layer 4's small functions: names of files, heads.
-/
namespace Go.Proofs.YtjjfhbbaabakmaaGreatDoor.We
set_option linter.unusedSimpArgs false
open Go Go.RowKit Go.Shelf Ck Kw Ga Dm Dw Da Db Dc Dd De Df Dg Wc Wf Wa Wb Wd Wn
attribute [local go_sem ↓] Go.wp_at_zero Go.wp_at_succ
set_option linter.unusedVariables false

/-- The library's table of powers of ten is as its text lays it. -/
def Tab (w : World) : Prop := Lib.TabIs Tryz.prog w "internal/strconv.uint64pow10" .u64 Lib.pow10Tab
theorem tab_g : Tryz.prog.globalNamed "internal/strconv.uint64pow10" = some 0 := by kernel_rfl
section
variable {w w' : World}
theorem Tab.lt (h : Tab w) : 0 < w.heap.size := by
  unfold Tab Lib.TabIs World.var? at h
  rw [tab_g] at h
  simp only [Option.bind_some] at h
  rcases Nat.lt_or_ge 0 w.heap.size with h1 | h1
  · exact h1
  · rw [Array.getElem?_eq_none h1] at h
    cases h
theorem Tab.below {B : Nat} (h : Tab w) (hb : Below B w w') (hB : 0 < B) : Tab w' := var?_below hb tab_g hB h
theorem Tab.after (h : Tab w) (hb : Below w.heap.size w w') : Tab w' := h.below hb h.lt
theorem Tab.ch {S : Nat → Prop} (h : Tab w) (c : Ch S w w') (hS : ¬ S 0) : Tab w' := by
  have := c.block _ h.lt hS
  unfold Tab Lib.TabIs World.var? at h ⊢
  rw [tab_g] at h ⊢
  simp only [Option.bind_some] at h ⊢
  rw [this]
  exact h
end

theorem below_grow (w : World) (k : Nat) (os : Array Obj) : Below w.heap.size w (Sort.grow (w.drewN k) os) :=
  ⟨rfl, rfl, rfl, by simp [Sort.grow, World.drewN], fun i hi => by simp only [Sort.grow, World.drewN]; rw [Array.getElem?_append_left hi]⟩

set_option maxHeartbeats 1000000 in
theorem file_name (w : World) (name : Tx) (k : Nat) (hT : Tab w) (hk : k < 1000000000000000) (hn : name.length ≤ 1099511627776) :
    Calls Tryz.prog 53 #[.string ⟨name.toArray⟩, .int .i64 (k : Int)] w fun e w' => e = .returned (.string ⟨(nm name k).toArray⟩) ∧ Below w.heap.size w w' := by
  have HT := Lib.hid hT
  have hd := dec_len (k := k) 14 (by omega)
  have HI := Lib.hid (Lib.itoa_nonneg k)
  have hi : (Lib.itoa (k : Int)).length ≤ 15 := by rw [HI.out]; exact hd
  have hs : (ByteArray.mk name.toArray).size ≤ 1099511627776 := by show name.toArray.size ≤ _; simpa using hn
  clear hT hd
  go_enter Tryz.func53, Tryz.ntmps53
  go_wp2_with (go_at_call 69; refine (Any.strconv_FormatInt_10 Tryz.fmtInt (k : Int) (by omega) (by omega) _ HT.out).mono ?_; rintro e w2 ⟨rfl, n, os, rfl⟩)
  go_ret
  refine ⟨?_, below_grow w n os⟩
  show Ending.returned (.string _) = _
  rw [HI.out]
  unfold nm
  have : (ByteArray.mk name.toArray ++ ByteArray.mk #[46] ++ ByteArray.mk (Lib.decDigits k).toArray : ByteArray) = ⟨(name ++ [46] ++ Lib.decDigits k).toArray⟩ := by
    apply ByteArray.ext
    simp
  exact congrArg (fun z => Ending.returned (.string z)) this

theorem ready_on_ (w : World) (S : Nat → Prop) (p : Nat) (L : List Fl) (room : Nat) (h : Dk w S p L room false) (hg : find L [] = none) : Calls Tryz.prog 25 #[.pointer (some ⟨p, 0, none⟩)] w fun e w' => e = .returned (.int .i64 0) ∧ w = w' := by
  have H := Lib.hid h
  have HG := Lib.hid hg
  have he : (⟨#[]⟩ : ByteArray) = ⟨([] : Tx).toArray⟩ := rfl
  clear h hg
  have hc := synced_on w S p L room false [] (by simp) H.out
  rw [show syncedS L false [] = (0, 4) by simp [syncedS, HG.out]] at hc
  have HC := Lib.hid hc
  clear hc
  go_enter Tryz.func25, Tryz.ntmps25
  go_wp2_with (go_at_call 52; refine HC.out.mono ?_; rintro e w2 ⟨rfl, rfl⟩)
  go_ret
  exact ⟨rfl, rfl⟩

end Go.Proofs.YtjjfhbbaabakmaaGreatDoor.We

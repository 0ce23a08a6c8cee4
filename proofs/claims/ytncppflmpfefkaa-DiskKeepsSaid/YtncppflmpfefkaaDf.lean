/-
  Contracts of the program's disk: Append, Write, Sync, Truncate, Synced, Get.
-/
import Derived.Test.YtncppflmpfefkaaDe
namespace Go.Proofs.Ytncppflmpfefkaa.Df
open Go Go.RowKit Go.Maps Ck Kw Ga Dm Dw Da Db Dc Dd De
attribute [local go_sem ↓] Go.wp_at_zero Go.wp_at_succ
set_option linter.unusedVariables false

/-- find, at a file that there is. -/
theorem find_in (w : World) (S : Nat → Prop) (p m : Nat) (L : List Fl) (room : Nat) (D : DataW Unit) (G : Tx → Nat) (T : Tx → Nat → Prop) (s : Tx) (hs : s.length ≤ 140737488355328) (h : Parts w S p m L room false D G T) (f : Fl) (hf : find L s = some f) :
    Calls Try.prog 50 #[.pointer (some ⟨p, 0, none⟩), .string ⟨s.toArray⟩] w fun e w' => e = .returned (.tuple #[.pointer (some ⟨G f.n, 0, none⟩), .int .i64 0]) ∧ w = w' := by
  have hc := find_on w S p m L room D G T s hs h
  have hi : isIn L s = true := by rw [isIn_find, hf]; rfl
  rw [hi, if_pos rfl, if_pos rfl, ← (find_some hf).2] at hc
  rw [← (find_some hf).2]
  exact hc
theorem find_out (w : World) (S : Nat → Prop) (p : Nat) (L : List Fl) (room : Nat) (s : Tx) (hs : s.length ≤ 140737488355328) (h : Dk w S p L room false) (hf : find L s = none) :
    Calls Try.prog 50 #[.pointer (some ⟨p, 0, none⟩), .string ⟨s.toArray⟩] w fun e w' => e = .returned (.tuple #[.pointer none, .int .i64 4]) ∧ w = w' := by
  obtain ⟨m, D, G, T, hP⟩ := h.opened
  have hc := find_on w S p m L room D G T s hs hP
  have hi : isIn L s = false := by rw [isIn_find, hf]; rfl
  rw [hi, if_neg (by simp), if_neg (by simp)] at hc
  exact hc
/-- find, where nothing comes of it. -/
theorem find_no (w : World) (S : Nat → Prop) (p : Nat) (L : List Fl) (room : Nat) (off : Bool) (s : Tx) (hs : s.length ≤ 140737488355328) (h : Dk w S p L room off) (c : Nat) (hc : (off = true ∧ c = 32) ∨ (off = false ∧ find L s = none ∧ c = 4)) :
    Calls Try.prog 50 #[.pointer (some ⟨p, 0, none⟩), .string ⟨s.toArray⟩] w fun e w' => e = .returned (.tuple #[.pointer none, .int .i64 (c : Int)]) ∧ w = w' := by
  rcases hc with ⟨rfl, rfl⟩ | ⟨rfl, hf, rfl⟩
  · exact find_off w S p L room _ h
  · exact find_out w S p L room s hs h hf
/-- What find may come to. -/
theorem find_cases (L : List Fl) (off : Bool) (s : Tx) : (∃ c : Nat, 2 < c ∧ c < 100 ∧ ((off = true ∧ c = 32) ∨ (off = false ∧ find L s = none ∧ c = 4))) ∨ (off = false ∧ ∃ f, find L s = some f) := by
  cases off
  · cases h : find L s with
    | none => exact .inl ⟨4, by omega, by omega, .inr ⟨rfl, rfl, rfl⟩⟩
    | some f => exact .inr ⟨rfl, f, rfl⟩
  · exact .inl ⟨32, by omega, by omega, .inl ⟨rfl, rfl⟩⟩

theorem app_no {L : List Fl} {room : Nat} {off : Bool} {s x : Tx} {c : Nat} (hc : (off = true ∧ c = 32) ∨ (off = false ∧ find L s = none ∧ c = 4)) : appS L room off s x = (L, c) := by
  rcases hc with ⟨rfl, rfl⟩ | ⟨rfl, hf, rfl⟩
  · rfl
  · rw [appS, hf]; rfl
theorem write_no {L : List Fl} {room : Nat} {off : Bool} {s x : Tx} {z : Int} {c : Nat} (hc : (off = true ∧ c = 32) ∨ (off = false ∧ find L s = none ∧ c = 4)) : writeS L room off s z x = (L, c) := by
  rcases hc with ⟨rfl, rfl⟩ | ⟨rfl, hf, rfl⟩
  · rfl
  · rw [writeS, hf]; rfl

theorem write_some {L : List Fl} {room : Nat} {s x : Tx} {z : Int} {f : Fl} (hf : find L s = some f) : writeS L room false s z x = if z < 0 ∨ (f.b.length : Int) < z then (L, 1) else putS L room f z.toNat x := by
  rw [writeS, hf]; rfl

set_option maxHeartbeats 1000000 in
theorem append_on (w : World) (S X : Nat → Prop) (p : Nat) (L : List Fl) (room : Nat) (off : Bool) (s : Tx) (hs : s.length ≤ 140737488355328) (h : Dk w S p L room off) (x : Tx) (B : Option Addr) (c : Nat)
    (hx : Sl w X 1 (.slice B x.length c) x.length (BVs x)) (hX : ∀ k, S k → X k) (hxl : x.length ≤ 140737488355328) :
    Calls Try.prog 14 #[.pointer (some ⟨p, 0, none⟩), .string ⟨s.toArray⟩, .slice B x.length c] w (Did S p (appS L room off s x) room off w) := by
  rcases find_cases L off s with ⟨q, hq1, hq2, hq⟩ | ⟨rfl, f, hf⟩
  · have HF := Lib.hid (find_no w S p L room off s hs h q hq)
    have H := Lib.hid h
    rw [app_no hq]
    have hne : ((q : Int) == 0) = false := by rw [beq_eq_false_iff_ne]; omega
    clear h hq hx hX
    go_enter Try.func14, Try.ntmps14
    go_wp2_with (go_at_call 50; refine HF.out.mono ?_; rintro e w' ⟨rfl, rfl⟩)
    go_ret
    exact did_refl H.out
  · have e : appS L room false s x = putS L room f f.b.length x := by rw [appS, hf]; rfl
    rw [e]
    obtain ⟨m, D, G, T, hP⟩ := h.opened
    have hfm := (find_some hf).1
    have HF := Lib.hid (find_in w S p m L room D G T s hs hP f hf)
    have HPU := Lib.hid (put_on w S X p m L room D G T hP f hfm f.b.length (Nat.le_refl _) x B c hx hX hxl)
    obtain ⟨v, k1, ho, -⟩ := hP.file f hfm
    obtain ⟨A, c1, rfl⟩ := own_shape ho
    have c0 : w.cell? ⟨G f.n, 0, none⟩ = some (.slice A f.b.length c1) := k1.cell 0
    clear h hP hx hX k1 ho hf e
    go_enter Try.func14, Try.ntmps14
    go_wp2_with (first
      | (go_at_call 50; refine HF.out.mono ?_; rintro e w' ⟨rfl, rfl⟩)
      | (go_at_call 51; refine HPU.out.mono ?_; rintro e w2 ⟨rfl, hD2⟩))
    go_ret
    exact ⟨rfl, hD2⟩

set_option maxHeartbeats 1000000 in
theorem write_on (w : World) (S X : Nat → Prop) (p : Nat) (L : List Fl) (room : Nat) (off : Bool) (s : Tx) (hs : s.length ≤ 140737488355328) (h : Dk w S p L room off) (z : Int) (x : Tx) (B : Option Addr) (c : Nat)
    (hx : Sl w X 1 (.slice B x.length c) x.length (BVs x)) (hX : ∀ k, S k → X k) (hxl : x.length ≤ 140737488355328) :
    Calls Try.prog 27 #[.pointer (some ⟨p, 0, none⟩), .string ⟨s.toArray⟩, .int .i64 z, .slice B x.length c] w (Did S p (writeS L room off s z x) room off w) := by
  rcases find_cases L off s with ⟨q, hq1, hq2, hq⟩ | ⟨rfl, f, hf⟩
  · have HF := Lib.hid (find_no w S p L room off s hs h q hq)
    have H := Lib.hid h
    rw [write_no hq]
    have hne : ((q : Int) == 0) = false := by rw [beq_eq_false_iff_ne]; omega
    clear h hq hx hX
    go_enter Try.func27, Try.ntmps27
    go_wp2_with (go_at_call 50; refine HF.out.mono ?_; rintro e w' ⟨rfl, rfl⟩)
    go_ret
    exact did_refl H.out
  · have H := Lib.hid h
    obtain ⟨m, D, G, T, hP⟩ := h.opened
    have hfm := (find_some hf).1
    have HF := Lib.hid (find_in w S p m L room D G T s hs hP f hf)
    have HPU : ∀ k : Nat, k ≤ f.b.length → _ := fun k hk => put_on w S X p m L room D G T hP f hfm k hk x B c hx hX hxl
    have HPU := Lib.hid HPU
    obtain ⟨v, k1, ho, -⟩ := hP.file f hfm
    obtain ⟨A, c1, rfl⟩ := own_shape ho
    have c0 : w.cell? ⟨G f.n, 0, none⟩ = some (.slice A f.b.length c1) := k1.cell 0
    by_cases h0 : z < 0
    · have e : writeS L room false s z x = (L, 1) := by rw [write_some hf, if_pos (.inl h0)]
      rw [e]
      clear h hP hx hX k1 ho hf e
      go_enter Try.func27, Try.ntmps27
      go_wp2_with (go_at_call 50; refine HF.out.mono ?_; rintro e w' ⟨rfl, rfl⟩)
      go_ret
      exact did_refl H.out
    · by_cases h1 : (f.b.length : Int) < z
      · have e : writeS L room false s z x = (L, 1) := by rw [write_some hf, if_pos (.inr h1)]
        rw [e]
        clear h hP hx hX k1 ho hf e
        go_enter Try.func27, Try.ntmps27
        go_wp2_with (go_at_call 50; refine HF.out.mono ?_; rintro e w' ⟨rfl, rfl⟩)
        go_ret
        exact did_refl H.out
      · obtain ⟨k, rfl⟩ : ∃ k : Nat, z = (k : Int) := ⟨z.toNat, by omega⟩
        have e : writeS L room false s (k : Int) x = putS L room f k x := by
          rw [write_some hf, if_neg (by omega)]
          rfl
        rw [e]
        have HK := Lib.hid (show k ≤ f.b.length by omega)
        clear h hP hx hX k1 ho hf e
        go_enter Try.func27, Try.ntmps27
        go_wp2_with (first
          | (go_at_call 50; refine HF.out.mono ?_; rintro e w' ⟨rfl, rfl⟩)
          | (go_at_call 51; refine (HPU.out k HK.out).mono ?_; rintro e w2 ⟨rfl, hD2⟩))
        go_ret
        exact ⟨rfl, hD2⟩

/-- What is written of a file in its place. -/
def updS (L : List Fl) (off : Bool) (s : Tx) (g : Fl → Fl) : List Fl × Nat := if off then (L, 32) else match find L s with | none => (L, 4) | some f => (upd L f.n (setf (g f).b (g f).d), 0)
def truncS (L : List Fl) (off : Bool) (s : Tx) (z : Int) : List Fl × Nat :=
  if off then (L, 32) else match find L s with | none => (L, 4) | some f => if z < 0 ∨ (f.b.length : Int) < z then (L, 1) else (upd L f.n (setf (f.b.take z.toNat) (min f.d z.toNat)), 0)
def syncS (L : List Fl) (off : Bool) (s : Tx) : List Fl × Nat := if off then (L, 32) else match find L s with | none => (L, 4) | some f => (upd L f.n (setf f.b f.b.length), 0)
theorem sync_no {L : List Fl} {off : Bool} {s : Tx} {c : Nat} (hc : (off = true ∧ c = 32) ∨ (off = false ∧ find L s = none ∧ c = 4)) : syncS L off s = (L, c) := by
  rcases hc with ⟨rfl, rfl⟩ | ⟨rfl, hf, rfl⟩
  · rfl
  · rw [syncS, hf]; rfl
theorem trunc_no {L : List Fl} {off : Bool} {s : Tx} {z : Int} {c : Nat} (hc : (off = true ∧ c = 32) ∨ (off = false ∧ find L s = none ∧ c = 4)) : truncS L off s z = (L, c) := by
  rcases hc with ⟨rfl, rfl⟩ | ⟨rfl, hf, rfl⟩
  · rfl
  · rw [truncS, hf]; rfl
theorem trunc_some {L : List Fl} {s : Tx} {z : Int} {f : Fl} (hf : find L s = some f) : truncS L false s z = if z < 0 ∨ (f.b.length : Int) < z then (L, 1) else (upd L f.n (setf (f.b.take z.toNat) (min f.d z.toNat)), 0) := by
  rw [truncS, hf]; rfl
theorem used_le {L : List Fl} (hn : (L.map (·.n)).Nodup) {f : Fl} (hf : f ∈ L) {b : Tx} {d : Nat} (hb : b.length ≤ f.b.length) : used (upd L f.n (setf b d)) ≤ used L := by
  have h1 := used_upd hn hf (setf b d)
  have h2 : (setf b d f).b.length = b.length := rfl
  omega

theorem sync_on (w : World) (S : Nat → Prop) (p : Nat) (L : List Fl) (room : Nat) (off : Bool) (s : Tx) (hs : s.length ≤ 140737488355328) (h : Dk w S p L room off) :
    Calls Try.prog 28 #[.pointer (some ⟨p, 0, none⟩), .string ⟨s.toArray⟩] w (Did S p (syncS L off s) room off w) := by
  rcases find_cases L off s with ⟨q, hq1, hq2, hq⟩ | ⟨rfl, f, hf⟩
  · have HF := Lib.hid (find_no w S p L room off s hs h q hq)
    have H := Lib.hid h
    rw [sync_no hq]
    have hne : ((q : Int) == 0) = false := by rw [beq_eq_false_iff_ne]; omega
    clear h hq
    go_enter Try.func28, Try.ntmps28
    go_wp2_with (go_at_call 50; refine HF.out.mono ?_; rintro e w' ⟨rfl, rfl⟩)
    go_ret
    exact did_refl H.out
  · have e : syncS L false s = (upd L f.n (setf f.b f.b.length), 0) := by rw [syncS, hf]; rfl
    rw [e]
    obtain ⟨m, D, G, T, hP⟩ := h.opened
    have HF := Lib.hid (find_in w S p m L room D G T s hs hP f hf)
    have hf := (find_some hf).1
    have HP := Lib.hid hP
    have HM := Lib.hid hf
    clear h hP hf e
    go_enter Try.func28, Try.ntmps28
    go_wp2_with (first
      | (go_at_call 50; refine HF.out.mono ?_; rintro e w' ⟨rfl, rfl⟩)
      | (go_at_call 56; refine (fsync_any _ _ _ _ _ (HP.out.file f HM.out)).mono ?_; rintro e w2 ⟨rfl, hF2, hC2⟩))
    go_ret
    have hu := used_le HP.out.good.nodup HM.out (b := f.b) (d := f.b.length) (Nat.le_refl _)
    exact ⟨rfl, (parts_put HP.out HM.out (hF2.weaken (fun k hk => .inl hk)) hC2 (Nat.le_trans hu HP.out.good.fits)).shut, hC2.mono (fun q _ hq => (HP.out.sub f HM.out q hq).1)⟩

set_option maxHeartbeats 1000000 in
theorem trunc_on (w : World) (S : Nat → Prop) (p : Nat) (L : List Fl) (room : Nat) (off : Bool) (s : Tx) (hs : s.length ≤ 140737488355328) (h : Dk w S p L room off) (z : Int) :
    Calls Try.prog 30 #[.pointer (some ⟨p, 0, none⟩), .string ⟨s.toArray⟩, .int .i64 z] w (Did S p (truncS L off s z) room off w) := by
  rcases find_cases L off s with ⟨q, hq1, hq2, hq⟩ | ⟨rfl, f, hf⟩
  · have HF := Lib.hid (find_no w S p L room off s hs h q hq)
    have H := Lib.hid h
    rw [trunc_no hq]
    have hne : ((q : Int) == 0) = false := by rw [beq_eq_false_iff_ne]; omega
    clear h hq
    go_enter Try.func30, Try.ntmps30
    go_wp2_with (go_at_call 50; refine HF.out.mono ?_; rintro e w' ⟨rfl, rfl⟩)
    go_ret
    exact did_refl H.out
  · obtain ⟨m, D, G, T, hP⟩ := h.opened
    have HF := Lib.hid (find_in w S p m L room D G T s hs hP f hf)
    have hfm := (find_some hf).1
    have HP := Lib.hid hP
    have HM := Lib.hid hfm
    have H := Lib.hid h
    obtain ⟨v, k1, ho, -⟩ := hP.file f hfm
    obtain ⟨A, c1, rfl⟩ := own_shape ho
    have c0 : w.cell? ⟨G f.n, 0, none⟩ = some (.slice A f.b.length c1) := k1.cell 0
    by_cases h0 : z < 0
    · have e : truncS L false s z = (L, 1) := by rw [trunc_some hf, if_pos (.inl h0)]
      rw [e]
      clear h hP k1 ho hf e hfm
      go_enter Try.func30, Try.ntmps30
      go_wp2_with (go_at_call 50; refine HF.out.mono ?_; rintro e w' ⟨rfl, rfl⟩)
      go_ret
      exact did_refl H.out
    · by_cases h1 : (f.b.length : Int) < z
      · have e : truncS L false s z = (L, 1) := by rw [trunc_some hf, if_pos (.inr h1)]
        rw [e]
        clear h hP k1 ho hf e hfm
        go_enter Try.func30, Try.ntmps30
        go_wp2_with (go_at_call 50; refine HF.out.mono ?_; rintro e w' ⟨rfl, rfl⟩)
        go_ret
        exact did_refl H.out
      · obtain ⟨k, rfl⟩ : ∃ k : Nat, z = (k : Int) := ⟨z.toNat, by omega⟩
        have e : truncS L false s (k : Int) = (upd L f.n (setf (f.b.take k) (min f.d k)), 0) := by
          rw [trunc_some hf, if_neg (by omega)]
          rfl
        rw [e]
        have HK := Lib.hid (show k ≤ f.b.length by omega)
        clear h hP k1 ho hf e hfm
        go_enter Try.func30, Try.ntmps30
        go_wp2_with (first
          | (go_at_call 50; refine HF.out.mono ?_; rintro e w' ⟨rfl, rfl⟩)
          | (go_at_call 57; refine (fcut_any _ _ _ _ _ k HK.out (HP.out.file f HM.out)).mono ?_; rintro e w2 ⟨rfl, hF2, hC2⟩))
        go_ret
        have hu := used_le HP.out.good.nodup HM.out (b := f.b.take k) (d := min f.d k) (by rw [List.length_take]; omega)
        exact ⟨rfl, (parts_put HP.out HM.out hF2 hC2 (Nat.le_trans hu HP.out.good.fits)).shut, hC2.mono (fun q _ hq => (HP.out.sub f HM.out q hq).1)⟩

end Go.Proofs.Ytncppflmpfefkaa.Df

/-
  Contracts of the program's disk: Synced, Get, Remove, Rename, Create.
-/
import Derived.Test.YtncppflmpfefkaaDf
namespace Go.Proofs.Ytncppflmpfefkaa.Dg
open Go Go.RowKit Go.Maps Ck Kw Ga Dm Dw Da Db Dc Dd De Df
attribute [local go_sem ↓] Go.wp_at_zero Go.wp_at_succ
set_option linter.unusedVariables false

def syncedS (L : List Fl) (off : Bool) (s : Tx) : Nat × Nat := if off then (0, 32) else match find L s with | none => (0, 4) | some f => (f.d, 0)
def getS (L : List Fl) (off : Bool) (s : Tx) : Tx × Nat := if off then ([], 32) else match find L s with | none => ([], 4) | some f => (f.b, 0)
theorem synced_no {L : List Fl} {off : Bool} {s : Tx} {c : Nat} (hc : (off = true ∧ c = 32) ∨ (off = false ∧ find L s = none ∧ c = 4)) : syncedS L off s = (0, c) := by
  rcases hc with ⟨rfl, rfl⟩ | ⟨rfl, hf, rfl⟩
  · rfl
  · rw [syncedS, hf]; rfl
theorem get_no {L : List Fl} {off : Bool} {s : Tx} {c : Nat} (hc : (off = true ∧ c = 32) ∨ (off = false ∧ find L s = none ∧ c = 4)) : getS L off s = ([], c) := by
  rcases hc with ⟨rfl, rfl⟩ | ⟨rfl, hf, rfl⟩
  · rfl
  · rw [getS, hf]; rfl

theorem synced_on (w : World) (S : Nat → Prop) (p : Nat) (L : List Fl) (room : Nat) (off : Bool) (s : Tx) (hs : s.length ≤ 140737488355328) (h : Dk w S p L room off) :
    Calls Try.prog 19 #[.pointer (some ⟨p, 0, none⟩), .string ⟨s.toArray⟩] w fun e w' => e = .returned (.tuple #[.int .i64 ((syncedS L off s).1 : Int), .int .i64 ((syncedS L off s).2 : Int)]) ∧ w = w' := by
  rcases find_cases L off s with ⟨q, hq1, hq2, hq⟩ | ⟨rfl, f, hf⟩
  · have HF := Lib.hid (find_no w S p L room off s hs h q hq)
    rw [synced_no hq]
    have hne : ((q : Int) == 0) = false := by rw [beq_eq_false_iff_ne]; omega
    clear h hq
    go_enter Try.func19, Try.ntmps19
    go_wp2_with (go_at_call 50; refine HF.out.mono ?_; rintro e w' ⟨rfl, rfl⟩)
    go_ret2
    exact ⟨rfl, rfl⟩
  · have e : syncedS L false s = (f.d, 0) := by rw [syncedS, hf]; rfl
    rw [e]
    obtain ⟨m, D, G, T, hP⟩ := h.opened
    have HF := Lib.hid (find_in w S p m L room D G T s hs hP f hf)
    have hfm := (find_some hf).1
    obtain ⟨v, k1, ho, -⟩ := hP.file f hfm
    have c1 : w.cell? ⟨G f.n, 1, none⟩ = some (.int .i64 (f.d : Int)) := k1.cell 1
    clear h hP k1 ho hf e
    go_enter Try.func19, Try.ntmps19
    go_wp2_with (go_at_call 50; refine HF.out.mono ?_; rintro e w' ⟨rfl, rfl⟩)
    go_ret2
    exact ⟨rfl, rfl⟩

/-- What Get hands back. -/
def Got (w : World) (r : Tx × Nat) (e : Ending) (w' : World) : Prop :=
  ∃ A c, e = .returned (.tuple #[.slice A r.1.length c, .int .i64 (r.2 : Int)]) ∧ w'.ownsRow w.heap.size 5 1 (.slice A r.1.length c) r.1.length (BVs r.1) ∧ Below w.heap.size w w'
theorem get_on (w : World) (S : Nat → Prop) (p : Nat) (L : List Fl) (room : Nat) (off : Bool) (s : Tx) (hs : s.length ≤ 140737488355328) (h : Dk w S p L room off) :
    Calls Try.prog 18 #[.pointer (some ⟨p, 0, none⟩), .string ⟨s.toArray⟩] w (Got w (getS L off s)) := by
  rcases find_cases L off s with ⟨q, hq1, hq2, hq⟩ | ⟨rfl, f, hf⟩
  · have HF := Lib.hid (find_no w S p L room off s hs h q hq)
    rw [get_no hq]
    have hne : ((q : Int) == 0) = false := by rw [beq_eq_false_iff_ne]; omega
    clear h hq
    go_enter Try.func18, Try.ntmps18
    go_wp2_with (go_at_call 50; refine HF.out.mono ?_; rintro e w' ⟨rfl, rfl⟩)
    go_ret2
    exact ⟨none, 0, rfl, World.ownsRow_nil _ _ _ _, Below.refl _ _⟩
  · have e : getS L false s = (f.b, 0) := by rw [getS, hf]; rfl
    rw [e]
    obtain ⟨m, D, G, T, hP⟩ := h.opened
    have HF := Lib.hid (find_in w S p m L room D G T s hs hP f hf)
    have hfm := (find_some hf).1
    have hlen := hP.good.len hfm
    obtain ⟨v, k1, ho, -⟩ := hP.file f hfm
    obtain ⟨A, c1, rfl⟩ := own_shape ho
    have c0 : w.cell? ⟨G f.n, 0, none⟩ = some (.slice A f.b.length c1) := k1.cell 0
    have HS := Lib.hid (Sl.of_own (X := fun _ => False) ho (fun _ _ _ h => h))
    clear h hP k1 ho hf e
    go_enter Try.func18, Try.ntmps18
    go_wp2_with (first
      | (go_at_call 50; refine HF.out.mono ?_; rintro e w' ⟨rfl, rfl⟩)
      | (go_at_call 32; refine (clone_sh _ _ _ f.b _ HS.out (by omega)).mono ?_; rintro e w2 ⟨A2, c2, rfl, ho2, hb2⟩))
    go_ret2
    exact ⟨A2, c2, rfl, ho2, hb2⟩

/-- The map has turned, and no file. -/
theorem parts_map {w w' : World} {S : Nat → Prop} {p m room : Nat} {L L' : List Fl} {off : Bool} {D D' : DataW Unit} {G : Tx → Nat} {T : Tx → Nat → Prop} (h : Parts w S p m L room off D G T) (c : Ch (fun k => k = m) w w')
    (ho : w'.ownsMap Try.prog 9 ptrElem m 64 D') (φ : Tx → Tx) (hT : TellsD D' L' (fun s => G (φ s))) (hg : GoodL L' room) (hL : ∀ f' ∈ L', ∃ f ∈ L, f.n = φ f'.n ∧ f.b = f'.b ∧ f.d = f'.d) (hi : ∀ f ∈ L', ∀ h ∈ L', φ f.n = φ h.n → f.n = h.n) :
    Parts w' S p m L' room off D' (fun s => G (φ s)) (fun s => T (φ s)) := by
  refine ⟨h.blk.ch c (fun e => h.sm.2 e.symm), h.sp, ho, hT, h.sm, fun f' hf' => ?_, fun f' hf' k hk => ?_, fun f' hf' h' hh' hne k hk hk' => ?_, hg⟩
  · obtain ⟨f, hf, e1, e2, e3⟩ := hL f' hf'
    rw [← e1, ← e2, ← e3]
    exact (h.file f hf).ch c (fun k hk e => (h.sub f hf k hk).2.2.1 e)
  · obtain ⟨f, hf, e1, -⟩ := hL f' hf'
    rw [← e1] at hk
    have := h.sub f hf k hk
    exact ⟨this.1, this.2.1, this.2.2.1, Nat.lt_of_lt_of_le this.2.2.2 c.size⟩
  · obtain ⟨f, hf, e1, -⟩ := hL f' hf'
    obtain ⟨g, hg', e2, -⟩ := hL h' hh'
    rw [← e1] at hk
    rw [← e2] at hk'
    exact h.apart f hf g hg' (fun e => hne (hi f' hf' h' hh' (by rw [← e1, ← e2, e]))) k hk hk'

theorem mem_del {L : List Fl} {s : Tx} {f : Fl} : f ∈ del L s ↔ f ∈ L ∧ f.n ≠ s := by
  unfold del
  rw [List.mem_filter]
  simp
theorem used_filter_le (L : List Fl) (P : Fl → Bool) : used (L.filter P) ≤ used L := by
  induction L with
  | nil => exact Nat.le_refl _
  | cons x L ih =>
    by_cases h : P x = true
    · rw [List.filter_cons_of_pos h]
      simp only [used]
      omega
    · rw [List.filter_cons_of_neg h]
      simp only [used]
      omega
theorem good_del {L : List Fl} {room : Nat} (h : GoodL L room) (s : Tx) : GoodL (del L s) room :=
  ⟨h.nodup.sublist (List.filter_sublist.map _), Nat.le_trans (List.length_filter_le _ _) h.few, Nat.le_trans (used_filter_le _ _) h.fits, h.room, fun f hf => h.name f (mem_del.1 hf).1, fun f hf => h.done f (mem_del.1 hf).1⟩
theorem isIn_del (L : List Fl) (s t : Tx) : isIn (del L s) t = (isIn L t && !(t == s)) := by
  rw [Bool.eq_iff_iff, isIn_iff, Bool.and_eq_true, isIn_iff]
  constructor
  · rintro ⟨f, hf, rfl⟩
    have := mem_del.1 hf
    exact ⟨⟨f, this.1, rfl⟩, by simpa using this.2⟩
  · rintro ⟨⟨f, hf, rfl⟩, hne⟩
    exact ⟨f, mem_del.2 ⟨hf, by simpa using hne⟩, rfl⟩
theorem strKey_ne {s t : Tx} (h : s ≠ t) : (Lit.string s) ≠ Lit.string t := fun e => h (by injection e)
theorem strKey (s : Tx) : WideAt.IsKeyLit (.string s) := trivial
theorem tells_del {D : DataW Unit} {L : List Fl} {G : Tx → Nat} (h : TellsD D L G) (s : Tx) : TellsD (D.del (.string s)) (del L s) G := by
  refine ⟨fun t => ?_, fun f hf zd => ?_⟩
  · rw [isIn_del]
    by_cases e : t = s
    · subst e
      rw [Maps.has_del_same]
      simp
    · rw [Maps.has_del_other (strKey_ne e), h.1 t]
      have : (t == s) = false := by rw [beq_eq_false_iff_ne]; exact e
      rw [this]
      simp
  · have := mem_del.1 hf
    rw [Maps.atKey_del_other (strKey_ne this.2)]
    exact h.2 f this.1 zd

def remS (L : List Fl) (off : Bool) (s : Tx) : List Fl × Nat := if off then (L, 32) else match find L s with | none => (L, 4) | some f => (del L f.n, 0)
theorem rem_no {L : List Fl} {off : Bool} {s : Tx} {c : Nat} (hc : (off = true ∧ c = 32) ∨ (off = false ∧ find L s = none ∧ c = 4)) : remS L off s = (L, c) := by
  rcases hc with ⟨rfl, rfl⟩ | ⟨rfl, hf, rfl⟩
  · rfl
  · rw [remS, hf]; rfl
theorem remove_on (w : World) (S : Nat → Prop) (p : Nat) (L : List Fl) (room : Nat) (off : Bool) (s : Tx) (hs : s.length ≤ 140737488355328) (h : Dk w S p L room off) :
    Calls Try.prog 15 #[.pointer (some ⟨p, 0, none⟩), .string ⟨s.toArray⟩] w (Did S p (remS L off s) room off w) := by
  rcases find_cases L off s with ⟨q, hq1, hq2, hq⟩ | ⟨rfl, f, hf⟩
  · have HF := Lib.hid (find_no w S p L room off s hs h q hq)
    have H := Lib.hid h
    rw [rem_no hq]
    have hne : ((q : Int) == 0) = false := by rw [beq_eq_false_iff_ne]; omega
    clear h hq
    go_enter Try.func15, Try.ntmps15
    go_wp2_with (go_at_call 50; refine HF.out.mono ?_; rintro e w' ⟨rfl, rfl⟩)
    go_ret
    exact did_refl H.out
  · have e : remS L false s = (del L s, 0) := by rw [remS, hf, ← (find_some hf).2]; rfl
    rw [e]
    obtain ⟨m, D, G, T, hP⟩ := h.opened
    have HF := Lib.hid (find_in w S p m L room D G T s hs hP f hf)
    have c0 : w.cell? ⟨p, 0, none⟩ = some (.map (some m)) := hP.blk.cell 0
    have HP := Lib.hid hP
    have hK := key_str s (by simp only [maxLen]; omega)
    have HK := Lib.hid hK
    clear h hP hf e hK
    go_enter Try.func15, Try.ntmps15
    go_wp2_with (first
      | (go_at_call 50; refine HF.out.mono ?_; rintro e w' ⟨rfl, rfl⟩)
      | (at_delete; refine wpList_delete_own _ rfl _ _ 60 9 rfl 69 law_str Try.underlying60 ptrElem m 64 D rfl HP.out.own _ _ rfl HK.out ?_; intro w1 hown1 hturn1))
    go_ret
    have hc : Ch (fun k => k = m) w w1 := Ch.of_grown hturn1.grown (fun g hg _ => (Option.some.inj hg).symm)
    have hP1 := parts_map HP.out hc hown1 (fun s => s) (tells_del HP.out.tells s) (good_del HP.out.good s) (fun f' hf' => ⟨f', (mem_del.1 hf').1, rfl, rfl, rfl⟩) (fun _ _ _ _ e => e)
    exact ⟨rfl, (Parts.shut hP1).weaken (fun k hk => Or.inl hk), hc.mono (fun k _ hk => by rw [hk]; exact HP.out.sm.1)⟩

end Go.Proofs.Ytncppflmpfefkaa.Dg

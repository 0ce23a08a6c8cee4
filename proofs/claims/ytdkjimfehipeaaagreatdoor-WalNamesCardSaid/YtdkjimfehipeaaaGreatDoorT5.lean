import Derived.Test.YtdkjimfehipeaaaGreatDoorT4
import Derived.Shelf.SlGeneric
import Derived.Shelf.SlIter.Nil
import Derived.Shelf.SortM.Plain
import Derived.Shelf.SortM.SortNone
import Derived.Shelf.Strconv.Itoa4
import Derived.Shelf.Strconv.ParseIntPublic10
import Derived.Shelf.Strings.Prefix
import Derived.Ground.GgzProg
import Derived.Ground.SlgmProg
import Derived.Test.YtdkjimfehipeaaaGreatDoorProg
/-
  Contracts of the program's disk: Synced, Get, Remove, Rename, Create.
-/
namespace Go.Proofs.YtdkjimfehipeaaaGreatDoor.Dg
open Go Go.RowKit Go.Maps Ck Kw Ga Dm Dw Da Db Dc Dd De Df
attribute [local go_sem ↓] Go.wp_at_zero Go.wp_at_succ
set_option linter.unusedVariables false

def syncedS (L : List Fl) (off : Bool) (s : Tx) : Nat × Nat := if off then (0, 32) else match find L s with | none => (0, 4) | some f => (f.d, 0)
def getS (L : List Fl) (off : Bool) (s : Tx) : Tx × Nat := if off then ([], 32) else match find L s with | none => ([], 4) | some f => (f.b, 0)
theorem synced_no {L : List Fl} {off : Bool} {s : Tx} {c : Nat} (hc : (off = true ∧ c = 32) ∨ (off = false ∧ find L s = none ∧ c = 4)) : syncedS L off s = (0, c) := by
  rcases hc with ⟨rfl, rfl⟩ | ⟨rfl, hf, rfl⟩
  · rfl
  · rw [syncedS, hf]; rfl
theorem get_no {L : List Fl} {off : Bool} {s : Tx} {c : Nat} (hc : (off = true ∧ c = 32) ∨ (off = false ∧ find L s = none ∧ c = 4)) : getS L off s = ([], c) := by
  rcases hc with ⟨rfl, rfl⟩ | ⟨rfl, hf, rfl⟩
  · rfl
  · rw [getS, hf]; rfl

theorem synced_on (w : World) (S : Nat → Prop) (p : Nat) (L : List Fl) (room : Nat) (off : Bool) (s : Tx) (hs : s.length ≤ 140737488355328) (h : Dk w S p L room off) :
    Calls Tryz.prog 88 #[.pointer (some ⟨p, 0, none⟩), .string ⟨s.toArray⟩] w fun e w' => e = .returned (.tuple #[.int .i64 ((syncedS L off s).1 : Int), .int .i64 ((syncedS L off s).2 : Int)]) ∧ w = w' := by
  rcases find_cases L off s with ⟨q, hq1, hq2, hq⟩ | ⟨rfl, f, hf⟩
  · have HF := Lib.hid (find_no w S p L room off s hs h q hq)
    rw [synced_no hq]
    have hne : ((q : Int) == 0) = false := by rw [beq_eq_false_iff_ne]; omega
    clear h hq
    go_enter Tryz.func88, Tryz.ntmps88
    go_wp2_with (go_at_call 68; refine HF.out.mono ?_; rintro e w' ⟨rfl, rfl⟩)
    go_ret2
    exact ⟨rfl, rfl⟩
  · have e : syncedS L false s = (f.d, 0) := by rw [syncedS, hf]; rfl
    rw [e]
    obtain ⟨m, D, G, T, hP⟩ := h.opened
    have HF := Lib.hid (find_in w S p m L room D G T s hs hP f hf)
    have hfm := (find_some hf).1
    obtain ⟨v, k1, ho, -⟩ := hP.file f hfm
    have c1 : w.cell? ⟨G f.n, 1, none⟩ = some (.int .i64 (f.d : Int)) := k1.cell 1
    clear h hP k1 ho hf e
    go_enter Tryz.func88, Tryz.ntmps88
    go_wp2_with (go_at_call 68; refine HF.out.mono ?_; rintro e w' ⟨rfl, rfl⟩)
    go_ret2
    exact ⟨rfl, rfl⟩

/-- What Get hands back. -/
def Got (w : World) (r : Tx × Nat) (e : Ending) (w' : World) : Prop :=
  ∃ A c, e = .returned (.tuple #[.slice A r.1.length c, .int .i64 (r.2 : Int)]) ∧ w'.ownsRow w.heap.size 5 1 (.slice A r.1.length c) r.1.length (BVs r.1) ∧ Below w.heap.size w w'
theorem get_on (w : World) (S : Nat → Prop) (p : Nat) (L : List Fl) (room : Nat) (off : Bool) (s : Tx) (hs : s.length ≤ 140737488355328) (h : Dk w S p L room off) :
    Calls Tryz.prog 31 #[.pointer (some ⟨p, 0, none⟩), .string ⟨s.toArray⟩] w (Got w (getS L off s)) := by
  rcases find_cases L off s with ⟨q, hq1, hq2, hq⟩ | ⟨rfl, f, hf⟩
  · have HF := Lib.hid (find_no w S p L room off s hs h q hq)
    rw [get_no hq]
    have hne : ((q : Int) == 0) = false := by rw [beq_eq_false_iff_ne]; omega
    clear h hq
    go_enter Tryz.func31, Tryz.ntmps31
    go_wp2_with (go_at_call 68; refine HF.out.mono ?_; rintro e w' ⟨rfl, rfl⟩)
    go_ret2
    exact ⟨none, 0, rfl, World.ownsRow_nil _ _ _ _, Below.refl _ _⟩
  · have e : getS L false s = (f.b, 0) := by rw [getS, hf]; rfl
    rw [e]
    obtain ⟨m, D, G, T, hP⟩ := h.opened
    have HF := Lib.hid (find_in w S p m L room D G T s hs hP f hf)
    have hfm := (find_some hf).1
    have hlen := hP.good.len hfm
    obtain ⟨v, k1, ho, -⟩ := hP.file f hfm
    obtain ⟨A, c1, rfl⟩ := own_shape ho
    have c0 : w.cell? ⟨G f.n, 0, none⟩ = some (.slice A f.b.length c1) := k1.cell 0
    have HS := Lib.hid (Sl.of_own (X := fun _ => False) ho (fun _ _ _ h => h))
    clear h hP k1 ho hf e
    go_enter Tryz.func31, Tryz.ntmps31
    go_wp2_with (first
      | (go_at_call 68; refine HF.out.mono ?_; rintro e w' ⟨rfl, rfl⟩)
      | (go_at_call 44; refine (clone_sh _ _ _ f.b _ HS.out (by omega)).mono ?_; rintro e w2 ⟨A2, c2, rfl, ho2, hb2⟩))
    go_ret2
    exact ⟨A2, c2, rfl, ho2, hb2⟩

/-- The map has turned, and no file. -/
theorem parts_map {w w' : World} {S : Nat → Prop} {p m room : Nat} {L L' : List Fl} {off : Bool} {D D' : DataW Unit} {G : Tx → Nat} {T : Tx → Nat → Prop} (h : Parts w S p m L room off D G T) (c : Ch (fun k => k = m) w w')
    (ho : w'.ownsMap Tryz.prog 9 ptrElem m 64 D') (φ : Tx → Tx) (hT : TellsD D' L' (fun s => G (φ s))) (hg : GoodL L' room) (hL : ∀ f' ∈ L', ∃ f ∈ L, f.n = φ f'.n ∧ f.b = f'.b ∧ f.d = f'.d) (hi : ∀ f ∈ L', ∀ h ∈ L', φ f.n = φ h.n → f.n = h.n) :
    Parts w' S p m L' room off D' (fun s => G (φ s)) (fun s => T (φ s)) := by
  refine ⟨h.blk.ch c (fun e => h.sm.2 e.symm), h.sp, ho, hT, h.sm, fun f' hf' => ?_, fun f' hf' k hk => ?_, fun f' hf' h' hh' hne k hk hk' => ?_, hg⟩
  · obtain ⟨f, hf, e1, e2, e3⟩ := hL f' hf'
    rw [← e1, ← e2, ← e3]
    exact (h.file f hf).ch c (fun k hk e => (h.sub f hf k hk).2.2.1 e)
  · obtain ⟨f, hf, e1, -⟩ := hL f' hf'
    rw [← e1] at hk
    have := h.sub f hf k hk
    exact ⟨this.1, this.2.1, this.2.2.1, Nat.lt_of_lt_of_le this.2.2.2 c.size⟩
  · obtain ⟨f, hf, e1, -⟩ := hL f' hf'
    obtain ⟨g, hg', e2, -⟩ := hL h' hh'
    rw [← e1] at hk
    rw [← e2] at hk'
    exact h.apart f hf g hg' (fun e => hne (hi f' hf' h' hh' (by rw [← e1, ← e2, e]))) k hk hk'

theorem mem_del {L : List Fl} {s : Tx} {f : Fl} : f ∈ del L s ↔ f ∈ L ∧ f.n ≠ s := by
  unfold del
  rw [List.mem_filter]
  simp
theorem used_filter_le (L : List Fl) (P : Fl → Bool) : used (L.filter P) ≤ used L := by
  induction L with
  | nil => exact Nat.le_refl _
  | cons x L ih =>
    by_cases h : P x = true
    · rw [List.filter_cons_of_pos h]
      simp only [used]
      omega
    · rw [List.filter_cons_of_neg h]
      simp only [used]
      omega
theorem good_del {L : List Fl} {room : Nat} (h : GoodL L room) (s : Tx) : GoodL (del L s) room :=
  ⟨h.nodup.sublist (List.filter_sublist.map _), Nat.le_trans (List.length_filter_le _ _) h.few, Nat.le_trans (used_filter_le _ _) h.fits, h.room, fun f hf => h.name f (mem_del.1 hf).1, fun f hf => h.done f (mem_del.1 hf).1⟩
theorem isIn_del (L : List Fl) (s t : Tx) : isIn (del L s) t = (isIn L t && !(t == s)) := by
  rw [Bool.eq_iff_iff, isIn_iff, Bool.and_eq_true, isIn_iff]
  constructor
  · rintro ⟨f, hf, rfl⟩
    have := mem_del.1 hf
    exact ⟨⟨f, this.1, rfl⟩, by simpa using this.2⟩
  · rintro ⟨⟨f, hf, rfl⟩, hne⟩
    exact ⟨f, mem_del.2 ⟨hf, by simpa using hne⟩, rfl⟩
theorem strKey_ne {s t : Tx} (h : s ≠ t) : (Lit.string s) ≠ Lit.string t := fun e => h (by injection e)
theorem strKey (s : Tx) : WideAt.IsKeyLit (.string s) := trivial
theorem tells_del {D : DataW Unit} {L : List Fl} {G : Tx → Nat} (h : TellsD D L G) (s : Tx) : TellsD (D.del (.string s)) (del L s) G := by
  refine ⟨fun t => ?_, fun f hf zd => ?_⟩
  · rw [isIn_del]
    by_cases e : t = s
    · subst e
      rw [Maps.has_del_same]
      simp
    · rw [Maps.has_del_other (strKey_ne e), h.1 t]
      have : (t == s) = false := by rw [beq_eq_false_iff_ne]; exact e
      rw [this]
      simp
  · have := mem_del.1 hf
    rw [Maps.atKey_del_other (strKey_ne this.2)]
    exact h.2 f this.1 zd

def remS (L : List Fl) (off : Bool) (s : Tx) : List Fl × Nat := if off then (L, 32) else match find L s with | none => (L, 4) | some f => (del L f.n, 0)
theorem rem_no {L : List Fl} {off : Bool} {s : Tx} {c : Nat} (hc : (off = true ∧ c = 32) ∨ (off = false ∧ find L s = none ∧ c = 4)) : remS L off s = (L, c) := by
  rcases hc with ⟨rfl, rfl⟩ | ⟨rfl, hf, rfl⟩
  · rfl
  · rw [remS, hf]; rfl
theorem remove_on (w : World) (S : Nat → Prop) (p : Nat) (L : List Fl) (room : Nat) (off : Bool) (s : Tx) (hs : s.length ≤ 140737488355328) (h : Dk w S p L room off) :
    Calls Tryz.prog 59 #[.pointer (some ⟨p, 0, none⟩), .string ⟨s.toArray⟩] w (Did S p (remS L off s) room off w) := by
  rcases find_cases L off s with ⟨q, hq1, hq2, hq⟩ | ⟨rfl, f, hf⟩
  · have HF := Lib.hid (find_no w S p L room off s hs h q hq)
    have H := Lib.hid h
    rw [rem_no hq]
    have hne : ((q : Int) == 0) = false := by rw [beq_eq_false_iff_ne]; omega
    clear h hq
    go_enter Tryz.func59, Tryz.ntmps59
    go_wp2_with (go_at_call 68; refine HF.out.mono ?_; rintro e w' ⟨rfl, rfl⟩)
    go_ret
    exact did_refl H.out
  · have e : remS L false s = (del L s, 0) := by rw [remS, hf, ← (find_some hf).2]; rfl
    rw [e]
    obtain ⟨m, D, G, T, hP⟩ := h.opened
    have HF := Lib.hid (find_in w S p m L room D G T s hs hP f hf)
    have c0 : w.cell? ⟨p, 0, none⟩ = some (.map (some m)) := hP.blk.cell 0
    have HP := Lib.hid hP
    have hK := key_str s (by simp only [maxLen]; omega)
    have HK := Lib.hid hK
    clear h hP hf e hK
    go_enter Tryz.func59, Tryz.ntmps59
    go_wp2_with (first
      | (go_at_call 68; refine HF.out.mono ?_; rintro e w' ⟨rfl, rfl⟩)
      | (at_delete; refine wpList_delete_own _ rfl _ _ 84 9 rfl 102 law_str Tryz.underlying84 ptrElem m 64 D rfl HP.out.own _ _ rfl HK.out ?_; intro w1 hown1 hturn1))
    go_ret
    have hc : Ch (fun k => k = m) w w1 := Ch.of_grown hturn1.grown (fun g hg _ => (Option.some.inj hg).symm)
    have hP1 := parts_map HP.out hc hown1 (fun s => s) (tells_del HP.out.tells s) (good_del HP.out.good s) (fun f' hf' => ⟨f', (mem_del.1 hf').1, rfl, rfl, rfl⟩) (fun _ _ _ _ e => e)
    exact ⟨rfl, (Parts.shut hP1).weaken (fun k hk => Or.inl hk), hc.mono (fun k _ hk => by rw [hk]; exact HP.out.sm.1)⟩

end Go.Proofs.YtdkjimfehipeaaaGreatDoor.Dg

/-
  DERIVED: THE SHELF's CONTRACTS AT THIS DUMP, IN PLAIN WORDS (tools/lay-plain.mjs out of 'YtdkjimfehipeaaaGreatDoorShelf.lean', which tools/lay-shelf.mjs wrote): THE SAME DECLARATIONS UNDER THE SAME NAMES: 'import', 'namespace', 'open', 'def', 'theorem' AND NOTHING ELSE: no command of the shelf's: FOR A HAND-IN. Each laying: the table of numbers ('.._ren') and one theorem, a field a fact of the dump's own or the kernel's comparison; each contract: ONE APPLICATION.
-/
namespace Go.Proofs
open Go.Shelf
def Tryz.keys96_ren : Go.Shelf.Ren := ⟨fun | 7 => 96 | 10 => 131 | n => n, fun | 23 => 84 | 26 => 9 | 3 => 102 | 28 => 139 | 0 => 0 | 27 => 138 | 33 => 88 | 4 => 4 | n => n, fun | n => n⟩
theorem Tryz.keys96 : Go.Proofs.SlLaysZ.n7 Tryz.prog Tryz.keys96_ren := {
  mixed := by kernel_rfl
  f7 := ⟨Tryz.f96.name, by decide, Tryz.func96.trans (congrArg some (by kernel_rfl))⟩
  f10 := ⟨Tryz.f131.name, by decide, Tryz.func131.trans (congrArg some (by kernel_rfl))⟩
  t0 := Tryz.underlying0
  a0 := Tryz.isAgg0
  z0 := Tryz.sizeOf0
  v0 := Tryz.zeroValue0
  t4 := Tryz.underlying4
  a4 := Tryz.isAgg4
  z4 := Tryz.sizeOf4
  v4 := Tryz.zeroValue4
  t23 := Tryz.underlying84
  a23 := Tryz.isAgg84
  z23 := Tryz.sizeOf84
  v23 := Tryz.zeroValue84
  t26 := Tryz.underlying9
  a26 := Tryz.isAgg9
  z26 := Tryz.sizeOf9
  v26 := Tryz.zeroValue9
  t27 := Tryz.underlying138
  a27 := Tryz.isAgg138
  z27 := Tryz.sizeOf138
  v27 := Tryz.zeroValue138
  t28 := Tryz.underlying139
  a28 := Tryz.isAgg139
  z28 := Tryz.sizeOf139
  v28 := Tryz.zeroValue139
  t33 := Tryz.underlying88
  a33 := Tryz.isAgg88
  z33 := Tryz.sizeOf88
  v33 := Tryz.zeroValue88 }
def Tryz.sorted95_ren : Go.Shelf.Ren := ⟨fun | 6 => 95 | 8 => 129 | 9 => 130 | 11 => 154 | 13 => 128 | 12 => 155 | 23 => 152 | 24 => 153 | 14 => 173 | 15 => 174 | 16 => 175 | 17 => 176 | 18 => 177 | 19 => 178 | 20 => 179 | 21 => 180 | 22 => 181 | 25 => 192 | 26 => 168 | 27 => 169 | 28 => 193 | 29 => 194 | 30 => 195 | 31 => 199 | n => n, fun | 26 => 9 | 28 => 139 | 24 => 92 | 0 => 0 | 3 => 3 | 37 => 76 | 48 => 29 | 50 => 123 | 4 => 4 | 40 => 180 | 39 => 179 | 45 => 185 | 5 => 5 | 9 => 9 | 51 => 202 | 55 => 206 | 57 => 223 | 58 => 224 | 33 => 88 | n => n, fun | n => n⟩
theorem Tryz.sorted95 : Go.Proofs.SlLaysZ.n6 Tryz.prog Tryz.sorted95_ren := {
  mixed := by kernel_rfl
  f6 := ⟨Tryz.f95.name, by decide, Tryz.func95.trans (congrArg some (by kernel_rfl))⟩
  f8 := ⟨Tryz.f129.name, by decide, Tryz.func129.trans (congrArg some (by kernel_rfl))⟩
  f11 := ⟨Tryz.f154.name, by decide, Tryz.func154.trans (congrArg some (by kernel_rfl))⟩
  t0 := Tryz.underlying0
  a0 := Tryz.isAgg0
  z0 := Tryz.sizeOf0
  v0 := Tryz.zeroValue0
  t24 := Tryz.underlying92
  a24 := Tryz.isAgg92
  z24 := Tryz.sizeOf92
  v24 := Tryz.zeroValue92
  t26 := Tryz.underlying9
  a26 := Tryz.isAgg9
  z26 := Tryz.sizeOf9
  v26 := Tryz.zeroValue9
  t28 := Tryz.underlying139
  a28 := Tryz.isAgg139
  z28 := Tryz.sizeOf139
  v28 := Tryz.zeroValue139
  i26 := by kernel_rfl }
def Tryz.sort130_ren : Go.Shelf.Ren := ⟨fun | 6 => 130 | 8 => 128 | 9 => 155 | 19 => 152 | 20 => 153 | 21 => 173 | 22 => 174 | 23 => 175 | 24 => 176 | 25 => 177 | 26 => 178 | 27 => 179 | 28 => 180 | 29 => 181 | 36 => 192 | 31 => 168 | 32 => 169 | 37 => 193 | 38 => 194 | 39 => 195 | 41 => 199 | n => n, fun | 27 => 92 | 29 => 9 | 3 => 3 | 32 => 76 | 26 => 92 | 0 => 0 | 44 => 29 | 46 => 123 | 4 => 4 | 36 => 180 | 35 => 179 | 41 => 185 | 5 => 5 | 9 => 9 | 53 => 202 | 57 => 206 | 63 => 223 | 64 => 224 | n => n, fun | n => n⟩
theorem Tryz.sort130 : Go.Proofs.SlLaysM.n6 Tryz.prog Tryz.sort130_ren := {
  mixed := by kernel_rfl
  f6 := ⟨Tryz.f130.name, by decide, Tryz.func130.trans (congrArg some (by kernel_rfl))⟩
  f8 := Tryz.func128.trans (congrArg some (by kernel_rfl))
  f9 := ⟨Tryz.f155.name, by decide, Tryz.func155.trans (congrArg some (by kernel_rfl))⟩
  f19 := Tryz.func152.trans (congrArg some (by kernel_rfl))
  f20 := Tryz.func153.trans (congrArg some (by kernel_rfl))
  f21 := ⟨Tryz.f173.name, by decide, Tryz.func173.trans (congrArg some (by kernel_rfl))⟩
  f22 := ⟨Tryz.f174.name, by decide, Tryz.func174.trans (congrArg some (by kernel_rfl))⟩
  f23 := ⟨Tryz.f175.name, by decide, Tryz.func175.trans (congrArg some (by kernel_rfl))⟩
  f24 := ⟨Tryz.f176.name, by decide, Tryz.func176.trans (congrArg some (by kernel_rfl))⟩
  f25 := ⟨Tryz.f177.name, by decide, Tryz.func177.trans (congrArg some (by kernel_rfl))⟩
  f26 := ⟨Tryz.f178.name, by decide, Tryz.func178.trans (congrArg some (by kernel_rfl))⟩
  f27 := ⟨Tryz.f179.name, by decide, Tryz.func179.trans (congrArg some (by kernel_rfl))⟩
  f28 := ⟨Tryz.f180.name, by decide, Tryz.func180.trans (congrArg some (by kernel_rfl))⟩
  f29 := ⟨Tryz.f181.name, by decide, Tryz.func181.trans (congrArg some (by kernel_rfl))⟩
  f31 := Tryz.func168.trans (congrArg some (by kernel_rfl))
  f32 := Tryz.func169.trans (congrArg some (by kernel_rfl))
  f36 := ⟨Tryz.f192.name, by decide, Tryz.func192.trans (congrArg some (by kernel_rfl))⟩
  f37 := ⟨Tryz.f193.name, by decide, Tryz.func193.trans (congrArg some (by kernel_rfl))⟩
  f38 := ⟨Tryz.f194.name, by decide, Tryz.func194.trans (congrArg some (by kernel_rfl))⟩
  f39 := ⟨Tryz.f195.name, by decide, Tryz.func195.trans (congrArg some (by kernel_rfl))⟩
  f41 := ⟨Tryz.f199.name, by decide, Tryz.func199.trans (congrArg some (by kernel_rfl))⟩
  t0 := Tryz.underlying0
  a0 := Tryz.isAgg0
  z0 := Tryz.sizeOf0
  v0 := Tryz.zeroValue0
  t3 := Tryz.underlying3
  a3 := Tryz.isAgg3
  z3 := Tryz.sizeOf3
  v3 := Tryz.zeroValue3
  t4 := Tryz.underlying4
  a4 := Tryz.isAgg4
  z4 := Tryz.sizeOf4
  v4 := Tryz.zeroValue4
  t5 := Tryz.underlying5
  a5 := Tryz.isAgg5
  z5 := Tryz.sizeOf5
  v5 := Tryz.zeroValue5
  t9 := Tryz.underlying9
  a9 := Tryz.isAgg9
  z9 := Tryz.sizeOf9
  v9 := Tryz.zeroValue9
  t26 := Tryz.underlying92
  a26 := Tryz.isAgg92
  z26 := Tryz.sizeOf92
  v26 := Tryz.zeroValue92
  t27 := Tryz.underlying92
  a27 := Tryz.isAgg92
  z27 := Tryz.sizeOf92
  v27 := Tryz.zeroValue92
  t29 := Tryz.underlying9
  a29 := Tryz.isAgg9
  z29 := Tryz.sizeOf9
  v29 := Tryz.zeroValue9
  t32 := Tryz.underlying76
  a32 := Tryz.isAgg76
  z32 := Tryz.sizeOf76
  v32 := Tryz.zeroValue76
  t35 := Tryz.underlying179
  a35 := Tryz.isAgg179
  z35 := Tryz.sizeOf179
  v35 := Tryz.zeroValue179
  t36 := Tryz.underlying180
  a36 := Tryz.isAgg180
  z36 := Tryz.sizeOf180
  v36 := Tryz.zeroValue180
  t41 := Tryz.underlying185
  a41 := Tryz.isAgg185
  z41 := Tryz.sizeOf185
  v41 := Tryz.zeroValue185
  t44 := Tryz.underlying29
  a44 := Tryz.isAgg29
  z44 := Tryz.sizeOf29
  v44 := Tryz.zeroValue29
  t46 := Tryz.underlying123
  a46 := Tryz.isAgg123
  z46 := Tryz.sizeOf123
  v46 := Tryz.zeroValue123
  t53 := Tryz.underlying202
  a53 := Tryz.isAgg202
  z53 := Tryz.sizeOf202
  v53 := Tryz.zeroValue202
  t57 := Tryz.underlying206
  a57 := Tryz.isAgg206
  z57 := Tryz.sizeOf206
  v57 := Tryz.zeroValue206
  t63 := Tryz.underlying223
  a63 := Tryz.isAgg223
  z63 := Tryz.sizeOf223
  v63 := Tryz.zeroValue223
  t64 := Tryz.underlying224
  a64 := Tryz.isAgg224
  z64 := Tryz.sizeOf224
  v64 := Tryz.zeroValue224 }
def Tryz.sort94_ren : Go.Shelf.Ren := ⟨fun | 5 => 94 | 8 => 128 | 7 => 127 | 19 => 152 | 20 => 153 | 10 => 143 | 11 => 144 | 12 => 145 | 13 => 146 | 14 => 147 | 15 => 148 | 16 => 149 | 17 => 150 | 18 => 151 | 30 => 167 | 31 => 168 | 32 => 169 | 33 => 170 | 34 => 171 | 35 => 172 | 40 => 191 | n => n, fun | 23 => 90 | 25 => 2 | 3 => 3 | 32 => 76 | 22 => 90 | 0 => 0 | 44 => 29 | 46 => 123 | 4 => 4 | 36 => 180 | 35 => 179 | 41 => 185 | 5 => 5 | 9 => 9 | 53 => 202 | 57 => 206 | 63 => 223 | 64 => 224 | n => n, fun | n => n⟩
theorem Tryz.sort94 : Go.Proofs.SlLaysM.n5 Tryz.prog Tryz.sort94_ren := {
  mixed := by kernel_rfl
  f5 := ⟨Tryz.f94.name, by decide, Tryz.func94.trans (congrArg some (by kernel_rfl))⟩
  f7 := ⟨Tryz.f127.name, by decide, Tryz.func127.trans (congrArg some (by kernel_rfl))⟩
  f8 := Tryz.func128.trans (congrArg some (by kernel_rfl))
  f10 := ⟨Tryz.f143.name, by decide, Tryz.func143.trans (congrArg some (by kernel_rfl))⟩
  f11 := ⟨Tryz.f144.name, by decide, Tryz.func144.trans (congrArg some (by kernel_rfl))⟩
  f12 := ⟨Tryz.f145.name, by decide, Tryz.func145.trans (congrArg some (by kernel_rfl))⟩
  f13 := ⟨Tryz.f146.name, by decide, Tryz.func146.trans (congrArg some (by kernel_rfl))⟩
  f14 := ⟨Tryz.f147.name, by decide, Tryz.func147.trans (congrArg some (by kernel_rfl))⟩
  f15 := ⟨Tryz.f148.name, by decide, Tryz.func148.trans (congrArg some (by kernel_rfl))⟩
  f16 := ⟨Tryz.f149.name, by decide, Tryz.func149.trans (congrArg some (by kernel_rfl))⟩
  f17 := ⟨Tryz.f150.name, by decide, Tryz.func150.trans (congrArg some (by kernel_rfl))⟩
  f18 := ⟨Tryz.f151.name, by decide, Tryz.func151.trans (congrArg some (by kernel_rfl))⟩
  f19 := Tryz.func152.trans (congrArg some (by kernel_rfl))
  f20 := Tryz.func153.trans (congrArg some (by kernel_rfl))
  f30 := ⟨Tryz.f167.name, by decide, Tryz.func167.trans (congrArg some (by kernel_rfl))⟩
  f31 := Tryz.func168.trans (congrArg some (by kernel_rfl))
  f32 := Tryz.func169.trans (congrArg some (by kernel_rfl))
  f33 := ⟨Tryz.f170.name, by decide, Tryz.func170.trans (congrArg some (by kernel_rfl))⟩
  f34 := ⟨Tryz.f171.name, by decide, Tryz.func171.trans (congrArg some (by kernel_rfl))⟩
  f35 := ⟨Tryz.f172.name, by decide, Tryz.func172.trans (congrArg some (by kernel_rfl))⟩
  f40 := ⟨Tryz.f191.name, by decide, Tryz.func191.trans (congrArg some (by kernel_rfl))⟩
  t0 := Tryz.underlying0
  a0 := Tryz.isAgg0
  z0 := Tryz.sizeOf0
  v0 := Tryz.zeroValue0
  t3 := Tryz.underlying3
  a3 := Tryz.isAgg3
  z3 := Tryz.sizeOf3
  v3 := Tryz.zeroValue3
  t4 := Tryz.underlying4
  a4 := Tryz.isAgg4
  z4 := Tryz.sizeOf4
  v4 := Tryz.zeroValue4
  t5 := Tryz.underlying5
  a5 := Tryz.isAgg5
  z5 := Tryz.sizeOf5
  v5 := Tryz.zeroValue5
  t9 := Tryz.underlying9
  a9 := Tryz.isAgg9
  z9 := Tryz.sizeOf9
  v9 := Tryz.zeroValue9
  t22 := Tryz.underlying90
  a22 := Tryz.isAgg90
  z22 := Tryz.sizeOf90
  v22 := Tryz.zeroValue90
  t23 := Tryz.underlying90
  a23 := Tryz.isAgg90
  z23 := Tryz.sizeOf90
  v23 := Tryz.zeroValue90
  t25 := Tryz.underlying2
  a25 := Tryz.isAgg2
  z25 := Tryz.sizeOf2
  v25 := Tryz.zeroValue2
  t32 := Tryz.underlying76
  a32 := Tryz.isAgg76
  z32 := Tryz.sizeOf76
  v32 := Tryz.zeroValue76
  t35 := Tryz.underlying179
  a35 := Tryz.isAgg179
  z35 := Tryz.sizeOf179
  v35 := Tryz.zeroValue179
  t36 := Tryz.underlying180
  a36 := Tryz.isAgg180
  z36 := Tryz.sizeOf180
  v36 := Tryz.zeroValue180
  t41 := Tryz.underlying185
  a41 := Tryz.isAgg185
  z41 := Tryz.sizeOf185
  v41 := Tryz.zeroValue185
  t44 := Tryz.underlying29
  a44 := Tryz.isAgg29
  z44 := Tryz.sizeOf29
  v44 := Tryz.zeroValue29
  t46 := Tryz.underlying123
  a46 := Tryz.isAgg123
  z46 := Tryz.sizeOf123
  v46 := Tryz.zeroValue123
  t53 := Tryz.underlying202
  a53 := Tryz.isAgg202
  z53 := Tryz.sizeOf202
  v53 := Tryz.zeroValue202
  t57 := Tryz.underlying206
  a57 := Tryz.isAgg206
  z57 := Tryz.sizeOf206
  v57 := Tryz.zeroValue206
  t63 := Tryz.underlying223
  a63 := Tryz.isAgg223
  z63 := Tryz.sizeOf223
  v63 := Tryz.zeroValue223
  t64 := Tryz.underlying224
  a64 := Tryz.isAgg224
  z64 := Tryz.sizeOf224
  v64 := Tryz.zeroValue224 }
def Tryz.fmtInt_ren : Go.Shelf.Ren := ⟨fun | 173 => 120 | 246 => 137 | 283 => 157 | 284 => 158 | 285 => 159 | 286 => 160 | 129 => 153 | 317 => 182 | 318 => 183 | 319 => 184 | 320 => 185 | 337 => 196 | 338 => 197 | n => n, fun | 2 => 2 | 3 => 3 | 9 => 9 | 4 => 4 | 171 => 191 | 0 => 0 | 53 => 123 | 37 => 22 | 5 => 5 | 173 => 193 | 212 => 215 | 51 => 29 | 20 => 20 | 213 => 216 | 46 => 76 | 232 => 233 | 233 => 234 | n => n, fun | 17 => 0 | 18 => 3 | 19 => 4 | n => n⟩
theorem Tryz.fmtInt : Go.Proofs.LaysM.n173 Tryz.prog Tryz.fmtInt_ren := {
  mixed := by kernel_rfl
  f129 := Tryz.func153.trans (congrArg some (by kernel_rfl))
  f173 := Tryz.func120.trans (congrArg some (by kernel_rfl))
  f246 := Tryz.func137.trans (congrArg some (by kernel_rfl))
  f283 := Tryz.func157.trans (congrArg some (by kernel_rfl))
  f284 := Tryz.func158.trans (congrArg some (by kernel_rfl))
  f285 := Tryz.func159.trans (congrArg some (by kernel_rfl))
  f286 := Tryz.func160.trans (congrArg some (by kernel_rfl))
  f317 := Tryz.func182.trans (congrArg some (by kernel_rfl))
  f318 := Tryz.func183.trans (congrArg some (by kernel_rfl))
  f319 := Tryz.func184.trans (congrArg some (by kernel_rfl))
  f320 := Tryz.func185.trans (congrArg some (by kernel_rfl))
  f337 := Tryz.func196.trans (congrArg some (by kernel_rfl))
  f338 := Tryz.func197.trans (congrArg some (by kernel_rfl))
  t0 := Tryz.underlying0
  a0 := Tryz.isAgg0
  z0 := Tryz.sizeOf0
  v0 := Tryz.zeroValue0
  t2 := Tryz.underlying2
  a2 := Tryz.isAgg2
  z2 := Tryz.sizeOf2
  v2 := Tryz.zeroValue2
  t3 := Tryz.underlying3
  a3 := Tryz.isAgg3
  z3 := Tryz.sizeOf3
  v3 := Tryz.zeroValue3
  t4 := Tryz.underlying4
  a4 := Tryz.isAgg4
  z4 := Tryz.sizeOf4
  v4 := Tryz.zeroValue4
  t5 := Tryz.underlying5
  a5 := Tryz.isAgg5
  z5 := Tryz.sizeOf5
  v5 := Tryz.zeroValue5
  t9 := Tryz.underlying9
  a9 := Tryz.isAgg9
  z9 := Tryz.sizeOf9
  v9 := Tryz.zeroValue9
  t20 := Tryz.underlying20
  a20 := Tryz.isAgg20
  z20 := Tryz.sizeOf20
  v20 := Tryz.zeroValue20
  t37 := Tryz.underlying22
  a37 := Tryz.isAgg22
  z37 := Tryz.sizeOf22
  v37 := Tryz.zeroValue22
  t46 := Tryz.underlying76
  a46 := Tryz.isAgg76
  z46 := Tryz.sizeOf76
  v46 := Tryz.zeroValue76
  t51 := Tryz.underlying29
  a51 := Tryz.isAgg29
  z51 := Tryz.sizeOf29
  v51 := Tryz.zeroValue29
  t53 := Tryz.underlying123
  a53 := Tryz.isAgg123
  z53 := Tryz.sizeOf123
  v53 := Tryz.zeroValue123
  t171 := Tryz.underlying191
  a171 := Tryz.isAgg191
  z171 := Tryz.sizeOf191
  v171 := Tryz.zeroValue191
  t173 := Tryz.underlying193
  a173 := Tryz.isAgg193
  z173 := Tryz.sizeOf193
  v173 := Tryz.zeroValue193
  t212 := Tryz.underlying215
  a212 := Tryz.isAgg215
  z212 := Tryz.sizeOf215
  v212 := Tryz.zeroValue215
  t213 := Tryz.underlying216
  a213 := Tryz.isAgg216
  z213 := Tryz.sizeOf216
  t232 := Tryz.underlying233
  a232 := Tryz.isAgg233
  z232 := Tryz.sizeOf233
  v232 := Tryz.zeroValue233
  t233 := Tryz.underlying234
  a233 := Tryz.isAgg234
  z233 := Tryz.sizeOf234
  v233 := Tryz.zeroValue234
  g17 := by kernel_rfl
  g18 := by kernel_rfl
  g19 := by kernel_rfl
  i0 := by kernel_rfl
  i2 := by kernel_rfl
  i3 := by kernel_rfl
  i4 := by kernel_rfl
  i5 := by kernel_rfl
  i9 := by kernel_rfl
  i20 := by kernel_rfl
  i37 := by kernel_rfl
  i46 := by kernel_rfl
  i51 := by kernel_rfl
  i53 := by kernel_rfl
  i171 := by kernel_rfl
  i173 := by kernel_rfl
  i212 := by kernel_rfl
  i232 := by kernel_rfl
  i233 := by kernel_rfl
  m17 := by kernel_rfl
  m18 := by kernel_rfl
  m19 := by kernel_rfl }
def Tryz.parseInt_ren : Go.Shelf.Ren := ⟨fun | 174 => 125 | 247 => 140 | 245 => 141 | 287 => 161 | 279 => 162 | 280 => 163 | 281 => 164 | 282 => 165 | 321 => 186 | 322 => 187 | 316 => 188 | 171 => 190 | 205 => 189 | 243 => 198 | 246 => 137 | 283 => 157 | 284 => 158 | 285 => 159 | 286 => 160 | 129 => 153 | 317 => 182 | 318 => 183 | 319 => 184 | 320 => 185 | 337 => 196 | 338 => 197 | n => n, fun | 9 => 9 | 3 => 3 | 2 => 2 | 75 => 168 | 85 => 169 | 4 => 4 | 167 => 195 | 5 => 5 | 53 => 123 | 175 => 196 | 46 => 76 | 168 => 198 | 37 => 22 | 0 => 0 | 210 => 221 | 21 => 21 | 127 => 228 | 145 => 231 | 143 => 229 | 171 => 191 | 173 => 193 | 212 => 215 | 51 => 29 | 20 => 20 | 213 => 216 | 232 => 233 | 233 => 234 | 80 => 235 | n => n, fun | 15 => 1 | 16 => 2 | 17 => 0 | 18 => 3 | 19 => 4 | n => n⟩
theorem Tryz.parseInt : Go.Proofs.LaysC.n174 Tryz.prog Tryz.parseInt_ren := {
  mixed := by kernel_rfl
  f129 := Tryz.func153.trans (congrArg some (by kernel_rfl))
  f171 := Tryz.func190.trans (congrArg some (by kernel_rfl))
  f174 := Tryz.func125.trans (congrArg some (by kernel_rfl))
  f205 := Tryz.func189.trans (congrArg some (by kernel_rfl))
  f243 := Tryz.func198.trans (congrArg some (by kernel_rfl))
  f245 := Tryz.func141.trans (congrArg some (by kernel_rfl))
  f246 := Tryz.func137.trans (congrArg some (by kernel_rfl))
  f247 := Tryz.func140.trans (congrArg some (by kernel_rfl))
  f279 := Tryz.func162.trans (congrArg some (by kernel_rfl))
  f280 := Tryz.func163.trans (congrArg some (by kernel_rfl))
  f281 := Tryz.func164.trans (congrArg some (by kernel_rfl))
  f282 := Tryz.func165.trans (congrArg some (by kernel_rfl))
  f283 := Tryz.func157.trans (congrArg some (by kernel_rfl))
  f284 := Tryz.func158.trans (congrArg some (by kernel_rfl))
  f285 := Tryz.func159.trans (congrArg some (by kernel_rfl))
  f286 := Tryz.func160.trans (congrArg some (by kernel_rfl))
  f287 := Tryz.func161.trans (congrArg some (by kernel_rfl))
  f316 := Tryz.func188.trans (congrArg some (by kernel_rfl))
  f317 := Tryz.func182.trans (congrArg some (by kernel_rfl))
  f318 := Tryz.func183.trans (congrArg some (by kernel_rfl))
  f319 := Tryz.func184.trans (congrArg some (by kernel_rfl))
  f320 := Tryz.func185.trans (congrArg some (by kernel_rfl))
  f321 := Tryz.func186.trans (congrArg some (by kernel_rfl))
  f322 := Tryz.func187.trans (congrArg some (by kernel_rfl))
  f337 := Tryz.func196.trans (congrArg some (by kernel_rfl))
  f338 := Tryz.func197.trans (congrArg some (by kernel_rfl))
  t0 := Tryz.underlying0
  a0 := Tryz.isAgg0
  z0 := Tryz.sizeOf0
  v0 := Tryz.zeroValue0
  t2 := Tryz.underlying2
  a2 := Tryz.isAgg2
  z2 := Tryz.sizeOf2
  v2 := Tryz.zeroValue2
  t3 := Tryz.underlying3
  a3 := Tryz.isAgg3
  z3 := Tryz.sizeOf3
  v3 := Tryz.zeroValue3
  t4 := Tryz.underlying4
  a4 := Tryz.isAgg4
  z4 := Tryz.sizeOf4
  v4 := Tryz.zeroValue4
  t5 := Tryz.underlying5
  a5 := Tryz.isAgg5
  z5 := Tryz.sizeOf5
  v5 := Tryz.zeroValue5
  t9 := Tryz.underlying9
  a9 := Tryz.isAgg9
  z9 := Tryz.sizeOf9
  v9 := Tryz.zeroValue9
  t20 := Tryz.underlying20
  a20 := Tryz.isAgg20
  z20 := Tryz.sizeOf20
  v20 := Tryz.zeroValue20
  t21 := Tryz.underlying21
  a21 := Tryz.isAgg21
  z21 := Tryz.sizeOf21
  v21 := Tryz.zeroValue21
  t37 := Tryz.underlying22
  a37 := Tryz.isAgg22
  z37 := Tryz.sizeOf22
  v37 := Tryz.zeroValue22
  t46 := Tryz.underlying76
  a46 := Tryz.isAgg76
  z46 := Tryz.sizeOf76
  v46 := Tryz.zeroValue76
  t51 := Tryz.underlying29
  a51 := Tryz.isAgg29
  z51 := Tryz.sizeOf29
  v51 := Tryz.zeroValue29
  t53 := Tryz.underlying123
  a53 := Tryz.isAgg123
  z53 := Tryz.sizeOf123
  v53 := Tryz.zeroValue123
  t75 := Tryz.underlying168
  a75 := Tryz.isAgg168
  z75 := Tryz.sizeOf168
  v75 := Tryz.zeroValue168
  t85 := Tryz.underlying169
  a85 := Tryz.isAgg169
  z85 := Tryz.sizeOf169
  v85 := Tryz.zeroValue169
  t127 := Tryz.underlying228
  a127 := Tryz.isAgg228
  z127 := Tryz.sizeOf228
  v127 := Tryz.zeroValue228
  t143 := Tryz.underlying229
  a143 := Tryz.isAgg229
  z143 := Tryz.sizeOf229
  v143 := Tryz.zeroValue229
  t145 := Tryz.underlying231
  a145 := Tryz.isAgg231
  z145 := Tryz.sizeOf231
  v145 := Tryz.zeroValue231
  t167 := Tryz.underlying195
  a167 := Tryz.isAgg195
  z167 := Tryz.sizeOf195
  v167 := Tryz.zeroValue195
  t168 := Tryz.underlying198
  a168 := Tryz.isAgg198
  z168 := Tryz.sizeOf198
  v168 := Tryz.zeroValue198
  t171 := Tryz.underlying191
  a171 := Tryz.isAgg191
  z171 := Tryz.sizeOf191
  v171 := Tryz.zeroValue191
  t173 := Tryz.underlying193
  a173 := Tryz.isAgg193
  z173 := Tryz.sizeOf193
  v173 := Tryz.zeroValue193
  t175 := Tryz.underlying196
  a175 := Tryz.isAgg196
  z175 := Tryz.sizeOf196
  v175 := Tryz.zeroValue196
  t210 := Tryz.underlying221
  a210 := Tryz.isAgg221
  z210 := Tryz.sizeOf221
  v210 := Tryz.zeroValue221
  t212 := Tryz.underlying215
  a212 := Tryz.isAgg215
  z212 := Tryz.sizeOf215
  v212 := Tryz.zeroValue215
  t213 := Tryz.underlying216
  a213 := Tryz.isAgg216
  z213 := Tryz.sizeOf216
  t232 := Tryz.underlying233
  a232 := Tryz.isAgg233
  z232 := Tryz.sizeOf233
  v232 := Tryz.zeroValue233
  t233 := Tryz.underlying234
  a233 := Tryz.isAgg234
  z233 := Tryz.sizeOf234
  v233 := Tryz.zeroValue234
  g15 := by kernel_rfl
  g16 := by kernel_rfl
  g17 := by kernel_rfl
  g18 := by kernel_rfl
  g19 := by kernel_rfl
  t80 := Tryz.underlying235
  a80 := Tryz.isAgg235
  z80 := Tryz.sizeOf235
  v80 := Tryz.zeroValue235
  i0 := by kernel_rfl
  i2 := by kernel_rfl
  i3 := by kernel_rfl
  i4 := by kernel_rfl
  i5 := by kernel_rfl
  i9 := by kernel_rfl
  i20 := by kernel_rfl
  i21 := by kernel_rfl
  i37 := by kernel_rfl
  i46 := by kernel_rfl
  i51 := by kernel_rfl
  i53 := by kernel_rfl
  i75 := by kernel_rfl
  i80 := by kernel_rfl
  i85 := by kernel_rfl
  i127 := by kernel_rfl
  i143 := by kernel_rfl
  i145 := by kernel_rfl
  i167 := by kernel_rfl
  i168 := by kernel_rfl
  i171 := by kernel_rfl
  i173 := by kernel_rfl
  i175 := by kernel_rfl
  i210 := by kernel_rfl
  i212 := by kernel_rfl
  i232 := by kernel_rfl
  i233 := by kernel_rfl
  m15 := by kernel_rfl
  m16 := by kernel_rfl
  m17 := by kernel_rfl
  m18 := by kernel_rfl
  m19 := by kernel_rfl
  c0 := by kernel_rfl
  c2 := by kernel_rfl
  c3 := by kernel_rfl
  c4 := by kernel_rfl
  c5 := by kernel_rfl
  c9 := by kernel_rfl
  c20 := by kernel_rfl
  c21 := by kernel_rfl
  c37 := by kernel_rfl
  c46 := by kernel_rfl
  c51 := by kernel_rfl
  c53 := by kernel_rfl
  c75 := by kernel_rfl
  c80 := by kernel_rfl
  c85 := by kernel_rfl
  c127 := by kernel_rfl
  c143 := by kernel_rfl
  c145 := by kernel_rfl
  c167 := by kernel_rfl
  c168 := by kernel_rfl
  c171 := by kernel_rfl
  c173 := by kernel_rfl
  c175 := by kernel_rfl
  c210 := by kernel_rfl
  c212 := by kernel_rfl
  c213 := by kernel_rfl
  c232 := by kernel_rfl
  c233 := by kernel_rfl }
def Tryz.trimPrefix_ren : Go.Shelf.Ren := ⟨fun | 101 => 126 | 208 => 142 | 206 => 166 | n => n, fun | 9 => 9 | 4 => 4 | 3 => 3 | n => n, fun | n => n⟩
theorem Tryz.trimPrefix : Go.Proofs.Lays.n101 Tryz.prog Tryz.trimPrefix_ren := {
  mixed := by kernel_rfl
  f101 := Tryz.func126.trans (congrArg some (by kernel_rfl))
  f206 := Tryz.func166.trans (congrArg some (by kernel_rfl))
  f208 := Tryz.func142.trans (congrArg some (by kernel_rfl))
  t3 := Tryz.underlying3
  a3 := Tryz.isAgg3
  z3 := Tryz.sizeOf3
  v3 := Tryz.zeroValue3
  t4 := Tryz.underlying4
  a4 := Tryz.isAgg4
  z4 := Tryz.sizeOf4
  v4 := Tryz.zeroValue4
  t9 := Tryz.underlying9
  a9 := Tryz.isAgg9
  z9 := Tryz.sizeOf9
  v9 := Tryz.zeroValue9 }
end Go.Proofs

/-
  Contracts of the program's table: Plain, From.
-/
import Derived.Test.YtnhppmdhhmekdaaIg
namespace Go.Proofs.Ytnhppmdhhmekdaa.Ie
open Go Go.RowKit Ck Im Ik Ia Ib Ic Ig

theorem out_grown {w w' : World} {base b n size : Nat} {e : TypeId} {u v : Value} {l : Tx} {xs : List Value} (h : Out w base u l) (hr : w.ownsRow b e size v n xs) (he : e ≠ 5) (hg : w.grownBy w' v.ownBlock) : Out w' base u l := by
  obtain ⟨g, cap, cs, z, rfl, hb, hc, r⟩ := h
  refine ⟨g, cap, cs, z, rfl, hb, (hg.block g (Array.getElem?_eq_some_iff.1 hc).1 ?_).trans hc, r⟩
  rcases hr.2 with ⟨rfl, _⟩ | ⟨g', cap', cur, rfl, _, hr, _⟩
  · simp [Value.ownBlock]
  · intro h2
    have h2 : g = g' := by simpa [Value.ownBlock] using h2
    subst h2
    rw [hc] at hr
    injection hr with hr
    injection hr with _ h3
    exact he h3.symm

/-- v is a new list of new bytes. -/
def Pl (w : World) (base : Nat) (v : Value) (L : List Tx) : Prop :=
  ∃ vals, w.ownsRow base 24 1 v L.length vals ∧ ∀ i (h : i < L.length), ∃ u, vals[i]? = some u ∧ Out w base u L[i]
theorem Pl.ls {w : World} {base : Nat} {v : Value} {L : List Tx} {X : Nat → Prop} (h : Pl w base v L) (hX : ∀ k, base ≤ k → k < w.heap.size → ¬ X k) : Ls w X v L := by
  obtain ⟨vals, ho, hx⟩ := h
  exact ⟨vals, Sl.of_own ho hX, fun i hi => by obtain ⟨u, hu, hout⟩ := hx i hi; exact ⟨u, hu, hout.sl hX⟩⟩

/-- What was made of the first k texts. -/
def Pk (w : World) (base : Nat) (v : Value) (L : List Tx) (k : Nat) : Prop :=
  ∃ vals, w.ownsRow base 24 1 v k vals ∧ ∀ i (h : i < L.length), i < k → ∃ u, vals[i]? = some u ∧ Out w base u L[i]
theorem conv_law (l : Tx) (W : World) : (convert 9 24 (.string ⟨l.toArray⟩)).run Try.prog W = .ok (.slice (some ⟨W.heap.size, 0, none⟩) l.length (grownCap W l.length 0 5)) (Lib.bytesWorld W 5 ⟨l.toArray⟩) := by
  have := Lib.run_convert_string_bytes (P := Try.prog) W 9 24 5 ⟨l.toArray⟩ Try.underlying9 Try.underlying24 Try.underlying5
  have hs : (⟨l.toArray⟩ : ByteArray).size = l.length := by show l.toArray.size = _; simp
  rw [hs] at this
  exact this
theorem conv_below (wr : World) (e : TypeId) (s : ByteArray) (o : Obj) : Below wr.heap.size wr ((Lib.bytesWorld wr e s).alloc o) := (bytesWorld_below wr e s).alloc (bytesWorld_below wr e s).size o
theorem conv_size {w wr : World} (h : Below w.heap.size w wr) (e : TypeId) (s : ByteArray) (o : Obj) : w.heap.size ≤ ((Lib.bytesWorld wr e s).alloc o).heap.size := Nat.le_trans h.size (conv_below wr e s o).size
theorem one_slice (A : Option Addr) (n c : Nat) : ∀ u ∈ [Value.slice A n c], u.oneCell' = true := by
  intro u hu
  simp only [List.mem_cons, List.not_mem_nil, or_false] at hu
  subst hu; rfl
theorem pk_snoc {w wr w1 : World} {v v1 : Value} {L : List Tx} {k : Nat} {vals : List Value} (hk : k < L.length) (hl : L[k].length ≤ 140737488355328) (h : ∀ i (h : i < L.length), i < k → ∃ u, vals[i]? = some u ∧ Out wr w.heap.size u L[i]) (hb : Below w.heap.size w wr)
    (hown : wr.ownsRow w.heap.size 24 1 v k vals) (t : TypeId)
    (happ : Appended ((Lib.bytesWorld wr 5 ⟨L[k].toArray⟩).alloc (.cells #[.slice (some ⟨wr.heap.size, 0, none⟩) L[k].length (grownCap wr L[k].length 0 5)] t)) w.heap.size 24 1 v (k + 1) (vals ++ [.slice (some ⟨wr.heap.size, 0, none⟩) L[k].length (grownCap wr L[k].length 0 5)]) v1 w1) :
    Pk w1 w.heap.size v1 L (k + 1) ∧ Below w.heap.size w w1 := by
  have b1 := bytesWorld_below wr 5 ⟨L[k].toArray⟩
  have o1 := bytesWorld_out wr L[k] hl
  have hb1 : Below wr.heap.size wr ((Lib.bytesWorld wr 5 ⟨L[k].toArray⟩).alloc (.cells #[.slice (some ⟨wr.heap.size, 0, none⟩) L[k].length (grownCap wr L[k].length 0 5)] t)) := b1.alloc b1.size _
  have hown1 := own_below hown hb1
  refine ⟨⟨_, happ.1, fun i hi hik => ?_⟩, (hb.trans (hb1.mono hb.size)).grown happ.2.1 (Nat.le_trans hb.size hb1.size) (fun g hg => (hown.lt g hg).1)⟩
  have hvl : vals.length = k := by have := hown.1; omega
  by_cases he : i = k
  · subst he
    refine ⟨_, by rw [List.getElem?_append_right (by omega), hvl, Nat.sub_self]; rfl, ?_⟩
    exact out_grown ((o1.ch (Ch.of_below (S := fun _ => False) ((Below.refl _ _).alloc (Nat.le_refl _) _) (Nat.le_refl _)) (fun _ _ _ h => h)).base hb.size) hown1 (by decide) happ.2.1
  · obtain ⟨u, hu, hout⟩ := h i hi (by omega)
    refine ⟨u, by rw [List.getElem?_append_left (by omega)]; exact hu, ?_⟩
    exact out_grown (hout.ch (Ch.of_below (S := fun _ => False) hb1 (Nat.le_refl _)) (fun _ _ _ h => h)) hown1 (by decide) happ.2.1

set_option maxHeartbeats 1000000 in
theorem plain_yes (w : World) (S : Nat → Prop) (p : Nat) (L : List Tx) (h : Tb w S p L) :
    Calls Try.prog 21 #[.pointer (some ⟨p, 0, none⟩)] w fun e w' => ∃ A c, e = .returned (.slice A L.length c) ∧ Pl w' w.heap.size (.slice A L.length c) L ∧ Below w.heap.size w w' := by
  have HM := Lib.hid (made_yes w S p L h)
  obtain ⟨m, tv, D, h1, hmap, hN, hown, hp, hm, hg, hall, hL⟩ := h
  obtain ⟨A', c', rfl⟩ := own_shape hown
  have c1 : ∀ W, Below w.heap.size w W → W.cell? ⟨p, 1, none⟩ = some (.slice A' L.length c') := fun W hb => (hb.cell (p := ⟨p, 1, none⟩) h1.lt).trans (h1.cell 1)
  have c2 := c1 w (Below.refl _ _)
  obtain ⟨i0, hi0, hz0, hz1, hz2⟩ := info_parts info_sl
  have hms : ∀ W : World, (Instr.makeSlice 22 (.int .i64 0) (.int .i64 (L.length : Int))).run Try.prog W = .ok (.slice (some ⟨W.heap.size, 0, none⟩) 0 L.length) (W.alloc (.cells (madeCells (Value.slice none 0 0).cells L.length) 24)) := fun W => by
    have := run_make (P := Try.prog) W 22 24 i0 _ Try.underlying22 hi0 hz0 .i64 .i64 0 L.length (by omega) (by omega) (by rw [hz2]; omega) (by omega)
    rw [hz1] at this
    simpa using this
  have b0 : Below w.heap.size w (w.alloc (.cells (madeCells (Value.slice none 0 0).cells L.length) 24)) := (Below.refl _ _).alloc (Nat.le_refl _) _
  have c3 := c1 _ b0
  have o0 := World.ownsRow_made (e := 24) (size := 1) w (madeCells (Value.slice none 0 0).cells L.length) L.length (Nat.le_refl _) (by simp only [maxLen]; omega) (by rw [size_madeCells, Nat.mul_one])
  have HO := Lib.hid hown
  have HA := Lib.hid hall
  have H0 := Lib.hid o0
  have HB := Lib.hid b0
  have hL2 : L.length ≤ 2000000 := by omega
  have hlt := h1.lt
  clear h1 hmap hN hown hp hm hg hall c1 o0 b0 hL
  go_enter Try.func21, Try.ntmps21
  go_wp2_with (go_at_call 34; refine HM.out.mono ?_; rintro e w' ⟨rfl, rfl⟩)
  go_loopw [3, 20] (fun v i wr => ∃ k : Nat, k ≤ L.length ∧ i = .int .i64 k ∧ Pk wr w.heap.size v L k ∧ Below w.heap.size w wr)
    (fun _ i _ => L.length - (intOf i).toNat)
  case atStart => exact ⟨0, Nat.zero_le _, rfl, ⟨[], H0.out, fun _ _ h => absurd h (by omega)⟩, HB.out⟩
  case round =>
    obtain ⟨k, hk, rfl, ⟨vals, hown, hx⟩, hbr⟩ := hrel
    obtain ⟨A3, c3', rfl⟩ := own_shape hown
    have HOW := Lib.hid hown
    have HX := Lib.hid hx
    have HBR := Lib.hid hbr
    by_cases hlt : k < L.length
    · obtain ⟨g, rfl, hc, hLc⟩ := text_at HO.out hlt
      have hcr : wr.cell? ⟨g, k, none⟩ = some (.string ⟨L[k].toArray⟩) := (hbr.cell (World.block_lt_of_cell? w _ hc)).trans hc
      have hconv := conv_law L[k]
      have hvl : vals.length = k := by have := hown.1; omega
      have HAK := Lib.hid (HA.out _ (List.getElem_mem hlt))
      clear hown hx hbr hc
      go_wp2_with (at_builtin; go_loud (refine wpList_append_sh _ rfl (.tmp 24) (.tmp 27) _ rfl w.heap.size 24 i0 _ 1 24 Try.underlying22 hi0 hz0 hz1 hz2 rfl (by omega) (.slice A3 k c3') k vals rfl (own_below HOW.out (conv_below wr _ _ _)) (fun _ => False) _ 1 [.slice (some ⟨wr.heap.size, 0, none⟩) L[k].length (grownCap wr L[k].length 0 5)] rfl (one_sv _ _ _ _ (fun h => h)) (one_slice _ _ _) (by simp only [maxLen]; omega) (by omega) (conv_size HBR.out _ _ _) ?_; intro A4 c4 w1 happ))
      go_roundw
      case rel =>
        have R := pk_snoc hlt HAK.out HX.out HBR.out HOW.out _ happ
        exact ⟨k + 1, by omega, by go_num, R.1, R.2⟩
      case measure => simp [intOf]; omega
    · have hke : k = L.length := by omega
      subst hke
      go_wp2
      go_ret
      exact ⟨_, _, rfl, ⟨vals, HOW.out, fun i hi => HX.out i hi hi⟩, HBR.out⟩

end Go.Proofs.Ytnhppmdhhmekdaa.Ie

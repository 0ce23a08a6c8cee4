/-
  Contracts of the program's topics: Names, groupNames: the keys of a map, sorted.
-/
import Derived.Test.YtkoedonllfmaaaaGreatVD04
import Derived.Test.YtkoedonllfmaaaaGreatShelf
import Derived.Outline
namespace Go.Proofs.YtkoedonllfmaaaaGreat.Bq
set_option linter.unusedSimpArgs false
open Go Go.RowKit Go.Maps Go.Sort Go.Shelf Ck Kw Ga Kf Km Pm Pz Tm Tn Tq Aa
attribute [local go_sem ↓] Go.wp_at_zero Go.wp_at_succ
set_option linter.unusedVariables false

theorem keysT_call (mb : Option Nat) (W : World) : Calls Tryz.prog 59 #[.map mb] W fun e w' =>
    e = .returned (.func (.func 92) #[] #[.pointer (some ⟨W.heap.size, 0, none⟩)]) ∧ w' = W.alloc (.cells #[.map mb] 61) :=
  (callsIn_wide (n := 5)).1 (AnyZ.keys_in Tryz.keys59 Fence.wide 5 trivial rfl mb W)
theorem keysG_call (mb : Option Nat) (W : World) : Calls Tryz.prog 89 #[.map mb] W fun e w' =>
    e = .returned (.func (.func 112) #[] #[.pointer (some ⟨W.heap.size, 0, none⟩)]) ∧ w' = W.alloc (.cells #[.map mb] 100) :=
  (callsIn_wide (n := 5)).1 (AnyZ.keys_in Tryz.keys89 Fence.wide 5 trivial rfl mb W)
theorem sorts (m : Nat) : AnyZ.SortsIn Tryz.prog Tryz.sorted58_ren Fence.wide m :=
  ⟨fun blk off cap ss W hH hblk hsz => callsIn_wide.2 (AnyM.slices_Sort_string Tryz.sort91 blk off cap ss W hH hblk hsz),
   fun p cap W => callsIn_wide.2 (AnyM.slices_Sort_string_none Tryz.sort91 p cap W)⟩

set_option maxHeartbeats 1000000 in
/-- The keys of the map of topics, sorted: w is the world ahead of maps.Keys. -/
theorem sortedT_call (b nn : Nat) (D0 : DataW Unit) (w : World) (hown : w.ownsMap Tryz.prog 9 ptrElem b nn D0) (hs : Maps.size D0 ≤ 64) :
    Calls Tryz.prog 58 #[.func (.func 92) #[] #[.pointer (some ⟨w.heap.size, 0, none⟩)]] (w.alloc (.cells #[.map (some b)] 61)) fun e w' =>
      ∃ (v : Value) (ss : List (List UInt8)), e = .returned v ∧ ss.Perm (strKeys D0) ∧ w'.ownsRow (w.alloc (.cells #[.map (some b)] 61)).heap.size 9 1 v ss.length ((ss.mergeSort (fun x y => decide (x ≤ y))).map encStr) ∧
        Below (w.alloc (.cells #[.map (some b)] 61)).heap.size (w.alloc (.cells #[.map (some b)] 61)) w' := by
  have hbl := hown.lt
  have hseq : SeqGives Fence.wide 2 Tryz.prog 92 #[.pointer (some ⟨w.heap.size, 0, none⟩)] encStr (fun ss => ss.Perm (strKeys D0)) (Maps.size D0) (w.alloc (.cells #[.map (some b)] 61)) :=
    AnyZ.keys_gives (ρ := Tryz.keys59_ren) { Tryz.keys59 with } Fence.wide _ trivial rfl (by omega) w.heap.size b nn D0 _ (by simp) (by simp) (by
      obtain ⟨es, clock, hb, Ft, hs, hD⟩ := hown
      exact ⟨es, clock, (Below.heap_alloc _ _ b hbl).trans hb, Ft, hs, hD⟩)
  refine ((callsIn_wide (n := 5)).1 (AnyZ.sorted_in Tryz.sorted58 Fence.wide 5 trivial trivial trivial trivial rfl (by omega) (sorts _) (enters_of Tryz.func91 (by kernel_rfl) rfl) 92 #[.pointer (some ⟨w.heap.size, 0, none⟩)] trivial (enters_of Tryz.func92 (by kernel_rfl) rfl) _ _ (by simp only [maxLen]; omega) (by omega) _ hseq)).mono ?_
  rintro e w' ⟨v, ss, h1, h2, h3, _, h5⟩
  exact ⟨v, ss, h1, h2, h3, h5⟩
set_option maxHeartbeats 1000000 in
/-- The keys of a map of groups, sorted. -/
theorem sortedG_call (b nn : Nat) (D0 : DataW Unit) (w : World) (hown : w.ownsMap Tryz.prog 9 inElem b nn D0) (hs : Maps.size D0 ≤ 64) :
    Calls Tryz.prog 58 #[.func (.func 112) #[] #[.pointer (some ⟨w.heap.size, 0, none⟩)]] (w.alloc (.cells #[.map (some b)] 100)) fun e w' =>
      ∃ (v : Value) (ss : List (List UInt8)), e = .returned v ∧ ss.Perm (strKeys D0) ∧ w'.ownsRow (w.alloc (.cells #[.map (some b)] 100)).heap.size 9 1 v ss.length ((ss.mergeSort (fun x y => decide (x ≤ y))).map encStr) ∧
        Below (w.alloc (.cells #[.map (some b)] 100)).heap.size (w.alloc (.cells #[.map (some b)] 100)) w' := by
  have hbl := hown.lt
  have hseq : SeqGives Fence.wide 2 Tryz.prog 112 #[.pointer (some ⟨w.heap.size, 0, none⟩)] encStr (fun ss => ss.Perm (strKeys D0)) (Maps.size D0) (w.alloc (.cells #[.map (some b)] 100)) :=
    AnyZ.keys_gives (ρ := Tryz.keys89_ren) { Tryz.keys89 with } Fence.wide _ trivial rfl (by omega) w.heap.size b nn D0 _ (by simp) (by simp) (by
      obtain ⟨es, clock, hb, Ft, hs, hD⟩ := hown
      exact ⟨es, clock, (Below.heap_alloc _ _ b hbl).trans hb, Ft, hs, hD⟩)
  refine ((callsIn_wide (n := 5)).1 (AnyZ.sorted_in Tryz.sorted58 Fence.wide 5 trivial trivial trivial trivial rfl (by omega) (sorts _) (enters_of Tryz.func91 (by kernel_rfl) rfl) 112 #[.pointer (some ⟨w.heap.size, 0, none⟩)] trivial (enters_of Tryz.func112 (by kernel_rfl) rfl) _ _ (by simp only [maxLen]; omega) (by omega) _ hseq)).mono ?_
  rintro e w' ⟨v, ss, h1, h2, h3, _, h5⟩
  exact ⟨v, ss, h1, h2, h3, h5⟩

theorem pos_some_iff {gs : List Gp} {x : Tx} : (pos gs x).isSome = true ↔ x ∈ gs.map (·.n) := by
  constructor
  · intro h
    by_cases hx : x ∈ gs.map (·.n)
    · exact hx
    · rw [pos_none.2 (fun g hg e => hx (List.mem_map.2 ⟨g, hg, e⟩))] at h
      cases h
  · intro h
    cases hp : pos gs x with
    | some _ => rfl
    | none =>
      obtain ⟨g, hg, e⟩ := List.mem_map.1 h
      exact absurd e (pos_none.1 hp g hg)
/-- Names that rise stand sorted. -/
theorem sorted_rise {L ss : List Tx} (h : L.Pairwise (· < ·)) (hp : ss.Perm L) : ss.mergeSort (fun x y => decide (x ≤ y)) = L := by
  have e : ss.mergeSort (fun x y => decide (x ≤ y)) = L.mergeSort leB := mergeSort_of_perm hp
  rw [e]
  exact List.mergeSort_of_pairwise (h.imp fun h => by simpa [leB] using List.le_of_lt h)
/-- What Names leaves. -/
def Named (w : World) (L : List Tx) (e : Ending) (w' : World) : Prop :=
  ∃ A c, e = .returned (.slice A L.length c) ∧ w'.ownsRow w.heap.size 9 1 (.slice A L.length c) L.length (L.map fun x => .string ⟨x.toArray⟩) ∧ Below w.heap.size w w'

set_option maxHeartbeats 1000000 in
theorem names_on (w : World) (S R : Nat → Prop) (p : Nat) (s : St) (h : Tz w S R p s) :
    Calls Tryz.prog 26 #[.pointer (some ⟨p, 0, none⟩)] w (Named w (s.L.map (·.n))) := by
  have HM := Lib.hid (made_on w S R p s h)
  obtain ⟨m, D, G, V, M, F, hP⟩ := h
  have c0 := hP.cell0
  have hpm : (s.L.map (·.n)).Perm (strKeys D) := names_perm hP.own hP.names (fun x => by rw [hP.tells.1, isSome_find])
  have HP := Lib.hid hP
  have HN := Lib.hid hpm
  have HSZ := Lib.hid (show Maps.size D ≤ 64 by rw [hP.size]; have := hP.good.L.few; omega)
  have HR : Hid ((s.L.map (·.n)).Pairwise (· < ·)) := Lib.hid (List.pairwise_map.2 hP.good.L.rises)
  clear hP hpm
  go_enter Tryz.func26, Tryz.ntmps26
  go_wp2_with (first
    | (go_at_call 17; refine HM.out.mono ?_; rintro e w' ⟨rfl, rfl⟩)
    | (go_at_call 59; refine (keysT_call _ _).mono ?_; rintro e w' ⟨rfl, rfl⟩)
    | (go_at_call 58; refine (sortedT_call m _ D w HP.out.own HSZ.out).mono ?_; rintro e w2 ⟨v, ss, rfl, hp, ho, hb⟩))
  go_ret
  have hp' : ss.Perm (s.L.map (·.n)) := hp.trans HN.out.symm
  have hl : ss.length = (s.L.map (·.n)).length := hp'.length_eq
  have hb1 : Below w.heap.size w w2 := ((Below.refl _ w).alloc (Nat.le_refl _) _).trans (hb.mono (by simp))
  have ho2 := own_base (b' := w.heap.size) ho (by simp)
  rw [sorted_rise HR.out hp', hl] at ho2
  obtain ⟨A, c, rfl⟩ := own_shape ho2
  exact ⟨A, c, rfl, ho2, hb1⟩

set_option maxHeartbeats 1000000 in
theorem gnames_on (w : World) (T R : Nat → Prop) (g : Nat) (t : Tp) (v : Value) (mg : Nat) (h : Tg w T R g t v mg) (hr : (t.gs.map (·.n)).Pairwise (· < ·)) (hf : t.gs.length ≤ 8) :
    Calls Tryz.prog 57 #[.pointer (some ⟨g, 0, none⟩)] w (Named w (t.gs.map (·.n))) := by
  obtain ⟨D, hD, hT⟩ := h.gs
  have c2 : w.cell? ⟨g, 2, none⟩ = some (.map (some mg)) := h.blk.cell 2
  have hnd : (t.gs.map (·.n)).Nodup := hr.imp (fun {a b} hab e => by rw [e] at hab; exact List.lt_irrefl _ hab)
  have hpm : (t.gs.map (·.n)).Perm (strKeys D) := names_perm hD hnd (fun x => by rw [hT.1, pos_some_iff])
  have hsz : Maps.size D = t.gs.length := by rw [size_names hD hnd (fun x => by rw [hT.1, pos_some_iff]), List.length_map]
  have HD := Lib.hid hD
  have HN := Lib.hid hpm
  have HSZ := Lib.hid (show Maps.size D ≤ 64 by rw [hsz]; omega)
  have HR := Lib.hid hr
  clear h hD hT hpm hnd hsz hr
  go_enter Tryz.func57, Tryz.ntmps57
  go_wp2_with (first
    | (go_at_call 89; refine (keysG_call _ _).mono ?_; rintro e w' ⟨rfl, rfl⟩)
    | (go_at_call 58; refine (sortedG_call mg _ D w HD.out HSZ.out).mono ?_; rintro e w2 ⟨v, ss, rfl, hp, ho, hb⟩))
  go_ret
  have hp' : ss.Perm (t.gs.map (·.n)) := hp.trans HN.out.symm
  have hl : ss.length = (t.gs.map (·.n)).length := hp'.length_eq
  have hb1 : Below w.heap.size w w2 := ((Below.refl _ w).alloc (Nat.le_refl _) _).trans (hb.mono (by simp))
  have ho2 := own_base (b' := w.heap.size) ho (by simp)
  rw [sorted_rise HR.out hp', hl] at ho2
  obtain ⟨A, c, rfl⟩ := own_shape ho2
  exact ⟨A, c, rfl, ho2, hb1⟩
end Go.Proofs.YtkoedonllfmaaaaGreat.Bq

import Derived.Test.YtdkjimfehipeaaaGreatDoorT6
import Derived.Sort.OwnSortedInts
import Derived.Shelf.Abstract
import Derived.Shelf.RegionOpen
import Derived.OwnWalkIn
import Derived.TacticsInMore
import Derived.LoopNIn
import Derived.LoopIn
import Derived.Test.YtdkjimfehipeaaaGreatDoorKr
/-
  Contract of the program's disk: Crash.
-/
namespace Go.Proofs.YtdkjimfehipeaaaGreatDoor.Dj
open Go Go.RowKit Go.Maps Ck Kw Ga Dm Dw Da Db Dc Dd De Df Dg Dh Di
attribute [local go_sem ↓] Go.wp_at_zero Go.wp_at_succ
set_option linter.unusedVariables false

theorem ranges_ch {H : Type} {P : Program} {k : TypeId} {R : Value → Option (DataW H × List MemPlace)} {w w' : World} {S : Nat → Prop} {b r n cnt : Nat} {D : DataW H} {left : Lit → Bool} (h : w.ranges P k R b r n D left cnt) (c : Ch S w w') (hb : ¬ S b) (hr : ¬ S r) : w'.ranges P k R b r n D left cnt := by
  have h1 := h.owns.lt
  have h2 := h.lt
  obtain ⟨es, clock, since, seen, c0, e1, e2, e3, e4, e5, rest⟩ := h
  exact ⟨es, clock, since, seen, c0, (c.block b h1 hb).trans e1, e2, e3, e4, (c.block r h2 hr).trans e5, rest⟩

theorem size_any (w : World) (z : Int) (h : -9223372036854775808 ≤ z) (h' : z ≤ 9223372036854775807) : Calls Tryz.prog 63 #[.int .i64 z] w fun e w' => e = .returned (.int .i64 (Dm.size z : Int)) ∧ w = w' := by
  by_cases h0 : z = -9223372036854775808
  · subst h0
    go_enter Tryz.func63, Tryz.ntmps63
    go_wp2
    go_ret
    exact ⟨rfl, rfl⟩
  · have hb : (z == -9223372036854775808) = false := by rw [beq_eq_false_iff_ne]; exact h0
    have hw : IntKind.i64.wrap (-z) = -z := wrap64 (by omega) (by omega)
    have hm : max z (-z) = (Dm.size z : Int) := by unfold Dm.size; rw [if_neg h0]; omega
    have HM := Lib.hid hm
    clear hm h h'
    go_enter Tryz.func63, Tryz.ntmps63
    go_wp2
    go_ret
    refine ⟨?_, rfl⟩
    rw [← HM.out]
    rfl

theorem parts_lt {w : World} {S S' : Nat → Prop} {p m room : Nat} {L : List Fl} {off : Bool} {D : DataW Unit} {G : Tx → Nat} {T : Tx → Nat → Prop} (h : Parts w S p m L room off D G T) (hS : ∀ k, k < w.heap.size → S k → S' k) : Parts w S' p m L room off D G T :=
  ⟨h.blk, hS _ h.blk.lt h.sp, h.own, h.tells, ⟨hS _ h.own.lt h.sm.1, h.sm.2⟩, h.file, fun f hf k hk => ⟨hS _ (h.sub f hf k hk).2.2.2 (h.sub f hf k hk).1, (h.sub f hf k hk).2⟩, h.apart, h.good⟩

/-- Some files torn, and some still to come. -/
def mix (k : Nat) (left : Lit → Bool) (L : List Fl) : List Fl := L.map (fun f => if left (.string f.n) then f else tear k f)
theorem mix_all {k : Nat} {left : Lit → Bool} {L : List Fl} (h : ∀ f ∈ L, left (.string f.n) = true) : mix k left L = L := by
  unfold mix
  rw [List.map_congr_left (g := id) (fun f hf => by rw [if_pos (h f hf)]; rfl), List.map_id]
theorem mix_none {k : Nat} {left : Lit → Bool} {L : List Fl} (h : ∀ s : Tx, left (.string s) = false) : mix k left L = L.map (tear k) := by
  unfold mix
  exact List.map_congr_left (fun f hf => by rw [if_neg (by rw [h]; simp)])
theorem mix_step {k : Nat} {left : Lit → Bool} {L : List Fl} (hn : (L.map (·.n)).Nodup) {f : Fl} (hf : f ∈ L) : mix k (fun z => left z && !z.sameKey (.string f.n)) L = upd (mix k left L) f.n (setf (tear k f).b (tear k f).d) := by
  unfold mix upd
  rw [List.map_map]
  refine List.map_congr_left (fun g hg => ?_)
  have e : (if left (.string g.n) then g else tear k g).n = g.n := by split <;> rfl
  simp only [Function.comp, e, sameKey_str]
  by_cases h : g.n = f.n
  · rw [if_pos h, nodup_eq hn hg hf h]
    simp only [beq_self_eq_true, Bool.not_true, Bool.and_false, Bool.false_eq_true, if_false]
    unfold setf
    split <;> rfl
  · have hb : (g.n == f.n) = false := by rw [beq_eq_false_iff_ne]; exact h
    rw [if_neg h, hb]
    simp
theorem mix_used {k : Nat} {left : Lit → Bool} {L : List Fl} : used (mix k left L) ≤ used L :=
  used_map (fun f hf => by
    split
    · exact Nat.le_refl _
    · unfold tear; simp only [List.length_take]; omega)

def crashS (L : List Fl) (off : Bool) (z : Int) : List Fl × Nat := if off then (L, 32) else (L.map (tear (Dm.size z)), 0)

set_option maxRecDepth 100000 in
set_option maxHeartbeats 16000000 in
theorem crash_on (w : World) (S : Nat → Prop) (p : Nat) (L : List Fl) (room : Nat) (off : Bool) (z : Int) (hz : -9223372036854775808 ≤ z) (hz' : z ≤ 9223372036854775807) (h : Dk w S p L room off) :
    Calls Tryz.prog 26 #[.pointer (some ⟨p, 0, none⟩), .int .i64 z] w (Did S p (crashS L off z) room true w) := by
  have HR := Lib.hid (ready_on w S p L room off h)
  have H := Lib.hid h
  cases off
  · have e : crashS L false z = (L.map (tear (Dm.size z)), 0) := rfl
    rw [e]
    clear e
    obtain ⟨m, D, G, T, hP⟩ := h.opened
    have c0 : w.cell? ⟨p, 0, none⟩ = some (.map (some m)) := hP.blk.cell 0
    have hin : ∀ f ∈ L, Maps.has D (.string f.n) = true := fun f hf => by rw [hP.tells.1]; exact isIn_iff.2 ⟨f, hf, rfl⟩
    have hst := mix_all (k := Dm.size z) hin
    have HP := Lib.hid hP
    have HS := Lib.hid hst
    have HZ := Lib.hid (And.intro hz hz')
    clear h hP hin hst hz hz'
    go_enter Tryz.func26, Tryz.ntmps26
    go_wp2_with (first
      | (go_at_call 61; refine HR.out.mono ?_; rintro e w' ⟨rfl, rfl⟩)
      | (at_range; refine wpList_range_own _ rfl _ 84 rfl 9 102 law_str Tryz.underlying84 _ m 64 D rfl HP.out.own ?_; intro w0 hrg0 hg0 hs0))
    have hb0 : Below w.heap.size w w0 := below_of_grown hg0 (fun k hk => by cases hk)
    have hP0 : Parts w0 (fun k => Up S w w0 k ∧ k ≠ w.heap.size) p m L room false D G T :=
      parts_lt ((parts_lt HP.out (S' := fun k => S k ∧ k ≠ w.heap.size) (fun k hk hs => ⟨hs, by omega⟩)).later hb0) (fun k _ hk => ⟨.inl hk.1, hk.2⟩)
    clear hg0
    go_frame
    go_loopw [7] (fun _ wr => ∃ (left : Lit → Bool) (cnt : Nat) (T' : Tx → Nat → Prop), Parts wr (fun k => Up S w wr k ∧ k ≠ w.heap.size) p m (mix (Dm.size z) left L) room false D G T' ∧ wr.ranges Tryz.prog 9 ptrElem m w.heap.size 64 D left cnt ∧ Ch S w wr)
      (fun _ wr => wr.rangeLeft m w.heap.size)
    case atStart => exact ⟨_, _, T, by rw [HS.out]; exact hP0, hrg0, Ch.of_below hb0 (Nat.le_refl _)⟩
    case round =>
      obtain ⟨left, cnt, T', hPr, hrg, hcw⟩ := hrel
      have hT : TellsD D L G := HP.out.tells
      go_wp2_with (at_next; refine wpList_next_files _ rfl _ rfl m w.heap.size 64 D left cnt L G HP.out.tells rfl hrg ?_ ?_)
      · intro h0
        rw [mix_none h0] at hPr
        have c2 := hPr.blk.cell 2
        have c0 := hPr.blk.cell 0
        have f2 := hPr.blk.frozen 2
        simp only [List.getElem?_toArray, List.getElem?_cons_zero, List.getElem?_cons_succ] at c2
        have HPr := Lib.hid hPr
        clear hPr hrg
        go_wp2
        go_ret
        refine ⟨rfl, (HPr.out.set_off true).shut.weaken (fun k hk => ?_), hcw.setCell (fun _ => HP.out.sp) _⟩
        rcases hk.1 with hk | ⟨g1, g2⟩
        · exact .inl hk
        · exact .inr ⟨g1, by simpa [World.setCell] using g2⟩
      · intro f w1 cnt1 hf hl hrg1 hlt hg1 hs1 hen
        have hc1 : Ch (fun k => k = w.heap.size) _ w1 := Ch.of_grown hg1 (fun g hg _ => (Option.some.inj hg).symm)
        have hsw := hcw.size
        have hrlt : w.heap.size < w1.heap.size := hrg1.lt
        have hP1 : Parts w1 (fun k => Up S w w1 k ∧ k ≠ w.heap.size) p m (mix (Dm.size z) left L) room false D G T' :=
          parts_lt (hPr.ch hc1 (fun k hk e => hk.2 e)) (fun k _ hk => ⟨up_mono (by omega) hk.1, hk.2⟩)
        have hfm : f ∈ mix (Dm.size z) left L := List.mem_map.2 ⟨f, hf, by rw [if_pos hl]⟩
        have hcw1 : Ch S w w1 := hcw.trans hc1 (fun k hk e => by omega)
        have HP1 := Lib.hid hP1
        have HFM := Lib.hid hfm
        have HL := Lib.hid hl
        have HR1 := Lib.hid hrg1
        have HRO := Lib.hid hrg
        have HC1 := Lib.hid hcw1
        have HLT := Lib.hid (And.intro hlt hrlt)
        clear hP1 hfm hl hPr hrg1 hrg hcw1 hcw hc1 hsw hrlt hlt hg1 hs1
        go_wp2_with (first
          | (go_at_call 63; refine (size_any _ z HZ.out.1 HZ.out.2).mono ?_; rintro e w' ⟨rfl, rfl⟩)
          | (go_at_call 62; refine (ftear_any _ _ _ _ _ (Dm.size z) (HP1.out.file f HFM.out)).mono ?_; rintro e w2 ⟨rfl, hF2, hC2⟩))
        have hu : used (upd (mix (Dm.size z) left L) f.n (setf (tear (Dm.size z) f).b (tear (Dm.size z) f).d)) ≤ room := by
          rw [← mix_step HP.out.good.nodup hf]
          exact Nat.le_trans mix_used HP.out.good.fits
        have hP2 := parts_put HP1.out HFM.out (b := (tear (Dm.size z) f).b) (d := (tear (Dm.size z) f).d) hF2 hC2 hu
        rw [← mix_step HP.out.good.nodup hf] at hP2
        have hrt : ¬ T' f.n w.heap.size := fun hk => (HP1.out.sub f HFM.out _ hk).1.2 rfl
        have hrg2 := ranges_ch HR1.out hC2 (fun hk => (HP1.out.sub f HFM.out _ hk).2.2.1 rfl) hrt
        have hs2 := hC2.size
        have hP3 : Parts w2 (fun k => Up S w w2 k ∧ k ≠ w.heap.size) p m (mix (Dm.size z) (fun z => left z && !z.sameKey (.string f.n)) L) room false D G _ := parts_lt hP2 (fun k _ hk => by
          rcases hk with hk | ⟨g1, g2⟩
          · exact ⟨up_mono hs2 hk.1, hk.2⟩
          · have := HLT.out.2
            exact ⟨.inr ⟨by omega, g2⟩, by omega⟩)
        have hc2 : Ch S w w2 := HC1.out.trans hC2 (fun k hk ht => by
          rcases (HP1.out.sub f HFM.out k ht).1.1 with h | ⟨g1, _⟩
          · exact h
          · omega)
        go_roundw
        case rel => exact ⟨_, cnt1, _, hP3, hrg2, hc2⟩
        case measure => rw [hrg2.left_eq, HRO.out.left_eq]; exact HLT.out.1
  · clear h
    have e : crashS L true z = (L, 32) := rfl
    rw [e]
    go_enter Tryz.func26, Tryz.ntmps26
    go_wp2_with (go_at_call 61; refine HR.out.mono ?_; rintro e w' ⟨rfl, rfl⟩)
    go_ret
    exact did_refl H.out

end Go.Proofs.YtdkjimfehipeaaaGreatDoor.Dj

/-
  Contract of the program's disk: List.
-/
namespace Go.Proofs.YtdkjimfehipeaaaGreatDoor.Dl
open Go Go.RowKit Go.Maps Go.Sort Go.Shelf Ck Kw Ga Dm Dw Da Db Dc Dd De Df Dg Dh
attribute [local go_sem ↓] Go.wp_at_zero Go.wp_at_succ
set_option linter.unusedVariables false

theorem keys_call (mb : Option Nat) (W : World) : Calls Tryz.prog 96 #[.map mb] W fun e w' =>
    e = .returned (.func (.func 131) #[] #[.pointer (some ⟨W.heap.size, 0, none⟩)]) ∧ w' = W.alloc (.cells #[.map mb] 84) :=
  (callsIn_wide (n := 5)).1 (AnyZ.keys_in Tryz.keys96 Fence.wide 5 trivial rfl mb W)
theorem sorts (m : Nat) : AnyZ.SortsIn Tryz.prog Tryz.sorted95_ren Fence.wide m :=
  ⟨fun blk off cap ss W hH hblk hsz => callsIn_wide.2 (AnyM.slices_Sort_string Tryz.sort130 blk off cap ss W hH hblk hsz),
   fun p cap W => callsIn_wide.2 (AnyM.slices_Sort_string_none Tryz.sort130 p cap W)⟩

set_option maxHeartbeats 16000000 in
/-- The keys of a map, sorted: w is the world ahead of maps.Keys. -/
theorem sorted_call (b nn : Nat) (D0 : DataW Unit) (w : World) (hown : w.ownsMap Tryz.prog 9 ptrElem b nn D0) (hs : Maps.size D0 ≤ 64) :
    Calls Tryz.prog 95 #[.func (.func 131) #[] #[.pointer (some ⟨w.heap.size, 0, none⟩)]] (w.alloc (.cells #[.map (some b)] 84)) fun e w' =>
      ∃ (v : Value) (ss : List (List UInt8)), e = .returned v ∧ ss.Perm (strKeys D0) ∧ w'.ownsRow (w.alloc (.cells #[.map (some b)] 84)).heap.size 9 1 v ss.length ((ss.mergeSort (fun x y => decide (x ≤ y))).map encStr) ∧
        Below (w.alloc (.cells #[.map (some b)] 84)).heap.size (w.alloc (.cells #[.map (some b)] 84)) w' := by
  have hbl := hown.lt
  have hseq : SeqGives Fence.wide 2 Tryz.prog 131 #[.pointer (some ⟨w.heap.size, 0, none⟩)] encStr (fun ss => ss.Perm (strKeys D0)) (Maps.size D0) (w.alloc (.cells #[.map (some b)] 84)) :=
    AnyZ.keys_gives (ρ := Tryz.keys96_ren) { Tryz.keys96 with } Fence.wide _ trivial rfl (by omega) w.heap.size b nn D0 _ (by simp) (by simp) (by
      obtain ⟨es, clock, hb, Ft, hs, hD⟩ := hown
      exact ⟨es, clock, (Below.heap_alloc _ _ b hbl).trans hb, Ft, hs, hD⟩)
  refine ((callsIn_wide (n := 5)).1 (AnyZ.sorted_in Tryz.sorted95 Fence.wide 5 trivial trivial trivial trivial rfl (by omega) (sorts _) (enters_of Tryz.func130 (by kernel_rfl) rfl) 131 #[.pointer (some ⟨w.heap.size, 0, none⟩)] trivial (enters_of Tryz.func131 (by kernel_rfl) rfl) _ _ (by simp only [maxLen]; omega) (by omega) _ hseq)).mono ?_
  rintro e w' ⟨v, ss, h1, h2, h3, _, h5⟩
  exact ⟨v, ss, h1, h2, h3, h5⟩

/-- The names rise. -/
def Rises (L : List Fl) : Prop := (L.map (·.n)).Pairwise (fun x y => x ≤ y)
theorem sorted_names {L : List Fl} {ss : List (List UInt8)} (h : Rises L) (hp : ss.Perm (L.map (·.n))) : ss.mergeSort leB = L.map (·.n) := by
  rw [mergeSort_of_perm hp]
  exact List.mergeSort_of_pairwise (h.imp fun h => by simpa [leB] using h)

set_option maxHeartbeats 16000000 in
theorem list_on (w : World) (S : Nat → Prop) (p : Nat) (L : List Fl) (room : Nat) (off : Bool) (h : Dk w S p L room off) :
    Calls Tryz.prog 52 #[.pointer (some ⟨p, 0, none⟩)] w fun e w' => ∃ A c, e = .returned (.slice A L.length c) ∧ w'.ownsRow w.heap.size 9 1 (.slice A L.length c) L.length (((L.map (·.n)).mergeSort leB).map SV) ∧ Below w.heap.size w w' := by
  have HM := Lib.hid (made_on w S p L room off h)
  obtain ⟨m, D, G, T, hP⟩ := h.opened
  have c0 : w.cell? ⟨p, 0, none⟩ = some (.map (some m)) := hP.blk.cell 0
  have hsz := size_names hP.own hP.tells hP.good.nodup
  have hpm := names_perm hP.own hP.tells hP.good.nodup
  have HP := Lib.hid hP
  have HN := Lib.hid hpm
  have HSZ := Lib.hid (show Maps.size D ≤ 64 by rw [hsz]; exact hP.good.few)
  clear h hP hsz hpm
  go_enter Tryz.func52, Tryz.ntmps52
  go_wp2_with (first
    | (go_at_call 64; refine HM.out.mono ?_; rintro e w' ⟨rfl, rfl⟩)
    | (go_at_call 96; refine (keys_call _ _).mono ?_; rintro e w' ⟨rfl, rfl⟩)
    | (go_at_call 95; refine (sorted_call m 64 D w HP.out.own HSZ.out).mono ?_; rintro e w2 ⟨v, ss, rfl, hp, ho, hb⟩))
  go_ret
  have hp' : ss.Perm (L.map (·.n)) := hp.trans HN.out.symm
  have hl : ss.length = L.length := by rw [hp'.length_eq, List.length_map]
  have hb1 : Below w.heap.size w w2 := ((Below.refl _ w).alloc (Nat.le_refl _) _).trans (hb.mono (by simp))
  have ho2 : w2.ownsRow w.heap.size 9 1 v ss.length ((ss.mergeSort leB).map encStr) := own_base ho (by simp)
  rw [mergeSort_of_perm hp', hl] at ho2
  obtain ⟨A, c, rfl⟩ := own_shape ho2
  exact ⟨A, c, rfl, ho2, hb1⟩

end Go.Proofs.YtdkjimfehipeaaaGreatDoor.Dl

/-
  Contracts of layer 4's small functions: which files are a log's.
-/
namespace Go.Proofs.YtdkjimfehipeaaaGreatDoor.Wh
open Go Go.RowKit Go.Shelf Go.Sort Ck Kw Ga Dm Dw Da Db Dc Dd De Df Dg Wc Wf Wa Wb Wd Wn We Kx Wg
attribute [local go_sem ↓] Go.wp_at_zero Go.wp_at_succ
set_option linter.unusedVariables false

def IV (z : Int) : Value := .int .i64 z
theorem sort_ints (w : World) (base : Nat) (v : Value) (zs : List Int) (h : w.ownsRow base 2 1 v zs.length (zs.map (Value.int .i64))) (hl : zs.length < 4611686018427387904) :
    Calls Tryz.prog 94 #[v] w fun e w' => e = .returned (.tuple #[]) ∧ w'.ownsRow base 2 1 v zs.length ((zs.mergeSort (fun x y => decide (x ≤ y))).map (Value.int .i64)) ∧ w.grownBy w' v.ownBlock := by
  rcases h.2 with ⟨rfl, h2⟩ | ⟨g, cap, cur, rfl, hb, hg, hnc, hcm, hsz, ht⟩
  · have hz : zs = [] := by cases zs with | nil => rfl | cons => simp at h2
    subst hz
    refine (AnyM.slices_Sort_int_none Tryz.sort94 none 0 w).mono ?_
    rintro e w' ⟨rfl, rfl⟩
    exact ⟨rfl, by simpa using h, World.grownBy.refl _ _⟩
  · have hlt : g < w.heap.size := (Array.getElem?_eq_some_iff.1 hg).1
    rw [Nat.mul_one] at ht
    refine (AnyM.slices_Sort_int Tryz.sort94 g 0 cap zs w (holds_of_blockI hg ht) hlt hl).mono ?_
    rintro e w' ⟨rfl, n, os, rfl⟩
    exact ⟨rfl, ownsRow_sortedI (by rw [List.length_mergeSort]) hb hg hnc hcm hsz, grownBy_sortedI _⟩

theorem trim_nm (name : Tx) (k : Nat) : Lib.trimPrefix (nm name k) (name ++ [46]) = Lib.decDigits k := by
  unfold Lib.trimPrefix Lib.hasPrefix nm
  rw [if_pos (by rw [List.isPrefixOf_iff_prefix]; exact ⟨_, rfl⟩), List.drop_left]

set_option maxRecDepth 100000 in
set_option maxHeartbeats 16000000 in
theorem number_any (w : World) (name : Tx) (k : Nat) (hT : Tab w) (h1 : 1 ≤ k) (hk : k < 1000000000000000) (hn : name.length ≤ 1099511627776) :
    Calls Tryz.prog 93 #[.string ⟨name.toArray⟩, .string ⟨(nm name k).toArray⟩] w fun e w' => e = .returned (.tuple #[.int .i64 (k : Int), .bool true]) ∧ Below w.heap.size w w' := by
  have HT := Lib.hid hT
  have HTR := Lib.hid (trim_nm name k)
  have HPI := Lib.hid (parse_int hk)
  have hd := dec_len (k := k) 14 (by omega)
  have hs : (ByteArray.mk name.toArray).size ≤ 1099511627776 := by show name.toArray.size ≤ _; simpa using hn
  have HCC : Hid ((ByteArray.mk name.toArray ++ ByteArray.mk #[46]).data.toList = name ++ [46]) := Lib.hid (by simp)
  clear hT
  go_enter Tryz.func93, Tryz.ntmps93
  go_wp2_with fail
  refine (Any.strings_TrimPrefix Tryz.trimPrefix ⟨(nm name k).toArray⟩ _ w).mono ?_
  rintro e w1 ⟨rfl, rfl⟩
  rw [HCC.out, show (ByteArray.mk (nm name k).toArray).data.toList = nm name k by simp, HTR.out]
  go_wp2_with fail
  refine (Any.strconv_ParseInt_10_at64_ok Tryz.parseInt ⟨(Lib.decDigits k).toArray⟩ (by show (Lib.decDigits k).toArray.size ≤ _; simp; omega) (k : Int) (by simpa using HPI.out) w1).mono ?_
  rintro e w2 ⟨rfl, hw2⟩
  have hb2 : Below w1.heap.size w1 w2 := by
    rcases hw2 with rfl | ⟨t, rfl⟩
    · exact Below.refl _ _
    · exact bytesWorld_below _ _ _
  have HB2 := Lib.hid hb2
  have HT2 := Lib.hid (HT.out.after hb2)
  clear hw2 hb2
  go_wp2_with (go_at_call 89; refine (file_name _ name k HT2.out hk hn).mono ?_; rintro e w3 ⟨rfl, hb3⟩)
  go_ret2
  exact ⟨rfl, HB2.out.trans (hb3.mono HB2.out.size)⟩

theorem info_i64 : (Tryz.prog.info? 2).map (fun i => (i.zero, i.size, i.bytes)) = some (some (.int .i64 0), 1, 8) := by kernel_rfl
theorem sv_get {w : World} {X : Nat → Prop} {A : Option Addr} {n c : Nat} {l : List Tx} (h : Sl w X 1 (.slice A n c) n (l.map SV)) {k : Nat} (hk : k < l.length) : ∃ ad, A = some ad ∧ ad.block < w.heap.size ∧ w.cell? (ad.add k) = some (.string ⟨l[k].toArray⟩) := by
  obtain ⟨A0, c0, hv, hl, hc, hm, hx⟩ := h
  injection hv with e1 e2 e3
  have hn : n = l.length := by simpa using hl.symm
  obtain ⟨ad, hA, hb, hX, hcell⟩ := hx (by omega)
  exact ⟨ad, e1.trans hA, hb, hcell k _ (by simp [SV, hk])⟩
theorem one_val (w : World) (X : Nat → Prop) (t : TypeId) (u : Value) (hX : ¬ X w.heap.size) : Sl (w.alloc (.cells #[u] t)) X 1 (.slice (some ⟨w.heap.size, 0, none⟩) 1 1) 1 [u] := by
  refine ⟨_, _, rfl, rfl, Nat.le_refl _, by simp only [maxLen]; omega, fun _ => ⟨_, rfl, by simp, hX, fun j u hu => ?_⟩⟩
  have hj : j = 0 := by have := (List.getElem?_eq_some_iff.1 hu).1; simp at this; omega
  subst hj
  show World.cell? _ ⟨w.heap.size, 0, none⟩ = _
  rw [Blk.cell (Blk.new w t _) 0]
  simpa using hu

set_option maxRecDepth 100000 in
set_option maxHeartbeats 16000000 in
theorem numbers_any (w : World) (X : Nat → Prop) (A : Option Addr) (c : Nat) (name : Tx) (ks : List Nat) (hT : Tab w) (hk : ∀ k ∈ ks, 1 ≤ k ∧ k < 1000000000000000) (hn : name.length ≤ 1099511627776) (hl : ks.length ≤ 64)
    (h : Sl w X 1 (.slice A ks.length c) ks.length ((ks.map (nm name)).map SV)) :
    Calls Tryz.prog 51 #[.string ⟨name.toArray⟩, .slice A ks.length c] w fun e w' => ∃ A' c', e = .returned (.slice A' ks.length c') ∧
      w'.ownsRow w.heap.size 2 1 (.slice A' ks.length c') ks.length (((ks.map (fun k : Nat => (k : Int))).mergeSort (fun x y => decide (x ≤ y))).map (Value.int .i64)) ∧ Below w.heap.size w w' := by
  obtain ⟨i0, hi0, hz0, hz1, hz2⟩ := info_parts info_i64
  have HT := Lib.hid hT
  have HS := Lib.hid h
  have HK := Lib.hid hk
  have HTW : Hid (∀ wr, Below w.heap.size w wr → Tab wr) := Lib.hid fun wr hb => hT.after hb
  clear hT h hk
  go_enter Tryz.func51, Tryz.ntmps51
  go_wp2
  go_loopw [5, 12] (fun l i wr => ∃ k : Nat, k ≤ ks.length ∧ i = .int .i64 k ∧ wr.ownsRow w.heap.size 2 1 l k ((ks.take k).map (fun k : Nat => Value.int .i64 (k : Int))) ∧ Below w.heap.size w wr) (fun _ i _ => ks.length - (intOf i).toNat)
  case atStart => exact ⟨0, Nat.zero_le _, rfl, World.ownsRow_nil _ _ _ _, Below.refl _ _⟩
  case round =>
    obtain ⟨k, hk, rfl, ho, hb⟩ := hrel
    have HO := Lib.hid ho
    have HB := Lib.hid hb
    clear ho hb
    by_cases hlt : k < ks.length
    · obtain ⟨ad, rfl, hadl, hcell0⟩ := sv_get HS.out (by simpa using hlt)
      have hcell := (HB.out.cell (p := ad.add k) (by rw [add_block]; exact hadl)).trans hcell0
      simp only [List.getElem_map] at hcell
      have hkk := HK.out _ (List.getElem_mem hlt)
      have HTK := Lib.hid (List.take_succ_eq_append_getElem hlt)
      clear hcell0
      generalize hkv : ks[k] = kv at *
      have HKV := Lib.hid hkv
      clear hkv
      go_wp2_with fail
      refine (number_any _ name kv (HTW.out _ HB.out) hkk.1 hkk.2 hn).mono ?_
      rintro e w2 ⟨rfl, hb2⟩
      have HB2 := Lib.hid hb2
      clear hb2
      obtain ⟨Al, cl, hlv⟩ := own_shape HO.out
      subst hlv
      go_wp2_with (at_builtin; refine wpList_append_sh _ rfl (.tmp 23) (.tmp 25) _ rfl w.heap.size 2 i0 _ 1 8 Tryz.underlying90 hi0 hz0 hz1 hz2 rfl (by omega) _ _ _ rfl ((own_below HO.out HB2.out).alloc _) (fun _ => False) _ 1 [.int .i64 (kv : Int)] rfl (one_val _ _ _ _ (fun h => h)) (by simp [Value.oneCell']) (by simp only [maxLen]; omega) (by omega) (by have := HB.out.size; have := HB2.out.size; simp; omega) ?_; intro A3 c3 w3 happ)
      go_roundw
      case rel => exact ⟨k + 1, by omega, by go_num, by rw [HTK.out, List.map_append]; exact happ.1, (((HB.out.trans (HB2.out.mono HB.out.size)).alloc (by have := HB.out.size; have := HB2.out.size; omega) _).grown happ.2.1 (by have := HB.out.size; have := HB2.out.size; simp; omega) (fun g hg => (HO.out.lt g hg).1))⟩
      case measure => simp [intOf]; omega
    · have hke : k = ks.length := by omega
      subst hke
      have ho := HO.out
      rw [List.take_length] at ho
      obtain ⟨Al, cl, hlv⟩ := own_shape ho
      subst hlv
      have hso := sort_ints wr w.heap.size _ (ks.map (fun k : Nat => (k : Int))) (by rw [List.length_map, List.map_map]; exact ho) (by rw [List.length_map]; omega)
      rw [List.length_map] at hso
      have HSO := Lib.hid hso
      clear hso ho
      go_wp2_with fail
      refine HSO.out.mono ?_
      rintro e w2 ⟨rfl, ho2, hg2⟩
      go_wp2_with fail
      go_ret
      exact ⟨Al, cl, rfl, ho2, HB.out.grown hg2 HB.out.size (fun g hg => (HO.out.lt g hg).1)⟩

end Go.Proofs.YtdkjimfehipeaaaGreatDoor.Wh

/-
  Contract of layer 4's iterator over frames.
-/
namespace Go.Proofs.YtdkjimfehipeaaaGreatDoor.Wi
open Go Go.RowKit Go.Shelf Ck Kw Ga Dm Dw Da Db Dc Dd De Df Dg Wc Wf Wa Wb Wd Wn We Kx Wg Wh Kr
attribute [local go_sem ↓] Go.wp_at_zero Go.wp_at_succ
attribute [local go_sem] Oper.semAt_some
set_option linter.unusedVariables false

/-- Where each frame ends, and its record. -/
def ends : Nat → List Tx → List (Nat × Tx)
  | _, [] => []
  | o, x :: l => (o + (frame x).length, x) :: ends (o + (frame x).length) l
theorem ends_len : ∀ (o : Nat) (xs : List Tx), (ends o xs).length = xs.length
  | _, [] => rfl
  | o, x :: l => by simp [ends, ends_len]
theorem ends_get : ∀ (o : Nat) (xs : List Tx) (k : Nat) (h : k < xs.length), (ends o xs)[k]'(by rw [ends_len]; exact h) = (o + (frames (xs.take (k + 1))).length, xs[k])
  | o, x :: l, 0, h => by simp [ends, frames]
  | o, x :: l, k + 1, h => by
    have := ends_get (o + (frame x).length) l k (by simpa using h)
    simp only [ends, List.getElem_cons_succ, this, List.take_succ_cons, frames, List.length_append, Nat.add_assoc]
theorem frames_snoc_len {xs : List Tx} {k : Nat} (h : k < xs.length) : (frames (xs.take k)).length + (frame xs[k]).length = (frames (xs.take (k + 1))).length := by
  rw [List.take_succ_eq_append_getElem h, frames_snoc, List.length_append]
/-- A frame's end and its record, in memory. -/
def Rf (B : Nat) (p : Nat × Tx) (args : Array Value) (W : World) : Prop :=
  ∃ A c, args = #[.int .i64 (p.1 : Int), .slice A p.2.length c] ∧ W.ownsRow B 5 1 (.slice A p.2.length c) p.2.length (BVs p.2)

theorem frs_at {b r : Tx} {xs : List Tx} (h : Frs b xs r) (k : Nat) (hk : k ≤ xs.length) : b.drop (frames (xs.take k)).length = frames (xs.drop k) ++ r ∧ (frames (xs.take k)).length ≤ b.length := by
  have e : b = frames (xs.take k) ++ (frames (xs.drop k) ++ r) := by rw [h.1, ← List.append_assoc, ← frames_app, List.take_append_drop]
  constructor
  · conv => lhs; rw [e]
    rw [List.drop_left]
  · conv => rhs; rw [e]
    rw [List.length_append]; omega

theorem unframe_at (w : World) (X : Nat → Prop) (A : Option Addr) (c n : Nat) (b x r : Tx) (hn : b.length = n) (h : Sl w X 1 (.slice A n c) n (BVs b)) (hb : n ≤ 549755813888) (hf : Fr b x r) :
    Calls Tryz.prog 10 #[.slice A n c] w fun e w' => Unframed w x e w' := by
  subst hn
  exact unframe_yes w X A c b x r h (by omega) hf
theorem unframe_none (w : World) (X : Nat → Prop) (A : Option Addr) (c n : Nat) (b : Tx) (hn : b.length = n) (h : Sl w X 1 (.slice A n c) n (BVs b)) (hb : n ≤ 549755813888) (hf : ∀ x r, ¬ Fr b x r) :
    Calls Tryz.prog 10 #[.slice A n c] w fun e w' => e = .returned (.tuple #[.slice none 0 0, .int .i64 0, .bool false]) ∧ Below w.heap.size w w' := by
  subst hn
  exact unframe_no w X A c b h (by omega) hf
theorem wide_some : Fence.wide.depth.isSome = true → False := fun h => by cases h

set_option maxRecDepth 100000 in
set_option maxHeartbeats 16000000 in
theorem frames_seq (n : Nat) (hn : 2 ≤ n) (S : Nat → Prop) (w : World) (Bn : Nat) (A : Option Addr) (c : Nat) (b r : Tx) (xs : List Tx) (hB : Blk w Bn 22 #[.slice A b.length c]) (hBS : ¬ S Bn) (hs : Sl w S 1 (.slice A b.length c) b.length (BVs b))
    (hb : b.length ≤ 549755813888) (hF : Frs b xs r) (hSn : ∀ k, w.heap.size ≤ k → S k) : SeqR Fence.wide n Tryz.prog 138 #[.pointer (some ⟨Bn, 0, none⟩)] Rf S (ends 0 xs) w := by
  intro l J Jx W hW hsz hJ hJx hY h0
  rw [ends_len]
  have hfr := fun k hk => frs_at hF k hk
  have hc : b.length ≤ c := by obtain ⟨A0, c0, hv, _, hc, _⟩ := hs; injection hv with _ _ e; omega
  have HF := Lib.hid hF
  have HFR := Lib.hid hfr
  have HBW : Hid (∀ wr, Ch S W wr → Blk wr Bn 22 #[.slice A b.length c] ∧ Sl wr S 1 (.slice A b.length c) b.length (BVs b)) := Lib.hid fun wr hc =>
    ⟨(hB.below hW hB.lt).ch hc hBS, (hs.below hW (fun k h1 h2 => absurd h1 (by omega))).ch hc (fun _ _ h => h)⟩
  have HJ := Lib.hid hJ
  have HSN : Hid (∀ k, W.heap.size ≤ k → S k) := Lib.hid fun k hk => hSn k (by have := hW.size; omega)
  clear hF hfr hB hs hJ
  refine callsIn_of_wp Tryz.func138 rfl trivial ?_ rfl
  simp only [Tryz.ntmps138, List.size_toArray, List.length_cons, List.length_nil, Nat.reduceAdd, Nat.reduceSub, Array.replicate_succ, Array.replicate_zero, List.push_toArray, List.append_toArray, List.nil_append, List.cons_append]
  gi_wp2
  gi_loopw [3] (fun p wr => ∃ k : Nat, k ≤ xs.length ∧ p = .int .i64 ((frames (xs.take k)).length : Int) ∧ J k wr ∧ Ch S W wr) (fun p _ => b.length - (intOf p).toNat)
  case atStart => exact ⟨0, Nat.zero_le _, rfl, h0, Ch.refl _ _⟩
  case round =>
    obtain ⟨k, hk, rfl, hJs, hcs⟩ := hrel
    obtain ⟨hd, hl⟩ := HFR.out k hk
    obtain ⟨o, ho⟩ : ∃ o, o = (frames (xs.take k)).length := ⟨_, rfl⟩
    rw [← ho] at hd hl ⊢
    obtain ⟨hbk, hsl⟩ := HBW.out _ hcs
    have c0 : wr.cell? ⟨Bn, 0, none⟩ = some (.slice A b.length c) := hbk.cell 0
    obtain ⟨A2, r2, a2⟩ := slice_from A b.length c o hl hc
    have hcut : Sl wr S 1 (.slice A2 (b.length - o) (c - o)) (b.length - o) (BVs (b.drop o)) := by
      rw [BVs_drop]
      exact hsl.cut hl A2 (fun ad h1 h2 => a2 ad h1 h2)
    have hdl : (b.drop o).length = b.length - o := List.length_drop
    have HCUT := Lib.hid hcut
    have HO := Lib.hid ho
    have HD := Lib.hid hd
    have HC := Lib.hid hcs
    have HJS := Lib.hid hJs
    have HDL := Lib.hid hdl
    clear hbk hsl a2 hcut ho hd hcs hJs hdl
    by_cases hlt : k < xs.length
    · have hFr : Fr (b.drop o) xs[k] (frames (xs.drop (k + 1)) ++ r) := ⟨by rw [HD.out, List.drop_eq_getElem_cons hlt, frames, List.append_assoc], HF.out.2.1 _ (List.getElem_mem hlt)⟩
      have hun := unframe_at wr S A2 (c - o) (b.length - o) (b.drop o) xs[k] _ HDL.out HCUT.out (by omega) hFr
      have HUN := Lib.hid hun
      have hnx : o + (frame xs[k]).length = (frames (xs.take (k + 1))).length := by
        rw [HO.out, frames_snoc_len hlt]
      have HNX := Lib.hid hnx
      have hle : o + (frame xs[k]).length ≤ b.length := by rw [hnx]; exact (HFR.out (k + 1) hlt).2
      clear hun hFr hnx
      gi_wp2_with fail
      refine ⟨trivial, fun h => (wide_some h).elim, callsIn_wide.2 (HUN.out.mono ?_)⟩
      rintro e w1 ⟨A4, c4, rfl, ho1, hb1⟩
      have HO1 := Lib.hid ho1
      have HB1 := Lib.hid hb1
      have HC1 : Hid (Ch S W w1) := Lib.hid (HC.out.trans (Ch.of_below (S := fun _ => False) hb1 (Nat.le_refl _)) (fun _ _ h => h.elim))
      have hJ1 := HJ.out k wr w1 HJS.out hb1
      have HR : Hid (Rf W.heap.size ((ends 0 xs)[k]'(by rw [ends_len]; exact hlt)) #[.int .i64 ((o + (frame xs[k]).length : Nat) : Int), .slice A4 xs[k].length c4] w1) := Lib.hid (by
        rw [ends_get 0 xs k hlt, Nat.zero_add, ← HNX.out]
        exact ⟨A4, c4, rfl, own_base HO1.out HC.out.size⟩)
      obtain ⟨fn, tmps, assign, body, hy, hRd⟩ := hY k (by rw [ends_len]; exact hlt) _ w1 hJ1 HC1.out HR.out
      simp only [Int.natCast_add] at hy
      have HRD := Lib.hid hRd
      clear ho1 hb1 hJ1 hRd
      gi_wp2_with fail
      refine ⟨fun h => (wide_some h).elim, HRD.out.mono ?_⟩
      rintro e W3 (⟨rfl, hJ3, hc3⟩ | ⟨rfl, hJx3, hc3⟩)
      · have HC3 := Lib.hid (HC1.out.trans hc3 (fun _ _ h => h))
        have HJ3 := Lib.hid hJ3
        clear hJ3 hc3
        gi_wp2_with fail
        go_roundw
        case rel => exact ⟨k + 1, by omega, by rw [← HNX.out]; go_num, HJ3.out, HC3.out⟩
        case measure => have := frame_pos xs[k]; simp [intOf]; omega
      · have HC3 := Lib.hid (HC1.out.trans hc3 (fun _ _ h => h))
        have HJ3 := Lib.hid hJx3
        clear hJx3 hc3
        gi_wp2_with fail
        refine bodyPost_ret (results_none rfl _ _ _) rfl ?_
        exact ⟨⟨_, rfl⟩, HC3.out, .inr ⟨k + 1, by omega, HJ3.out⟩⟩
    · have hke : k = xs.length := by omega
      have hno : ∀ x t, ¬ Fr (b.drop o) x t := fun x t h => by
        rw [HD.out, hke, List.drop_length] at h
        exact HF.out.2.2 x t h
      have hun := unframe_none wr S A2 (c - o) (b.length - o) (b.drop o) HDL.out HCUT.out (by omega) hno
      have HUN := Lib.hid hun
      have HKE := Lib.hid hke
      clear hun hno hke
      gi_wp2_with fail
      refine ⟨trivial, fun h => (wide_some h).elim, callsIn_wide.2 (HUN.out.mono ?_)⟩
      rintro e w1 ⟨rfl, hb1⟩
      have HC1 : Hid (Ch S W w1) := Lib.hid (HC.out.trans (Ch.of_below (S := fun _ => False) hb1 (Nat.le_refl _)) (fun _ _ h => h.elim))
      have HJ1 := Lib.hid (HJ.out k wr w1 HJS.out hb1)
      clear hb1
      gi_wp2_with fail
      refine ⟨fun _ h => (by cases h), ?_⟩
      gi_wp2_with fail
      refine bodyPost_ret (results_none rfl _ _ _) rfl ?_
      have h1 := HJ1.out
      rw [HKE.out] at h1
      exact ⟨⟨_, rfl⟩, HC1.out, .inl h1⟩

end Go.Proofs.YtdkjimfehipeaaaGreatDoor.Wi

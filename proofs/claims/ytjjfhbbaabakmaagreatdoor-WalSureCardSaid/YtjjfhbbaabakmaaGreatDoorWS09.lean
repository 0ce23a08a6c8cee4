/-
  Contract of the program's disk: List.
-/
import Derived.Test.YtjjfhbbaabakmaaGreatDoorWS08
import Derived.Test.YtjjfhbbaabakmaaGreatDoorShelf
import Derived.Sort.OwnSortedInts
import Derived.Test.YtjjfhbbaabakmaaGreatDoorWS02
import Derived.Shelf.Abstract
import Derived.Shelf.RegionOpen
import Derived.OwnWalkIn
import Derived.TacticsInMore
import Derived.LoopNIn
import Derived.LoopIn
import Derived.Maps.OwnIn
namespace Go.Proofs.YtjjfhbbaabakmaaGreatDoor.Dl
set_option linter.unusedSimpArgs false
open Go Go.RowKit Go.Maps Go.Sort Go.Shelf Ck Kw Ga Dm Dw Da Db Dc Dd De Df Dg Dh
attribute [local go_sem ↓] Go.wp_at_zero Go.wp_at_succ
set_option linter.unusedVariables false

theorem keys_call (mb : Option Nat) (W : World) : Calls Tryz.prog 60 #[.map mb] W fun e w' =>
    e = .returned (.func (.func 80) #[] #[.pointer (some ⟨W.heap.size, 0, none⟩)]) ∧ w' = W.alloc (.cells #[.map mb] 57) :=
  (callsIn_wide (n := 5)).1 (AnyZ.keys_in Tryz.keys60 Fence.wide 5 trivial rfl mb W)
theorem sorts (m : Nat) : AnyZ.SortsIn Tryz.prog Tryz.sorted59_ren Fence.wide m :=
  ⟨fun blk off cap ss W hH hblk hsz => callsIn_wide.2 (AnyM.slices_Sort_string Tryz.sort79 blk off cap ss W hH hblk hsz),
   fun p cap W => callsIn_wide.2 (AnyM.slices_Sort_string_none Tryz.sort79 p cap W)⟩

set_option maxHeartbeats 1000000 in
/-- The keys of a map, sorted: w is the world ahead of maps.Keys. -/
theorem sorted_call (b nn : Nat) (D0 : DataW Unit) (w : World) (hown : w.ownsMap Tryz.prog 9 ptrElem b nn D0) (hs : Maps.size D0 ≤ 64) :
    Calls Tryz.prog 59 #[.func (.func 80) #[] #[.pointer (some ⟨w.heap.size, 0, none⟩)]] (w.alloc (.cells #[.map (some b)] 57)) fun e w' =>
      ∃ (v : Value) (ss : List (List UInt8)), e = .returned v ∧ ss.Perm (strKeys D0) ∧ w'.ownsRow (w.alloc (.cells #[.map (some b)] 57)).heap.size 9 1 v ss.length ((ss.mergeSort (fun x y => decide (x ≤ y))).map encStr) ∧
        Below (w.alloc (.cells #[.map (some b)] 57)).heap.size (w.alloc (.cells #[.map (some b)] 57)) w' := by
  have hbl := hown.lt
  have hseq : SeqGives Fence.wide 2 Tryz.prog 80 #[.pointer (some ⟨w.heap.size, 0, none⟩)] encStr (fun ss => ss.Perm (strKeys D0)) (Maps.size D0) (w.alloc (.cells #[.map (some b)] 57)) :=
    AnyZ.keys_gives (ρ := Tryz.keys60_ren) { Tryz.keys60 with } Fence.wide _ trivial rfl (by omega) w.heap.size b nn D0 _ (by simp) (by simp) (by
      obtain ⟨es, clock, hb, Ft, hs, hD⟩ := hown
      exact ⟨es, clock, (Below.heap_alloc _ _ b hbl).trans hb, Ft, hs, hD⟩)
  refine ((callsIn_wide (n := 5)).1 (AnyZ.sorted_in Tryz.sorted59 Fence.wide 5 trivial trivial trivial trivial rfl (by omega) (sorts _) (enters_of Tryz.func79 (by kernel_rfl) rfl) 80 #[.pointer (some ⟨w.heap.size, 0, none⟩)] trivial (enters_of Tryz.func80 (by kernel_rfl) rfl) _ _ (by simp only [maxLen]; omega) (by omega) _ hseq)).mono ?_
  rintro e w' ⟨v, ss, h1, h2, h3, _, h5⟩
  exact ⟨v, ss, h1, h2, h3, h5⟩

set_option maxHeartbeats 1000000 in
theorem list_on (w : World) (S : Nat → Prop) (p : Nat) (L : List Fl) (room : Nat) (off : Bool) (h : Dk w S p L room off) :
    Calls Tryz.prog 29 #[.pointer (some ⟨p, 0, none⟩)] w fun e w' => ∃ A c, e = .returned (.slice A L.length c) ∧ w'.ownsRow w.heap.size 9 1 (.slice A L.length c) L.length (((L.map (·.n)).mergeSort leB).map SV) ∧ Below w.heap.size w w' := by
  have HM := Lib.hid (made_on w S p L room off h)
  obtain ⟨m, D, G, T, hP⟩ := h.opened
  have c0 : w.cell? ⟨p, 0, none⟩ = some (.map (some m)) := hP.blk.cell 0
  have hsz := size_names hP.own hP.tells hP.good.nodup
  have hpm := names_perm hP.own hP.tells hP.good.nodup
  have HP := Lib.hid hP
  have HN := Lib.hid hpm
  have HSZ := Lib.hid (show Maps.size D ≤ 64 by rw [hsz]; exact hP.good.few)
  clear h hP hsz hpm
  go_enter Tryz.func29, Tryz.ntmps29
  go_wp2_with (first
    | (go_at_call 45; refine HM.out.mono ?_; rintro e w' ⟨rfl, rfl⟩)
    | (go_at_call 60; refine (keys_call _ _).mono ?_; rintro e w' ⟨rfl, rfl⟩)
    | (go_at_call 59; refine (sorted_call m 64 D w HP.out.own HSZ.out).mono ?_; rintro e w2 ⟨v, ss, rfl, hp, ho, hb⟩))
  go_ret
  have hp' : ss.Perm (L.map (·.n)) := hp.trans HN.out.symm
  have hl : ss.length = L.length := by rw [hp'.length_eq, List.length_map]
  have hb1 : Below w.heap.size w w2 := ((Below.refl _ w).alloc (Nat.le_refl _) _).trans (hb.mono (by simp))
  have ho2 : w2.ownsRow w.heap.size 9 1 v ss.length ((ss.mergeSort leB).map encStr) := own_base ho (by simp)
  rw [mergeSort_of_perm hp', hl] at ho2
  obtain ⟨A, c, rfl⟩ := own_shape ho2
  exact ⟨A, c, rfl, ho2, hb1⟩

end Go.Proofs.YtjjfhbbaabakmaaGreatDoor.Dl

/-
  Contracts of layer 4's small functions: which files are a log's.
-/
namespace Go.Proofs.YtjjfhbbaabakmaaGreatDoor.Wh
set_option linter.unusedSimpArgs false
open Go Go.RowKit Go.Shelf Go.Sort Ck Kw Ga Dm Dw Da Db Dc Dd De Df Dg Wc Wf Wa Wb Wd Wn We Kx Wg
attribute [local go_sem ↓] Go.wp_at_zero Go.wp_at_succ
set_option linter.unusedVariables false

theorem sort_ints (w : World) (base : Nat) (v : Value) (zs : List Int) (h : w.ownsRow base 2 1 v zs.length (zs.map (Value.int .i64))) (hl : zs.length < 4611686018427387904) :
    Calls Tryz.prog 58 #[v] w fun e w' => e = .returned (.tuple #[]) ∧ w'.ownsRow base 2 1 v zs.length ((zs.mergeSort (fun x y => decide (x ≤ y))).map (Value.int .i64)) ∧ w.grownBy w' v.ownBlock := by
  rcases h.2 with ⟨rfl, h2⟩ | ⟨g, cap, cur, rfl, hb, hg, hnc, hcm, hsz, ht⟩
  · have hz : zs = [] := by cases zs with | nil => rfl | cons => simp at h2
    subst hz
    refine (AnyM.slices_Sort_int_none Tryz.sort58 none 0 w).mono ?_
    rintro e w' ⟨rfl, rfl⟩
    exact ⟨rfl, by simpa using h, World.grownBy.refl _ _⟩
  · have hlt : g < w.heap.size := (Array.getElem?_eq_some_iff.1 hg).1
    rw [Nat.mul_one] at ht
    refine (AnyM.slices_Sort_int Tryz.sort58 g 0 cap zs w (holds_of_blockI hg ht) hlt hl).mono ?_
    rintro e w' ⟨rfl, n, os, rfl⟩
    exact ⟨rfl, ownsRow_sortedI (by rw [List.length_mergeSort]) hb hg hnc hcm hsz, grownBy_sortedI _⟩

theorem trim_nm (name : Tx) (k : Nat) : Lib.trimPrefix (nm name k) (name ++ [46]) = Lib.decDigits k := by
  unfold Lib.trimPrefix Lib.hasPrefix nm
  rw [if_pos (by rw [List.isPrefixOf_iff_prefix]; exact ⟨_, rfl⟩), List.drop_left]

set_option maxRecDepth 100000 in
set_option maxHeartbeats 1000000 in
theorem number_any (w : World) (name : Tx) (k : Nat) (hT : Tab w) (h1 : 1 ≤ k) (hk : k < 1000000000000000) (hn : name.length ≤ 1099511627776) :
    Calls Tryz.prog 57 #[.string ⟨name.toArray⟩, .string ⟨(nm name k).toArray⟩] w fun e w' => e = .returned (.tuple #[.int .i64 (k : Int), .bool true]) ∧ Below w.heap.size w w' := by
  have HT := Lib.hid hT
  have HTR := Lib.hid (trim_nm name k)
  have HPI := Lib.hid (parse_int hk)
  have hd := dec_len (k := k) 14 (by omega)
  have hs : (ByteArray.mk name.toArray).size ≤ 1099511627776 := by show name.toArray.size ≤ _; simpa using hn
  have HCC : Hid ((ByteArray.mk name.toArray ++ ByteArray.mk #[46]).data.toList = name ++ [46]) := Lib.hid (by simp)
  clear hT
  go_enter Tryz.func57, Tryz.ntmps57
  go_wp2_with fail
  refine (Any.strings_TrimPrefix Tryz.trimPrefix ⟨(nm name k).toArray⟩ _ w).mono ?_
  rintro e w1 ⟨rfl, rfl⟩
  rw [HCC.out, show (ByteArray.mk (nm name k).toArray).data.toList = nm name k by simp, HTR.out]
  go_wp2_with fail
  refine (Any.strconv_ParseInt_10_at64_ok Tryz.parseInt ⟨(Lib.decDigits k).toArray⟩ (by show (Lib.decDigits k).toArray.size ≤ _; simp; omega) (k : Int) (by simpa using HPI.out) w1).mono ?_
  rintro e w2 ⟨rfl, hw2⟩
  have hb2 : Below w1.heap.size w1 w2 := by
    rcases hw2 with rfl | ⟨t, rfl⟩
    · exact Below.refl _ _
    · exact bytesWorld_below _ _ _
  have HB2 := Lib.hid hb2
  have HT2 := Lib.hid (HT.out.after hb2)
  clear hw2 hb2
  go_wp2_with (go_at_call 53; refine (file_name _ name k HT2.out hk hn).mono ?_; rintro e w3 ⟨rfl, hb3⟩)
  go_ret2
  exact ⟨rfl, HB2.out.trans (hb3.mono HB2.out.size)⟩

theorem info_i64 : (Tryz.prog.info? 2).map (fun i => (i.zero, i.size, i.bytes)) = some (some (.int .i64 0), 1, 8) := by kernel_rfl
theorem sv_get {w : World} {X : Nat → Prop} {A : Option Addr} {n c : Nat} {l : List Tx} (h : Sl w X 1 (.slice A n c) n (l.map SV)) {k : Nat} (hk : k < l.length) : ∃ ad, A = some ad ∧ ad.block < w.heap.size ∧ w.cell? (ad.add k) = some (.string ⟨l[k].toArray⟩) := by
  obtain ⟨A0, c0, hv, hl, hc, hm, hx⟩ := h
  injection hv with e1 e2 e3
  have hn : n = l.length := by simpa using hl.symm
  obtain ⟨ad, hA, hb, hX, hcell⟩ := hx (by omega)
  exact ⟨ad, e1.trans hA, hb, hcell k _ (by simp [SV, hk])⟩
theorem one_val (w : World) (X : Nat → Prop) (t : TypeId) (u : Value) (hX : ¬ X w.heap.size) : Sl (w.alloc (.cells #[u] t)) X 1 (.slice (some ⟨w.heap.size, 0, none⟩) 1 1) 1 [u] := by
  refine ⟨_, _, rfl, rfl, Nat.le_refl _, by simp only [maxLen]; omega, fun _ => ⟨_, rfl, by simp, hX, fun j u hu => ?_⟩⟩
  have hj : j = 0 := by have := (List.getElem?_eq_some_iff.1 hu).1; simp at this; omega
  subst hj
  show World.cell? _ ⟨w.heap.size, 0, none⟩ = _
  rw [Blk.cell (Blk.new w t _) 0]
  simpa using hu

set_option maxRecDepth 100000 in
set_option maxHeartbeats 2000000 in
theorem numbers_any (w : World) (X : Nat → Prop) (A : Option Addr) (c : Nat) (name : Tx) (ks : List Nat) (hT : Tab w) (hk : ∀ k ∈ ks, 1 ≤ k ∧ k < 1000000000000000) (hn : name.length ≤ 1099511627776) (hl : ks.length ≤ 64)
    (h : Sl w X 1 (.slice A ks.length c) ks.length ((ks.map (nm name)).map SV)) :
    Calls Tryz.prog 28 #[.string ⟨name.toArray⟩, .slice A ks.length c] w fun e w' => ∃ A' c', e = .returned (.slice A' ks.length c') ∧
      w'.ownsRow w.heap.size 2 1 (.slice A' ks.length c') ks.length (((ks.map (fun k : Nat => (k : Int))).mergeSort (fun x y => decide (x ≤ y))).map (Value.int .i64)) ∧ Below w.heap.size w w' := by
  obtain ⟨i0, hi0, hz0, hz1, hz2⟩ := info_parts info_i64
  have HT := Lib.hid hT
  have HS := Lib.hid h
  have HK := Lib.hid hk
  have HTW : Hid (∀ wr, Below w.heap.size w wr → Tab wr) := Lib.hid fun wr hb => hT.after hb
  clear hT h hk
  go_enter Tryz.func28, Tryz.ntmps28
  go_wp2
  go_loopw [5, 12] (fun l i wr => ∃ k : Nat, k ≤ ks.length ∧ i = .int .i64 k ∧ wr.ownsRow w.heap.size 2 1 l k ((ks.take k).map (fun k : Nat => Value.int .i64 (k : Int))) ∧ Below w.heap.size w wr) (fun _ i _ => ks.length - (intOf i).toNat)
  case atStart => exact ⟨0, Nat.zero_le _, rfl, World.ownsRow_nil _ _ _ _, Below.refl _ _⟩
  case round =>
    obtain ⟨k, hk, rfl, ho, hb⟩ := hrel
    have HO := Lib.hid ho
    have HB := Lib.hid hb
    clear ho hb
    by_cases hlt : k < ks.length
    · obtain ⟨ad, rfl, hadl, hcell0⟩ := sv_get HS.out (by simpa using hlt)
      have hcell := (HB.out.cell (p := ad.add k) (by rw [add_block]; exact hadl)).trans hcell0
      simp only [List.getElem_map] at hcell
      have hkk := HK.out _ (List.getElem_mem hlt)
      have HTK := Lib.hid (List.take_succ_eq_append_getElem hlt)
      clear hcell0
      generalize hkv : ks[k] = kv at *
      have HKV := Lib.hid hkv
      clear hkv
      go_wp2_with fail
      refine (number_any _ name kv (HTW.out _ HB.out) hkk.1 hkk.2 hn).mono ?_
      rintro e w2 ⟨rfl, hb2⟩
      have HB2 := Lib.hid hb2
      clear hb2
      obtain ⟨Al, cl, hlv⟩ := own_shape HO.out
      subst hlv
      go_wp2_with (at_builtin; refine wpList_append_sh _ rfl (.tmp 23) (.tmp 25) _ rfl w.heap.size 2 i0 _ 1 8 Tryz.underlying66 hi0 hz0 hz1 hz2 rfl (by omega) _ _ _ rfl ((own_below HO.out HB2.out).alloc _) (fun _ => False) _ 1 [.int .i64 (kv : Int)] rfl (one_val _ _ _ _ (fun h => h)) (by simp [Value.oneCell']) (by simp only [maxLen]; omega) (by omega) (by have := HB.out.size; have := HB2.out.size; simp; omega) ?_; intro A3 c3 w3 happ)
      go_roundw
      case rel => exact ⟨k + 1, by omega, by go_num, by rw [HTK.out, List.map_append]; exact happ.1, (((HB.out.trans (HB2.out.mono HB.out.size)).alloc (by have := HB.out.size; have := HB2.out.size; omega) _).grown happ.2.1 (by have := HB.out.size; have := HB2.out.size; simp; omega) (fun g hg => (HO.out.lt g hg).1))⟩
      case measure => simp [intOf]; omega
    · have hke : k = ks.length := by omega
      subst hke
      have ho := HO.out
      rw [List.take_length] at ho
      obtain ⟨Al, cl, hlv⟩ := own_shape ho
      subst hlv
      have hso := sort_ints wr w.heap.size _ (ks.map (fun k : Nat => (k : Int))) (by rw [List.length_map, List.map_map]; exact ho) (by rw [List.length_map]; omega)
      rw [List.length_map] at hso
      have HSO := Lib.hid hso
      clear hso ho
      go_wp2_with fail
      refine HSO.out.mono ?_
      rintro e w2 ⟨rfl, ho2, hg2⟩
      go_wp2_with fail
      go_ret
      exact ⟨Al, cl, rfl, ho2, HB.out.grown hg2 HB.out.size (fun g hg => (HO.out.lt g hg).1)⟩

end Go.Proofs.YtjjfhbbaabakmaaGreatDoor.Wh

/-
  Contract of layer 4's iterator over frames.
-/
namespace Go.Proofs.YtjjfhbbaabakmaaGreatDoor.Wi
set_option linter.unusedSimpArgs false
open Go Go.RowKit Go.Shelf Ck Kw Ga Dm Dw Da Db Dc Dd De Df Dg Wc Wf Wa Wb Wd Wn We Kx Wg Wh Kr
attribute [local go_sem ↓] Go.wp_at_zero Go.wp_at_succ
attribute [local go_sem] Oper.semAt_some
set_option linter.unusedVariables false

/-- Where each frame ends, and its record. -/
def ends : Nat → List Tx → List (Nat × Tx)
  | _, [] => []
  | o, x :: l => (o + (frame x).length, x) :: ends (o + (frame x).length) l
theorem ends_len : ∀ (o : Nat) (xs : List Tx), (ends o xs).length = xs.length
  | _, [] => rfl
  | o, x :: l => by simp [ends, ends_len]
theorem ends_get : ∀ (o : Nat) (xs : List Tx) (k : Nat) (h : k < xs.length), (ends o xs)[k]'(by rw [ends_len]; exact h) = (o + (frames (xs.take (k + 1))).length, xs[k])
  | o, x :: l, 0, h => by simp [ends, frames]
  | o, x :: l, k + 1, h => by
    have := ends_get (o + (frame x).length) l k (by simpa using h)
    simp only [ends, List.getElem_cons_succ, this, List.take_succ_cons, frames, List.length_append, Nat.add_assoc]
theorem frames_snoc_len {xs : List Tx} {k : Nat} (h : k < xs.length) : (frames (xs.take k)).length + (frame xs[k]).length = (frames (xs.take (k + 1))).length := by
  rw [List.take_succ_eq_append_getElem h, frames_snoc, List.length_append]
/-- A frame's end and its record, in memory. -/
def Rf (B : Nat) (p : Nat × Tx) (args : Array Value) (W : World) : Prop :=
  ∃ A c, args = #[.int .i64 (p.1 : Int), .slice A p.2.length c] ∧ W.ownsRow B 5 1 (.slice A p.2.length c) p.2.length (BVs p.2)

theorem frs_at {b r : Tx} {xs : List Tx} (h : Frs b xs r) (k : Nat) (hk : k ≤ xs.length) : b.drop (frames (xs.take k)).length = frames (xs.drop k) ++ r ∧ (frames (xs.take k)).length ≤ b.length := by
  have e : b = frames (xs.take k) ++ (frames (xs.drop k) ++ r) := by rw [h.1, ← List.append_assoc, ← frames_app, List.take_append_drop]
  constructor
  · conv => lhs; rw [e]
    rw [List.drop_left]
  · conv => rhs; rw [e]
    rw [List.length_append]; omega

theorem unframe_at (w : World) (X : Nat → Prop) (A : Option Addr) (c n : Nat) (b x r : Tx) (hn : b.length = n) (h : Sl w X 1 (.slice A n c) n (BVs b)) (hb : n ≤ 549755813888) (hf : Fr b x r) :
    Calls Tryz.prog 88 #[.slice A n c] w fun e w' => Unframed w x e w' := by
  subst hn
  exact unframe_yes w X A c b x r h (by omega) hf
theorem unframe_none (w : World) (X : Nat → Prop) (A : Option Addr) (c n : Nat) (b : Tx) (hn : b.length = n) (h : Sl w X 1 (.slice A n c) n (BVs b)) (hb : n ≤ 549755813888) (hf : ∀ x r, ¬ Fr b x r) :
    Calls Tryz.prog 88 #[.slice A n c] w fun e w' => e = .returned (.tuple #[.slice none 0 0, .int .i64 0, .bool false]) ∧ Below w.heap.size w w' := by
  subst hn
  exact unframe_no w X A c b h (by omega) hf
theorem wide_some : Fence.wide.depth.isSome = true → False := fun h => by cases h

set_option maxRecDepth 100000 in
set_option maxHeartbeats 4000000 in
theorem frames_seq (n : Nat) (hn : 2 ≤ n) (S : Nat → Prop) (w : World) (Bn : Nat) (A : Option Addr) (c : Nat) (b r : Tx) (xs : List Tx) (hB : Blk w Bn 32 #[.slice A b.length c]) (hBS : ¬ S Bn) (hs : Sl w S 1 (.slice A b.length c) b.length (BVs b))
    (hb : b.length ≤ 549755813888) (hF : Frs b xs r) (hSn : ∀ k, w.heap.size ≤ k → S k) : SeqR Fence.wide n Tryz.prog 87 #[.pointer (some ⟨Bn, 0, none⟩)] Rf S (ends 0 xs) w := by
  intro l J Jx W hW hsz hJ hJx hY h0
  rw [ends_len]
  have hfr := fun k hk => frs_at hF k hk
  have hc : b.length ≤ c := by obtain ⟨A0, c0, hv, _, hc, _⟩ := hs; injection hv with _ _ e; omega
  have HF := Lib.hid hF
  have HFR := Lib.hid hfr
  have HBW : Hid (∀ wr, Ch S W wr → Blk wr Bn 32 #[.slice A b.length c] ∧ Sl wr S 1 (.slice A b.length c) b.length (BVs b)) := Lib.hid fun wr hc =>
    ⟨(hB.below hW hB.lt).ch hc hBS, (hs.below hW (fun k h1 h2 => absurd h1 (by omega))).ch hc (fun _ _ h => h)⟩
  have HJ := Lib.hid hJ
  have HSN : Hid (∀ k, W.heap.size ≤ k → S k) := Lib.hid fun k hk => hSn k (by have := hW.size; omega)
  clear hF hfr hB hs hJ
  refine callsIn_of_wp Tryz.func87 rfl trivial ?_ rfl
  simp only [Tryz.ntmps87, List.size_toArray, List.length_cons, List.length_nil, Nat.reduceAdd, Nat.reduceSub, Array.replicate_succ, Array.replicate_zero, List.push_toArray, List.append_toArray, List.nil_append, List.cons_append]
  gi_wp2
  gi_loopw [3] (fun p wr => ∃ k : Nat, k ≤ xs.length ∧ p = .int .i64 ((frames (xs.take k)).length : Int) ∧ J k wr ∧ Ch S W wr) (fun p _ => b.length - (intOf p).toNat)
  case atStart => exact ⟨0, Nat.zero_le _, rfl, h0, Ch.refl _ _⟩
  case round =>
    obtain ⟨k, hk, rfl, hJs, hcs⟩ := hrel
    obtain ⟨hd, hl⟩ := HFR.out k hk
    obtain ⟨o, ho⟩ : ∃ o, o = (frames (xs.take k)).length := ⟨_, rfl⟩
    rw [← ho] at hd hl ⊢
    obtain ⟨hbk, hsl⟩ := HBW.out _ hcs
    have c0 : wr.cell? ⟨Bn, 0, none⟩ = some (.slice A b.length c) := hbk.cell 0
    obtain ⟨A2, r2, a2⟩ := slice_from A b.length c o hl hc
    have hcut : Sl wr S 1 (.slice A2 (b.length - o) (c - o)) (b.length - o) (BVs (b.drop o)) := by
      rw [BVs_drop]
      exact hsl.cut hl A2 (fun ad h1 h2 => a2 ad h1 h2)
    have hdl : (b.drop o).length = b.length - o := List.length_drop
    have HCUT := Lib.hid hcut
    have HO := Lib.hid ho
    have HD := Lib.hid hd
    have HC := Lib.hid hcs
    have HJS := Lib.hid hJs
    have HDL := Lib.hid hdl
    clear hbk hsl a2 hcut ho hd hcs hJs hdl
    by_cases hlt : k < xs.length
    · have hFr : Fr (b.drop o) xs[k] (frames (xs.drop (k + 1)) ++ r) := ⟨by rw [HD.out, List.drop_eq_getElem_cons hlt, frames, List.append_assoc], HF.out.2.1 _ (List.getElem_mem hlt)⟩
      have hun := unframe_at wr S A2 (c - o) (b.length - o) (b.drop o) xs[k] _ HDL.out HCUT.out (by omega) hFr
      have HUN := Lib.hid hun
      have hnx : o + (frame xs[k]).length = (frames (xs.take (k + 1))).length := by
        rw [HO.out, frames_snoc_len hlt]
      have HNX := Lib.hid hnx
      have hle : o + (frame xs[k]).length ≤ b.length := by rw [hnx]; exact (HFR.out (k + 1) hlt).2
      clear hun hFr hnx
      gi_wp2_with fail
      refine ⟨trivial, fun h => (wide_some h).elim, callsIn_wide.2 (HUN.out.mono ?_)⟩
      rintro e w1 ⟨A4, c4, rfl, ho1, hb1⟩
      have HO1 := Lib.hid ho1
      have HB1 := Lib.hid hb1
      have HC1 : Hid (Ch S W w1) := Lib.hid (HC.out.trans (Ch.of_below (S := fun _ => False) hb1 (Nat.le_refl _)) (fun _ _ h => h.elim))
      have hJ1 := HJ.out k wr w1 HJS.out hb1
      have HR : Hid (Rf W.heap.size ((ends 0 xs)[k]'(by rw [ends_len]; exact hlt)) #[.int .i64 ((o + (frame xs[k]).length : Nat) : Int), .slice A4 xs[k].length c4] w1) := Lib.hid (by
        rw [ends_get 0 xs k hlt, Nat.zero_add, ← HNX.out]
        exact ⟨A4, c4, rfl, own_base HO1.out HC.out.size⟩)
      obtain ⟨fn, tmps, assign, body, hy, hRd⟩ := hY k (by rw [ends_len]; exact hlt) _ w1 hJ1 HC1.out HR.out
      simp only [Int.natCast_add] at hy
      have HRD := Lib.hid hRd
      clear ho1 hb1 hJ1 hRd
      gi_wp2_with fail
      refine ⟨fun h => (wide_some h).elim, HRD.out.mono ?_⟩
      rintro e W3 (⟨rfl, hJ3, hc3⟩ | ⟨rfl, hJx3, hc3⟩)
      · have HC3 := Lib.hid (HC1.out.trans hc3 (fun _ _ h => h))
        have HJ3 := Lib.hid hJ3
        clear hJ3 hc3
        gi_wp2_with fail
        go_roundw
        case rel => exact ⟨k + 1, by omega, by rw [← HNX.out]; go_num, HJ3.out, HC3.out⟩
        case measure => have := frame_pos xs[k]; simp [intOf]; omega
      · have HC3 := Lib.hid (HC1.out.trans hc3 (fun _ _ h => h))
        have HJ3 := Lib.hid hJx3
        clear hJx3 hc3
        gi_wp2_with fail
        refine bodyPost_ret (results_none rfl _ _ _) rfl ?_
        exact ⟨⟨_, rfl⟩, HC3.out, .inr ⟨k + 1, by omega, HJ3.out⟩⟩
    · have hke : k = xs.length := by omega
      have hno : ∀ x t, ¬ Fr (b.drop o) x t := fun x t h => by
        rw [HD.out, hke, List.drop_length] at h
        exact HF.out.2.2 x t h
      have hun := unframe_none wr S A2 (c - o) (b.length - o) (b.drop o) HDL.out HCUT.out (by omega) hno
      have HUN := Lib.hid hun
      have HKE := Lib.hid hke
      clear hun hno hke
      gi_wp2_with fail
      refine ⟨trivial, fun h => (wide_some h).elim, callsIn_wide.2 (HUN.out.mono ?_)⟩
      rintro e w1 ⟨rfl, hb1⟩
      have HC1 : Hid (Ch S W w1) := Lib.hid (HC.out.trans (Ch.of_below (S := fun _ => False) hb1 (Nat.le_refl _)) (fun _ _ h => h.elim))
      have HJ1 := Lib.hid (HJ.out k wr w1 HJS.out hb1)
      clear hb1
      gi_wp2_with fail
      refine ⟨fun _ h => (by cases h), ?_⟩
      gi_wp2_with fail
      refine bodyPost_ret (results_none rfl _ _ _) rfl ?_
      have h1 := HJ1.out
      rw [HKE.out] at h1
      exact ⟨⟨_, rfl⟩, HC1.out, .inl h1⟩

end Go.Proofs.YtjjfhbbaabakmaaGreatDoor.Wi

/-
  Words for memory, for layer 4 (wal): records, segments, a log.
-/
namespace Go.Proofs.YtjjfhbbaabakmaaGreatDoor.Wl
set_option linter.unusedSimpArgs false
set_option linter.unusedVariables false
open Go Go.RowKit Ck Kw Ga Dm Dw Da Db Dc Dd De Df Dg Wc Wf Wa Wb Wd Wn We Kx Wg Wh

section
variable {w w' : World} {S T : Nat → Prop}
/-- Rows of unlike kinds lie in unlike blocks. -/
theorem row_far {b1 b2 : Nat} {e1 e2 : TypeId} {s1 s2 n1 n2 : Nat} {v1 v2 : Value} {x1 x2 : List Value} (h1 : w.ownsRow b1 e1 s1 v1 n1 x1) (h2 : w.ownsRow b2 e2 s2 v2 n2 x2) (he : e1 ≠ e2) {k : Nat} (hk : v1.ownBlock = some k) : v2.ownBlock ≠ some k := by
  rcases h1.2 with ⟨rfl, _⟩ | ⟨g1, c1, cu1, rfl, _, hr1, _⟩
  · simp [Value.ownBlock] at hk
  · have hk : g1 = k := by simpa [Value.ownBlock] using hk
    subst hk
    rcases h2.2 with ⟨rfl, _⟩ | ⟨g2, c2, cu2, rfl, _, hr2, _⟩
    · simp [Value.ownBlock]
    · intro h
      have h : g2 = g1 := by simpa [Value.ownBlock] using h
      subst h
      rw [hr1] at hr2
      injection hr2 with hr2
      injection hr2 with _ h3
      exact he h3
/-- Records in memory, in blocks of S. -/
def Rcs (w : World) (S : Nat → Prop) (v : Value) (recs : List Tx) : Prop :=
  ∃ vals, w.ownsRow 0 32 1 v recs.length vals ∧ (∀ k, v.ownBlock = some k → S k) ∧ ∀ i (h : i < recs.length), ∃ A c, vals[i]? = some (.slice A recs[i].length c) ∧ w.ownsRow 0 5 1 (.slice A recs[i].length c) recs[i].length (BVs recs[i]) ∧ ∀ k, (Value.slice A recs[i].length c).ownBlock = some k → S k
theorem Rcs.nil (w : World) (S : Nat → Prop) : Rcs w S (.slice none 0 0) [] := ⟨[], World.ownsRow_nil _ _ _ _, by simp [Value.ownBlock], fun i h => absurd h (by simp)⟩
theorem Rcs.ch {v : Value} {recs : List Tx} (h : Rcs w S v recs) (c : Ch T w w') (hd : ∀ k, S k → T k → False) : Rcs w' S v recs := by
  obtain ⟨vals, h1, h2, h3⟩ := h
  exact ⟨vals, own_ch h1 c (fun g hg ht => hd _ (h2 g hg) ht), h2, fun i hi => by
    obtain ⟨A, cc, k1, k2, k3⟩ := h3 i hi
    exact ⟨A, cc, k1, own_ch k2 c (fun g hg ht => hd _ (k3 g hg) ht), k3⟩⟩
theorem Rcs.weaken {v : Value} {recs : List Tx} (h : Rcs w S v recs) (hd : ∀ k, S k → T k) : Rcs w T v recs := by
  obtain ⟨vals, h1, h2, h3⟩ := h
  exact ⟨vals, h1, fun k hk => hd _ (h2 k hk), fun i hi => by
    obtain ⟨A, cc, k1, k2, k3⟩ := h3 i hi
    exact ⟨A, cc, k1, k2, fun k hk => hd _ (k3 k hk)⟩⟩
theorem Rcs.after {v : Value} {recs : List Tx} (h : Rcs w S v recs) (b : Below w.heap.size w w') : Rcs w' S v recs := h.ch (Ch.of_below (S := fun _ => False) b (Nat.le_refl _)) (fun _ _ h => h)
theorem Rcs.bound {v : Value} {recs : List Tx} (h : Rcs w S v recs) : Rcs w (fun k => S k ∧ k < w.heap.size) v recs := by
  obtain ⟨vals, h1, h2, h3⟩ := h
  exact ⟨vals, h1, fun k hk => ⟨h2 k hk, (h1.lt k hk).2⟩, fun i hi => by
    obtain ⟨A, cc, k1, k2, k3⟩ := h3 i hi
    exact ⟨A, cc, k1, k2, fun k hk => ⟨k3 k hk, (k2.lt k hk).2⟩⟩⟩
theorem Rcs.shape {v : Value} {recs : List Tx} (h : Rcs w S v recs) : ∃ A c, v = .slice A recs.length c := by
  obtain ⟨vals, h1, _⟩ := h
  exact own_shape h1
theorem Rcs.in_ {v : Value} {recs : List Tx} (h : Rcs w S v recs) : ∀ k, v.ownBlock = some k → S k ∧ k < w.heap.size := by
  obtain ⟨vals, h1, h2, _⟩ := h
  exact fun k hk => ⟨h2 k hk, (h1.lt k hk).2⟩
/-- A write to a row of records, or to something that is neither a row of records nor of bytes, leaves other records. -/
theorem Rcs.keep {v : Value} {recs : List Tx} (h : Rcs w S v recs) (c : Ch T w w') (hv : ∀ k, v.ownBlock = some k → ¬ T k) (ht : ∀ k b n x A cc, w.ownsRow b 5 1 (.slice A n cc) n x → (Value.slice A n cc).ownBlock = some k → ¬ T k) : Rcs w' S v recs := by
  obtain ⟨vals, h1, h2, h3⟩ := h
  exact ⟨vals, own_ch h1 c hv, h2, fun i hi => by
    obtain ⟨A, cc, k1, k2, k3⟩ := h3 i hi
    exact ⟨A, cc, k1, own_ch k2 c (fun g hg => ht g _ _ _ _ _ k2 hg), k3⟩⟩
/-- A record more. -/
theorem Rcs.push {v v' : Value} {recs : List Tx} {x : Tx} {A : Option Addr} {c : Nat} {vals : List Value} (h : Rcs w S v recs) (hvals : ∀ vs, w.ownsRow 0 32 1 v recs.length vs → vs = vals) (hx : w.ownsRow 0 5 1 (.slice A x.length c) x.length (BVs x)) (hxS : ∀ k, (Value.slice A x.length c).ownBlock = some k → S k)
    (ho : w'.ownsRow 0 32 1 v' (recs.length + 1) (vals ++ [.slice A x.length c])) (hg : w.grownBy w' v.ownBlock) (hb : v'.ownBlock = v.ownBlock ∨ v'.ownBlock = some w.heap.size) (hlt : v'.ownBlock = some w.heap.size → w.heap.size < w'.heap.size) : Rcs w' (Up S w w') v' (recs ++ [x]) := by
  obtain ⟨vs, h1, h2, h3⟩ := h
  obtain rfl := hvals vs h1
  have cg : Ch (fun k => v.ownBlock = some k) w w' := Ch.of_grown hg (fun g hg _ => hg)
  have hl : vs.length = recs.length := by simpa using h1.1
  refine ⟨vs ++ [.slice A x.length c], by rw [List.length_append]; exact ho, fun k hk => ?_, fun i hi => ?_⟩
  · rcases hb with hb | hb
    · rw [hb] at hk; exact .inl (h2 k hk)
    · rw [hb] at hk; injection hk with hk; exact .inr ⟨by omega, by have := hlt hb; omega⟩
  · by_cases hlt : i < recs.length
    · obtain ⟨A1, c1, k1, k2, k3⟩ := h3 i hlt
      rw [List.getElem_append_left hlt]
      exact ⟨A1, c1, by rw [List.getElem?_append_left (by omega)]; exact k1, own_ch k2 cg (fun g hg hv => row_far k2 h1 (by decide) hg hv), fun k hk => .inl (k3 k hk)⟩
    · have hi' : i = recs.length := by rw [List.length_append] at hi; simp at hi; omega
      subst hi'
      rw [List.getElem_append_right (Nat.le_refl _)]
      simp only [Nat.sub_self, List.getElem_cons_zero]
      exact ⟨A, c, by rw [List.getElem?_append_right (by omega), hl]; simp, own_ch hx cg (fun g hg hv => row_far hx h1 (by decide) hg hv), fun k hk => .inl (hxS k hk)⟩
theorem row_vals {b : Nat} {e : TypeId} {s n : Nat} {v : Value} {xs ys : List Value} (h : w.ownsRow b e s v n xs) (k : w.ownsRow b e s v n ys) : xs = ys := by
  rcases h.2 with ⟨hv, h1⟩ | ⟨g, cap, cur, hv, _, hr, _, _, _, ht⟩
  · rcases k.2 with ⟨_, k1⟩ | ⟨g', cap', cur', hv', _⟩
    · have h2 := h.1
      have k2 := k.1
      rw [h1, Nat.zero_mul] at h2 k2
      rw [List.eq_nil_of_length_eq_zero h2, List.eq_nil_of_length_eq_zero k2]
    · rw [hv] at hv'; cases hv'
  · rcases k.2 with ⟨hv', k1⟩ | ⟨g', cap', cur', hv', _, hr', _, _, _, ht'⟩
    · rw [hv] at hv'; cases hv'
    · rw [hv] at hv'
      injection hv' with e1 _ _
      injection e1 with e1
      injection e1 with e1 _ _
      subst e1
      rw [hr] at hr'
      injection hr' with hr'
      injection hr' with hr' _
      subst hr'
      rw [← ht, ← ht']
end

end Go.Proofs.YtjjfhbbaabakmaaGreatDoor.Wl

import Derived.Test.YtjoonpkgepkkhaaGreatDoorQ3
import Derived.Sort.OwnSortedInts
import Derived.Shelf.Abstract
import Derived.Shelf.RegionOpen
import Derived.OwnWalkIn
import Derived.TacticsInMore
import Derived.LoopNIn
import Derived.LoopIn
import Derived.Maps.OwnIn
/-
  Contract of the program's disk: Rename.
-/
namespace Go.Proofs.YtjoonpkgepkkhaaGreatDoor.Di
open Go Go.RowKit Go.Maps Ck Kw Ga Dm Dw Da Db Dc Dd De Df Dg Dh
attribute [local go_sem ↓] Go.wp_at_zero Go.wp_at_succ
set_option linter.unusedVariables false

def renS (L : List Fl) (off : Bool) (s t : Tx) : List Fl × Nat :=
  if off then (L, 32) else match find L s with | none => (L, 4) | some f => if t = [] then (L, 1) else if t = s then (L, 0) else (ins ⟨t, f.b, f.d⟩ (del (del L s) t), 0)
theorem ren_no {L : List Fl} {off : Bool} {s t : Tx} {c : Nat} (hc : (off = true ∧ c = 32) ∨ (off = false ∧ find L s = none ∧ c = 4)) : renS L off s t = (L, c) := by
  rcases hc with ⟨rfl, rfl⟩ | ⟨rfl, hf, rfl⟩
  · rfl
  · rw [renS, hf]; rfl
theorem ren_some {L : List Fl} {s t : Tx} {f : Fl} (hf : find L s = some f) : renS L false s t = if t = [] then (L, 1) else if t = s then (L, 0) else (ins ⟨t, f.b, f.d⟩ (del (del L s) t), 0) := by
  rw [renS, hf]; rfl

theorem used_del {L : List Fl} (hn : (L.map (·.n)).Nodup) {f : Fl} (hf : f ∈ L) : used L = f.b.length + used (del L f.n) := by
  have := used_strike hn hf (fun _ => true) rfl
  rw [used_filter_all L (fun h => (fun _ => true) h.n) (fun _ _ => rfl)] at this
  rw [this]
  congr 2
theorem len_del {L : List Fl} {f : Fl} (hf : f ∈ L) : (del L f.n).length < L.length := by
  unfold del
  rw [← Nat.not_le]
  intro h
  have he := List.Sublist.eq_of_length_le (List.filter_sublist (p := fun g : Fl => !(g.n == f.n)) (l := L)) h
  rw [← he] at hf
  have := (List.mem_filter.1 hf).2
  simp at this
theorem good_ren {L : List Fl} {room : Nat} (h : GoodL L room) {f : Fl} (hf : f ∈ L) (t : Tx) (ht : t.length ≤ 140737488355328) : GoodL (ins ⟨t, f.b, f.d⟩ (del (del L f.n) t)) room := by
  have h1 := len_del hf
  have h2 : (del (del L f.n) t).length ≤ (del L f.n).length := List.length_filter_le _ _
  have h3 := used_del h.nodup hf
  have h4 : used (del (del L f.n) t) ≤ used (del L f.n) := used_filter_le _ _
  have h5 := h.few
  have h6 := h.fits
  refine good_ins (good_del (good_del h _) _) (by rw [isIn_del]; simp) (by omega) (by show f.b.length + _ ≤ _; omega) ht (h.done f hf)
/-- Where the file of a name was. -/
def fro (s t : Tx) (x : Tx) : Tx := if x = t then s else x
theorem tells_ren {D : DataW Unit} {L : List Fl} {G : Tx → Nat} (h : TellsD D L G) {s : Tx} (hD : Maps.IsMap (D.del (.string s))) (t : Tx) (b : Tx) (d : Nat) : TellsD ((D.del (.string s)).put (.string t) (.lit (.int .i64 (G s : Int)))) (ins ⟨t, b, d⟩ (del (del L s) t)) (fun x => G (fro s t x)) := by
  refine ⟨fun x => ?_, fun f hf zd => ?_⟩
  · rw [has_put hD, isIn_ins, isIn_del, isIn_del, (tells_del h s).1 x, isIn_del]
    by_cases e : x = t
    · subst e; simp
    · have : (x == t) = false := by rw [beq_eq_false_iff_ne]; exact e
      rw [this]; simp
  · rcases mem_ins.1 hf with rfl | hf
    · rw [Maps.atKey_put_same hD (strKey t)]
      simp [fro]
    · have h1 := mem_del.1 hf
      rw [Maps.atKey_put_other (strKey_ne h1.2), (tells_del h s).2 f h1.1]
      simp [fro, h1.2]
theorem tells_back {D : DataW Unit} {L : List Fl} {G : Tx → Nat} {f : Fl} (h : TellsD D L G) (hf : f ∈ L) (hn : (L.map (·.n)).Nodup) (hD : Maps.IsMap (D.del (.string f.n))) : TellsD ((D.del (.string f.n)).put (.string f.n) (.lit (.int .i64 (G f.n : Int)))) L G := by
  refine ⟨fun x => ?_, fun g hg zd => ?_⟩
  · rw [has_put hD, (tells_del h f.n).1 x, isIn_del]
    by_cases e : x = f.n
    · rw [e, isIn_iff.2 ⟨f, hf, rfl⟩]; simp
    · have h1 : (x == f.n) = false := by rw [beq_eq_false_iff_ne]; exact e
      have h2 : (f.n == x) = false := by rw [beq_eq_false_iff_ne]; exact fun h => e h.symm
      rw [h1, h2]; simp
  · by_cases e : g.n = f.n
    · rw [e, Maps.atKey_put_same hD (strKey _)]
    · rw [Maps.atKey_put_other (strKey_ne e), (tells_del h f.n).2 g (mem_del.2 ⟨hg, e⟩)]

theorem fro_inj {L : List Fl} {s t : Tx} {b : Tx} {d : Nat} (hst : t ≠ s) : ∀ f ∈ ins ⟨t, b, d⟩ (del (del L s) t), ∀ h ∈ ins ⟨t, b, d⟩ (del (del L s) t), fro s t f.n = fro s t h.n → f.n = h.n := by
  have key : ∀ f ∈ ins ⟨t, b, d⟩ (del (del L s) t), f.n = t ∨ (f.n ≠ t ∧ f.n ≠ s) := fun f hf => by
    rcases mem_ins.1 hf with rfl | hf
    · exact .inl rfl
    · exact .inr ⟨(mem_del.1 hf).2, (mem_del.1 (mem_del.1 hf).1).2⟩
  intro f hf h hh e
  unfold fro at e
  rcases key f hf with h1 | ⟨h1, h1'⟩ <;> rcases key h hh with h2 | ⟨h2, h2'⟩
  · rw [h1, h2]
  · rw [if_pos h1, if_neg h2] at e
    exact absurd e.symm h2'
  · rw [if_neg h1, if_pos h2] at e
    exact absurd e h1'
  · rw [if_neg h1, if_neg h2] at e
    exact e

end Go.Proofs.YtjoonpkgepkkhaaGreatDoor.Di

/-
  Contract of the program's disk: Crash.
-/
namespace Go.Proofs.YtjoonpkgepkkhaaGreatDoor.Dj
open Go Go.RowKit Go.Maps Ck Kw Ga Dm Dw Da Db Dc Dd De Df Dg Dh Di
attribute [local go_sem ↓] Go.wp_at_zero Go.wp_at_succ
set_option linter.unusedVariables false

theorem ranges_ch {H : Type} {P : Program} {k : TypeId} {R : Value → Option (DataW H × List MemPlace)} {w w' : World} {S : Nat → Prop} {b r n cnt : Nat} {D : DataW H} {left : Lit → Bool} (h : w.ranges P k R b r n D left cnt) (c : Ch S w w') (hb : ¬ S b) (hr : ¬ S r) : w'.ranges P k R b r n D left cnt := by
  have h1 := h.owns.lt
  have h2 := h.lt
  obtain ⟨es, clock, since, seen, c0, e1, e2, e3, e4, e5, rest⟩ := h
  exact ⟨es, clock, since, seen, c0, (c.block b h1 hb).trans e1, e2, e3, e4, (c.block r h2 hr).trans e5, rest⟩

theorem size_any (w : World) (z : Int) (h : -9223372036854775808 ≤ z) (h' : z ≤ 9223372036854775807) : Calls Tryz.prog 63 #[.int .i64 z] w fun e w' => e = .returned (.int .i64 (Dm.size z : Int)) ∧ w = w' := by
  by_cases h0 : z = -9223372036854775808
  · subst h0
    go_enter Tryz.func63, Tryz.ntmps63
    go_wp2
    go_ret
    exact ⟨rfl, rfl⟩
  · have hb : (z == -9223372036854775808) = false := by rw [beq_eq_false_iff_ne]; exact h0
    have hw : IntKind.i64.wrap (-z) = -z := wrap64 (by omega) (by omega)
    have hm : max z (-z) = (Dm.size z : Int) := by unfold Dm.size; rw [if_neg h0]; omega
    have HM := Lib.hid hm
    clear hm h h'
    go_enter Tryz.func63, Tryz.ntmps63
    go_wp2
    go_ret
    refine ⟨?_, rfl⟩
    rw [← HM.out]
    rfl

theorem parts_lt {w : World} {S S' : Nat → Prop} {p m room : Nat} {L : List Fl} {off : Bool} {D : DataW Unit} {G : Tx → Nat} {T : Tx → Nat → Prop} (h : Parts w S p m L room off D G T) (hS : ∀ k, k < w.heap.size → S k → S' k) : Parts w S' p m L room off D G T :=
  ⟨h.blk, hS _ h.blk.lt h.sp, h.own, h.tells, ⟨hS _ h.own.lt h.sm.1, h.sm.2⟩, h.file, fun f hf k hk => ⟨hS _ (h.sub f hf k hk).2.2.2 (h.sub f hf k hk).1, (h.sub f hf k hk).2⟩, h.apart, h.good⟩

/-- Some files torn, and some still to come. -/
def mix (k : Nat) (left : Lit → Bool) (L : List Fl) : List Fl := L.map (fun f => if left (.string f.n) then f else tear k f)
theorem mix_all {k : Nat} {left : Lit → Bool} {L : List Fl} (h : ∀ f ∈ L, left (.string f.n) = true) : mix k left L = L := by
  unfold mix
  rw [List.map_congr_left (g := id) (fun f hf => by rw [if_pos (h f hf)]; rfl), List.map_id]
theorem mix_none {k : Nat} {left : Lit → Bool} {L : List Fl} (h : ∀ s : Tx, left (.string s) = false) : mix k left L = L.map (tear k) := by
  unfold mix
  exact List.map_congr_left (fun f hf => by rw [if_neg (by rw [h]; simp)])
theorem mix_step {k : Nat} {left : Lit → Bool} {L : List Fl} (hn : (L.map (·.n)).Nodup) {f : Fl} (hf : f ∈ L) : mix k (fun z => left z && !z.sameKey (.string f.n)) L = upd (mix k left L) f.n (setf (tear k f).b (tear k f).d) := by
  unfold mix upd
  rw [List.map_map]
  refine List.map_congr_left (fun g hg => ?_)
  have e : (if left (.string g.n) then g else tear k g).n = g.n := by split <;> rfl
  simp only [Function.comp, e, sameKey_str]
  by_cases h : g.n = f.n
  · rw [if_pos h, nodup_eq hn hg hf h]
    simp only [beq_self_eq_true, Bool.not_true, Bool.and_false, Bool.false_eq_true, if_false]
    unfold setf
    split <;> rfl
  · have hb : (g.n == f.n) = false := by rw [beq_eq_false_iff_ne]; exact h
    rw [if_neg h, hb]
    simp
theorem mix_used {k : Nat} {left : Lit → Bool} {L : List Fl} : used (mix k left L) ≤ used L :=
  used_map (fun f hf => by
    split
    · exact Nat.le_refl _
    · unfold tear; simp only [List.length_take]; omega)

def crashS (L : List Fl) (off : Bool) (z : Int) : List Fl × Nat := if off then (L, 32) else (L.map (tear (Dm.size z)), 0)

set_option maxRecDepth 100000 in
set_option maxHeartbeats 2000000 in
theorem crash_on (w : World) (S : Nat → Prop) (p : Nat) (L : List Fl) (room : Nat) (off : Bool) (z : Int) (hz : -9223372036854775808 ≤ z) (hz' : z ≤ 9223372036854775807) (h : Dk w S p L room off) :
    Calls Tryz.prog 26 #[.pointer (some ⟨p, 0, none⟩), .int .i64 z] w (Did S p (crashS L off z) room true w) := by
  have HR := Lib.hid (ready_on w S p L room off h)
  have H := Lib.hid h
  cases off
  · have e : crashS L false z = (L.map (tear (Dm.size z)), 0) := rfl
    rw [e]
    clear e
    obtain ⟨m, D, G, T, hP⟩ := h.opened
    have c0 : w.cell? ⟨p, 0, none⟩ = some (.map (some m)) := hP.blk.cell 0
    have hin : ∀ f ∈ L, Maps.has D (.string f.n) = true := fun f hf => by rw [hP.tells.1]; exact isIn_iff.2 ⟨f, hf, rfl⟩
    have hst := mix_all (k := Dm.size z) hin
    have HP := Lib.hid hP
    have HS := Lib.hid hst
    have HZ := Lib.hid (And.intro hz hz')
    clear h hP hin hst hz hz'
    go_enter Tryz.func26, Tryz.ntmps26
    go_wp2_with (first
      | (go_at_call 61; refine HR.out.mono ?_; rintro e w' ⟨rfl, rfl⟩)
      | (at_range; refine wpList_range_own _ rfl _ 84 rfl 9 102 law_str Tryz.underlying84 _ m 64 D rfl HP.out.own ?_; intro w0 hrg0 hg0 hs0))
    have hb0 : Below w.heap.size w w0 := below_of_grown hg0 (fun k hk => by cases hk)
    have hP0 : Parts w0 (fun k => Up S w w0 k ∧ k ≠ w.heap.size) p m L room false D G T :=
      parts_lt ((parts_lt HP.out (S' := fun k => S k ∧ k ≠ w.heap.size) (fun k hk hs => ⟨hs, by omega⟩)).later hb0) (fun k _ hk => ⟨.inl hk.1, hk.2⟩)
    clear hg0
    go_frame
    go_loopw [7] (fun _ wr => ∃ (left : Lit → Bool) (cnt : Nat) (T' : Tx → Nat → Prop), Parts wr (fun k => Up S w wr k ∧ k ≠ w.heap.size) p m (mix (Dm.size z) left L) room false D G T' ∧ wr.ranges Tryz.prog 9 ptrElem m w.heap.size 64 D left cnt ∧ Ch S w wr)
      (fun _ wr => wr.rangeLeft m w.heap.size)
    case atStart => exact ⟨_, _, T, by rw [HS.out]; exact hP0, hrg0, Ch.of_below hb0 (Nat.le_refl _)⟩
    case round =>
      obtain ⟨left, cnt, T', hPr, hrg, hcw⟩ := hrel
      have hT : TellsD D L G := HP.out.tells
      go_wp2_with (at_next; refine wpList_next_files _ rfl _ rfl m w.heap.size 64 D left cnt L G HP.out.tells rfl hrg ?_ ?_)
      · intro h0
        rw [mix_none h0] at hPr
        have c2 := hPr.blk.cell 2
        have c0 := hPr.blk.cell 0
        have f2 := hPr.blk.frozen 2
        simp only [List.getElem?_toArray, List.getElem?_cons_zero, List.getElem?_cons_succ] at c2
        have HPr := Lib.hid hPr
        clear hPr hrg
        go_wp2
        go_ret
        refine ⟨rfl, (HPr.out.set_off true).shut.weaken (fun k hk => ?_), hcw.setCell (fun _ => HP.out.sp) _⟩
        rcases hk.1 with hk | ⟨g1, g2⟩
        · exact .inl hk
        · exact .inr ⟨g1, by simpa [World.setCell] using g2⟩
      · intro f w1 cnt1 hf hl hrg1 hlt hg1 hs1 hen
        have hc1 : Ch (fun k => k = w.heap.size) _ w1 := Ch.of_grown hg1 (fun g hg _ => (Option.some.inj hg).symm)
        have hsw := hcw.size
        have hrlt : w.heap.size < w1.heap.size := hrg1.lt
        have hP1 : Parts w1 (fun k => Up S w w1 k ∧ k ≠ w.heap.size) p m (mix (Dm.size z) left L) room false D G T' :=
          parts_lt (hPr.ch hc1 (fun k hk e => hk.2 e)) (fun k _ hk => ⟨up_mono (by omega) hk.1, hk.2⟩)
        have hfm : f ∈ mix (Dm.size z) left L := List.mem_map.2 ⟨f, hf, by rw [if_pos hl]⟩
        have hcw1 : Ch S w w1 := hcw.trans hc1 (fun k hk e => by omega)
        have HP1 := Lib.hid hP1
        have HFM := Lib.hid hfm
        have HL := Lib.hid hl
        have HR1 := Lib.hid hrg1
        have HRO := Lib.hid hrg
        have HC1 := Lib.hid hcw1
        have HLT := Lib.hid (And.intro hlt hrlt)
        clear hP1 hfm hl hPr hrg1 hrg hcw1 hcw hc1 hsw hrlt hlt hg1 hs1
        go_wp2_with (first
          | (go_at_call 63; refine (size_any _ z HZ.out.1 HZ.out.2).mono ?_; rintro e w' ⟨rfl, rfl⟩)
          | (go_at_call 62; refine (ftear_any _ _ _ _ _ (Dm.size z) (HP1.out.file f HFM.out)).mono ?_; rintro e w2 ⟨rfl, hF2, hC2⟩))
        have hu : used (upd (mix (Dm.size z) left L) f.n (setf (tear (Dm.size z) f).b (tear (Dm.size z) f).d)) ≤ room := by
          rw [← mix_step HP.out.good.nodup hf]
          exact Nat.le_trans mix_used HP.out.good.fits
        have hP2 := parts_put HP1.out HFM.out (b := (tear (Dm.size z) f).b) (d := (tear (Dm.size z) f).d) hF2 hC2 hu
        rw [← mix_step HP.out.good.nodup hf] at hP2
        have hrt : ¬ T' f.n w.heap.size := fun hk => (HP1.out.sub f HFM.out _ hk).1.2 rfl
        have hrg2 := ranges_ch HR1.out hC2 (fun hk => (HP1.out.sub f HFM.out _ hk).2.2.1 rfl) hrt
        have hs2 := hC2.size
        have hP3 : Parts w2 (fun k => Up S w w2 k ∧ k ≠ w.heap.size) p m (mix (Dm.size z) (fun z => left z && !z.sameKey (.string f.n)) L) room false D G _ := parts_lt hP2 (fun k _ hk => by
          rcases hk with hk | ⟨g1, g2⟩
          · exact ⟨up_mono hs2 hk.1, hk.2⟩
          · have := HLT.out.2
            exact ⟨.inr ⟨by omega, g2⟩, by omega⟩)
        have hc2 : Ch S w w2 := HC1.out.trans hC2 (fun k hk ht => by
          rcases (HP1.out.sub f HFM.out k ht).1.1 with h | ⟨g1, _⟩
          · exact h
          · omega)
        go_roundw
        case rel => exact ⟨_, cnt1, _, hP3, hrg2, hc2⟩
        case measure => rw [hrg2.left_eq, HRO.out.left_eq]; exact HLT.out.1
  · clear h
    have e : crashS L true z = (L, 32) := rfl
    rw [e]
    go_enter Tryz.func26, Tryz.ntmps26
    go_wp2_with (go_at_call 61; refine HR.out.mono ?_; rintro e w' ⟨rfl, rfl⟩)
    go_ret
    exact did_refl H.out

end Go.Proofs.YtjoonpkgepkkhaaGreatDoor.Dj

/-
  Contract of the program's disk: List.
-/
namespace Go.Proofs.YtjoonpkgepkkhaaGreatDoor.Dl
open Go Go.RowKit Go.Maps Go.Sort Go.Shelf Ck Kw Ga Dm Dw Da Db Dc Dd De Df Dg Dh
attribute [local go_sem ↓] Go.wp_at_zero Go.wp_at_succ
set_option linter.unusedVariables false

theorem keys_call (mb : Option Nat) (W : World) : Calls Tryz.prog 96 #[.map mb] W fun e w' =>
    e = .returned (.func (.func 131) #[] #[.pointer (some ⟨W.heap.size, 0, none⟩)]) ∧ w' = W.alloc (.cells #[.map mb] 84) :=
  (callsIn_wide (n := 5)).1 (AnyZ.keys_in Tryz.keys96 Fence.wide 5 trivial rfl mb W)
theorem sorts (m : Nat) : AnyZ.SortsIn Tryz.prog Tryz.sorted95_ren Fence.wide m :=
  ⟨fun blk off cap ss W hH hblk hsz => callsIn_wide.2 (AnyM.slices_Sort_string Tryz.sort130 blk off cap ss W hH hblk hsz),
   fun p cap W => callsIn_wide.2 (AnyM.slices_Sort_string_none Tryz.sort130 p cap W)⟩

set_option maxHeartbeats 1000000 in
/-- The keys of a map, sorted: w is the world ahead of maps.Keys. -/
theorem sorted_call (b nn : Nat) (D0 : DataW Unit) (w : World) (hown : w.ownsMap Tryz.prog 9 ptrElem b nn D0) (hs : Maps.size D0 ≤ 64) :
    Calls Tryz.prog 95 #[.func (.func 131) #[] #[.pointer (some ⟨w.heap.size, 0, none⟩)]] (w.alloc (.cells #[.map (some b)] 84)) fun e w' =>
      ∃ (v : Value) (ss : List (List UInt8)), e = .returned v ∧ ss.Perm (strKeys D0) ∧ w'.ownsRow (w.alloc (.cells #[.map (some b)] 84)).heap.size 9 1 v ss.length ((ss.mergeSort (fun x y => decide (x ≤ y))).map encStr) ∧
        Below (w.alloc (.cells #[.map (some b)] 84)).heap.size (w.alloc (.cells #[.map (some b)] 84)) w' := by
  have hbl := hown.lt
  have hseq : SeqGives Fence.wide 2 Tryz.prog 131 #[.pointer (some ⟨w.heap.size, 0, none⟩)] encStr (fun ss => ss.Perm (strKeys D0)) (Maps.size D0) (w.alloc (.cells #[.map (some b)] 84)) :=
    AnyZ.keys_gives (ρ := Tryz.keys96_ren) { Tryz.keys96 with } Fence.wide _ trivial rfl (by omega) w.heap.size b nn D0 _ (by simp) (by simp) (by
      obtain ⟨es, clock, hb, Ft, hs, hD⟩ := hown
      exact ⟨es, clock, (Below.heap_alloc _ _ b hbl).trans hb, Ft, hs, hD⟩)
  refine ((callsIn_wide (n := 5)).1 (AnyZ.sorted_in Tryz.sorted95 Fence.wide 5 trivial trivial trivial trivial rfl (by omega) (sorts _) (enters_of Tryz.func130 (by kernel_rfl) rfl) 131 #[.pointer (some ⟨w.heap.size, 0, none⟩)] trivial (enters_of Tryz.func131 (by kernel_rfl) rfl) _ _ (by simp only [maxLen]; omega) (by omega) _ hseq)).mono ?_
  rintro e w' ⟨v, ss, h1, h2, h3, _, h5⟩
  exact ⟨v, ss, h1, h2, h3, h5⟩

/-- The names rise. -/
def Rises (L : List Fl) : Prop := (L.map (·.n)).Pairwise (fun x y => x ≤ y)
theorem sorted_names {L : List Fl} {ss : List (List UInt8)} (h : Rises L) (hp : ss.Perm (L.map (·.n))) : ss.mergeSort leB = L.map (·.n) := by
  rw [mergeSort_of_perm hp]
  exact List.mergeSort_of_pairwise (h.imp fun h => by simpa [leB] using h)

set_option maxHeartbeats 1000000 in
theorem list_on (w : World) (S : Nat → Prop) (p : Nat) (L : List Fl) (room : Nat) (off : Bool) (h : Dk w S p L room off) :
    Calls Tryz.prog 52 #[.pointer (some ⟨p, 0, none⟩)] w fun e w' => ∃ A c, e = .returned (.slice A L.length c) ∧ w'.ownsRow w.heap.size 9 1 (.slice A L.length c) L.length (((L.map (·.n)).mergeSort leB).map SV) ∧ Below w.heap.size w w' := by
  have HM := Lib.hid (made_on w S p L room off h)
  obtain ⟨m, D, G, T, hP⟩ := h.opened
  have c0 : w.cell? ⟨p, 0, none⟩ = some (.map (some m)) := hP.blk.cell 0
  have hsz := size_names hP.own hP.tells hP.good.nodup
  have hpm := names_perm hP.own hP.tells hP.good.nodup
  have HP := Lib.hid hP
  have HN := Lib.hid hpm
  have HSZ := Lib.hid (show Maps.size D ≤ 64 by rw [hsz]; exact hP.good.few)
  clear h hP hsz hpm
  go_enter Tryz.func52, Tryz.ntmps52
  go_wp2_with (first
    | (go_at_call 64; refine HM.out.mono ?_; rintro e w' ⟨rfl, rfl⟩)
    | (go_at_call 96; refine (keys_call _ _).mono ?_; rintro e w' ⟨rfl, rfl⟩)
    | (go_at_call 95; refine (sorted_call m 64 D w HP.out.own HSZ.out).mono ?_; rintro e w2 ⟨v, ss, rfl, hp, ho, hb⟩))
  go_ret
  have hp' : ss.Perm (L.map (·.n)) := hp.trans HN.out.symm
  have hl : ss.length = L.length := by rw [hp'.length_eq, List.length_map]
  have hb1 : Below w.heap.size w w2 := ((Below.refl _ w).alloc (Nat.le_refl _) _).trans (hb.mono (by simp))
  have ho2 : w2.ownsRow w.heap.size 9 1 v ss.length ((ss.mergeSort leB).map encStr) := own_base ho (by simp)
  rw [mergeSort_of_perm hp', hl] at ho2
  obtain ⟨A, c, rfl⟩ := own_shape ho2
  exact ⟨A, c, rfl, ho2, hb1⟩

end Go.Proofs.YtjoonpkgepkkhaaGreatDoor.Dl

/-
  Contracts of layer 4's small functions: which files are a log's.
-/
namespace Go.Proofs.YtjoonpkgepkkhaaGreatDoor.Wh
open Go Go.RowKit Go.Shelf Go.Sort Ck Kw Ga Dm Dw Da Db Dc Dd De Df Dg Wc Wf Wa Wb Wd Wn We Kx Wg
attribute [local go_sem ↓] Go.wp_at_zero Go.wp_at_succ
set_option linter.unusedVariables false

def IV (z : Int) : Value := .int .i64 z
theorem sort_ints (w : World) (base : Nat) (v : Value) (zs : List Int) (h : w.ownsRow base 2 1 v zs.length (zs.map (Value.int .i64))) (hl : zs.length < 4611686018427387904) :
    Calls Tryz.prog 94 #[v] w fun e w' => e = .returned (.tuple #[]) ∧ w'.ownsRow base 2 1 v zs.length ((zs.mergeSort (fun x y => decide (x ≤ y))).map (Value.int .i64)) ∧ w.grownBy w' v.ownBlock := by
  rcases h.2 with ⟨rfl, h2⟩ | ⟨g, cap, cur, rfl, hb, hg, hnc, hcm, hsz, ht⟩
  · have hz : zs = [] := by cases zs with | nil => rfl | cons => simp at h2
    subst hz
    refine (AnyM.slices_Sort_int_none Tryz.sort94 none 0 w).mono ?_
    rintro e w' ⟨rfl, rfl⟩
    exact ⟨rfl, by simpa using h, World.grownBy.refl _ _⟩
  · have hlt : g < w.heap.size := (Array.getElem?_eq_some_iff.1 hg).1
    rw [Nat.mul_one] at ht
    refine (AnyM.slices_Sort_int Tryz.sort94 g 0 cap zs w (holds_of_blockI hg ht) hlt hl).mono ?_
    rintro e w' ⟨rfl, n, os, rfl⟩
    exact ⟨rfl, ownsRow_sortedI (by rw [List.length_mergeSort]) hb hg hnc hcm hsz, grownBy_sortedI _⟩

theorem trim_nm (name : Tx) (k : Nat) : Lib.trimPrefix (nm name k) (name ++ [46]) = Lib.decDigits k := by
  unfold Lib.trimPrefix Lib.hasPrefix nm
  rw [if_pos (by rw [List.isPrefixOf_iff_prefix]; exact ⟨_, rfl⟩), List.drop_left]

set_option maxRecDepth 100000 in
set_option maxHeartbeats 1000000 in
theorem number_any (w : World) (name : Tx) (k : Nat) (hT : Tab w) (h1 : 1 ≤ k) (hk : k < 1000000000000000) (hn : name.length ≤ 1099511627776) :
    Calls Tryz.prog 93 #[.string ⟨name.toArray⟩, .string ⟨(nm name k).toArray⟩] w fun e w' => e = .returned (.tuple #[.int .i64 (k : Int), .bool true]) ∧ Below w.heap.size w w' := by
  have HT := Lib.hid hT
  have HTR := Lib.hid (trim_nm name k)
  have HPI := Lib.hid (parse_int hk)
  have hd := dec_len (k := k) 14 (by omega)
  have hs : (ByteArray.mk name.toArray).size ≤ 1099511627776 := by show name.toArray.size ≤ _; simpa using hn
  have HCC : Hid ((ByteArray.mk name.toArray ++ ByteArray.mk #[46]).data.toList = name ++ [46]) := Lib.hid (by simp)
  clear hT
  go_enter Tryz.func93, Tryz.ntmps93
  go_wp2_with fail
  refine (Any.strings_TrimPrefix Tryz.trimPrefix ⟨(nm name k).toArray⟩ _ w).mono ?_
  rintro e w1 ⟨rfl, rfl⟩
  rw [HCC.out, show (ByteArray.mk (nm name k).toArray).data.toList = nm name k by simp, HTR.out]
  go_wp2_with fail
  refine (Any.strconv_ParseInt_10_at64_ok Tryz.parseInt ⟨(Lib.decDigits k).toArray⟩ (by show (Lib.decDigits k).toArray.size ≤ _; simp; omega) (k : Int) (by simpa using HPI.out) w1).mono ?_
  rintro e w2 ⟨rfl, hw2⟩
  have hb2 : Below w1.heap.size w1 w2 := by
    rcases hw2 with rfl | ⟨t, rfl⟩
    · exact Below.refl _ _
    · exact bytesWorld_below _ _ _
  have HB2 := Lib.hid hb2
  have HT2 := Lib.hid (HT.out.after hb2)
  clear hw2 hb2
  go_wp2_with (go_at_call 89; refine (file_name _ name k HT2.out hk hn).mono ?_; rintro e w3 ⟨rfl, hb3⟩)
  go_ret2
  exact ⟨rfl, HB2.out.trans (hb3.mono HB2.out.size)⟩

theorem info_i64 : (Tryz.prog.info? 2).map (fun i => (i.zero, i.size, i.bytes)) = some (some (.int .i64 0), 1, 8) := by kernel_rfl
theorem sv_get {w : World} {X : Nat → Prop} {A : Option Addr} {n c : Nat} {l : List Tx} (h : Sl w X 1 (.slice A n c) n (l.map SV)) {k : Nat} (hk : k < l.length) : ∃ ad, A = some ad ∧ ad.block < w.heap.size ∧ w.cell? (ad.add k) = some (.string ⟨l[k].toArray⟩) := by
  obtain ⟨A0, c0, hv, hl, hc, hm, hx⟩ := h
  injection hv with e1 e2 e3
  have hn : n = l.length := by simpa using hl.symm
  obtain ⟨ad, hA, hb, hX, hcell⟩ := hx (by omega)
  exact ⟨ad, e1.trans hA, hb, hcell k _ (by simp [SV, hk])⟩
theorem one_val (w : World) (X : Nat → Prop) (t : TypeId) (u : Value) (hX : ¬ X w.heap.size) : Sl (w.alloc (.cells #[u] t)) X 1 (.slice (some ⟨w.heap.size, 0, none⟩) 1 1) 1 [u] := by
  refine ⟨_, _, rfl, rfl, Nat.le_refl _, by simp only [maxLen]; omega, fun _ => ⟨_, rfl, by simp, hX, fun j u hu => ?_⟩⟩
  have hj : j = 0 := by have := (List.getElem?_eq_some_iff.1 hu).1; simp at this; omega
  subst hj
  show World.cell? _ ⟨w.heap.size, 0, none⟩ = _
  rw [Blk.cell (Blk.new w t _) 0]
  simpa using hu

set_option maxRecDepth 100000 in
set_option maxHeartbeats 2000000 in
theorem numbers_any (w : World) (X : Nat → Prop) (A : Option Addr) (c : Nat) (name : Tx) (ks : List Nat) (hT : Tab w) (hk : ∀ k ∈ ks, 1 ≤ k ∧ k < 1000000000000000) (hn : name.length ≤ 1099511627776) (hl : ks.length ≤ 64)
    (h : Sl w X 1 (.slice A ks.length c) ks.length ((ks.map (nm name)).map SV)) :
    Calls Tryz.prog 51 #[.string ⟨name.toArray⟩, .slice A ks.length c] w fun e w' => ∃ A' c', e = .returned (.slice A' ks.length c') ∧
      w'.ownsRow w.heap.size 2 1 (.slice A' ks.length c') ks.length (((ks.map (fun k : Nat => (k : Int))).mergeSort (fun x y => decide (x ≤ y))).map (Value.int .i64)) ∧ Below w.heap.size w w' := by
  obtain ⟨i0, hi0, hz0, hz1, hz2⟩ := info_parts info_i64
  have HT := Lib.hid hT
  have HS := Lib.hid h
  have HK := Lib.hid hk
  have HTW : Hid (∀ wr, Below w.heap.size w wr → Tab wr) := Lib.hid fun wr hb => hT.after hb
  clear hT h hk
  go_enter Tryz.func51, Tryz.ntmps51
  go_wp2
  go_loopw [5, 12] (fun l i wr => ∃ k : Nat, k ≤ ks.length ∧ i = .int .i64 k ∧ wr.ownsRow w.heap.size 2 1 l k ((ks.take k).map (fun k : Nat => Value.int .i64 (k : Int))) ∧ Below w.heap.size w wr) (fun _ i _ => ks.length - (intOf i).toNat)
  case atStart => exact ⟨0, Nat.zero_le _, rfl, World.ownsRow_nil _ _ _ _, Below.refl _ _⟩
  case round =>
    obtain ⟨k, hk, rfl, ho, hb⟩ := hrel
    have HO := Lib.hid ho
    have HB := Lib.hid hb
    clear ho hb
    by_cases hlt : k < ks.length
    · obtain ⟨ad, rfl, hadl, hcell0⟩ := sv_get HS.out (by simpa using hlt)
      have hcell := (HB.out.cell (p := ad.add k) (by rw [add_block]; exact hadl)).trans hcell0
      simp only [List.getElem_map] at hcell
      have hkk := HK.out _ (List.getElem_mem hlt)
      have HTK := Lib.hid (List.take_succ_eq_append_getElem hlt)
      clear hcell0
      generalize hkv : ks[k] = kv at *
      have HKV := Lib.hid hkv
      clear hkv
      go_wp2_with fail
      refine (number_any _ name kv (HTW.out _ HB.out) hkk.1 hkk.2 hn).mono ?_
      rintro e w2 ⟨rfl, hb2⟩
      have HB2 := Lib.hid hb2
      clear hb2
      obtain ⟨Al, cl, hlv⟩ := own_shape HO.out
      subst hlv
      go_wp2_with (at_builtin; refine wpList_append_sh _ rfl (.tmp 23) (.tmp 25) _ rfl w.heap.size 2 i0 _ 1 8 Tryz.underlying90 hi0 hz0 hz1 hz2 rfl (by omega) _ _ _ rfl ((own_below HO.out HB2.out).alloc _) (fun _ => False) _ 1 [.int .i64 (kv : Int)] rfl (one_val _ _ _ _ (fun h => h)) (by simp [Value.oneCell']) (by simp only [maxLen]; omega) (by omega) (by have := HB.out.size; have := HB2.out.size; simp; omega) ?_; intro A3 c3 w3 happ)
      go_roundw
      case rel => exact ⟨k + 1, by omega, by go_num, by rw [HTK.out, List.map_append]; exact happ.1, (((HB.out.trans (HB2.out.mono HB.out.size)).alloc (by have := HB.out.size; have := HB2.out.size; omega) _).grown happ.2.1 (by have := HB.out.size; have := HB2.out.size; simp; omega) (fun g hg => (HO.out.lt g hg).1))⟩
      case measure => simp [intOf]; omega
    · have hke : k = ks.length := by omega
      subst hke
      have ho := HO.out
      rw [List.take_length] at ho
      obtain ⟨Al, cl, hlv⟩ := own_shape ho
      subst hlv
      have hso := sort_ints wr w.heap.size _ (ks.map (fun k : Nat => (k : Int))) (by rw [List.length_map, List.map_map]; exact ho) (by rw [List.length_map]; omega)
      rw [List.length_map] at hso
      have HSO := Lib.hid hso
      clear hso ho
      go_wp2_with fail
      refine HSO.out.mono ?_
      rintro e w2 ⟨rfl, ho2, hg2⟩
      go_wp2_with fail
      go_ret
      exact ⟨Al, cl, rfl, ho2, HB.out.grown hg2 HB.out.size (fun g hg => (HO.out.lt g hg).1)⟩

end Go.Proofs.YtjoonpkgepkkhaaGreatDoor.Wh

/-
  Contract of layer 4's iterator over frames.
-/
namespace Go.Proofs.YtjoonpkgepkkhaaGreatDoor.Wi
open Go Go.RowKit Go.Shelf Ck Kw Ga Dm Dw Da Db Dc Dd De Df Dg Wc Wf Wa Wb Wd Wn We Kx Wg Wh Kr
attribute [local go_sem ↓] Go.wp_at_zero Go.wp_at_succ
attribute [local go_sem] Oper.semAt_some
set_option linter.unusedVariables false

/-- Where each frame ends, and its record. -/
def ends : Nat → List Tx → List (Nat × Tx)
  | _, [] => []
  | o, x :: l => (o + (frame x).length, x) :: ends (o + (frame x).length) l
theorem ends_len : ∀ (o : Nat) (xs : List Tx), (ends o xs).length = xs.length
  | _, [] => rfl
  | o, x :: l => by simp [ends, ends_len]
theorem ends_get : ∀ (o : Nat) (xs : List Tx) (k : Nat) (h : k < xs.length), (ends o xs)[k]'(by rw [ends_len]; exact h) = (o + (frames (xs.take (k + 1))).length, xs[k])
  | o, x :: l, 0, h => by simp [ends, frames]
  | o, x :: l, k + 1, h => by
    have := ends_get (o + (frame x).length) l k (by simpa using h)
    simp only [ends, List.getElem_cons_succ, this, List.take_succ_cons, frames, List.length_append, Nat.add_assoc]
theorem frames_snoc_len {xs : List Tx} {k : Nat} (h : k < xs.length) : (frames (xs.take k)).length + (frame xs[k]).length = (frames (xs.take (k + 1))).length := by
  rw [List.take_succ_eq_append_getElem h, frames_snoc, List.length_append]
/-- A frame's end and its record, in memory. -/
def Rf (B : Nat) (p : Nat × Tx) (args : Array Value) (W : World) : Prop :=
  ∃ A c, args = #[.int .i64 (p.1 : Int), .slice A p.2.length c] ∧ W.ownsRow B 5 1 (.slice A p.2.length c) p.2.length (BVs p.2)

theorem frs_at {b r : Tx} {xs : List Tx} (h : Frs b xs r) (k : Nat) (hk : k ≤ xs.length) : b.drop (frames (xs.take k)).length = frames (xs.drop k) ++ r ∧ (frames (xs.take k)).length ≤ b.length := by
  have e : b = frames (xs.take k) ++ (frames (xs.drop k) ++ r) := by rw [h.1, ← List.append_assoc, ← frames_app, List.take_append_drop]
  constructor
  · conv => lhs; rw [e]
    rw [List.drop_left]
  · conv => rhs; rw [e]
    rw [List.length_append]; omega

theorem unframe_at (w : World) (X : Nat → Prop) (A : Option Addr) (c n : Nat) (b x r : Tx) (hn : b.length = n) (h : Sl w X 1 (.slice A n c) n (BVs b)) (hb : n ≤ 549755813888) (hf : Fr b x r) :
    Calls Tryz.prog 10 #[.slice A n c] w fun e w' => Unframed w x e w' := by
  subst hn
  exact unframe_yes w X A c b x r h (by omega) hf
theorem unframe_none (w : World) (X : Nat → Prop) (A : Option Addr) (c n : Nat) (b : Tx) (hn : b.length = n) (h : Sl w X 1 (.slice A n c) n (BVs b)) (hb : n ≤ 549755813888) (hf : ∀ x r, ¬ Fr b x r) :
    Calls Tryz.prog 10 #[.slice A n c] w fun e w' => e = .returned (.tuple #[.slice none 0 0, .int .i64 0, .bool false]) ∧ Below w.heap.size w w' := by
  subst hn
  exact unframe_no w X A c b h (by omega) hf
theorem wide_some : Fence.wide.depth.isSome = true → False := fun h => by cases h

set_option maxRecDepth 100000 in
set_option maxHeartbeats 4000000 in
theorem frames_seq (n : Nat) (hn : 2 ≤ n) (S : Nat → Prop) (w : World) (Bn : Nat) (A : Option Addr) (c : Nat) (b r : Tx) (xs : List Tx) (hB : Blk w Bn 22 #[.slice A b.length c]) (hBS : ¬ S Bn) (hs : Sl w S 1 (.slice A b.length c) b.length (BVs b))
    (hb : b.length ≤ 549755813888) (hF : Frs b xs r) (hSn : ∀ k, w.heap.size ≤ k → S k) : SeqR Fence.wide n Tryz.prog 138 #[.pointer (some ⟨Bn, 0, none⟩)] Rf S (ends 0 xs) w := by
  intro l J Jx W hW hsz hJ hJx hY h0
  rw [ends_len]
  have hfr := fun k hk => frs_at hF k hk
  have hc : b.length ≤ c := by obtain ⟨A0, c0, hv, _, hc, _⟩ := hs; injection hv with _ _ e; omega
  have HF := Lib.hid hF
  have HFR := Lib.hid hfr
  have HBW : Hid (∀ wr, Ch S W wr → Blk wr Bn 22 #[.slice A b.length c] ∧ Sl wr S 1 (.slice A b.length c) b.length (BVs b)) := Lib.hid fun wr hc =>
    ⟨(hB.below hW hB.lt).ch hc hBS, (hs.below hW (fun k h1 h2 => absurd h1 (by omega))).ch hc (fun _ _ h => h)⟩
  have HJ := Lib.hid hJ
  have HSN : Hid (∀ k, W.heap.size ≤ k → S k) := Lib.hid fun k hk => hSn k (by have := hW.size; omega)
  clear hF hfr hB hs hJ
  refine callsIn_of_wp Tryz.func138 rfl trivial ?_ rfl
  simp only [Tryz.ntmps138, List.size_toArray, List.length_cons, List.length_nil, Nat.reduceAdd, Nat.reduceSub, Array.replicate_succ, Array.replicate_zero, List.push_toArray, List.append_toArray, List.nil_append, List.cons_append]
  gi_wp2
  gi_loopw [3] (fun p wr => ∃ k : Nat, k ≤ xs.length ∧ p = .int .i64 ((frames (xs.take k)).length : Int) ∧ J k wr ∧ Ch S W wr) (fun p _ => b.length - (intOf p).toNat)
  case atStart => exact ⟨0, Nat.zero_le _, rfl, h0, Ch.refl _ _⟩
  case round =>
    obtain ⟨k, hk, rfl, hJs, hcs⟩ := hrel
    obtain ⟨hd, hl⟩ := HFR.out k hk
    obtain ⟨o, ho⟩ : ∃ o, o = (frames (xs.take k)).length := ⟨_, rfl⟩
    rw [← ho] at hd hl ⊢
    obtain ⟨hbk, hsl⟩ := HBW.out _ hcs
    have c0 : wr.cell? ⟨Bn, 0, none⟩ = some (.slice A b.length c) := hbk.cell 0
    obtain ⟨A2, r2, a2⟩ := slice_from A b.length c o hl hc
    have hcut : Sl wr S 1 (.slice A2 (b.length - o) (c - o)) (b.length - o) (BVs (b.drop o)) := by
      rw [BVs_drop]
      exact hsl.cut hl A2 (fun ad h1 h2 => a2 ad h1 h2)
    have hdl : (b.drop o).length = b.length - o := List.length_drop
    have HCUT := Lib.hid hcut
    have HO := Lib.hid ho
    have HD := Lib.hid hd
    have HC := Lib.hid hcs
    have HJS := Lib.hid hJs
    have HDL := Lib.hid hdl
    clear hbk hsl a2 hcut ho hd hcs hJs hdl
    by_cases hlt : k < xs.length
    · have hFr : Fr (b.drop o) xs[k] (frames (xs.drop (k + 1)) ++ r) := ⟨by rw [HD.out, List.drop_eq_getElem_cons hlt, frames, List.append_assoc], HF.out.2.1 _ (List.getElem_mem hlt)⟩
      have hun := unframe_at wr S A2 (c - o) (b.length - o) (b.drop o) xs[k] _ HDL.out HCUT.out (by omega) hFr
      have HUN := Lib.hid hun
      have hnx : o + (frame xs[k]).length = (frames (xs.take (k + 1))).length := by
        rw [HO.out, frames_snoc_len hlt]
      have HNX := Lib.hid hnx
      have hle : o + (frame xs[k]).length ≤ b.length := by rw [hnx]; exact (HFR.out (k + 1) hlt).2
      clear hun hFr hnx
      gi_wp2_with fail
      refine ⟨trivial, fun h => (wide_some h).elim, callsIn_wide.2 (HUN.out.mono ?_)⟩
      rintro e w1 ⟨A4, c4, rfl, ho1, hb1⟩
      have HO1 := Lib.hid ho1
      have HB1 := Lib.hid hb1
      have HC1 : Hid (Ch S W w1) := Lib.hid (HC.out.trans (Ch.of_below (S := fun _ => False) hb1 (Nat.le_refl _)) (fun _ _ h => h.elim))
      have hJ1 := HJ.out k wr w1 HJS.out hb1
      have HR : Hid (Rf W.heap.size ((ends 0 xs)[k]'(by rw [ends_len]; exact hlt)) #[.int .i64 ((o + (frame xs[k]).length : Nat) : Int), .slice A4 xs[k].length c4] w1) := Lib.hid (by
        rw [ends_get 0 xs k hlt, Nat.zero_add, ← HNX.out]
        exact ⟨A4, c4, rfl, own_base HO1.out HC.out.size⟩)
      obtain ⟨fn, tmps, assign, body, hy, hRd⟩ := hY k (by rw [ends_len]; exact hlt) _ w1 hJ1 HC1.out HR.out
      simp only [Int.natCast_add] at hy
      have HRD := Lib.hid hRd
      clear ho1 hb1 hJ1 hRd
      gi_wp2_with fail
      refine ⟨fun h => (wide_some h).elim, HRD.out.mono ?_⟩
      rintro e W3 (⟨rfl, hJ3, hc3⟩ | ⟨rfl, hJx3, hc3⟩)
      · have HC3 := Lib.hid (HC1.out.trans hc3 (fun _ _ h => h))
        have HJ3 := Lib.hid hJ3
        clear hJ3 hc3
        gi_wp2_with fail
        go_roundw
        case rel => exact ⟨k + 1, by omega, by rw [← HNX.out]; go_num, HJ3.out, HC3.out⟩
        case measure => have := frame_pos xs[k]; simp [intOf]; omega
      · have HC3 := Lib.hid (HC1.out.trans hc3 (fun _ _ h => h))
        have HJ3 := Lib.hid hJx3
        clear hJx3 hc3
        gi_wp2_with fail
        refine bodyPost_ret (results_none rfl _ _ _) rfl ?_
        exact ⟨⟨_, rfl⟩, HC3.out, .inr ⟨k + 1, by omega, HJ3.out⟩⟩
    · have hke : k = xs.length := by omega
      have hno : ∀ x t, ¬ Fr (b.drop o) x t := fun x t h => by
        rw [HD.out, hke, List.drop_length] at h
        exact HF.out.2.2 x t h
      have hun := unframe_none wr S A2 (c - o) (b.length - o) (b.drop o) HDL.out HCUT.out (by omega) hno
      have HUN := Lib.hid hun
      have HKE := Lib.hid hke
      clear hun hno hke
      gi_wp2_with fail
      refine ⟨trivial, fun h => (wide_some h).elim, callsIn_wide.2 (HUN.out.mono ?_)⟩
      rintro e w1 ⟨rfl, hb1⟩
      have HC1 : Hid (Ch S W w1) := Lib.hid (HC.out.trans (Ch.of_below (S := fun _ => False) hb1 (Nat.le_refl _)) (fun _ _ h => h.elim))
      have HJ1 := Lib.hid (HJ.out k wr w1 HJS.out hb1)
      clear hb1
      gi_wp2_with fail
      refine ⟨fun _ h => (by cases h), ?_⟩
      gi_wp2_with fail
      refine bodyPost_ret (results_none rfl _ _ _) rfl ?_
      have h1 := HJ1.out
      rw [HKE.out] at h1
      exact ⟨⟨_, rfl⟩, HC1.out, .inl h1⟩

end Go.Proofs.YtjoonpkgepkkhaaGreatDoor.Wi

/-
  Words for memory, for layer 4 (wal): records, segments, a log.
-/
namespace Go.Proofs.YtjoonpkgepkkhaaGreatDoor.Wl
open Go Go.RowKit Ck Kw Ga Dm Dw Da Db Dc Dd De Df Dg Wc Wf Wa Wb Wd Wn We Kx Wg Wh

section
variable {w w' : World} {S T : Nat → Prop}
/-- Rows of unlike kinds lie in unlike blocks. -/
theorem row_far {b1 b2 : Nat} {e1 e2 : TypeId} {s1 s2 n1 n2 : Nat} {v1 v2 : Value} {x1 x2 : List Value} (h1 : w.ownsRow b1 e1 s1 v1 n1 x1) (h2 : w.ownsRow b2 e2 s2 v2 n2 x2) (he : e1 ≠ e2) {k : Nat} (hk : v1.ownBlock = some k) : v2.ownBlock ≠ some k := by
  rcases h1.2 with ⟨rfl, _⟩ | ⟨g1, c1, cu1, rfl, _, hr1, _⟩
  · simp [Value.ownBlock] at hk
  · have hk : g1 = k := by simpa [Value.ownBlock] using hk
    subst hk
    rcases h2.2 with ⟨rfl, _⟩ | ⟨g2, c2, cu2, rfl, _, hr2, _⟩
    · simp [Value.ownBlock]
    · intro h
      have h : g2 = g1 := by simpa [Value.ownBlock] using h
      subst h
      rw [hr1] at hr2
      injection hr2 with hr2
      injection hr2 with _ h3
      exact he h3
/-- Records in memory, in blocks of S. -/
def Rcs (w : World) (S : Nat → Prop) (v : Value) (recs : List Tx) : Prop :=
  ∃ vals, w.ownsRow 0 22 1 v recs.length vals ∧ (∀ k, v.ownBlock = some k → S k) ∧ ∀ i (h : i < recs.length), ∃ A c, vals[i]? = some (.slice A recs[i].length c) ∧ w.ownsRow 0 5 1 (.slice A recs[i].length c) recs[i].length (BVs recs[i]) ∧ ∀ k, (Value.slice A recs[i].length c).ownBlock = some k → S k
theorem Rcs.nil (w : World) (S : Nat → Prop) : Rcs w S (.slice none 0 0) [] := ⟨[], World.ownsRow_nil _ _ _ _, by simp [Value.ownBlock], fun i h => absurd h (by simp)⟩
theorem Rcs.ch {v : Value} {recs : List Tx} (h : Rcs w S v recs) (c : Ch T w w') (hd : ∀ k, S k → T k → False) : Rcs w' S v recs := by
  obtain ⟨vals, h1, h2, h3⟩ := h
  exact ⟨vals, own_ch h1 c (fun g hg ht => hd _ (h2 g hg) ht), h2, fun i hi => by
    obtain ⟨A, cc, k1, k2, k3⟩ := h3 i hi
    exact ⟨A, cc, k1, own_ch k2 c (fun g hg ht => hd _ (k3 g hg) ht), k3⟩⟩
theorem Rcs.weaken {v : Value} {recs : List Tx} (h : Rcs w S v recs) (hd : ∀ k, S k → T k) : Rcs w T v recs := by
  obtain ⟨vals, h1, h2, h3⟩ := h
  exact ⟨vals, h1, fun k hk => hd _ (h2 k hk), fun i hi => by
    obtain ⟨A, cc, k1, k2, k3⟩ := h3 i hi
    exact ⟨A, cc, k1, k2, fun k hk => hd _ (k3 k hk)⟩⟩
theorem Rcs.after {v : Value} {recs : List Tx} (h : Rcs w S v recs) (b : Below w.heap.size w w') : Rcs w' S v recs := h.ch (Ch.of_below (S := fun _ => False) b (Nat.le_refl _)) (fun _ _ h => h)
theorem Rcs.bound {v : Value} {recs : List Tx} (h : Rcs w S v recs) : Rcs w (fun k => S k ∧ k < w.heap.size) v recs := by
  obtain ⟨vals, h1, h2, h3⟩ := h
  exact ⟨vals, h1, fun k hk => ⟨h2 k hk, (h1.lt k hk).2⟩, fun i hi => by
    obtain ⟨A, cc, k1, k2, k3⟩ := h3 i hi
    exact ⟨A, cc, k1, k2, fun k hk => ⟨k3 k hk, (k2.lt k hk).2⟩⟩⟩
theorem Rcs.shape {v : Value} {recs : List Tx} (h : Rcs w S v recs) : ∃ A c, v = .slice A recs.length c := by
  obtain ⟨vals, h1, _⟩ := h
  exact own_shape h1
theorem Rcs.in_ {v : Value} {recs : List Tx} (h : Rcs w S v recs) : ∀ k, v.ownBlock = some k → S k ∧ k < w.heap.size := by
  obtain ⟨vals, h1, h2, _⟩ := h
  exact fun k hk => ⟨h2 k hk, (h1.lt k hk).2⟩
/-- A write to a row of records, or to something that is neither a row of records nor of bytes, leaves other records. -/
theorem Rcs.keep {v : Value} {recs : List Tx} (h : Rcs w S v recs) (c : Ch T w w') (hv : ∀ k, v.ownBlock = some k → ¬ T k) (ht : ∀ k b n x A cc, w.ownsRow b 5 1 (.slice A n cc) n x → (Value.slice A n cc).ownBlock = some k → ¬ T k) : Rcs w' S v recs := by
  obtain ⟨vals, h1, h2, h3⟩ := h
  exact ⟨vals, own_ch h1 c hv, h2, fun i hi => by
    obtain ⟨A, cc, k1, k2, k3⟩ := h3 i hi
    exact ⟨A, cc, k1, own_ch k2 c (fun g hg => ht g _ _ _ _ _ k2 hg), k3⟩⟩
/-- A record more. -/
theorem Rcs.push {v v' : Value} {recs : List Tx} {x : Tx} {A : Option Addr} {c : Nat} {vals : List Value} (h : Rcs w S v recs) (hvals : ∀ vs, w.ownsRow 0 22 1 v recs.length vs → vs = vals) (hx : w.ownsRow 0 5 1 (.slice A x.length c) x.length (BVs x)) (hxS : ∀ k, (Value.slice A x.length c).ownBlock = some k → S k)
    (ho : w'.ownsRow 0 22 1 v' (recs.length + 1) (vals ++ [.slice A x.length c])) (hg : w.grownBy w' v.ownBlock) (hb : v'.ownBlock = v.ownBlock ∨ v'.ownBlock = some w.heap.size) (hlt : v'.ownBlock = some w.heap.size → w.heap.size < w'.heap.size) : Rcs w' (Up S w w') v' (recs ++ [x]) := by
  obtain ⟨vs, h1, h2, h3⟩ := h
  obtain rfl := hvals vs h1
  have cg : Ch (fun k => v.ownBlock = some k) w w' := Ch.of_grown hg (fun g hg _ => hg)
  have hl : vs.length = recs.length := by simpa using h1.1
  refine ⟨vs ++ [.slice A x.length c], by rw [List.length_append]; exact ho, fun k hk => ?_, fun i hi => ?_⟩
  · rcases hb with hb | hb
    · rw [hb] at hk; exact .inl (h2 k hk)
    · rw [hb] at hk; injection hk with hk; exact .inr ⟨by omega, by have := hlt hb; omega⟩
  · by_cases hlt : i < recs.length
    · obtain ⟨A1, c1, k1, k2, k3⟩ := h3 i hlt
      rw [List.getElem_append_left hlt]
      exact ⟨A1, c1, by rw [List.getElem?_append_left (by omega)]; exact k1, own_ch k2 cg (fun g hg hv => row_far k2 h1 (by decide) hg hv), fun k hk => .inl (k3 k hk)⟩
    · have hi' : i = recs.length := by rw [List.length_append] at hi; simp at hi; omega
      subst hi'
      rw [List.getElem_append_right (Nat.le_refl _)]
      simp only [Nat.sub_self, List.getElem_cons_zero]
      exact ⟨A, c, by rw [List.getElem?_append_right (by omega), hl]; simp, own_ch hx cg (fun g hg hv => row_far hx h1 (by decide) hg hv), fun k hk => .inl (hxS k hk)⟩
theorem row_vals {b : Nat} {e : TypeId} {s n : Nat} {v : Value} {xs ys : List Value} (h : w.ownsRow b e s v n xs) (k : w.ownsRow b e s v n ys) : xs = ys := by
  rcases h.2 with ⟨hv, h1⟩ | ⟨g, cap, cur, hv, _, hr, _, _, _, ht⟩
  · rcases k.2 with ⟨_, k1⟩ | ⟨g', cap', cur', hv', _⟩
    · have h2 := h.1
      have k2 := k.1
      rw [h1, Nat.zero_mul] at h2 k2
      rw [List.eq_nil_of_length_eq_zero h2, List.eq_nil_of_length_eq_zero k2]
    · rw [hv] at hv'; cases hv'
  · rcases k.2 with ⟨hv', k1⟩ | ⟨g', cap', cur', hv', _, hr', _, _, _, ht'⟩
    · rw [hv] at hv'; cases hv'
    · rw [hv] at hv'
      injection hv' with e1 _ _
      injection e1 with e1
      injection e1 with e1 _ _
      subst e1
      rw [hr] at hr'
      injection hr' with hr'
      injection hr' with hr' _
      subst hr'
      rw [← ht, ← ht']
end

end Go.Proofs.YtjoonpkgepkkhaaGreatDoor.Wl

/-
  Contract of layer 4's parse: the segment that stands in a file's bytes.
-/
namespace Go.Proofs.YtjoonpkgepkkhaaGreatDoor.Wj
open Go Go.RowKit Go.Shelf Ck Kw Ga Dm Dw Da Db Dc Dd De Df Dg Wc Wf Wa Wb Wd Wn We Kx Wg Wh Kr Wi Wl
attribute [local go_sem ↓] Go.wp_at_zero Go.wp_at_succ
attribute [local go_sem] Oper.semAt_some
set_option linter.unusedVariables false

/-- A segment: its number, its first record's, its bytes that are whole, its records. -/
structure Sg where
  num : Nat
  first : Nat
  size : Nat
  recs : List Tx
/-- The segment that so many frames make. -/
def segOf (num : Nat) : List Tx → Sg
  | [] => ⟨num, 0, 0, []⟩
  | h :: t => if fstOf h = 0 then ⟨num, 0, 0, []⟩ else ⟨num, fstOf h, (frames (h :: t)).length, t⟩
def SgV (s : Sg) (v : Value) : Array Value := #[.int .i64 (s.num : Int), .int .i64 (s.first : Int), .int .i64 (s.size : Int), v]

theorem info_recs : (Tryz.prog.info? 22).map (fun i => (i.zero, i.size, i.bytes)) = some (some (.slice none 0 0), 1, 24) := by kernel_rfl

theorem results_row1 {P : Program} {fn : Func} {p : Tmp} {ty : TypeId} (h : fn.results = #[.cell p ty]) (tmps : Array Value) (w : World) (g : Nat) (t : TypeId) (cs : Array Value) (fr : Nat × Nat) (d : TypeDesc)
    (hp : tmps.getD p undef = .pointer (some ⟨g, 0, none⟩)) (hg : w.heap[g]? = some (.cells cs t fr))
    (hu : P.underlying ty = some d) (hd : (match d with | .struct _ | .array _ _ => true | _ => false) = true) (hi : (P.info? ty).map (·.size) = some cs.size) :
    (results fn tmps).run P w = .ok (.agg cs) w := by
  have hp' : tmps[p]?.getD undef = .pointer (some ⟨g, 0, none⟩) := by simpa using hp
  simp [results, h, hp', asAddr, run_loadVar_row w g t ty cs fr d hg hu hd hi]
theorem info_seg : (Tryz.prog.info? 97).map (·.size) = some 4 := by kernel_rfl
theorem frames_ret (w : World) (A : Option Addr) (n c : Nat) : Calls Tryz.prog 121 #[.slice A n c] w fun e w' => e = .returned (.func (.func 138) #[] #[.pointer (some ⟨w.heap.size, 0, none⟩)]) ∧ w' = w.alloc (.cells #[.slice A n c] 22) := by
  go_enter Tryz.func121, Tryz.ntmps121
  go_wp2
  go_ret
  exact ⟨rfl, rfl⟩

theorem segOf_one (num : Nat) (h : Tx) : segOf num [h] = if fstOf h = 0 then ⟨num, 0, 0, []⟩ else ⟨num, fstOf h, (frame h).length, []⟩ := by
  simp [segOf, frames]
/-- What stands in the segment behind so many frames. -/
def Ip (num g B : Nat) (xs : List Tx) (k : Nat) (W : World) : Prop :=
  ∃ v, Blk W g 97 (SgV (segOf num (xs.take k)) v) ∧ Rcs W (fun j => B ≤ j) v (segOf num (xs.take k)).recs ∧ (0 < k → ∀ h t, xs = h :: t → fstOf h ≠ 0)
def Jp (num g B : Nat) (xs : List Tx) (c : Code) (W : World) : Prop :=
  c = .exit 0 ∧ ∃ v, Blk W g 97 (SgV (segOf num xs) v) ∧ Rcs W (fun j => B ≤ j) v (segOf num xs).recs
theorem Ip.ch {num g B D : Nat} {xs : List Tx} {k : Nat} {W W' : World} (h : Ip num g B xs k W) (c : Ch (Bk D) W W') (hg : g < D) (hB : D + 2 ≤ B) : Ip num g B xs k W' := by
  obtain ⟨v, h1, h2, h3⟩ := h
  exact ⟨v, h1.ch c (fun h => by rcases h with h | h <;> omega), h2.ch c (fun j h1 h => by rcases h with h | h <;> omega), h3⟩
theorem Jp.ch {num g B D : Nat} {xs : List Tx} {c : Code} {W W' : World} (h : Jp num g B xs c W) (cc : Ch (Bk D) W W') (hg : g < D) (hB : D + 2 ≤ B) : Jp num g B xs c W' := by
  obtain ⟨hc, v, h1, h2⟩ := h
  exact ⟨hc, v, h1.ch cc (fun h => by rcases h with h | h <;> omega), h2.ch cc (fun j h1 h => by rcases h with h | h <;> omega)⟩
theorem Rf.ch {D : Nat} {p : Nat × Tx} {args : Array Value} {W W' : World} (h : Rf (D + 2) p args W) (c : Ch (Bk D) W W') : Rf (D + 2) p args W' := by
  obtain ⟨A, cc, h1, h2⟩ := h
  exact ⟨A, cc, h1, own_ch h2 c (fun g hg h => by have := (h2.lt g hg).1; rcases h with h | h <;> omega)⟩
theorem two_of {args : Array Value} (h : args.size = 2) : ∃ x y, args = #[x, y] := by
  obtain ⟨l⟩ := args
  match l, h with
  | [x, y], _ => exact ⟨x, y, rfl⟩
/-- The frame of parse, with the loop's variables. -/
def actP (num n : Nat) (A : Option Addr) (c g : Nat) (args : Array Value) : Act :=
  match args with
  | ⟨[x, y]⟩ => { tmps := #[.int .i64 (num : Int), .slice A n c, undef, undef, .pointer (some ⟨g, 0, none⟩), .pointer (some ⟨g + 1, 0, none⟩), x, y, .int .i64 (num : Int), .agg #[.int .i64 (num : Int), .int .i64 0, .int .i64 0, .slice none 0 0], .slice A n c, .func (.func 138) #[] #[.pointer (some ⟨g + 2, 0, none⟩)], x, y, undef, undef, undef, undef, undef, undef, undef, undef, undef, undef, undef, undef, undef, undef, undef, undef, undef, undef], defers := [] }
  | _ => { tmps := #[], defers := [] }

set_option maxRecDepth 100000 in
set_option maxHeartbeats 8000000 in
theorem parse_any (w : World) (X : Nat → Prop) (num : Nat) (hnum : num < 1000000000000000) (A : Option Addr) (c : Nat) (b r : Tx) (xs : List Tx) (h : Sl w X 1 (.slice A b.length c) b.length (BVs b)) (hb : b.length ≤ 549755813888) (hF : Frs b xs r) :
    Calls Tryz.prog 90 #[.int .i64 (num : Int), .slice A b.length c] w fun e w' => ∃ v, e = .returned (.agg (SgV (segOf num xs) v)) ∧ Rcs w' (New w w') v (segOf num xs).recs ∧ Below w.heap.size w w' := by
  refine (callsIn_wide (n := 6)).1 ?_
  refine callsIn_of_wp_marks Tryz.func90 rfl trivial ?_ rfl
  simp only [Tryz.ntmps90, List.size_toArray, List.length_cons, List.length_nil, Nat.reduceAdd, Nat.reduceSub, Array.replicate_succ, Array.replicate_zero, List.push_toArray, List.append_toArray, List.nil_append, List.cons_append]
  gi_wp2_with fail
  refine ⟨trivial, callsIn_wide.2 ((frames_ret _ A b.length c).mono ?_)⟩
  rintro e w3 ⟨rfl, rfl⟩
  have hk5 : Blk (((w.alloc (.cells #[.int .i64 0, .int .i64 0, .int .i64 0, .slice none 0 0] 97)).alloc (.cells #[.int .i64 (num : Int), .int .i64 0, .int .i64 0, .slice none 0 0] 97)).alloc (.cells #[.slice A b.length c] 22)) (w.heap.size + 1) 97 #[.int .i64 (num : Int), .int .i64 0, .int .i64 0, .slice none 0 0] := (Blk.new_at (by simp) rfl).alloc _
  have hk4 : Blk (((w.alloc (.cells #[.int .i64 0, .int .i64 0, .int .i64 0, .slice none 0 0] 97)).alloc (.cells #[.int .i64 (num : Int), .int .i64 0, .int .i64 0, .slice none 0 0] 97)).alloc (.cells #[.slice A b.length c] 22)) w.heap.size 97 #[.int .i64 0, .int .i64 0, .int .i64 0, .slice none 0 0] := ((Blk.new_at rfl rfl).alloc _).alloc _
  have hkB : Blk (((w.alloc (.cells #[.int .i64 0, .int .i64 0, .int .i64 0, .slice none 0 0] 97)).alloc (.cells #[.int .i64 (num : Int), .int .i64 0, .int .i64 0, .slice none 0 0] 97)).alloc (.cells #[.slice A b.length c] 22)) (w.heap.size + 2) 22 #[.slice A b.length c] := Blk.new_at (by simp) rfl
  have hsz : (((w.alloc (.cells #[.int .i64 0, .int .i64 0, .int .i64 0, .slice none 0 0] 97)).alloc (.cells #[.int .i64 (num : Int), .int .i64 0, .int .i64 0, .slice none 0 0] 97)).alloc (.cells #[.slice A b.length c] 22)).heap.size = w.heap.size + 3 := by simp
  have hbw : Below w.heap.size w (((w.alloc (.cells #[.int .i64 0, .int .i64 0, .int .i64 0, .slice none 0 0] 97)).alloc (.cells #[.int .i64 (num : Int), .int .i64 0, .int .i64 0, .slice none 0 0] 97)).alloc (.cells #[.slice A b.length c] 22)) := (((Below.refl _ w).alloc (Nat.le_refl _) _).alloc (by simp) _).alloc (by simp; omega) _
  rw [show (((w.alloc (.cells #[.int .i64 0, .int .i64 0, .int .i64 0, .slice none 0 0] 97)).alloc (.cells #[.int .i64 (num : Int), .int .i64 0, .int .i64 0, .slice none 0 0] 97)).heap.size) = w.heap.size + 2 by simp]
  generalize (((w.alloc (.cells #[.int .i64 0, .int .i64 0, .int .i64 0, .slice none 0 0] 97)).alloc (.cells #[.int .i64 (num : Int), .int .i64 0, .int .i64 0, .slice none 0 0] 97)).alloc (.cells #[.slice A b.length c] 22)) = w3 at hk5 hk4 hkB hsz hbw ⊢
  have hS : Sl w3 (fun k => k = w.heap.size + 1 ∨ w3.heap.size ≤ k) 1 (.slice A b.length c) b.length (BVs b) := ((h.old' (Nat.le_refl _)).after hbw).weaken (fun k hk hh => by rcases hh with hh | hh <;> omega)
  have hseq := frames_seq 5 (by omega) (fun k => k = w.heap.size + 1 ∨ w3.heap.size ≤ k) w3 (w.heap.size + 2) A c b r xs hkB (fun hh => by rcases hh with hh | hh <;> omega) hS hb hF (fun k hk => .inr hk)
  have HSEQ := Lib.hid hseq
  have HFA := Lib.hid (fun k hk => frs_at hF k hk)
  have HFL := Lib.hid hF.2.1
  have HK5 := Lib.hid hk5
  have HK4 := Lib.hid hk4
  have HBW := Lib.hid hbw
  clear hseq hS hkB hk5 hk4 hbw h hF
  gi_wp2_with fail
  refine wpIn_rangeR rfl (by omega) (gf := 138) (lb := #[.pointer (some ⟨w.heap.size + 2, 0, none⟩)]) rfl trivial (enters_of Tryz.func138 (by kernel_rfl) rfl) HSEQ.out (fun k hk => .inr hk)
    (fun B p args W ⟨_, _, hh, _⟩ => by rw [hh]; rfl) (fun p args W W' hh c => Rf.ch hh c)
    (Ip num (w.heap.size + 1) (w3.heap.size + 2) xs) (fun c _ => Jp num (w.heap.size + 1) (w3.heap.size + 2) xs c)
    (fun k W W' hh _ c => hh.ch c (by omega) (Nat.le_refl _)) (fun cc k W W' hh _ c => hh.ch c (by omega) (Nat.le_refl _)) ⟨_, HK5.out, Rcs.nil _ _, fun h0 => absurd h0 (by omega)⟩ (actP num b.length A c w.heap.size) ?assign ?body ?done ?stop
  case assign =>
    intro l args W K hsz hK
    obtain ⟨x, y, rfl⟩ := two_of hsz
    gi_wp2_with fail
    exact hK
  case body =>
    intro l k hk args W hlt hcw hi hr
    rw [ends_len] at hk
    rw [ends_get 0 xs k hk, Nat.zero_add] at hr
    obtain ⟨A4, c4, rfl, ho⟩ := hr
    obtain ⟨v, hb5, hrc, hfst⟩ := hi
    have hle := (HFA.out (k + 1) (by omega)).2
    obtain ⟨e, he⟩ : ∃ e, e = (frames (xs.take (k + 1))).length := ⟨_, rfl⟩
    simp only [← he] at hle ho ⊢
    have hxl := HFL.out _ (List.getElem_mem hk)
    have hfl : (frame xs[k]).length ≤ e := by rw [he, ← frames_snoc_len hk]; omega
    have HE := Lib.hid he
    have HB5 := Lib.hid hb5
    have HRC := Lib.hid hrc
    have HFS := Lib.hid hfst
    have HO := Lib.hid ho
    have HCW := Lib.hid hcw
    have hf0 := hb5.frozen 0
    have hf1 := hb5.frozen 1
    have hf2 := hb5.frozen 2
    have hf3 := hb5.frozen 3
    have hbs := hb5.lt
    dsimp only [actP]
    by_cases hk0 : k = 0
    · subst hk0
      obtain ⟨h, t, hxs⟩ : ∃ h t, xs = h :: t := by cases xs with | nil => simp at hk | cons h t => exact ⟨h, t, rfl⟩
      subst hxs
      simp only [List.take_zero, List.getElem_cons_zero, Nat.zero_add, List.take_succ_cons] at *
      have c1 : W.cell? ⟨w.heap.size + 1, 1, none⟩ = some (.int .i64 0) := HB5.out.cell 1
      have HF1 := Lib.hid (first_any W (fun _ => False) A4 c4 h (Sl.of_own HO.out (fun _ _ _ h => h)) (by omega))
      clear hb5 hrc hfst ho hcw he
      gi_wp2_with fail
      refine ⟨trivial, CallsIn.inRound l (callsIn_wide.2 (HF1.out.mono ?_))⟩
      rintro e1 w4 ⟨rfl, hb4⟩
      have HB4 := Lib.hid hb4
      have hk5 := HB5.out.below hb4 HB5.out.lt
      have HK := Lib.hid hk5
      have c1 : w4.cell? ⟨w.heap.size + 1, 1, none⟩ = some (.int .i64 0) := hk5.cell 1
      have c2 : w4.cell? ⟨w.heap.size + 1, 2, none⟩ = some (.int .i64 0) := hk5.cell 2
      have hf1 := hk5.frozen 1
      have hf2 := hk5.frozen 2
      have hch : ∀ (j : Nat) (u : Value), Ch (fun j => (j = w.heap.size + 1 ∨ w3.heap.size ≤ j) ∧ ¬ Bk w3.heap.size j) W (w4.setCell ⟨w.heap.size + 1, j, none⟩ u) := fun j u =>
        (Ch.of_below hb4 (Nat.le_refl _)).setCell (p := ⟨w.heap.size + 1, j, none⟩) (fun _ => ⟨.inl rfl, fun h => by rcases h with h | h <;> (simp only at h; omega)⟩) u
      have HCH := Lib.hid hch
      clear hb4 hk5 hch
      by_cases hf : fstOf h = 0
      · have HF0 := Lib.hid hf
        clear HF1
        rw [hf]
        clear hf
        gi_wp2_with fail
        refine ⟨HCH.out 1 _, rfl, v, ?_, ?_⟩
        · have := HK.out.set_ 1 (.int .i64 0)
          simpa [SgV, segOf, HF0.out] using this
        · simp only [segOf, HF0.out, if_true]
          exact (HRC.out.after HB4.out).ch ((Ch.refl (fun j => j = w.heap.size + 1) w4).setCell (p := ⟨w.heap.size + 1, 1, none⟩) (fun _ => rfl) _) (fun j h1 h2 => by omega)
      · have HF0 := Lib.hid hf
        have hne : ((fstOf h : Int) == 0) = false := by rw [beq_eq_false_iff_ne]; omega
        have hne2 : ¬ (fstOf h : Int) = 0 := by omega
        clear hf HF1
        generalize hfv : fstOf h = fv at *
        have HFV := Lib.hid hfv
        clear hfv
        gi_wp2_with fail
        refine ⟨(HCH.out 1 _).setCell (p := ⟨w.heap.size + 1, 2, none⟩) (fun _ => ⟨.inl rfl, fun h => by rcases h with h | h <;> (simp only at h; omega)⟩) _, v, ?_, ?_, fun _ h' t' e' => by injection e' with e1 _; rw [← e1, HFV.out]; exact HF0.out⟩
        · have := (HK.out.set_ 1 (.int .i64 (fv : Int))).set_ 2 (.int .i64 (e : Int))
          rw [List.take_succ_cons, List.take_zero, segOf_one, HFV.out, if_neg HF0.out]
          have he : (frame h).length = e := by rw [HE.out]; simp [frames]
          rw [he]
          simpa [SgV, segOf] using this
        · rw [List.take_succ_cons, List.take_zero, segOf_one, HFV.out, if_neg HF0.out]
          exact (HRC.out.after HB4.out).ch (((Ch.refl (fun j => j = w.heap.size + 1) w4).setCell (p := ⟨w.heap.size + 1, 1, none⟩) (fun _ => rfl) _).setCell (p := ⟨w.heap.size + 1, 2, none⟩) (fun _ => rfl) _) (fun j h1 h2 => by omega)
    · obtain ⟨h, t, hxs⟩ : ∃ h t, xs = h :: t := by cases xs with | nil => simp at hk | cons h t => exact ⟨h, t, rfl⟩
      have hf := HFS.out (by omega) h t hxs
      subst hxs
      obtain ⟨j, rfl⟩ : ∃ j, k = j + 1 := ⟨k - 1, by omega⟩
      have hjt : j < t.length := by simpa using hk
      have hseg : segOf num ((h :: t).take (j + 1)) = ⟨num, fstOf h, (frames (h :: t.take j)).length, t.take j⟩ := by rw [List.take_succ_cons, segOf, if_neg hf]
      have hseg2 : segOf num ((h :: t).take (j + 1 + 1)) = ⟨num, fstOf h, e, t.take j ++ [t[j]]⟩ := by
        rw [he, List.take_succ_cons, segOf, if_neg hf, List.take_succ_eq_append_getElem hjt]
      rw [hseg] at hb5 hrc
      simp only [List.getElem_cons_succ] at ho
      obtain ⟨A5, c5, rfl⟩ := hrc.shape
      have htl : (t.take j).length = j := by rw [List.length_take]; omega
      have hrc0 := hrc
      obtain ⟨vals, hvo, hvS, _⟩ := hrc0
      rw [htl] at hb5 hvo hvS hrc
      have c1 : W.cell? ⟨w.heap.size + 1, 1, none⟩ = some (.int .i64 (fstOf h : Int)) := hb5.cell 1
      have c2 : W.cell? ⟨w.heap.size + 1, 2, none⟩ = some (.int .i64 ((frames (h :: t.take j)).length : Int)) := hb5.cell 2
      have c3 : W.cell? ⟨w.heap.size + 1, 3, none⟩ = some (.slice A5 j c5) := hb5.cell 3
      have hne : ((fstOf h : Int) == 0) = false := by rw [beq_eq_false_iff_ne]; omega
      have hne2 : ¬ (fstOf h : Int) = 0 := by omega
      have HF := Lib.hid hf
      have HS2 := Lib.hid hseg2
      have HB6 := Lib.hid hb5
      have HRC6 := Lib.hid hrc
      have HO6 := Lib.hid ho
      clear hb5 hrc ho hfst hcw he hseg hseg2 hf HB5 HRC HO HFS
      have HVO := Lib.hid hvo
      have HVS := Lib.hid hvS
      have hjl : j ≤ 549755813888 := by have := frames_len (h :: t.take j); rw [List.length_cons, htl] at this; have := (HFA.out (j + 1) (by simp; omega)).2; rw [List.take_succ_cons] at this; omega
      obtain ⟨i0, hi0, hz0, hz1, hz2⟩ := info_parts info_recs
      have HTL := Lib.hid htl
      have HSZ := Lib.hid hsz
      clear hvo hvS htl hsz
      gi_wp2_with (gi_at_builtin; refine wpListIn_append_own_at _ rfl (.tmp 21) (.tmp 23) _ rfl 0 22 i0 _ 1 24 Tryz.underlying54 hi0 hz0 hz1 hz2 rfl (by omega) _ j vals rfl (HVO.out.alloc _) ⟨W.heap.size, 0, none⟩ 1 1 [.slice A4 t[j].length c4] rfl rfl (cell_one_new _ _ _) (by simp [Value.oneCell']) (by simp only [maxLen]; omega) (by omega) (by omega) ?_; intro v' w5 ho5 hg5 _ hb5; obtain ⟨A6, c6, rfl⟩ := own_shape ho5; have k5 := Lib.hid ((HB6.out.alloc (.cells #[.slice A4 t[j].length c4] 22)).grown hg5 (fun e1 => own_far HVO.out HB6.out (by decide) e1.symm)); have HO5 := Lib.hid ho5; have HG5 := Lib.hid hg5; have HBB5 := Lib.hid hb5; clear ho5 hg5 hb5 c1 c2 c3 hf0 hf1 hf2 hf3; have c1 : w5.cell? ⟨w.heap.size + 1, 1, none⟩ = some (.int .i64 (fstOf h : Int)) := k5.out.cell 1; have hf2 := k5.out.frozen 2; have hf3 := k5.out.frozen 3; have c2 : w5.cell? ⟨w.heap.size + 1, 2, none⟩ = some (.int .i64 ((frames (h :: t.take j)).length : Int)) := k5.out.cell 2; have c3 : w5.cell? ⟨w.heap.size + 1, 3, none⟩ = some (.slice A5 j c5) := k5.out.cell 3)
      have hsz := HSZ.out
      have hba : Below W.heap.size W (W.alloc (.cells #[.slice A4 t[j].length c4] 22)) := (Below.refl _ W).alloc (Nat.le_refl _) _
      have hrow : ∀ g, (Value.slice A5 j c5).ownBlock = some g → w3.heap.size + 2 ≤ g := fun g hg => HVS.out g hg
      have hc5 : Ch (fun k => (k = w.heap.size + 1 ∨ w3.heap.size ≤ k) ∧ ¬ Bk w3.heap.size k) W w5 := ((Ch.refl _ W).alloc _).trans (Ch.of_grown (S := fun k => (k = w.heap.size + 1 ∨ w3.heap.size ≤ k) ∧ ¬ Bk w3.heap.size k) HG5.out (fun g hg _ => ⟨.inr (by have := hrow g hg; omega), fun h => by have := hrow g hg; rcases h with h | h <;> omega⟩)) (fun _ _ h => h)
      have hnb : ¬ Bk w3.heap.size (w.heap.size + 1) := fun h => by rcases h with h | h <;> omega
      have hrc5 : Rcs w5 (Up (fun k => w3.heap.size + 2 ≤ k) (W.alloc (.cells #[.slice A4 t[j].length c4] 22)) w5) (.slice A6 (j + 1) c6) (t.take j ++ [t[j]]) := by
        refine Rcs.push (vals := vals) (HRC6.out.after hba) (fun vs hvs => ?_) (own_base (own_below HO6.out hba) (Nat.zero_le _)) (fun k hk => (HO6.out.lt k hk).1) ?_ HG5.out HBB5.out (fun h => (HO5.out.lt _ h).2)
        · rw [HTL.out] at hvs
          exact row_vals hvs (own_below HVO.out hba)
        · rw [HTL.out]; exact HO5.out
      refine ⟨(hc5.setCell (p := ⟨w.heap.size + 1, 3, none⟩) (fun _ => ⟨.inl rfl, hnb⟩) _).setCell (p := ⟨w.heap.size + 1, 2, none⟩) (fun _ => ⟨.inl rfl, hnb⟩) _, .slice A6 (j + 1) c6, ?_, ?_, fun _ h' t' e' => by injection e' with e1 _; rw [← e1]; exact HF.out⟩
      · have := (k5.out.set_ 3 (.slice A6 (j + 1) c6)).set_ 2 (.int .i64 (e : Int))
        rw [HS2.out]
        simpa [SgV] using this
      · rw [HS2.out]
        refine (hrc5.weaken (fun k hk => ?_)).ch (((Ch.refl (fun j => j = w.heap.size + 1) w5).setCell (p := ⟨w.heap.size + 1, 3, none⟩) (fun _ => rfl) _).setCell (p := ⟨w.heap.size + 1, 2, none⟩) (fun _ => rfl) _) (fun j h1 h2 => by omega)
        rcases hk with hk | ⟨hk, _⟩
        · exact hk
        · simp at hk; omega
  case done =>
    intro W hcw hi hd
    rw [ends_len] at hi
    obtain ⟨v, hb5, hrc, _⟩ := hi
    rw [List.take_length] at hb5 hrc
    obtain ⟨Av, cv, rfl⟩ := hrc.shape
    have hk4 := HK4.out.ch hcw (fun h => by rcases h with h | h <;> omega)
    have c0 := hb5.cell 0
    have c1 := hb5.cell 1
    have c2 := hb5.cell 2
    have c3 := hb5.cell 3
    simp only [SgV, List.getElem?_toArray, List.getElem?_cons_zero, List.getElem?_cons_succ] at c0 c1 c2 c3
    have d0 := hk4.cell 0
    have d1 := hk4.cell 1
    have d2 := hk4.cell 2
    have d3 := hk4.cell 3
    simp only [List.getElem?_toArray, List.getElem?_cons_zero, List.getElem?_cons_succ] at d0 d1 d2 d3
    have e0 := hk4.frozen 0
    have e1 := hk4.frozen 1
    have e2 := hk4.frozen 2
    have e3 := hk4.frozen 3
    have HK4' := Lib.hid hk4
    have HRC := Lib.hid hrc
    have HCW := Lib.hid hcw
    have HD := Lib.hid hd
    clear hk4 hrc hcw hb5 hd
    gi_wp2_with fail
    have hlt : w3.heap.size < W.heap.size := (Array.getElem?_eq_some_iff.1 HD.out).1
    refine ⟨by simp, .inl ⟨_, _, rfl, run_takeDeferred (((((((Ch.refl (fun k => k = w.heap.size) W).setCell (p := ⟨w.heap.size, 0, none⟩) (fun _ => rfl) _).setCell (p := ⟨w.heap.size, 1, none⟩) (fun _ => rfl) _).setCell (p := ⟨w.heap.size, 2, none⟩) (fun _ => rfl) _).setCell (p := ⟨w.heap.size, 3, none⟩) (fun _ => rfl) _).block w3.heap.size hlt (by omega)).trans HD.out), ?_⟩⟩
    have hk5 := (((HK4'.out.set_ 0 (.int .i64 ((segOf num xs).num : Int))).set_ 1 (.int .i64 ((segOf num xs).first : Int))).set_ 2 (.int .i64 ((segOf num xs).size : Int))).set_ 3 (.slice Av (segOf num xs).recs.length cv)
    have hk6 := hk5.ch (ch_putObj _ w3.heap.size (.deferred none)) (by omega)
    refine ⟨_, results_row1 rfl _ _ w.heap.size 97 (SgV (segOf num xs) (.slice Av (segOf num xs).recs.length cv)) (0, 0) _ rfl (by have h := hk6; unfold Blk at h; simpa [SgV] using h) Tryz.underlying97 rfl info_seg, _, rfl, ?_, ?_⟩
    · have cf := (((((Ch.refl (fun k => k = w.heap.size) W).setCell (p := ⟨w.heap.size, 0, none⟩) (fun _ => rfl) (.int .i64 ((segOf num xs).num : Int))).setCell (p := ⟨w.heap.size, 1, none⟩) (fun _ => rfl) (.int .i64 ((segOf num xs).first : Int))).setCell (p := ⟨w.heap.size, 2, none⟩) (fun _ => rfl) (.int .i64 ((segOf num xs).size : Int))).setCell (p := ⟨w.heap.size, 3, none⟩) (fun _ => rfl) (.slice Av (segOf num xs).recs.length cv))
      refine (((HRC.out.ch cf (fun k h1 h2 => by omega)).ch (ch_putObj _ w3.heap.size (.deferred none)) (fun k h1 h2 => by omega)).bound).weaken (fun k hk => ⟨by have := hk.1; omega, hk.2⟩)
    · have cf := (((((Ch.refl (fun k => k = w.heap.size) W).setCell (p := ⟨w.heap.size, 0, none⟩) (fun _ => rfl) (.int .i64 ((segOf num xs).num : Int))).setCell (p := ⟨w.heap.size, 1, none⟩) (fun _ => rfl) (.int .i64 ((segOf num xs).first : Int))).setCell (p := ⟨w.heap.size, 2, none⟩) (fun _ => rfl) (.int .i64 ((segOf num xs).size : Int))).setCell (p := ⟨w.heap.size, 3, none⟩) (fun _ => rfl) (.slice Av (segOf num xs).recs.length cv))
      have c1 := (HCW.out.mono (T := fun k => w.heap.size ≤ k) (fun k _ h => by rcases h with h | h <;> omega)).trans (cf.mono (T := fun k => w.heap.size ≤ k) (fun k _ h => by omega)) (fun _ _ h => h)
      have c2 := c1.trans ((ch_putObj _ w3.heap.size (.deferred none)).mono (T := fun k => w.heap.size ≤ k) (fun k _ h => by omega)) (fun _ _ h => h)
      exact HBW.out.trans (c2.below (B := w.heap.size) (fun k hk h => by omega) (by omega))
  case stop =>
    rintro cc k W hk hcw ⟨rfl, v, hb5, hrc⟩ hd
    obtain ⟨Av, cv, rfl⟩ := hrc.shape
    have hk4 := HK4.out.ch hcw (fun h => by rcases h with h | h <;> omega)
    have c0 := hb5.cell 0
    have c1 := hb5.cell 1
    have c2 := hb5.cell 2
    have c3 := hb5.cell 3
    simp only [SgV, List.getElem?_toArray, List.getElem?_cons_zero, List.getElem?_cons_succ] at c0 c1 c2 c3
    have d0 := hk4.cell 0
    have d1 := hk4.cell 1
    have d2 := hk4.cell 2
    have d3 := hk4.cell 3
    simp only [List.getElem?_toArray, List.getElem?_cons_zero, List.getElem?_cons_succ] at d0 d1 d2 d3
    have e0 := hk4.frozen 0
    have e1 := hk4.frozen 1
    have e2 := hk4.frozen 2
    have e3 := hk4.frozen 3
    have HK4' := Lib.hid hk4
    have HRC := Lib.hid hrc
    have HCW := Lib.hid hcw
    have HD := Lib.hid hd
    clear hk4 hrc hcw hb5 hd
    gi_wp2_with fail
    have hlt : w3.heap.size < W.heap.size := (Array.getElem?_eq_some_iff.1 HD.out).1
    refine ⟨by simp, .inl ⟨_, _, rfl, run_takeDeferred (((((((Ch.refl (fun k => k = w.heap.size) W).setCell (p := ⟨w.heap.size, 0, none⟩) (fun _ => rfl) _).setCell (p := ⟨w.heap.size, 1, none⟩) (fun _ => rfl) _).setCell (p := ⟨w.heap.size, 2, none⟩) (fun _ => rfl) _).setCell (p := ⟨w.heap.size, 3, none⟩) (fun _ => rfl) _).block w3.heap.size hlt (by omega)).trans HD.out), ?_⟩⟩
    have hk5 := (((HK4'.out.set_ 0 (.int .i64 ((segOf num xs).num : Int))).set_ 1 (.int .i64 ((segOf num xs).first : Int))).set_ 2 (.int .i64 ((segOf num xs).size : Int))).set_ 3 (.slice Av (segOf num xs).recs.length cv)
    have hk6 := hk5.ch (ch_putObj _ w3.heap.size (.deferred none)) (by omega)
    refine ⟨_, results_row1 rfl _ _ w.heap.size 97 (SgV (segOf num xs) (.slice Av (segOf num xs).recs.length cv)) (0, 0) _ rfl (by have h := hk6; unfold Blk at h; simpa [SgV] using h) Tryz.underlying97 rfl info_seg, _, rfl, ?_, ?_⟩
    · have cf := (((((Ch.refl (fun k => k = w.heap.size) W).setCell (p := ⟨w.heap.size, 0, none⟩) (fun _ => rfl) (.int .i64 ((segOf num xs).num : Int))).setCell (p := ⟨w.heap.size, 1, none⟩) (fun _ => rfl) (.int .i64 ((segOf num xs).first : Int))).setCell (p := ⟨w.heap.size, 2, none⟩) (fun _ => rfl) (.int .i64 ((segOf num xs).size : Int))).setCell (p := ⟨w.heap.size, 3, none⟩) (fun _ => rfl) (.slice Av (segOf num xs).recs.length cv))
      refine (((HRC.out.ch cf (fun k h1 h2 => by omega)).ch (ch_putObj _ w3.heap.size (.deferred none)) (fun k h1 h2 => by omega)).bound).weaken (fun k hk => ⟨by have := hk.1; omega, hk.2⟩)
    · have cf := (((((Ch.refl (fun k => k = w.heap.size) W).setCell (p := ⟨w.heap.size, 0, none⟩) (fun _ => rfl) (.int .i64 ((segOf num xs).num : Int))).setCell (p := ⟨w.heap.size, 1, none⟩) (fun _ => rfl) (.int .i64 ((segOf num xs).first : Int))).setCell (p := ⟨w.heap.size, 2, none⟩) (fun _ => rfl) (.int .i64 ((segOf num xs).size : Int))).setCell (p := ⟨w.heap.size, 3, none⟩) (fun _ => rfl) (.slice Av (segOf num xs).recs.length cv))
      have c1 := (HCW.out.mono (T := fun k => w.heap.size ≤ k) (fun k _ h => by rcases h with h | h <;> omega)).trans (cf.mono (T := fun k => w.heap.size ≤ k) (fun k _ h => by omega)) (fun _ _ h => h)
      have c2 := c1.trans ((ch_putObj _ w3.heap.size (.deferred none)).mono (T := fun k => w.heap.size ≤ k) (fun k _ h => by omega)) (fun _ _ h => h)
      exact HBW.out.trans (c2.below (B := w.heap.size) (fun k hk h => by omega) (by omega))

end Go.Proofs.YtjoonpkgepkkhaaGreatDoor.Wj

/-
  Words for memory, for layer 4 (wal): a log's segments in a row, a log, a log beside its disk.
-/
namespace Go.Proofs.YtjoonpkgepkkhaaGreatDoor.Wk
open Go Go.RowKit Ck Kw Ga Dm Dw Da Db Dc Dd De Df Dg Wc Wf Wa Wb Wd Wn We Kx Wg Wh Wl Wj

/-- The cells of a row of segments. -/
def cellsS : List Sg → List Value → List Value
  | s :: l, v :: r => .int .i64 (s.num : Int) :: .int .i64 (s.first : Int) :: .int .i64 (s.size : Int) :: v :: cellsS l r
  | _, _ => []
/-- Numbers of a segment that may be. -/
structure GoodS (s : Sg) : Prop where
  num : s.num < 1000000000000000
  first : s.first ≤ 9007199254740992
  size : s.size ≤ 4194304
  few : 5 * s.recs.length ≤ s.size
theorem cellsS_len : ∀ {l : List Sg} {r : List Value}, r.length = l.length → (cellsS l r).length = l.length * 4
  | [], [], _ => rfl
  | s :: l, v :: r, h => by
    have := cellsS_len (l := l) (r := r) (by simpa using h)
    simp only [cellsS, List.length_cons, this]
    omega
  | [], _ :: _, h => by simp at h
  | _ :: _, [], h => by simp at h
theorem cellsS_at : ∀ {l : List Sg} {r : List Value} (i : Nat) (h : i < l.length) (u : Value), r[i]? = some u →
    (cellsS l r)[i * 4]? = some (.int .i64 (l[i].num : Int)) ∧ (cellsS l r)[i * 4 + 1]? = some (.int .i64 (l[i].first : Int)) ∧ (cellsS l r)[i * 4 + 2]? = some (.int .i64 (l[i].size : Int)) ∧ (cellsS l r)[i * 4 + 3]? = some u
  | s :: l, v :: r, 0, h, u, hu => by
    have hu : v = u := by simpa using hu
    subst hu
    exact ⟨rfl, rfl, rfl, rfl⟩
  | s :: l, v :: r, i + 1, h, u, hu => by
    have := cellsS_at (l := l) (r := r) i (by simpa using h) u (by simpa using hu)
    rw [Nat.succ_mul, show i * 4 + 4 + 1 = i * 4 + 1 + 4 by omega, show i * 4 + 4 + 2 = i * 4 + 2 + 4 by omega, show i * 4 + 4 + 3 = i * 4 + 3 + 4 by omega]
    simpa only [cellsS, List.getElem?_cons_succ, List.getElem_cons_succ] using this
  | _ :: _, [], i, _, u, hu => by simp at hu
  | [], _, i, h, _, _ => by simp at h
theorem cellsS_app : ∀ {l m : List Sg} {r q : List Value}, r.length = l.length → cellsS (l ++ m) (r ++ q) = cellsS l r ++ cellsS m q
  | [], m, [], q, _ => rfl
  | s :: l, m, v :: r, q, h => by simp only [List.cons_append, cellsS, cellsS_app (l := l) (m := m) (r := r) (q := q) (by simpa using h)]
  | [], _, _ :: _, _, h => by simp at h
  | _ :: _, _, [], _, h => by simp at h

/-- A row of segments in memory, in blocks of S. -/
structure Segs (w : World) (S : Nat → Prop) (v : Value) (segs : List Sg) (rv : List Value) : Prop where
  len : rv.length = segs.length
  row : w.ownsRow 0 97 4 v segs.length (cellsS segs rv)
  own : ∀ k, v.ownBlock = some k → S k
  rcs : ∀ i (h : i < segs.length), ∃ u, rv[i]? = some u ∧ Rcs w S u segs[i].recs
  apart : ∀ (i j : Nat) (u1 u2 : Value) (k : Nat), i ≠ j → rv[i]? = some u1 → rv[j]? = some u2 → u1.ownBlock = some k → u2.ownBlock ≠ some k
  good : ∀ s ∈ segs, GoodS s
section
variable {w w' : World} {S T : Nat → Prop} {v : Value} {segs : List Sg} {rv : List Value}
theorem Segs.ch (h : Segs w S v segs rv) (c : Ch T w w') (hd : ∀ k, S k → T k → False) : Segs w' S v segs rv :=
  ⟨h.len, own_ch h.row c (fun g hg ht => hd _ (h.own g hg) ht), h.own, fun i hi => by obtain ⟨u, h1, h2⟩ := h.rcs i hi; exact ⟨u, h1, h2.ch c hd⟩, h.apart, h.good⟩
theorem Segs.weaken (h : Segs w S v segs rv) (hd : ∀ k, S k → T k) : Segs w T v segs rv :=
  ⟨h.len, h.row, fun k hk => hd _ (h.own k hk), fun i hi => by obtain ⟨u, h1, h2⟩ := h.rcs i hi; exact ⟨u, h1, h2.weaken hd⟩, h.apart, h.good⟩
theorem Segs.bound (h : Segs w S v segs rv) : Segs w (fun k => S k ∧ k < w.heap.size) v segs rv :=
  ⟨h.len, h.row, fun k hk => ⟨h.own k hk, (h.row.lt k hk).2⟩, fun i hi => by obtain ⟨u, h1, h2⟩ := h.rcs i hi; exact ⟨u, h1, h2.bound⟩, h.apart, h.good⟩
theorem Segs.nil (w : World) (S : Nat → Prop) : Segs w S (.slice none 0 0) [] [] :=
  ⟨rfl, World.ownsRow_nil _ _ _ _, by simp [Value.ownBlock], fun i h => absurd h (by simp), fun i j u1 u2 k _ (h : ([] : List Value)[i]? = some u1) => by simp at h, fun s h => by simp at h⟩
/-- Where it lies. -/
theorem Segs.at_ (h : Segs w S v segs rv) (hne : 0 < segs.length) : ∃ gb cap, v = .slice (some ⟨gb, 0, none⟩) segs.length cap ∧ S gb ∧ gb < w.heap.size ∧ segs.length ≤ cap ∧
    ∀ i (hi : i < segs.length), ∃ u, rv[i]? = some u ∧ w.cell? ⟨gb, i * 4, none⟩ = some (.int .i64 (segs[i].num : Int)) ∧ w.cell? ⟨gb, i * 4 + 1, none⟩ = some (.int .i64 (segs[i].first : Int)) ∧
      w.cell? ⟨gb, i * 4 + 2, none⟩ = some (.int .i64 (segs[i].size : Int)) ∧ w.cell? ⟨gb, i * 4 + 3, none⟩ = some u ∧ (∀ j, w.frozen? ⟨gb, j, none⟩ = false) ∧ Rcs w S u segs[i].recs := by
  rcases h.row.2 with ⟨_, h0⟩ | ⟨g, cap, cur, rfl, hb, hg, hnc, hcm, hsz, ht⟩
  · omega
  · refine ⟨g, cap, rfl, h.own g rfl, (Array.getElem?_eq_some_iff.1 hg).1, hnc, fun i hi => ?_⟩
    obtain ⟨u, hu, hr⟩ := h.rcs i hi
    obtain ⟨c0, c1, c2, c3⟩ := cellsS_at i hi u hu
    have cell : ∀ (j : Nat) (x : Value), (cellsS segs rv)[j]? = some x → w.cell? ⟨g, j, none⟩ = some x := fun j x hx => by
      have hj : j < segs.length * 4 := by have := (List.getElem?_eq_some_iff.1 hx).1; rw [cellsS_len h.len] at this; exact this
      rw [← ht, List.getElem?_take, if_pos hj] at hx
      rw [cell_of_row w g j cur _ (0, 0) hg]
      simpa using hx
    refine ⟨u, hu, cell _ _ c0, cell _ _ c1, cell _ _ c2, cell _ _ c3, fun j => ?_, hr⟩
    simp [World.frozen?, hg]
end

/-- Block g is a log on the disk at p. -/
def Lg (w : World) (S : Nat → Prop) (g p : Nat) (name : Tx) (most : Nat) (segs : List Sg) (synced : Nat) : Prop :=
  ∃ v rv, Blk w g 64 #[.pointer (some ⟨p, 0, none⟩), .string ⟨name.toArray⟩, .int .i64 (most : Int), v, .int .i64 (synced : Int)] ∧ S g ∧ Segs w (fun k => S k ∧ k ≠ g) v segs rv ∧ name.length ≤ 16 ∧ most ≤ 4194304
section
variable {w w' : World} {S T : Nat → Prop} {g p most synced : Nat} {name : Tx} {segs : List Sg}
theorem Lg.ch (h : Lg w S g p name most segs synced) (c : Ch T w w') (hd : ∀ k, S k → T k → False) : Lg w' S g p name most segs synced := by
  obtain ⟨v, rv, h1, h2, h3, h4⟩ := h
  exact ⟨v, rv, h1.ch c (fun ht => hd _ h2 ht), h2, h3.ch c (fun k hk ht => hd _ hk.1 ht), h4⟩
theorem Lg.weaken (h : Lg w S g p name most segs synced) (hd : ∀ k, S k → T k) : Lg w T g p name most segs synced := by
  obtain ⟨v, rv, h1, h2, h3, h4⟩ := h
  exact ⟨v, rv, h1, hd _ h2, h3.weaken (fun k hk => ⟨hd _ hk.1, hk.2⟩), h4⟩
theorem Lg.after (h : Lg w S g p name most segs synced) (b : Below w.heap.size w w') : Lg w' S g p name most segs synced :=
  h.ch (Ch.of_below (S := fun _ => False) b (Nat.le_refl _)) (fun _ _ h => h)
theorem Lg.drewN (h : Lg w S g p name most segs synced) (n : Nat) : Lg (w.drewN n) S g p name most segs synced := h.after (below_drewN (Below.refl _ w) n)
end
/-- A log beside its disk, all in blocks of S. -/
def LD (w : World) (S : Nat → Prop) (g p : Nat) (L : List Fl) (room : Nat) (off : Bool) (name : Tx) (most : Nat) (segs : List Sg) (synced : Nat) : Prop :=
  ∃ S1 S2, Lg w S1 g p name most segs synced ∧ Dk w S2 p L room off ∧ (∀ k, S1 k → S k ∧ k < w.heap.size) ∧ (∀ k, S2 k → S k ∧ k < w.heap.size) ∧ ∀ k, S1 k → S2 k → False

end Go.Proofs.YtjoonpkgepkkhaaGreatDoor.Wk

/-
  Contracts of layer 4's log: what only reads.
-/
namespace Go.Proofs.YtjoonpkgepkkhaaGreatDoor.Wo
open Go Go.RowKit Ck Kw Ga Dm Dw Da Db Dc Dd De Df Dg Wc Wf Wa Wb Wd Wn We Kx Wg Wh Wl Wj Wk
attribute [local go_sem ↓] Go.wp_at_zero Go.wp_at_succ
set_option linter.unusedVariables false

/-- A log's cells: its block is g, its row of segments is gb. -/
structure LgC (w : World) (g p gb cap : Nat) (name : Tx) (most : Nat) (segs : List Sg) (synced : Nat) : Prop where
  blk : Blk w g 64 #[.pointer (some ⟨p, 0, none⟩), .string ⟨name.toArray⟩, .int .i64 (most : Int), .slice (some ⟨gb, 0, none⟩) segs.length cap, .int .i64 (synced : Int)]
  glt : gb < w.heap.size
  frz : ∀ j, w.frozen? ⟨gb, j, none⟩ = false
  row : ∀ i (h : i < segs.length), ∃ A c, w.cell? ⟨gb, i * 4, none⟩ = some (.int .i64 (segs[i].num : Int)) ∧ w.cell? ⟨gb, i * 4 + 1, none⟩ = some (.int .i64 (segs[i].first : Int)) ∧
    w.cell? ⟨gb, i * 4 + 2, none⟩ = some (.int .i64 (segs[i].size : Int)) ∧ w.cell? ⟨gb, i * 4 + 3, none⟩ = some (.slice A segs[i].recs.length c)
  good : ∀ s ∈ segs, GoodS s
  nml : name.length ≤ 16
  mst : most ≤ 4194304
  cpl : segs.length ≤ cap
section
variable {w w' : World} {S T : Nat → Prop} {g p gb cap most synced : Nat} {name : Tx} {segs : List Sg}
theorem _root_.Go.Proofs.YtjoonpkgepkkhaaGreatDoor.Wk.Lg.cells (h : Lg w S g p name most segs synced) (hne : 0 < segs.length) : ∃ gb cap, LgC w g p gb cap name most segs synced ∧ S gb ∧ gb ≠ g := by
  obtain ⟨v, rv, h1, h2, h3, h4, h5⟩ := h
  obtain ⟨gb, cap, rfl, k1, k2, k3, k4⟩ := h3.at_ hne
  refine ⟨gb, cap, ⟨h1, k2, fun j => ?_, fun i hi => ?_, h3.good, h4, h5, k3⟩, k1.1, k1.2⟩
  · obtain ⟨u, _, _, _, _, _, hf, _⟩ := k4 0 hne
    exact hf j
  · obtain ⟨u, hu, c0, c1, c2, c3, hf, hr⟩ := k4 i hi
    obtain ⟨A, c, rfl⟩ := hr.shape
    exact ⟨A, c, c0, c1, c2, c3⟩
theorem LgC.ch (h : LgC w g p gb cap name most segs synced) (c : Ch T w w') (hg : ¬ T g) (hb : ¬ T gb) : LgC w' g p gb cap name most segs synced := by
  have hk : ∀ {j : Nat} {v : Value}, w.cell? ⟨gb, j, none⟩ = some v → w'.cell? ⟨gb, j, none⟩ = some v := fun {j v} hc => c.cell hc hb
  refine ⟨h.blk.ch c hg, Nat.lt_of_lt_of_le h.glt c.size, fun j => ?_, fun i hi => ?_, h.good, h.nml, h.mst, h.cpl⟩
  · have := h.frz j
    simp only [World.frozen?] at this ⊢
    rw [c.block gb h.glt hb]
    exact this
  · obtain ⟨A, cc, c0, c1, c2, c3⟩ := h.row i hi
    exact ⟨A, cc, hk c0, hk c1, hk c2, hk c3⟩
theorem LgC.after (h : LgC w g p gb cap name most segs synced) (b : Below w.heap.size w w') : LgC w' g p gb cap name most segs synced :=
  h.ch (Ch.of_below (S := fun _ => False) b (Nat.le_refl _)) (fun h => h) (fun h => h)
end

theorem made_log (w : World) (g p gb cap : Nat) (name : Tx) (most : Nat) (segs : List Sg) (synced : Nat) (h : LgC w g p gb cap name most segs synced) :
    Calls Tryz.prog 53 #[.pointer (some ⟨g, 0, none⟩)] w fun e w' => e = .returned (.bool true) ∧ w = w' := by
  have c0 := h.blk.cell 0
  simp only [List.getElem?_toArray, List.getElem?_cons_zero] at c0
  clear h
  go_enter Tryz.func53, Tryz.ntmps53
  go_wp2
  go_ret
  exact ⟨rfl, rfl⟩

set_option maxHeartbeats 1000000 in
theorem last_log (w : World) (g p gb cap : Nat) (name : Tx) (most : Nat) (ls : List Sg) (s : Sg) (synced : Nat) (h : LgC w g p gb cap name most (ls ++ [s]) synced) (hl : ls.length ≤ 549755813888) :
    Calls Tryz.prog 54 #[.pointer (some ⟨g, 0, none⟩)] w fun e w' => e = .returned (.pointer (some ⟨gb, ls.length * 4, none⟩)) ∧ ∃ n, w' = w.drewN n := by
  have c3 := h.blk.cell 3
  simp only [List.getElem?_toArray, List.getElem?_cons_zero, List.getElem?_cons_succ, List.length_append, List.length_cons, List.length_nil, Nat.zero_add] at c3
  generalize ls.length = n at *
  have hw : IntKind.i64.wrap ((n : Int) + 1 - 1) = (n : Int) := by rw [wrap64 (by omega) (by omega)]; omega
  have h0 : (0 : Int) ≤ (n : Int) := by omega
  have h1 : (n : Int) < (n : Int) + 1 := by omega
  clear h
  go_enter Tryz.func54, Tryz.ntmps54
  go_wp2_with fail
  go_quiet (fail)
  go_wp2
  go_ret
  exact ⟨rfl, _, rfl⟩

theorem below_of_drewN {B n : Nat} {w w2 : World} (h : Below B (w.drewN n) w2) : Below B w w2 := ⟨h.os, h.tape, h.output, h.size, h.block⟩
set_option maxHeartbeats 1000000 in
/-- The name of the file of a segment whose first cell is known. -/
theorem file_log (w : World) (g p : Nat) (name : Tx) (most : Nat) (synced : Nat) (v3 : Value) (h : Blk w g 64 #[.pointer (some ⟨p, 0, none⟩), .string ⟨name.toArray⟩, .int .i64 (most : Int), v3, .int .i64 (synced : Int)]) (hn : name.length ≤ 16) (hT : Tab w)
    (b o k : Nat) (hk : k < 1000000000000000) (hc : w.cell? ⟨b, o, none⟩ = some (.int .i64 (k : Int))) :
    Calls Tryz.prog 56 #[.pointer (some ⟨g, 0, none⟩), .pointer (some ⟨b, o, none⟩)] w fun e w' => e = .returned (.string ⟨(nm name k).toArray⟩) ∧ Below w.heap.size w w' := by
  have c1 := h.cell 1
  simp only [List.getElem?_toArray, List.getElem?_cons_zero, List.getElem?_cons_succ] at c1
  have HT := Lib.hid hT
  clear h hT
  go_enter Tryz.func56, Tryz.ntmps56
  go_wp2_with fail
  go_region_held3 (fun w' => w'.cell? ⟨g, 1, none⟩ = some (.string ⟨name.toArray⟩) ∧ w'.cell? ⟨b, o, none⟩ = some (.int .i64 (k : Int))) (exact ⟨c1, hc⟩)
    (first
    | (go_at_call 89; refine (file_name _ name k (HT.out.after (below_drewN (Below.refl _ w) 1)) hk (by omega)).mono ?_; rintro e w2 ⟨rfl, hb2⟩; have c1 := (hb2.cell (World.block_lt_of_cell? _ _ c1)).trans c1; have hc := (hb2.cell (World.block_lt_of_cell? _ _ hc)).trans hc))
  go_wp2_with fail
  go_ret
  exact ⟨rfl, below_of_drew hb2⟩

theorem next_any (w : World) (s : Sg) (A : Option Addr) (c : Nat) (hg : GoodS s) :
    Calls Tryz.prog 58 #[.agg (SgV s (.slice A s.recs.length c))] w fun e w' => e = .returned (.int .i64 ((s.first + s.recs.length : Nat) : Int)) ∧ Below w.heap.size w w' := by
  have h1 := hg.first
  have h2 := hg.few
  have h3 := hg.size
  obtain ⟨a, b, z, r⟩ := s
  simp only at h1 h2 h3
  simp only [SgV]
  generalize r.length = n at *
  clear hg
  go_enter Tryz.func58, Tryz.ntmps58
  go_wp2
  go_ret
  exact ⟨rfl, (Below.refl _ _).alloc (Nat.le_refl _) _⟩

/-- The numbers of the last segment. -/
def lastS (s : Sg) : Int := (s.first : Int) + (s.recs.length : Int) - 1
set_option maxHeartbeats 1000000 in
theorem lastn_log (w : World) (g p gb cap : Nat) (name : Tx) (most : Nat) (ls : List Sg) (s : Sg) (synced : Nat) (h : LgC w g p gb cap name most (ls ++ [s]) synced) (hl : ls.length ≤ 549755813888) :
    Calls Tryz.prog 24 #[.pointer (some ⟨g, 0, none⟩)] w fun e w' => e = .returned (.int .i64 (lastS s)) ∧ Below w.heap.size w w' := by
  have hg := h.good s (by simp)
  obtain ⟨A, c, c0, c1, c2, c3⟩ := h.row ls.length (by simp)
  simp only [List.getElem_append_right (Nat.le_refl _), Nat.sub_self, List.getElem_cons_zero] at c0 c1 c2 c3
  have HN := fun W => next_any W s A c hg
  simp only [SgV] at HN
  have HN := Lib.hid HN
  have HM := Lib.hid (made_log w g p gb cap name most _ synced h)
  have HL := Lib.hid (last_log w g p gb cap name most ls s synced h hl)
  have h1 := hg.first
  have h2 := hg.few
  have h3 := hg.size
  have HV := Lib.hid (show lastS s = (s.first : Int) + (s.recs.length : Int) - 1 from rfl)
  clear h hg
  generalize ls.length = n at *
  go_enter Tryz.func24, Tryz.ntmps24
  go_wp2_with (first
    | (go_at_call 53; refine HM.out.mono ?_; rintro e w1 ⟨rfl, rfl⟩)
    | (go_at_call 54; refine HL.out.mono ?_; rintro e w1 ⟨rfl, nn, rfl⟩)
    | (go_at_call 58; refine (HN.out _).mono ?_; rintro e w2 ⟨rfl, hb2⟩))
  go_ret
  exact ⟨by rw [HV.out]; rfl, below_of_drewN hb2⟩

theorem first_log (w : World) (g p gb cap : Nat) (name : Tx) (most : Nat) (s : Sg) (ls : List Sg) (synced : Nat) (h : LgC w g p gb cap name most (s :: ls) synced) (hl : ls.length ≤ 549755813888) :
    Calls Tryz.prog 25 #[.pointer (some ⟨g, 0, none⟩)] w fun e w' => e = .returned (.int .i64 (s.first : Int)) ∧ w = w' := by
  obtain ⟨A, c, c0, c1, c2, c3⟩ := h.row 0 (by simp)
  simp only [List.getElem_cons_zero, Nat.zero_mul, Nat.zero_add] at c1
  have d3 := h.blk.cell 3
  simp only [List.getElem?_toArray, List.getElem?_cons_zero, List.getElem?_cons_succ, List.length_cons] at d3
  have HM := Lib.hid (made_log w g p gb cap name most _ synced h)
  clear h c0 c2 c3
  generalize ls.length = n at *
  go_enter Tryz.func25, Tryz.ntmps25
  go_wp2_with (go_at_call 53; refine HM.out.mono ?_; rintro e w1 ⟨rfl, rfl⟩)
  go_ret
  exact ⟨rfl, rfl⟩
theorem synced_log (w : World) (g p gb cap : Nat) (name : Tx) (most : Nat) (segs : List Sg) (synced : Nat) (h : LgC w g p gb cap name most segs synced) :
    Calls Tryz.prog 23 #[.pointer (some ⟨g, 0, none⟩)] w fun e w' => e = .returned (.int .i64 (synced : Int)) ∧ w = w' := by
  have d4 := h.blk.cell 4
  simp only [List.getElem?_toArray, List.getElem?_cons_zero, List.getElem?_cons_succ] at d4
  have HM := Lib.hid (made_log w g p gb cap name most _ synced h)
  clear h
  go_enter Tryz.func23, Tryz.ntmps23
  go_wp2_with (go_at_call 53; refine HM.out.mono ?_; rintro e w1 ⟨rfl, rfl⟩)
  go_ret
  exact ⟨rfl, rfl⟩

end Go.Proofs.YtjoonpkgepkkhaaGreatDoor.Wo

/-
  Plain mathematics of layer 4 (wal): what beginning a segment makes of a disk's files.
-/
namespace Go.Proofs.YtjoonpkgepkkhaaGreatDoor.Wq
open Dm De Df Dg Dh Wf Wn Wg

theorem isIn_cons {L : List Fl} {f : Fl} {s : Tx} (h : isIn (f :: L) s = false) : f.n ≠ s ∧ isIn L s = false := by
  unfold isIn at h ⊢
  simp only [List.any_cons, Bool.or_eq_false_iff, beq_eq_false_iff_ne] at h
  exact h
theorem find_ins {x : Fl} : ∀ {L : List Fl}, isIn L x.n = false → find (ins x L) x.n = some x
  | [], _ => by simp [ins, find]
  | f :: L, h => by
    obtain ⟨h1, h2⟩ := isIn_cons h
    unfold ins
    split
    · have := find_ins (x := x) h2
      unfold find at this ⊢
      rw [List.find?_cons_of_neg (by simpa using h1)]
      exact this
    · simp [find]
theorem upd_ins {x : Fl} {g : Fl → Fl} (hg : (g x).n = x.n) : ∀ {L : List Fl}, isIn L x.n = false → upd (ins x L) x.n g = ins (g x) L
  | [], _ => by simp [ins, upd]
  | f :: L, h => by
    obtain ⟨h1, h2⟩ := isIn_cons h
    unfold ins
    rw [hg]
    split
    · have := upd_ins (g := g) hg h2
      unfold upd at this ⊢
      rw [List.map_cons, this, if_neg h1]
    · have : L.map (fun f => if f.n = x.n then g f else f) = L := by
        conv => rhs; rw [← List.map_id L]
        refine List.map_congr_left (fun f' hf => ?_)
        rw [if_neg]
        · rfl
        · intro e
          have := isIn_iff.2 ⟨f', hf, e⟩
          rw [this] at h2
          cases h2
      unfold upd
      rw [List.map_cons, List.map_cons, if_pos rfl, if_neg h1, this]
theorem del_same {s : Tx} {L : List Fl} (h : isIn L s = false) : del L s = L := by
  unfold del
  refine List.filter_eq_self.2 (fun f hf => ?_)
  simp only [Bool.not_eq_true', beq_eq_false_iff_ne]
  intro e
  rw [isIn_iff.2 ⟨f, hf, e⟩] at h
  cases h
theorem del_ins {x : Fl} : ∀ {L : List Fl}, isIn L x.n = false → del (ins x L) x.n = L
  | [], _ => by simp [ins, del]
  | f :: L, h => by
    obtain ⟨h1, h2⟩ := isIn_cons h
    unfold ins
    split
    · have := del_ins (x := x) h2
      unfold del at this ⊢
      rw [List.filter_cons_of_pos (by simpa using h1), this]
    · have := del_same h2
      unfold del at this ⊢
      rw [List.filter_cons_of_neg (by simp), List.filter_cons_of_pos (by simpa using h1), this]

/-- What begin makes of the files: with a head, or not at all. -/
def begS (L : List Fl) (room : Nat) (name : Tx) (number first : Nat) : List Fl × Nat :=
  if 9007199254740992 < first then (L, 6) else if 999999999999999 < number then (L, 6)
  else if isIn L (nm name number) then (L, 31) else if 64 ≤ L.length then (L, 6)
  else if room < (head first).length + used L then (L, 30) else (ins ⟨nm name number, head first, (head first).length⟩ L, 0)
theorem used_ins {x : Fl} {L : List Fl} : used (ins x L) = x.b.length + used L := by rw [used_perm (ins_perm x L)]; rfl

theorem beg_steps {L : List Fl} {room : Nat} {name : Tx} {number first : Nat} (h1 : ¬ 9007199254740992 < first) (h2 : ¬ 999999999999999 < number) :
    (∃ c, c ≠ 0 ∧ c < 100 ∧ createS L false (nm name number) = (L, c) ∧ begS L room name number first = (L, c)) ∨
    (∃ L1, createS L false (nm name number) = (L1, 0) ∧ ((appS L1 room false (nm name number) (head first) = (L1, 30) ∧ remS L1 false (nm name number) = (L, 0) ∧ begS L room name number first = (L, 30)) ∨
      ∃ L2 L3, appS L1 room false (nm name number) (head first) = (L2, 0) ∧ syncS L2 false (nm name number) = (L3, 0) ∧ begS L room name number first = (L3, 0) ∧ L3 = ins ⟨nm name number, head first, (head first).length⟩ L)) := by
  have hne := nm_ne name number
  unfold begS
  rw [if_neg h1, if_neg h2]
  by_cases hi : isIn L (nm name number) = true
  · refine .inl ⟨31, by omega, by omega, ?_, ?_⟩
    · simp [createS, hne, hi]
    · rw [if_pos hi]
  · have hi : isIn L (nm name number) = false := by simpa using hi
    by_cases h64 : 64 ≤ L.length
    · refine .inl ⟨6, by omega, by omega, ?_, ?_⟩
      · simp [createS, hne, hi, h64]
      · rw [if_neg (by rw [hi]; simp), if_pos h64]
    · refine .inr ⟨ins ⟨nm name number, [], 0⟩ L, ?_, ?_⟩
      · simp only [createS]
        rw [if_neg (by simp), if_neg hne, if_neg (by rw [hi]; simp), if_neg h64]
      · have hf := find_ins (x := ⟨nm name number, [], 0⟩) hi
        simp only at hf
        rw [if_neg (by rw [hi]; simp), if_neg h64]
        have ha : appS (ins ⟨nm name number, [], 0⟩ L) room false (nm name number) (head first) = putS (ins ⟨nm name number, [], 0⟩ L) room ⟨nm name number, [], 0⟩ 0 (head first) := by simp [appS, hf]
        have hu : used (ins ⟨nm name number, [], 0⟩ L) = used L := by rw [used_ins]; simp
        by_cases hr : room < (head first).length + used L
        · refine .inl ⟨?_, ?_, ?_⟩
          · rw [ha, putS, if_pos (by rw [hu]; simp; omega)]
          · simp only [remS, hf]
            rw [if_neg (by simp), del_ins (x := ⟨nm name number, [], 0⟩) hi]
          · rw [if_pos hr]
        · have hw : Db.wr [] 0 (head first) = head first := by simp [Db.wr]
          refine .inr ⟨ins ⟨nm name number, head first, 0⟩ L, ins ⟨nm name number, head first, (head first).length⟩ L, ?_, ?_, ?_, rfl⟩
          · rw [ha, putS, if_neg (by rw [hu]; simp; omega)]
            simp only [hw, Nat.min_zero]
            rw [upd_ins (x := ⟨nm name number, [], 0⟩) rfl hi]
            rfl
          · have hf2 := find_ins (x := ⟨nm name number, head first, 0⟩) hi
            simp only at hf2
            simp only [syncS, hf2]
            rw [if_neg (by simp), upd_ins (x := ⟨nm name number, head first, 0⟩) rfl hi]
            rfl
          · rw [if_neg hr]

end Go.Proofs.YtjoonpkgepkkhaaGreatDoor.Wq

/-
  Contract of layer 4's begin: another segment.
-/
namespace Go.Proofs.YtjoonpkgepkkhaaGreatDoor.Wr
open Go Go.RowKit Ck Kw Ga Dm Dw Da Db Dc Dd De Df Dg Dh Wc Wf Wa Wb Wd Wn We Kx Wg Wh Wl Wj Wk Wo Wq
attribute [local go_sem ↓] Go.wp_at_zero Go.wp_at_succ
set_option linter.unusedVariables false

def segCells (s : Sg) (u : Value) : List Value := [.int .i64 (s.num : Int), .int .i64 (s.first : Int), .int .i64 (s.size : Int), u]
section
variable {w w' : World} {S T : Nat → Prop} {v v' u : Value} {segs : List Sg} {rv : List Value} {s : Sg}
/-- A segment more. -/
theorem Segs.push (h : Segs w S v segs rv) (hu : Rcs w S u s.recs) (hap : ∀ (k i : Nat) (u1 : Value), u.ownBlock = some k → rv[i]? = some u1 → u1.ownBlock ≠ some k) (hg : GoodS s)
    (ha : Appended w 0 97 4 v (segs.length + 1) (cellsS segs rv ++ segCells s u) v' w') : Segs w' (Up S w w') v' (segs ++ [s]) (rv ++ [u]) := by
  obtain ⟨ho, hgr, hloc⟩ := ha
  have cg : Ch (fun k => v.ownBlock = some k) w w' := Ch.of_grown hgr (fun g hg _ => hg)
  have hc : cellsS segs rv ++ segCells s u = cellsS (segs ++ [s]) (rv ++ [u]) := by rw [cellsS_app h.len]; rfl
  have hkeep : ∀ {x : Value} {rs : List Tx}, Rcs w S x rs → Rcs w' (Up S w w') x rs := fun {x rs} hx => by
    refine Rcs.weaken (hx.keep cg (fun k hk hv => ?_) (fun k b n y A cc hrow hk hv => row_far hrow h.row (by decide) hk hv)) (fun k hk => .inl hk)
    obtain ⟨vals, h1, _⟩ := hx
    exact row_far h1 h.row (by decide) hk hv
  refine ⟨by simp [h.len], by rw [List.length_append]; rw [hc] at ho; exact ho, fun k hk => ?_, fun i hi => ?_, fun i j u1 u2 k hij h1 h2 hk => ?_, fun x hx => ?_⟩
  · rcases hloc with hb | hb
    · rw [hb] at hk; exact .inl (h.own k hk)
    · rw [hb] at hk; injection hk with hk; exact .inr ⟨by omega, by have := (ho.lt _ hb).2; omega⟩
  · by_cases hlt : i < segs.length
    · obtain ⟨x, h1, h2⟩ := h.rcs i hlt
      rw [List.getElem_append_left hlt]
      exact ⟨x, by rw [List.getElem?_append_left (by rw [h.len]; exact hlt)]; exact h1, hkeep h2⟩
    · have hi' : i = segs.length := by rw [List.length_append] at hi; simp at hi; omega
      subst hi'
      rw [List.getElem_append_right (Nat.le_refl _)]
      simp only [Nat.sub_self, List.getElem_cons_zero]
      exact ⟨u, by rw [List.getElem?_append_right (by rw [h.len]; exact Nat.le_refl _), h.len]; simp, hkeep hu⟩
  · have hsplit : ∀ (i : Nat) (x : Value), (rv ++ [u])[i]? = some x → rv[i]? = some x ∨ (i = rv.length ∧ x = u) := fun i x hx => by
      by_cases hlt : i < rv.length
      · rw [List.getElem?_append_left hlt] at hx; exact .inl hx
      · rw [List.getElem?_append_right (by omega)] at hx
        have : i - rv.length = 0 := by have := (List.getElem?_eq_some_iff.1 hx).1; simp at this; omega
        rw [this] at hx
        exact .inr ⟨by omega, by simpa using hx.symm⟩
    rcases hsplit i u1 h1 with g1 | ⟨g1, rfl⟩ <;> rcases hsplit j u2 h2 with g2 | ⟨g2, rfl⟩
    · exact h.apart i j u1 u2 k hij g1 g2 hk
    · exact fun e => hap k i u1 e g1 hk
    · exact hap k j u2 hk g2
    · omega
  · rcases List.mem_append.1 hx with hx | hx
    · exact h.good x hx
    · rw [List.mem_singleton.1 hx]; exact hg
end
theorem seg_lit (w : World) (X : Nat → Prop) (t : TypeId) (s : Sg) (u : Value) (hX : ¬ X w.heap.size) : Sl (w.alloc (.cells (SgV s u) t)) X 4 (.slice (some ⟨w.heap.size, 0, none⟩) 1 1) 1 (segCells s u) := by
  refine ⟨_, _, rfl, rfl, Nat.le_refl _, by simp only [maxLen]; omega, fun _ => ⟨_, rfl, by simp, hX, fun j x hx => ?_⟩⟩
  have ha : (⟨w.heap.size, 0, none⟩ : Addr).add j = ⟨w.heap.size, j, none⟩ := by unfold Addr.add; split <;> simp_all
  rw [ha, Blk.cell (Blk.new w t _) j]
  simpa [SgV, segCells] using hx
theorem segCells_one (s : Sg) (A : Option Addr) (n c : Nat) : ∀ x ∈ segCells s (.slice A n c), x.oneCell' = true := by
  intro x hx
  simp only [segCells, List.mem_cons, List.not_mem_nil, or_false] at hx
  rcases hx with rfl | rfl | rfl | rfl <;> rfl
theorem info_segs : (Tryz.prog.info? 97).map (fun i => (i.zero, i.size, i.bytes)) = some (some (.agg #[.int .i64 0, .int .i64 0, .int .i64 0, .slice none 0 0]), 4, 48) := by kernel_rfl

end Go.Proofs.YtjoonpkgepkkhaaGreatDoor.Wr

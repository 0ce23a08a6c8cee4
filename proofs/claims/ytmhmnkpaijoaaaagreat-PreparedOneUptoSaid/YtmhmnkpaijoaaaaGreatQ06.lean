/-
  Layer 6 (op): the contracts of parts and records (a row of their own, the parts shared), of slices.Clone at records, of EqualFunc and Same.
-/
import Derived.Test.YtmhmnkpaijoaaaaGreatQ03
import Derived.Test.YtmhmnkpaijoaaaaGreatQCi
import Derived.Test.YtmhmnkpaijoaaaaGreatQ01
import Derived.Lib.SliceRun
import Derived.Lib.MinMax
import Derived.Lib.SlBytesConst
import Derived.Deep.QuietTactic
import Derived.BigQuiet
import Derived.Deep.RegionWith
import Derived.Deep.RegionHeld3
import Derived.Deep.RegionLaw
import Derived.Deep.DrawnRows
import Derived.Deep.AppendLies
import Derived.Laws.CopyOwn
import Derived.RegionTactic
import Derived.Lib.ConvBytes
import Derived.Test.YtmhmnkpaijoaaaaGreatQ04
namespace Go.Proofs.YtmhmnkpaijoaaaaGreat.Ppi
set_option linter.unusedSimpArgs false
open Go Go.RowKit Ck Kw Ca Cb Ci Pm Pa Pe Pf Pg
set_option linter.unusedVariables false

theorem info_sl : (Tryz.prog.info? 32).map (fun i => (i.zero, i.size, i.bytes)) = some (some (.slice none 0 0), 1, 24) := by kernel_rfl
theorem info_rec : (Tryz.prog.info? 195).map (fun i => (i.zero, i.size, i.bytes)) = some (some (.slice none 0 0), 1, 24) := by kernel_rfl

/-- A list's row made anew: its parts are those that they were. -/
def Rowed (w : World) (X : Nat → Prop) (ls : List Tx) (e : Ending) (w' : World) : Prop :=
  ∃ A c, e = .returned (.slice A ls.length c) ∧ Ls w' (fun k => X k ∧ k < w.heap.size) (.slice A ls.length c) ls ∧ Below w.heap.size w w'
theorem rowed_of {w w' : World} {X : Nat → Prop} {ls : List Tx} {vals : List Value} {v : Value} {t : TypeId} (hown : w'.ownsRow w.heap.size t 1 v ls.length vals)
    (hels : ∀ i (h : i < ls.length), ∃ u, vals[i]? = some u ∧ Sl w X 1 u ls[i].length (BVs ls[i])) (hb : Below w.heap.size w w') : Rowed w X ls (.returned v) w' := by
  obtain ⟨A, c, rfl⟩ := own_shape hown
  refine ⟨A, c, rfl, ⟨vals, Sl.of_own hown (fun k hk _ hx => by omega), fun i hi => ?_⟩, hb⟩
  obtain ⟨u, hu, hs⟩ := hels i hi
  exact ⟨u, hu, (hs.after hb).weaken (fun k _ hk => hk.1)⟩
theorem ls_vals {w : World} {X : Nat → Prop} {A : Option Addr} {c : Nat} {ls : List Tx} (h : Ls w X (.slice A ls.length c) ls) :
    ∃ vals : List Value, vals.length = ls.length ∧ (∀ k (hk : k < ls.length), ∃ ad B d, A = some ad ∧ vals[k]? = some (.slice B ls[k].length d) ∧ w.cell? (ad.add k) = some (.slice B ls[k].length d) ∧ ad.block < w.heap.size) ∧
      ∀ i (hi : i < ls.length), ∃ u, vals[i]? = some u ∧ Sl w X 1 u ls[i].length (BVs ls[i]) := by
  obtain ⟨vals, h1, h2⟩ := h
  obtain ⟨A0, c0, hv, hl, hc, hm, hx⟩ := h1
  obtain ⟨e1, e2, e3⟩ := Value.slice.inj hv
  refine ⟨vals, by omega, fun k hk => ?_, h2⟩
  obtain ⟨ad, hA, hb, hX, hcell⟩ := hx (by omega)
  obtain ⟨u, hu, h3⟩ := h2 k hk
  obtain ⟨B, d, rfl, -⟩ := h3
  exact ⟨ad, B, d, e1.trans hA, hu, hcell k _ hu, hb⟩

set_option maxHeartbeats 1000000 in
theorem parts_any (w : World) (X : Nat → Prop) (A : Option Addr) (c : Nat) (ls : List Tx) (hls : Ls w X (.slice A ls.length c) ls) (hl : ls.length ≤ 1000000) :
    Calls Tryz.prog 179 #[.slice A ls.length c] w (Rowed w X ls) := by
  obtain ⟨vals, hvl, hcell, hels⟩ := ls_vals hls
  have HV := Lib.hid hvl
  have HC := Lib.hid hcell
  have HE := Lib.hid hels
  obtain ⟨i0, hi0, hz0, hz1, hz2⟩ := info_parts info_sl
  clear hls hvl hcell hels
  go_enter Tryz.func179, Tryz.ntmps179
  go_wp2
  go_loopw [3, 8] (fun v i wr => ∃ k : Nat, k ≤ ls.length ∧ i = .int .i64 k ∧ wr.ownsRow w.heap.size 32 1 v k (vals.take k) ∧ Below w.heap.size w wr) (fun _ i _ => ls.length - (intOf i).toNat)
  case atStart => exact ⟨0, Nat.zero_le _, rfl, World.ownsRow_nil _ _ _ _, Below.refl _ _⟩
  case round =>
    obtain ⟨k, hk, rfl, hown, hb⟩ := hrel
    by_cases hlt : k < ls.length
    · obtain ⟨ad, B, d, rfl, hu, hc, hlt2⟩ := HC.out k hlt
      have hc' := (hb.cell (p := ad.add k) (by rw [add_block]; exact hlt2)).trans hc
      have HU : Hid (vals.take (k + 1) = vals.take k ++ [.slice B ls[k].length d]) := Lib.hid (by
        rw [List.take_add_one, hu]; rfl)
      have hsz := hb.size
      clear hc hu
      go_wp2_with (at_builtin; refine wpList_append_sl _ rfl (.tmp 12) (.tmp 14) _ rfl w.heap.size 32 i0 _ 1 24 Tryz.underlying56 hi0 hz0 hz1 hz2 rfl (by omega) u3 k (vals.take k) rfl (hown.alloc _) (fun _ => False) _ 1 [.slice B ls[k].length d] rfl (one_newv wr _ _ _ (fun h => h)) (by simp [Value.oneCell']) (by simp only [maxLen]; omega) (by omega) (by simp; omega) ?_; intro v4 w4 happ)
      go_roundw
      case rel =>
        have hb1 : Below w.heap.size w (wr.alloc (.cells #[.slice B ls[k].length d] 32)) := hb.alloc hsz _
        refine ⟨k + 1, by omega, by go_num, by rw [HU.out]; exact happ.1, hb1.grown happ.2.1 hb1.size (fun g hg => (hown.lt g hg).1)⟩
      case measure => simp [intOf]; omega
    · have hke : k = ls.length := by omega
      have HT : Hid (vals.take k = vals) := Lib.hid (by rw [hke, ← HV.out, List.take_length])
      go_wp2
      go_ret
      rw [HT.out] at hown
      rw [hke] at hown
      exact rowed_of hown HE.out hb

set_option maxHeartbeats 1000000 in
theorem rclone_any (w : World) (X : Nat → Prop) (A : Option Addr) (c : Nat) (ls : List Tx) (hls : Ls w X (.slice A ls.length c) ls) (hl : ls.length * 24 ≤ 140737488355328) :
    Calls Tryz.prog 151 #[.slice A ls.length c] w fun e w' => ∃ v vals, e = .returned v ∧ w'.ownsRow w.heap.size 195 1 v ls.length vals ∧ (∀ i (hi : i < ls.length), ∃ u, vals[i]? = some u ∧ Sl w X 1 u ls[i].length (BVs ls[i])) ∧ Below w.heap.size w w' := by
  obtain ⟨vals, h1, h2⟩ := hls
  have HE := Lib.hid h2
  have hvl : vals.length = ls.length := by obtain ⟨_, _, _, h, _⟩ := h1; omega
  have H1 : ∀ u ∈ vals, u.oneCell' = true := by
    intro u hu
    obtain ⟨i, hi, rfl⟩ := List.getElem_of_mem hu
    obtain ⟨u', hu', h3⟩ := h2 i (by omega)
    obtain ⟨B, d, rfl, -⟩ := h3
    rw [List.getElem?_eq_getElem hi] at hu'
    rw [Option.some.inj hu']
    rfl
  have HONE := Lib.hid H1
  have HVL := Lib.hid hvl
  obtain ⟨i0, hi0, hz0, hz1, hz2⟩ := info_parts info_rec
  have heq := fun (W : World) => Lib.run_eql_slice_nil (P := Tryz.prog) W 107 195 A ls.length c 0 0 Tryz.underlying107
  clear h2 H1 hvl
  rcases A with _ | ad
  · obtain ⟨h0, hv0⟩ := h1.none_
    have hb : ls = [] := List.eq_nil_of_length_eq_zero h0
    subst hb
    simp only [List.length_nil] at heq
    clear h1 h0 hv0
    go_enter Tryz.func151, Tryz.ntmps151
    go_wp2
    go_ret
    exact ⟨_, [], rfl, World.ownsRow_nil _ _ _ _, fun i hi => absurd hi (by simp), Below.refl _ _⟩
  · go_enter Tryz.func151, Tryz.ntmps151
    go_wp2_with (at_builtin; refine wpList_append_sl _ rfl (.tmp 5) (.tmp 6) _ rfl w.heap.size 195 i0 _ 1 24 Tryz.underlying107 hi0 hz0 hz1 hz2 rfl (by omega) (.slice (some ⟨w.heap.size, 0, none⟩) 0 0) 0 [] rfl (World.ownsRow_made w #[] 0 (Nat.le_refl _) (by simp only [maxLen]; omega) rfl) X _ ls.length vals rfl (h1.alloc _) HONE.out (by simp only [maxLen]; omega) (by omega) (by simp) ?_; intro v2 w2 happ)
    go_ret
    refine ⟨v2, vals, rfl, by simpa using happ.1, HE.out, ?_⟩
    exact ((Below.refl _ _).alloc (Nat.le_refl _) _).grown happ.2.1 (by simp) (by simp [Value.ownBlock])

end Go.Proofs.YtmhmnkpaijoaaaaGreat.Ppi

/-
  Contracts of bytes.Clone and bytes.Equal; cuts of a slice of bytes; for any layer.
-/
namespace Go.Proofs.YtmhmnkpaijoaaaaGreat.Ga
set_option linter.unusedSimpArgs false
set_option linter.unusedVariables false
open Go Go.RowKit Ck Kw

theorem info_u8 : (Tryz.prog.info? 5).map (fun i => (i.zero, i.size, i.bytes)) = some (some (.int .u8 0), 1, 1) := by kernel_rfl
set_option maxHeartbeats 400000 in
theorem clone_any (X : Nat → Prop) (v : Value) (n : Nat) (b : List UInt8) (w : World) (hv : Sl w X 1 v n (BVs b)) (hn : n ≤ 549755813888) :
    Calls Tryz.prog 152 #[v] w fun e w' => Made w 5 b e w' := by
  have hnl : n = b.length := by obtain ⟨A, c, _, h, _⟩ := hv; rw [BVs_len] at h; omega
  subst hnl
  obtain ⟨i0, hi0, hz0, hz1, hz2⟩ := info_parts info_u8
  have hv' := hv
  obtain ⟨A, c, rfl, -⟩ := hv'
  have heq := fun (W : World) => Lib.run_eql_slice_nil (P := Tryz.prog) W 32 5 A b.length c 0 0 Tryz.underlying32
  rcases A with _ | ad
  · obtain ⟨h0, _⟩ := hv.none_
    have hb : b = [] := List.eq_nil_of_length_eq_zero h0
    subst hb
    simp only [List.length_nil] at heq
    clear hv h0
    go_enter Tryz.func152, Tryz.ntmps152
    go_wp2
    go_ret
    exact ⟨_, rfl, World.ownsRow_nil _ _ _ _, Below.refl _ _⟩
  · go_enter Tryz.func152, Tryz.ntmps152
    go_wp2_with (at_builtin; refine wpList_append_sl _ rfl (.tmp 5) (.tmp 6) _ rfl w.heap.size 5 i0 _ 1 1 Tryz.underlying32 hi0 hz0 hz1 hz2 rfl (by omega) (.slice (some ⟨w.heap.size, 0, none⟩) 0 0) 0 [] rfl (World.ownsRow_made w #[] 0 (Nat.le_refl _) (by simp only [maxLen]; omega) rfl) X _ b.length (BVs b) rfl (hv.alloc _) (BVs_one _) (by simp only [maxLen]; omega) (by omega) (by simp) ?_; intro v2 w2 happ)
    go_ret
    refine ⟨v2, rfl, by simpa using happ.1, ?_⟩
    exact ((Below.refl _ _).alloc (Nat.le_refl _) _).grown happ.2.1 (by simp) (by simp [Value.ownBlock])

theorem below_of_drew {B : Nat} {w w2 : World} (h : Below B w.drew w2) : Below B w w2 := ⟨h.os, h.tape, h.output, h.size, h.block⟩
theorem wrap64 {z : Int} (h : -9223372036854775808 ≤ z) (h' : z ≤ 9223372036854775807) : IntKind.i64.wrap z = z := by
  simp [IntKind.wrap, IntKind.bits, IntKind.signed]
  split <;> omega

theorem slice_upto (A : Option Addr) (n c k : Nat) (hk : k ≤ c) (W : World) : (Instr.slice 32 (.slice A n c) none (some (.int .i64 (k : Int))) none).run Tryz.prog W = .ok (.slice A k c) W := by
  have he : ∀ W : World, (sizeOf (Tryz.prog.elem 32)).run Tryz.prog W = .ok 1 W := fun _ => by kernel_rfl
  rw [run_slice_h W 32 A n c (by kernel_rfl) .i64 k (by omega) (by omega), he]
  simp only [Result.andThen_ok, sliced, Int.toNat_natCast]
  congr 2
  by_cases h0 : c = 0
  · simp [h0]
  · cases A <;> simp [h0, Addr.add]

theorem equal_any (w : World) (X Y : Nat → Prop) (va vb : Value) (n m : Nat) (l k : List UInt8) (ha : Sl w X 1 va n (BVs l)) (hb : Sl w Y 1 vb m (BVs k)) :
    Calls Tryz.prog 157 #[va, vb] w fun e w' => e = .returned (.bool (l == k)) ∧ w = w' := by
  have hn : n = l.length := by obtain ⟨A, c, _, h, _⟩ := ha; rw [BVs_len] at h; omega
  have hm : m = k.length := by obtain ⟨A, c, _, h, _⟩ := hb; rw [BVs_len] at h; omega
  subst hn; subst hm
  have ha' := ha
  have hb' := hb
  obtain ⟨A, c, rfl, -⟩ := ha'
  obtain ⟨B, d, rfl, -⟩ := hb'
  have c1 := run_convert_sl (P := Tryz.prog) w X 32 9 5 A c l Tryz.underlying32 Tryz.underlying5 Tryz.underlying9 ha
  have c2 := run_convert_sl (P := Tryz.prog) w Y 32 9 5 B d k Tryz.underlying32 Tryz.underlying5 Tryz.underlying9 hb
  clear ha hb
  go_enter Tryz.func157, Tryz.ntmps157
  go_wp2
  go_ret
  exact ⟨rfl, rfl⟩

end Go.Proofs.YtmhmnkpaijoaaaaGreat.Ga

/-
  Bytes made out of a text, for any layer.
-/
namespace Go.Proofs.YtmhmnkpaijoaaaaGreat.Kx
set_option linter.unusedSimpArgs false
set_option linter.unusedVariables false
open Go Go.RowKit Ck Kw Ga
/-- v is new bytes, made out of a text. -/
def Out (w : World) (base : Nat) (v : Value) (l : List UInt8) : Prop :=
  ∃ (g cap : Nat) (cs : Array Value) (z : Nat), v = .slice (some ⟨g, 0, none⟩) l.length cap ∧ base ≤ g ∧ w.heap[g]? = some (.cells cs 5 (z, z + 1)) ∧ l.length ≤ z ∧ l.length ≤ cap ∧ cap ≤ maxLen ∧ ∀ (j : Nat) (u : Value), (BVs l)[j]? = some u → cs[j]? = some u
theorem Out.sl {w : World} {base : Nat} {v : Value} {l : List UInt8} {X : Nat → Prop} (h : Out w base v l) (hX : ∀ k, base ≤ k → k < w.heap.size → ¬ X k) : Sl w X 1 v l.length (BVs l) := by
  obtain ⟨g, cap, cs, z, rfl, hb, hg, hz, hc, hm, hx⟩ := h
  have hlt := (Array.getElem?_eq_some_iff.1 hg).1
  refine ⟨_, _, rfl, by simp [BVs_len], hc, hm, fun _ => ⟨_, rfl, hlt, hX g hb hlt, fun j u hu => ?_⟩⟩
  have ha : (⟨g, 0, none⟩ : Addr).add j = ⟨g, j, none⟩ := by unfold Addr.add; split <;> simp_all
  rw [ha]
  simp only [World.cell?, hg]
  exact hx j u hu
theorem Out.ch {w w' : World} {base : Nat} {v : Value} {l : List UInt8} {S : Nat → Prop} (h : Out w base v l) (c : Ch S w w') (hS : ∀ k, base ≤ k → k < w.heap.size → ¬ S k) : Out w' base v l := by
  obtain ⟨g, cap, cs, z, rfl, hb, hg, r⟩ := h
  exact ⟨g, cap, cs, z, rfl, hb, (c.block g (Array.getElem?_eq_some_iff.1 hg).1 (hS g hb (Array.getElem?_eq_some_iff.1 hg).1)).trans hg, r⟩
theorem Out.base {w : World} {base b' : Nat} {v : Value} {l : List UInt8} (h : Out w base v l) (hb : b' ≤ base) : Out w b' v l := by
  obtain ⟨g, cap, cs, z, hv, h1, r⟩ := h
  exact ⟨g, cap, cs, z, hv, Nat.le_trans hb h1, r⟩
theorem bytesWorld_below (w : World) (e : TypeId) (s : ByteArray) : Below w.heap.size w (Lib.bytesWorld w e s) := by
  refine ⟨?_, ?_, ?_, by rw [Lib.bytesWorld_size]; omega, fun k hk => Lib.bytesWorld_at_old w e s k hk⟩ <;>
    (unfold Lib.bytesWorld World.freeze; split <;> rfl)
theorem bytesWorld_out (w : World) (l : List UInt8) (hl : l.length ≤ 140737488355328) : Out (Lib.bytesWorld w 5 ⟨l.toArray⟩) w.heap.size (.slice (some ⟨w.heap.size, 0, none⟩) l.length (grownCap w l.length 0 5)) l := by
  have hge := grownCap_ge w l.length 0 5
  refine ⟨w.heap.size, _, _, _, rfl, Nat.le_refl _, Lib.bytesWorld_at_new w 5 ⟨l.toArray⟩, ?_, hge, grownCap_le_maxLen w _ _ _ (by simp only [maxLen]; omega), fun j u hu => ?_⟩
  · show l.length ≤ ((l.toArray.map fun b : UInt8 => Value.int .u8 b.toNat) ++ Array.replicate _ _).size
    simp
  · have hj : j < l.length := by have := (List.getElem?_eq_some_iff.1 hu).1; rwa [BVs_len] at this
    show ((l.toArray.map fun b : UInt8 => Value.int .u8 b.toNat) ++ Array.replicate _ _)[j]? = some u
    rw [Array.getElem?_append_left (by simpa using hj)]
    rw [BVs_get hj] at hu
    simpa [hj] using hu
theorem conv_bytes (l : List UInt8) (W : World) : (convert 9 32 (.string ⟨l.toArray⟩)).run Tryz.prog W = .ok (.slice (some ⟨W.heap.size, 0, none⟩) l.length (grownCap W l.length 0 5)) (Lib.bytesWorld W 5 ⟨l.toArray⟩) := by
  have := Lib.run_convert_string_bytes (P := Tryz.prog) W 9 32 5 ⟨l.toArray⟩ Tryz.underlying9 Tryz.underlying32 Tryz.underlying5
  have hs : (⟨l.toArray⟩ : ByteArray).size = l.length := by show l.toArray.size = _; simp
  rw [hs] at this
  exact this

end Go.Proofs.YtmhmnkpaijoaaaaGreat.Kx

/-
  Layer 6 (op): how long names and operations' bytes are; the contract of Bytes, kind by kind.
-/
namespace Go.Proofs.YtmhmnkpaijoaaaaGreat.Pk
set_option linter.unusedSimpArgs false
open Go Go.RowKit Ck Kw Ca Cb Cc Ci Pm Pa Pe Pf Pg Ph Ppi Kx
set_option linter.unusedVariables false

theorem dec_width4 (l : Tx) : (dec l).2 ≤ 4 := by
  unfold dec Go.Lib.decodeN
  repeat' split
  all_goals simp
theorem rn_len : ∀ (j : Nat) (l : Tx), rn j l ≠ 0 → l.length ≤ 4 * j
  | 0, l, h => by
    unfold rn at h
    split at h
    · rename_i hl; subst hl; simp
    · exact absurd rfl h
  | j + 1, l, h => by
    unfold rn at h
    split at h
    · rename_i hl; subst hl; simp
    · split at h
      · exact absurd rfl h
      · have h1 := rn_len j _ h
        have h2 := dec_width4 l
        rw [List.length_drop] at h1
        omega
theorem name_len {l : Tx} (h : name l = true) : l.length ≤ 64 ∧ l ≠ [] := by
  have h1 : 0 < runes l := of_decide_eq_true h
  refine ⟨rn_len 16 l (by unfold runes at h1; omega), fun e => ?_⟩
  subst e
  exact absurd h1 (by decide)
theorem recs_len {l : List Tx} (h : areRecs l = true) : 1 ≤ l.length ∧ l.length ≤ 4 ∧ ∀ x ∈ l, x.length ≤ 64 := by
  simp only [areRecs, Bool.and_eq_true, decide_eq_true_eq, List.all_eq_true] at h
  exact ⟨h.1.1, h.1.2, h.2⟩
theorem encP_small : ∀ (l : List Tx), (∀ x ∈ l, x.length ≤ 64) → (Cm.encP l).length ≤ 74 * l.length
  | [], _ => by simp [Cm.encP]
  | x :: l, h => by
    have h1 := encP_small l (fun y hy => h y (List.mem_cons_of_mem _ hy))
    have h2 := h x List.mem_cons_self
    have h3 := Cm.enc_len x.length
    simp only [Cm.encP, List.length_append, Cm.encB_len, List.length_cons]
    omega
/-- What an operation that may be holds. -/
theorem check_lens {o : O} (h : check o = 0) : (hasT o.kind = true → o.topic.length ≤ 64) ∧ (hasG o.kind = true → o.group.length ≤ 64) ∧ (hasO o.kind = true → 0 ≤ o.off ∧ o.off ≤ 9007199254740992) ∧
    (hasR o.kind = true → 1 ≤ o.recs.length ∧ o.recs.length ≤ 4 ∧ (∀ x ∈ o.recs, x.length ≤ 64) ∧ (Cm.encP o.recs).length ≤ 296) := by
  obtain ⟨h1, h2, h3, h4, h5⟩ := check_ok h
  refine ⟨fun hT => ?_, fun hG => ?_, fun hO => ?_, fun hR => ?_⟩
  · refine (name_len (l := o.topic) ?_).1
    cases hn : name o.topic with
    | true => rfl
    | false => simp [badName, hT, hn] at h3
  · refine (name_len (l := o.group) ?_).1
    cases hn : name o.group with
    | true => rfl
    | false => simp [badName, hG, hn] at h3
  · simp only [badOff, hO, Bool.true_and, Bool.or_eq_false_iff, decide_eq_false_iff_not] at h5
    omega
  · have hr : areRecs o.recs = true := by
      cases hn : areRecs o.recs with
      | true => rfl
      | false => simp [badRecs, hR, hn] at h4
    obtain ⟨a, b, c⟩ := recs_len hr
    have := encP_small o.recs c
    exact ⟨a, b, c, by omega⟩
theorem raw_len {o : O} (h : check o = 0) : (raw o).length ≤ 1000 := by
  obtain ⟨h1, h2, h3, h4⟩ := check_lens h
  have e1 := Cm.enc_len o.kind.toNat
  have e2 := Cm.enc_len o.topic.length
  have e3 := Cm.enc_len o.group.length
  have e4 := Cm.enc_len o.off.toNat
  have e5 := Cm.enc_len o.recs.length
  have a1 : (if hasT o.kind = true then Cm.encB o.topic else []).length ≤ 74 := by
    split
    · rename_i h; have := h1 h; rw [Cm.encB_len]; omega
    · simp
  have a2 : (if hasG o.kind = true then Cm.encB o.group else []).length ≤ 74 := by
    split
    · rename_i h; have := h2 h; rw [Cm.encB_len]; omega
    · simp
  have a3 : (if hasO o.kind = true then Cm.enc o.off.toNat else []).length ≤ 10 := by
    split
    · omega
    · simp
  have a4 : (if hasR o.kind = true then Cm.encL o.recs else []).length ≤ 306 := by
    split
    · rename_i h; have := (h4 h).2.2.2; simp only [Cm.encL, List.length_append]; omega
    · simp
  unfold raw
  simp only [List.length_append]
  omega
theorem form_len (o : O) : (form o).length ≤ 1000 := by
  unfold form
  split
  · simp
  · rename_i h
    exact raw_len (by omega)

theorem wrap_u64' (z : Nat) (h : z < 18446744073709551616) : IntKind.u64.wrap (z : Int) = (z : Int) := by
  simp [IntKind.wrap, IntKind.bits, IntKind.signed]
  omega
/-- The operation and its kind's fields stand there, and a row of the call's own. -/
structure BK (w0 : World) (g1 g3 : Nat) (o : O) (A : Option Addr) (c : Nat) (v : Value) (l : Tx) (W : World) : Prop where
  ck : CK w0 g1 g3 o A c W
  row : W.ownsRow w0.heap.size 5 1 v l.length (BVs l)
theorem bk_start {w0 W : World} {g1 g3 : Nat} {o : O} {A : Option Addr} {c : Nat} (h : CK w0 g1 g3 o A c W) : BK w0 g1 g3 o A c (.slice none 0 0) [] W := ⟨h, World.ownsRow_nil _ _ _ _⟩
theorem BK.put {w0 W W1 W2 : World} {g1 g3 : Nat} {o : O} {A : Option Addr} {c : Nat} {v v' : Value} {l l' : Tx} (h : BK w0 g1 g3 o A c v l W) (b1 : Below W.heap.size W W1) (hown : W2.ownsRow W1.heap.size 5 1 v' l'.length (BVs l')) (b2 : Below W1.heap.size W1 W2) : BK w0 g1 g3 o A c v' l' W2 := by
  have b : Below W.heap.size W W2 := b1.trans (b2.mono b1.size)
  exact ⟨h.ck.later b, own_base hown (Nat.le_trans h.ck.below.size b1.size)⟩
theorem ck_of {w w3 : World} {o : O} {A : Option Addr} {c : Nat} (h : RK w w.heap.size o A c w3) :
    CK w w.heap.size w3.heap.size o A c (w3.alloc (.cells #[.bool (hasT o.kind), .bool (hasG o.kind), .bool (hasO o.kind), .bool (hasR o.kind)] 237)) :=
  ⟨h.below.alloc h.below.size _, Blk.alloc h.op _, Blk.new w3 _ _⟩
/-- What Bytes leaves of an operation that may be. -/
def Byted (w : World) (o : O) (e : Ending) (w' : World) : Prop := ∃ v, e = .returned (.tuple #[v, .int .i64 0]) ∧ w'.ownsRow w.heap.size 5 1 v (raw o).length (BVs (raw o)) ∧ Below w.heap.size w w'
theorem byted_of {w W : World} {g1 g3 : Nat} {o : O} {A : Option Addr} {c : Nat} {v : Value} {l : Tx} (h : BK w g1 g3 o A c v l W) (hl : raw o = l) : Byted w o (.returned (.tuple #[v, .int .i64 0])) W := by
  subst hl
  exact ⟨v, rfl, h.row, h.ck.below⟩

set_option maxRecDepth 100000 in
set_option maxHeartbeats 1000000 in
theorem bytes_no (o : O) (A : Option Addr) (c : Nat) (X : Nat → Prop) (w : World) (hl : o.recs.length ≤ 140737488355328) (hls : Ls w X (.slice A o.recs.length c) o.recs) (hc : check o ≠ 0) :
    Calls Tryz.prog 160 #[OV o A c] w fun e w' => e = .returned (.tuple #[.slice none 0 0, .int .i64 (check o)]) ∧ Below w.heap.size w w' := by
  have hls1 := hls.after (rk_start w o A c).below
  have HCH := Lib.hid (check_any o (OV o A c) X _ ⟨A, c, rfl, hls1⟩ hl)
  have HC := Lib.hid (rk_start w o A c)
  generalize check o = q at *
  have q1 : (q == 0) = false := beq_eq_false_iff_ne.2 hc
  have q2 : (q != 0) = true := by rw [bne, q1]; rfl
  clear hls hls1 hc
  unfold OV at HCH ⊢
  go_enter Tryz.func160, Tryz.ntmps160
  go_wp2_with fail
  refine HCH.out.mono ?_
  rintro e w2 ⟨rfl, hb2⟩
  have HC2 := Lib.hid (HC.out.later hb2)
  clear hb2
  go_wp2_with fail
  go_ret2
  exact ⟨rfl, HC2.out.below⟩

set_option maxRecDepth 100000 in
set_option maxHeartbeats 4000000 in
theorem bytes_0 (o : O) (A : Option Addr) (c : Nat) (X : Nat → Prop) (hk : o.kind = 0) (w : World) (hl : o.recs.length ≤ 140737488355328) (hls : Ls w X (.slice A o.recs.length c) o.recs) (hc : check o = 0) :
    Calls Tryz.prog 160 #[OV o A c] w (Byted w o) := by
  have hls1 := hls.after (rk_start w o A c).below
  have HCH := Lib.hid (check_any o (OV o A c) X _ ⟨A, c, rfl, hls1⟩ hl)
  rw [hc] at HCH
  have HC := Lib.hid (rk_start w o A c)
  obtain ⟨lT, lG, lO, lR⟩ := check_lens hc
  rw [hk] at lT lG lO lR
  have HLS := Lib.hid hls
  have HRAW : Hid (raw o = Cm.enc 0 ++ ([] ++ ([] ++ ([] ++ [])))) := Lib.hid (by
    unfold raw
    rw [hk]
    rfl)
  clear hls hls1 hc lT lG lO lR
  obtain ⟨kind, topic, group, off, recs⟩ := o
  simp only at hk
  subst hk
  unfold OV at HCH ⊢
  simp only at HLS HCH hl ⊢
  go_enter Tryz.func160, Tryz.ntmps160
  go_wp2_with fail
  refine HCH.out.mono ?_
  rintro e w2 ⟨rfl, hb2⟩
  have HC2 := Lib.hid (HC.out.later hb2)
  clear hb2
  obtain ⟨a0, a1, a2, a3, a4⟩ := HC2.out.op.cells
  simp only at a0 a1 a2 a3 a4
  go_wp2_with fail
  refine (fields_any 0 _).mono ?_
  rintro e w3 ⟨he, hb3⟩
  have he : e = .returned (.tuple #[.agg #[.bool false, .bool false, .bool false, .bool false], .bool true]) := he
  subst he
  have HC3 := Lib.hid (ck_of (HC2.out.later hb3))
  have HC3 : Hid (CK w w.heap.size w3.heap.size ⟨0, topic, group, off, recs⟩ A c (w3.alloc (.cells #[.bool false, .bool false, .bool false, .bool false] 237))) := HC3
  clear hb3 a0 a1 a2 a3 a4
  obtain ⟨a0, a1, a2, a3, a4⟩ := HC3.out.op.cells
  simp only at a0 a1 a2 a3 a4
  go_wp2_with fail
  refine (putnum_any (fun _ => False) (.slice none 0 0) 0 [] 0 _ (Sl.nil _ _ _) (by omega) (by omega)).mono ?_
  rintro e w4 ⟨v4, rfl, hown4, hb4⟩
  have HK4 := Lib.hid (BK.put (bk_start HC3.out) (Below.refl _ _) hown4 hb4)
  have HK4 : Hid (BK w w.heap.size w3.heap.size ⟨0, topic, group, off, recs⟩ A c v4 (Cm.enc 0) w4) := HK4
  clear hown4 hb4
  clear a0 a1 a2 a3 a4
  obtain ⟨a0, a1, a2, a3, a4⟩ := HK4.out.ck.op.cells
  obtain ⟨b0, b1, b2, b3⟩ := HK4.out.ck.fields.cells
  simp only at a0 a1 a2 a3 a4
  have b0 : w4.cell? _ = some (.bool false) := b0
  have b1 : w4.cell? _ = some (.bool false) := b1
  have b2 : w4.cell? _ = some (.bool false) := b2
  have b3 : w4.cell? _ = some (.bool false) := b3
  have hl4 := Cm.enc_len 0
  go_wp2_with fail
  go_ret2
  exact byted_of HK4.out (by rw [HRAW.out]; simp only [List.append_assoc, List.append_nil, List.nil_append, Int.toNat_natCast])

set_option maxRecDepth 100000 in
set_option maxHeartbeats 4000000 in
theorem bytes_1 (o : O) (A : Option Addr) (c : Nat) (X : Nat → Prop) (hk : o.kind = 1) (w : World) (hl : o.recs.length ≤ 140737488355328) (hls : Ls w X (.slice A o.recs.length c) o.recs) (hc : check o = 0) :
    Calls Tryz.prog 160 #[OV o A c] w (Byted w o) := by
  have hls1 := hls.after (rk_start w o A c).below
  have HCH := Lib.hid (check_any o (OV o A c) X _ ⟨A, c, rfl, hls1⟩ hl)
  rw [hc] at HCH
  have HC := Lib.hid (rk_start w o A c)
  obtain ⟨lT, lG, lO, lR⟩ := check_lens hc
  rw [hk] at lT lG lO lR
  have HLS := Lib.hid hls
  have HRAW : Hid (raw o = Cm.enc 1 ++ (Cm.encB o.topic ++ ([] ++ ([] ++ [])))) := Lib.hid (by
    unfold raw
    rw [hk]
    rfl)
  have tl := lT rfl
  clear hls hls1 hc lT lG lO lR
  obtain ⟨kind, topic, group, off, recs⟩ := o
  simp only at hk
  subst hk
  unfold OV at HCH ⊢
  simp only at HLS HCH hl tl ⊢
  go_enter Tryz.func160, Tryz.ntmps160
  go_wp2_with fail
  refine HCH.out.mono ?_
  rintro e w2 ⟨rfl, hb2⟩
  have HC2 := Lib.hid (HC.out.later hb2)
  clear hb2
  obtain ⟨a0, a1, a2, a3, a4⟩ := HC2.out.op.cells
  simp only at a0 a1 a2 a3 a4
  go_wp2_with fail
  refine (fields_any 1 _).mono ?_
  rintro e w3 ⟨he, hb3⟩
  have he : e = .returned (.tuple #[.agg #[.bool true, .bool false, .bool false, .bool false], .bool true]) := he
  subst he
  have HC3 := Lib.hid (ck_of (HC2.out.later hb3))
  have HC3 : Hid (CK w w.heap.size w3.heap.size ⟨1, topic, group, off, recs⟩ A c (w3.alloc (.cells #[.bool true, .bool false, .bool false, .bool false] 237))) := HC3
  clear hb3 a0 a1 a2 a3 a4
  obtain ⟨a0, a1, a2, a3, a4⟩ := HC3.out.op.cells
  simp only at a0 a1 a2 a3 a4
  go_wp2_with fail
  refine (putnum_any (fun _ => False) (.slice none 0 0) 0 [] 1 _ (Sl.nil _ _ _) (by omega) (by omega)).mono ?_
  rintro e w4 ⟨v4, rfl, hown4, hb4⟩
  have HK4 := Lib.hid (BK.put (bk_start HC3.out) (Below.refl _ _) hown4 hb4)
  have HK4 : Hid (BK w w.heap.size w3.heap.size ⟨1, topic, group, off, recs⟩ A c v4 (Cm.enc 1) w4) := HK4
  clear hown4 hb4
  clear a0 a1 a2 a3 a4
  obtain ⟨a0, a1, a2, a3, a4⟩ := HK4.out.ck.op.cells
  obtain ⟨b0, b1, b2, b3⟩ := HK4.out.ck.fields.cells
  simp only at a0 a1 a2 a3 a4
  have b0 : w4.cell? _ = some (.bool true) := b0
  have b1 : w4.cell? _ = some (.bool false) := b1
  have b2 : w4.cell? _ = some (.bool false) := b2
  have b3 : w4.cell? _ = some (.bool false) := b3
  have hl4 := Cm.enc_len 1
  have kc5 := conv_bytes topic
  have HO5 := Lib.hid (bytesWorld_out w4 topic (by omega))
  have HB5 := Lib.hid (bytesWorld_below w4 5 ⟨topic.toArray⟩)
  have le5 := Cm.enc_len topic.length
  go_wp2_with fail
  refine (putbytes_any (fun _ => False) v4 _ _ _ (Cm.enc 1) topic _ ((Sl.of_own HK4.out.row (fun _ _ _ h => h)).after HB5.out) (HO5.out.sl (fun _ _ _ h => h)) (by (try simp only [List.length_append, Cm.encB_len]); omega) (by (try simp only [List.length_append, Cm.encB_len]); omega)).mono ?_
  rintro e w5 ⟨v5, rfl, hown, hb⟩
  have HK5 := Lib.hid (HK4.out.put HB5.out hown hb)
  clear hown hb kc5 b0 b1 b2 b3
  clear a0 a1 a2 a3 a4
  obtain ⟨a0, a1, a2, a3, a4⟩ := HK5.out.ck.op.cells
  obtain ⟨b0, b1, b2, b3⟩ := HK5.out.ck.fields.cells
  simp only at a0 a1 a2 a3 a4
  have b0 : w5.cell? _ = some (.bool true) := b0
  have b1 : w5.cell? _ = some (.bool false) := b1
  have b2 : w5.cell? _ = some (.bool false) := b2
  have b3 : w5.cell? _ = some (.bool false) := b3
  have hl5 := Cm.enc_len 1
  go_wp2_with fail
  go_ret2
  exact byted_of HK5.out (by rw [HRAW.out]; simp only [List.append_assoc, List.append_nil, List.nil_append, Int.toNat_natCast])

set_option maxRecDepth 100000 in
set_option maxHeartbeats 4000000 in
theorem bytes_2 (o : O) (A : Option Addr) (c : Nat) (X : Nat → Prop) (hk : o.kind = 2) (w : World) (hl : o.recs.length ≤ 140737488355328) (hls : Ls w X (.slice A o.recs.length c) o.recs) (hc : check o = 0) :
    Calls Tryz.prog 160 #[OV o A c] w (Byted w o) := by
  have hls1 := hls.after (rk_start w o A c).below
  have HCH := Lib.hid (check_any o (OV o A c) X _ ⟨A, c, rfl, hls1⟩ hl)
  rw [hc] at HCH
  have HC := Lib.hid (rk_start w o A c)
  obtain ⟨lT, lG, lO, lR⟩ := check_lens hc
  rw [hk] at lT lG lO lR
  have HLS := Lib.hid hls
  have HRAW : Hid (raw o = Cm.enc 2 ++ (Cm.encB o.topic ++ ([] ++ ([] ++ Cm.encL o.recs)))) := Lib.hid (by
    unfold raw
    rw [hk]
    rfl)
  have tl := lT rfl
  obtain ⟨r1, r4, -, rl⟩ := lR rfl
  clear hls hls1 hc lT lG lO lR
  obtain ⟨kind, topic, group, off, recs⟩ := o
  simp only at hk
  subst hk
  unfold OV at HCH ⊢
  simp only at HLS HCH hl tl r1 r4 rl ⊢
  go_enter Tryz.func160, Tryz.ntmps160
  go_wp2_with fail
  refine HCH.out.mono ?_
  rintro e w2 ⟨rfl, hb2⟩
  have HC2 := Lib.hid (HC.out.later hb2)
  clear hb2
  obtain ⟨a0, a1, a2, a3, a4⟩ := HC2.out.op.cells
  simp only at a0 a1 a2 a3 a4
  go_wp2_with fail
  refine (fields_any 2 _).mono ?_
  rintro e w3 ⟨he, hb3⟩
  have he : e = .returned (.tuple #[.agg #[.bool true, .bool false, .bool false, .bool true], .bool true]) := he
  subst he
  have HC3 := Lib.hid (ck_of (HC2.out.later hb3))
  have HC3 : Hid (CK w w.heap.size w3.heap.size ⟨2, topic, group, off, recs⟩ A c (w3.alloc (.cells #[.bool true, .bool false, .bool false, .bool true] 237))) := HC3
  clear hb3 a0 a1 a2 a3 a4
  obtain ⟨a0, a1, a2, a3, a4⟩ := HC3.out.op.cells
  simp only at a0 a1 a2 a3 a4
  go_wp2_with fail
  refine (putnum_any (fun _ => False) (.slice none 0 0) 0 [] 2 _ (Sl.nil _ _ _) (by omega) (by omega)).mono ?_
  rintro e w4 ⟨v4, rfl, hown4, hb4⟩
  have HK4 := Lib.hid (BK.put (bk_start HC3.out) (Below.refl _ _) hown4 hb4)
  have HK4 : Hid (BK w w.heap.size w3.heap.size ⟨2, topic, group, off, recs⟩ A c v4 (Cm.enc 2) w4) := HK4
  clear hown4 hb4
  clear a0 a1 a2 a3 a4
  obtain ⟨a0, a1, a2, a3, a4⟩ := HK4.out.ck.op.cells
  obtain ⟨b0, b1, b2, b3⟩ := HK4.out.ck.fields.cells
  simp only at a0 a1 a2 a3 a4
  have b0 : w4.cell? _ = some (.bool true) := b0
  have b1 : w4.cell? _ = some (.bool false) := b1
  have b2 : w4.cell? _ = some (.bool false) := b2
  have b3 : w4.cell? _ = some (.bool true) := b3
  have hl4 := Cm.enc_len 2
  have kc5 := conv_bytes topic
  have HO5 := Lib.hid (bytesWorld_out w4 topic (by omega))
  have HB5 := Lib.hid (bytesWorld_below w4 5 ⟨topic.toArray⟩)
  have le5 := Cm.enc_len topic.length
  go_wp2_with fail
  refine (putbytes_any (fun _ => False) v4 _ _ _ (Cm.enc 2) topic _ ((Sl.of_own HK4.out.row (fun _ _ _ h => h)).after HB5.out) (HO5.out.sl (fun _ _ _ h => h)) (by (try simp only [List.length_append, Cm.encB_len]); omega) (by (try simp only [List.length_append, Cm.encB_len]); omega)).mono ?_
  rintro e w5 ⟨v5, rfl, hown, hb⟩
  have HK5 := Lib.hid (HK4.out.put HB5.out hown hb)
  clear hown hb kc5 b0 b1 b2 b3
  clear a0 a1 a2 a3 a4
  obtain ⟨a0, a1, a2, a3, a4⟩ := HK5.out.ck.op.cells
  obtain ⟨b0, b1, b2, b3⟩ := HK5.out.ck.fields.cells
  simp only at a0 a1 a2 a3 a4
  have b0 : w5.cell? _ = some (.bool true) := b0
  have b1 : w5.cell? _ = some (.bool false) := b1
  have b2 : w5.cell? _ = some (.bool false) := b2
  have b3 : w5.cell? _ = some (.bool true) := b3
  have hl5 := Cm.enc_len 2
  go_wp2_with fail
  refine (parts_any _ X A c recs (HLS.out.after HK5.out.ck.below) (by omega)).mono ?_
  rintro e wp ⟨Ap, cp, rfl, hlp, hbp⟩
  have HBP := Lib.hid hbp
  have HLP := Lib.hid hlp
  clear hbp hlp
  go_wp2_with fail
  refine (putlist_any (fun _ => False) _ v5 _ (Cm.enc 2 ++ Cm.encB topic) Ap cp recs _ ((Sl.of_own HK5.out.row (fun _ _ _ h => h)).after HBP.out) HLP.out (by (try simp only [List.length_append, Cm.encB_len]); omega) (by omega)).mono ?_
  rintro e w6 ⟨v6, rfl, hown, hb⟩
  have HK6 := Lib.hid (HK5.out.put HBP.out hown hb)
  clear hown hb b0 b1 b2 b3
  clear a0 a1 a2 a3 a4
  obtain ⟨a0, a1, a2, a3, a4⟩ := HK6.out.ck.op.cells
  obtain ⟨b0, b1, b2, b3⟩ := HK6.out.ck.fields.cells
  simp only at a0 a1 a2 a3 a4
  have b0 : w6.cell? _ = some (.bool true) := b0
  have b1 : w6.cell? _ = some (.bool false) := b1
  have b2 : w6.cell? _ = some (.bool false) := b2
  have b3 : w6.cell? _ = some (.bool true) := b3
  have hl6 := Cm.enc_len 2
  go_wp2_with fail
  go_ret2
  exact byted_of HK6.out (by rw [HRAW.out]; simp only [List.append_assoc, List.append_nil, List.nil_append, Int.toNat_natCast])

set_option maxRecDepth 100000 in
set_option maxHeartbeats 4000000 in
theorem bytes_3 (o : O) (A : Option Addr) (c : Nat) (X : Nat → Prop) (hk : o.kind = 3) (w : World) (hl : o.recs.length ≤ 140737488355328) (hls : Ls w X (.slice A o.recs.length c) o.recs) (hc : check o = 0) :
    Calls Tryz.prog 160 #[OV o A c] w (Byted w o) := by
  have hls1 := hls.after (rk_start w o A c).below
  have HCH := Lib.hid (check_any o (OV o A c) X _ ⟨A, c, rfl, hls1⟩ hl)
  rw [hc] at HCH
  have HC := Lib.hid (rk_start w o A c)
  obtain ⟨lT, lG, lO, lR⟩ := check_lens hc
  rw [hk] at lT lG lO lR
  have HLS := Lib.hid hls
  have HRAW : Hid (raw o = Cm.enc 3 ++ (Cm.encB o.topic ++ (Cm.encB o.group ++ (Cm.enc o.off.toNat ++ [])))) := Lib.hid (by
    unfold raw
    rw [hk]
    rfl)
  have tl := lT rfl
  have gl := lG rfl
  obtain ⟨ol, oh⟩ := lO rfl
  clear hls hls1 hc lT lG lO lR
  obtain ⟨kind, topic, group, off, recs⟩ := o
  simp only at hk
  subst hk
  unfold OV at HCH ⊢
  simp only at HLS HCH hl tl gl ol oh ⊢
  go_enter Tryz.func160, Tryz.ntmps160
  go_wp2_with fail
  refine HCH.out.mono ?_
  rintro e w2 ⟨rfl, hb2⟩
  have HC2 := Lib.hid (HC.out.later hb2)
  clear hb2
  obtain ⟨a0, a1, a2, a3, a4⟩ := HC2.out.op.cells
  simp only at a0 a1 a2 a3 a4
  go_wp2_with fail
  refine (fields_any 3 _).mono ?_
  rintro e w3 ⟨he, hb3⟩
  have he : e = .returned (.tuple #[.agg #[.bool true, .bool true, .bool true, .bool false], .bool true]) := he
  subst he
  have HC3 := Lib.hid (ck_of (HC2.out.later hb3))
  have HC3 : Hid (CK w w.heap.size w3.heap.size ⟨3, topic, group, off, recs⟩ A c (w3.alloc (.cells #[.bool true, .bool true, .bool true, .bool false] 237))) := HC3
  clear hb3 a0 a1 a2 a3 a4
  obtain ⟨a0, a1, a2, a3, a4⟩ := HC3.out.op.cells
  simp only at a0 a1 a2 a3 a4
  go_wp2_with fail
  refine (putnum_any (fun _ => False) (.slice none 0 0) 0 [] 3 _ (Sl.nil _ _ _) (by omega) (by omega)).mono ?_
  rintro e w4 ⟨v4, rfl, hown4, hb4⟩
  have HK4 := Lib.hid (BK.put (bk_start HC3.out) (Below.refl _ _) hown4 hb4)
  have HK4 : Hid (BK w w.heap.size w3.heap.size ⟨3, topic, group, off, recs⟩ A c v4 (Cm.enc 3) w4) := HK4
  clear hown4 hb4
  clear a0 a1 a2 a3 a4
  obtain ⟨a0, a1, a2, a3, a4⟩ := HK4.out.ck.op.cells
  obtain ⟨b0, b1, b2, b3⟩ := HK4.out.ck.fields.cells
  simp only at a0 a1 a2 a3 a4
  have b0 : w4.cell? _ = some (.bool true) := b0
  have b1 : w4.cell? _ = some (.bool true) := b1
  have b2 : w4.cell? _ = some (.bool true) := b2
  have b3 : w4.cell? _ = some (.bool false) := b3
  have hl4 := Cm.enc_len 3
  have kc5 := conv_bytes topic
  have HO5 := Lib.hid (bytesWorld_out w4 topic (by omega))
  have HB5 := Lib.hid (bytesWorld_below w4 5 ⟨topic.toArray⟩)
  have le5 := Cm.enc_len topic.length
  go_wp2_with fail
  refine (putbytes_any (fun _ => False) v4 _ _ _ (Cm.enc 3) topic _ ((Sl.of_own HK4.out.row (fun _ _ _ h => h)).after HB5.out) (HO5.out.sl (fun _ _ _ h => h)) (by (try simp only [List.length_append, Cm.encB_len]); omega) (by (try simp only [List.length_append, Cm.encB_len]); omega)).mono ?_
  rintro e w5 ⟨v5, rfl, hown, hb⟩
  have HK5 := Lib.hid (HK4.out.put HB5.out hown hb)
  clear hown hb kc5 b0 b1 b2 b3
  clear a0 a1 a2 a3 a4
  obtain ⟨a0, a1, a2, a3, a4⟩ := HK5.out.ck.op.cells
  obtain ⟨b0, b1, b2, b3⟩ := HK5.out.ck.fields.cells
  simp only at a0 a1 a2 a3 a4
  have b0 : w5.cell? _ = some (.bool true) := b0
  have b1 : w5.cell? _ = some (.bool true) := b1
  have b2 : w5.cell? _ = some (.bool true) := b2
  have b3 : w5.cell? _ = some (.bool false) := b3
  have hl5 := Cm.enc_len 3
  have kc6 := conv_bytes group
  have HO6 := Lib.hid (bytesWorld_out w5 group (by omega))
  have HB6 := Lib.hid (bytesWorld_below w5 5 ⟨group.toArray⟩)
  have le6 := Cm.enc_len group.length
  go_wp2_with fail
  refine (putbytes_any (fun _ => False) v5 _ _ _ (Cm.enc 3 ++ Cm.encB topic) group _ ((Sl.of_own HK5.out.row (fun _ _ _ h => h)).after HB6.out) (HO6.out.sl (fun _ _ _ h => h)) (by (try simp only [List.length_append, Cm.encB_len]); omega) (by (try simp only [List.length_append, Cm.encB_len]); omega)).mono ?_
  rintro e w6 ⟨v6, rfl, hown, hb⟩
  have HK6 := Lib.hid (HK5.out.put HB6.out hown hb)
  clear hown hb kc6 b0 b1 b2 b3
  clear a0 a1 a2 a3 a4
  obtain ⟨a0, a1, a2, a3, a4⟩ := HK6.out.ck.op.cells
  obtain ⟨b0, b1, b2, b3⟩ := HK6.out.ck.fields.cells
  simp only at a0 a1 a2 a3 a4
  have b0 : w6.cell? _ = some (.bool true) := b0
  have b1 : w6.cell? _ = some (.bool true) := b1
  have b2 : w6.cell? _ = some (.bool true) := b2
  have b3 : w6.cell? _ = some (.bool false) := b3
  have hl6 := Cm.enc_len 3
  obtain ⟨z, rfl⟩ := Int.eq_ofNat_of_zero_le ol
  have hw7 := wrap_u64' z (by omega)
  have OH := Lib.hid oh
  clear ol oh
  have le7 := Cm.enc_len z
  go_wp2_with fail
  refine (putnum_any (fun _ => False) v6 _ (Cm.enc 3 ++ Cm.encB topic ++ Cm.encB group) z _ (Sl.of_own HK6.out.row (fun _ _ _ h => h)) (by (try simp only [List.length_append, Cm.encB_len]); omega) (by have := OH.out; omega)).mono ?_
  rintro e w7 ⟨v7, rfl, hown, hb⟩
  have HK7 := Lib.hid (HK6.out.put (Below.refl _ _) hown hb)
  clear hown hb b0 b1 b2 b3
  clear a0 a1 a2 a3 a4
  obtain ⟨a0, a1, a2, a3, a4⟩ := HK7.out.ck.op.cells
  obtain ⟨b0, b1, b2, b3⟩ := HK7.out.ck.fields.cells
  simp only at a0 a1 a2 a3 a4
  have b0 : w7.cell? _ = some (.bool true) := b0
  have b1 : w7.cell? _ = some (.bool true) := b1
  have b2 : w7.cell? _ = some (.bool true) := b2
  have b3 : w7.cell? _ = some (.bool false) := b3
  have hl7 := Cm.enc_len 3
  go_wp2_with fail
  go_ret2
  exact byted_of HK7.out (by rw [HRAW.out]; simp only [List.append_assoc, List.append_nil, List.nil_append, Int.toNat_natCast])

set_option maxRecDepth 100000 in
set_option maxHeartbeats 4000000 in
theorem bytes_4 (o : O) (A : Option Addr) (c : Nat) (X : Nat → Prop) (hk : o.kind = 4) (w : World) (hl : o.recs.length ≤ 140737488355328) (hls : Ls w X (.slice A o.recs.length c) o.recs) (hc : check o = 0) :
    Calls Tryz.prog 160 #[OV o A c] w (Byted w o) := by
  have hls1 := hls.after (rk_start w o A c).below
  have HCH := Lib.hid (check_any o (OV o A c) X _ ⟨A, c, rfl, hls1⟩ hl)
  rw [hc] at HCH
  have HC := Lib.hid (rk_start w o A c)
  obtain ⟨lT, lG, lO, lR⟩ := check_lens hc
  rw [hk] at lT lG lO lR
  have HLS := Lib.hid hls
  have HRAW : Hid (raw o = Cm.enc 4 ++ (Cm.encB o.topic ++ ([] ++ (Cm.enc o.off.toNat ++ [])))) := Lib.hid (by
    unfold raw
    rw [hk]
    rfl)
  have tl := lT rfl
  obtain ⟨ol, oh⟩ := lO rfl
  clear hls hls1 hc lT lG lO lR
  obtain ⟨kind, topic, group, off, recs⟩ := o
  simp only at hk
  subst hk
  unfold OV at HCH ⊢
  simp only at HLS HCH hl tl ol oh ⊢
  go_enter Tryz.func160, Tryz.ntmps160
  go_wp2_with fail
  refine HCH.out.mono ?_
  rintro e w2 ⟨rfl, hb2⟩
  have HC2 := Lib.hid (HC.out.later hb2)
  clear hb2
  obtain ⟨a0, a1, a2, a3, a4⟩ := HC2.out.op.cells
  simp only at a0 a1 a2 a3 a4
  go_wp2_with fail
  refine (fields_any 4 _).mono ?_
  rintro e w3 ⟨he, hb3⟩
  have he : e = .returned (.tuple #[.agg #[.bool true, .bool false, .bool true, .bool false], .bool true]) := he
  subst he
  have HC3 := Lib.hid (ck_of (HC2.out.later hb3))
  have HC3 : Hid (CK w w.heap.size w3.heap.size ⟨4, topic, group, off, recs⟩ A c (w3.alloc (.cells #[.bool true, .bool false, .bool true, .bool false] 237))) := HC3
  clear hb3 a0 a1 a2 a3 a4
  obtain ⟨a0, a1, a2, a3, a4⟩ := HC3.out.op.cells
  simp only at a0 a1 a2 a3 a4
  go_wp2_with fail
  refine (putnum_any (fun _ => False) (.slice none 0 0) 0 [] 4 _ (Sl.nil _ _ _) (by omega) (by omega)).mono ?_
  rintro e w4 ⟨v4, rfl, hown4, hb4⟩
  have HK4 := Lib.hid (BK.put (bk_start HC3.out) (Below.refl _ _) hown4 hb4)
  have HK4 : Hid (BK w w.heap.size w3.heap.size ⟨4, topic, group, off, recs⟩ A c v4 (Cm.enc 4) w4) := HK4
  clear hown4 hb4
  clear a0 a1 a2 a3 a4
  obtain ⟨a0, a1, a2, a3, a4⟩ := HK4.out.ck.op.cells
  obtain ⟨b0, b1, b2, b3⟩ := HK4.out.ck.fields.cells
  simp only at a0 a1 a2 a3 a4
  have b0 : w4.cell? _ = some (.bool true) := b0
  have b1 : w4.cell? _ = some (.bool false) := b1
  have b2 : w4.cell? _ = some (.bool true) := b2
  have b3 : w4.cell? _ = some (.bool false) := b3
  have hl4 := Cm.enc_len 4
  have kc5 := conv_bytes topic
  have HO5 := Lib.hid (bytesWorld_out w4 topic (by omega))
  have HB5 := Lib.hid (bytesWorld_below w4 5 ⟨topic.toArray⟩)
  have le5 := Cm.enc_len topic.length
  go_wp2_with fail
  refine (putbytes_any (fun _ => False) v4 _ _ _ (Cm.enc 4) topic _ ((Sl.of_own HK4.out.row (fun _ _ _ h => h)).after HB5.out) (HO5.out.sl (fun _ _ _ h => h)) (by (try simp only [List.length_append, Cm.encB_len]); omega) (by (try simp only [List.length_append, Cm.encB_len]); omega)).mono ?_
  rintro e w5 ⟨v5, rfl, hown, hb⟩
  have HK5 := Lib.hid (HK4.out.put HB5.out hown hb)
  clear hown hb kc5 b0 b1 b2 b3
  clear a0 a1 a2 a3 a4
  obtain ⟨a0, a1, a2, a3, a4⟩ := HK5.out.ck.op.cells
  obtain ⟨b0, b1, b2, b3⟩ := HK5.out.ck.fields.cells
  simp only at a0 a1 a2 a3 a4
  have b0 : w5.cell? _ = some (.bool true) := b0
  have b1 : w5.cell? _ = some (.bool false) := b1
  have b2 : w5.cell? _ = some (.bool true) := b2
  have b3 : w5.cell? _ = some (.bool false) := b3
  have hl5 := Cm.enc_len 4
  obtain ⟨z, rfl⟩ := Int.eq_ofNat_of_zero_le ol
  have hw6 := wrap_u64' z (by omega)
  have OH := Lib.hid oh
  clear ol oh
  have le6 := Cm.enc_len z
  go_wp2_with fail
  refine (putnum_any (fun _ => False) v5 _ (Cm.enc 4 ++ Cm.encB topic) z _ (Sl.of_own HK5.out.row (fun _ _ _ h => h)) (by (try simp only [List.length_append, Cm.encB_len]); omega) (by have := OH.out; omega)).mono ?_
  rintro e w6 ⟨v6, rfl, hown, hb⟩
  have HK6 := Lib.hid (HK5.out.put (Below.refl _ _) hown hb)
  clear hown hb b0 b1 b2 b3
  clear a0 a1 a2 a3 a4
  obtain ⟨a0, a1, a2, a3, a4⟩ := HK6.out.ck.op.cells
  obtain ⟨b0, b1, b2, b3⟩ := HK6.out.ck.fields.cells
  simp only at a0 a1 a2 a3 a4
  have b0 : w6.cell? _ = some (.bool true) := b0
  have b1 : w6.cell? _ = some (.bool false) := b1
  have b2 : w6.cell? _ = some (.bool true) := b2
  have b3 : w6.cell? _ = some (.bool false) := b3
  have hl6 := Cm.enc_len 4
  go_wp2_with fail
  go_ret2
  exact byted_of HK6.out (by rw [HRAW.out]; simp only [List.append_assoc, List.append_nil, List.nil_append, Int.toNat_natCast])

/-- What Bytes leaves. -/
def Formed (w : World) (o : O) (e : Ending) (w' : World) : Prop := ∃ v, e = .returned (.tuple #[v, .int .i64 (check o)]) ∧ w'.ownsRow w.heap.size 5 1 v (form o).length (BVs (form o)) ∧ Below w.heap.size w w'
theorem bytes_any (o : O) (v : Value) (X : Nat → Prop) (w : World) (h : OI w X v o) (hl : o.recs.length ≤ 140737488355328) : Calls Tryz.prog 160 #[v] w (Formed w o) := by
  obtain ⟨A, c, rfl, hls⟩ := h
  by_cases hc : check o = 0
  · have hf : form o = raw o := by rw [form, if_neg (by omega)]
    have key : Calls Tryz.prog 160 #[OV o A c] w (Byted w o) := by
      rcases kind_cases (check_ok hc).1 with h | h | h | h | h
      · exact bytes_0 o A c X h w hl hls hc
      · exact bytes_1 o A c X h w hl hls hc
      · exact bytes_2 o A c X h w hl hls hc
      · exact bytes_3 o A c X h w hl hls hc
      · exact bytes_4 o A c X h w hl hls hc
    refine key.mono ?_
    rintro e w' ⟨v, rfl, hr, hb⟩
    exact ⟨v, by rw [hc], by rw [hf]; exact hr, hb⟩
  · have hf : form o = [] := by rw [form, if_pos hc]
    refine (bytes_no o A c X w hl hls hc).mono ?_
    rintro e w' ⟨rfl, hb⟩
    exact ⟨_, rfl, by rw [hf]; exact World.ownsRow_nil _ _ _ _, hb⟩

end Go.Proofs.YtmhmnkpaijoaaaaGreat.Pk

/-
  Layer 6 (op): there and back, in the plain mathematics: what is put is read, what is read has those bytes, no operation's bytes begin another one's; the document's loop over records reads what a list's reading does.
-/
namespace Go.Proofs.YtmhmnkpaijoaaaaGreat.Pp
set_option linter.unusedSimpArgs false
open Cm Pm Pk
set_option linter.unusedVariables false

theorem O_ext {a b : O} (h1 : a.kind = b.kind) (h2 : a.topic = b.topic) (h3 : a.group = b.group) (h4 : a.off = b.off) (h5 : a.recs = b.recs) : a = b := by
  cases a; cases b; simp_all
/-- The document's loop over records. -/
def dl : Nat → RS → List Tx → List Tx × RS
  | 0, s, acc => (acc, s)
  | n + 1, s, acc => dl n (bytesS s 64).2 (acc ++ [(bytesS s 64).1])
end Go.Proofs.YtmhmnkpaijoaaaaGreat.Pp

/-
  The plain mathematics of layer 8 (request): which requests, signatures and batches may be, their bytes, and what is read of bytes; there and back. No program is named here.
-/
namespace Go.Proofs.YtmhmnkpaijoaaaaGreat.Jm
set_option linter.unusedSimpArgs false
open Cm Pm Pk Pp
set_option linter.unusedVariables false

/-- A request. -/
structure Q where
  client : Int
  time : Int
  o : O
deriving DecidableEq
def Q.zero : Q := ⟨0, 0, O.zero⟩
/-- A signed request. -/
structure Sd where
  q : Q
  s : Int × Int
deriving DecidableEq
def Sd.zero : Sd := ⟨Q.zero, (0, 0)⟩
def isC (c : Int) : Bool := decide (0 ≤ c) && decide (c < 8)
def key (c : Int) : Int := if isC c then 13 + c else -1
def qbad (x : Q) : Bool := !isC x.client || decide (x.time < 1) || decide (9007199254740992 < x.time)
def qcheck (x : Q) : Int := if qbad x then 80 else check x.o
def sbad (s : Int × Int) : Bool := decide (s.1 < 0) || decide (21 ≤ s.1) || decide (s.2 < 1) || decide (9007199254740992 < s.2)
def scheck (s : Int × Int) : Int := if sbad s then 81 else 0
def dcheck (x : Sd) : Int := if qcheck x.q ≠ 0 then qcheck x.q else scheck x.s
def lcheck : List Sd → Int
  | [] => 0
  | x :: l => if dcheck x ≠ 0 then dcheck x else lcheck l
def mom (x : Sd) : Int × Int := (x.q.client, x.q.time)
/-- Does one of the first j have the moment of x? -/
def hasM (l : List Sd) (x : Sd) : Bool := l.any fun y => mom x == mom y
/-- Does a moment stand twice, behind the first ones? -/
def twI : List Sd → List Sd → Bool
  | _, [] => false
  | p, x :: l => hasM p x || twI (p ++ [x]) l
def twice (l : List Sd) : Bool := twI [] l
def bcheck (l : List Sd) : Int := if 4 < l.length then 3 else if lcheck l ≠ 0 then lcheck l else if twice l then 5 else 0

def qraw (x : Q) : Tx := enc x.client.toNat ++ (enc x.time.toNat ++ raw x.o)
def qform (x : Q) : Tx := if qcheck x ≠ 0 then [] else qraw x
def qparse (b : Tx) : Q × Int :=
  if doneS (take (numS (numS (b, 0) 7).2 9007199254740992).2).2 ≠ 0 then (Q.zero, doneS (take (numS (numS (b, 0) 7).2 9007199254740992).2).2)
  else if (numS (numS (b, 0) 7).2 9007199254740992).1 = 0 then (Q.zero, 80)
  else (⟨(numS (b, 0) 7).1, (numS (numS (b, 0) 7).2 9007199254740992).1, (take (numS (numS (b, 0) 7).2 9007199254740992).2).1⟩, 0)
def sraw (s : Int × Int) : Tx := enc s.1.toNat ++ enc s.2.toNat
def sform (s : Int × Int) : Tx := if scheck s ≠ 0 then [] else sraw s
def tsS (s : RS) : RS := if (numS (numS s 20).2 9007199254740992).1 = 0 then failS (numS (numS s 20).2 9007199254740992).2 81 else (numS (numS s 20).2 9007199254740992).2
def tsign (s : RS) : (Int × Int) × RS := if (tsS s).2 ≠ 0 then ((0, 0), tsS s) else (((numS s 20).1, (numS (numS s 20).2 9007199254740992).1), tsS s)
def dB (x : Sd) : Tx := encB (qraw x.q) ++ sraw x.s
def braw (l : List Sd) : Tx := enc l.length ++ l.flatMap dB
def bform (l : List Sd) : Tx := if bcheck l ≠ 0 then [] else braw l
def tsd (s : RS) : Sd × RS := (⟨(qparse (bytesS s 1024).1).1, (tsign (failS (bytesS s 1024).2 (qparse (bytesS s 1024).1).2)).1⟩, (tsign (failS (bytesS s 1024).2 (qparse (bytesS s 1024).1).2)).2)
def tl : Nat → RS → List Sd → List Sd × RS
  | 0, s, acc => (acc, s)
  | n + 1, s, acc => tl n (tsd s).2 (acc ++ [(tsd s).1])
theorem isC_iff (c : Int) : isC c = true ↔ 0 ≤ c ∧ c < 8 := by simp [isC]
theorem qcheck_ok {x : Q} (h : qcheck x = 0) : (0 ≤ x.client ∧ x.client < 8) ∧ (1 ≤ x.time ∧ x.time ≤ 9007199254740992) ∧ check x.o = 0 := by
  unfold qcheck at h
  split at h
  · cases h
  · rename_i h1
    simp only [qbad, Bool.or_eq_true, Bool.not_eq_true', decide_eq_true_eq, not_or, Bool.not_eq_false] at h1
    have := (isC_iff _).1 h1.1.1
    exact ⟨this, ⟨by omega, by omega⟩, h⟩
theorem scheck_ok {s : Int × Int} (h : scheck s = 0) : (0 ≤ s.1 ∧ s.1 < 21) ∧ (1 ≤ s.2 ∧ s.2 ≤ 9007199254740992) := by
  unfold scheck at h
  split at h
  · cases h
  · rename_i h1
    simp only [sbad, Bool.or_eq_true, decide_eq_true_eq, not_or] at h1
    omega
theorem dcheck_ok {x : Sd} (h : dcheck x = 0) : qcheck x.q = 0 ∧ scheck x.s = 0 := by
  unfold dcheck at h
  split at h
  · rename_i h1; exact absurd h h1
  · rename_i h1; exact ⟨by simpa using h1, h⟩
theorem lcheck_ok : ∀ {l : List Sd}, lcheck l = 0 → ∀ x ∈ l, dcheck x = 0
  | [], _, x, hx => absurd hx (by simp)
  | y :: l, h, x, hx => by
    unfold lcheck at h
    split at h
    · rename_i h1; exact absurd h h1
    · rename_i h1
      rcases List.mem_cons.1 hx with rfl | hx
      · simpa using h1
      · exact lcheck_ok h x hx
theorem lcheck_drop {l : List Sd} {k : Nat} (hk : k < l.length) : lcheck (l.drop k) = if dcheck l[k] ≠ 0 then dcheck l[k] else lcheck (l.drop (k + 1)) := by
  rw [List.drop_eq_getElem_cons hk, lcheck]
theorem bcheck_ok {l : List Sd} (h : bcheck l = 0) : l.length ≤ 4 ∧ (∀ x ∈ l, qcheck x.q = 0 ∧ scheck x.s = 0) ∧ twice l = false := by
  unfold bcheck at h
  split at h
  · cases h
  · rename_i h1
    split at h
    · rename_i h2; exact absurd h h2
    · rename_i h2
      split at h
      · cases h
      · rename_i h3
        exact ⟨by omega, fun x hx => dcheck_ok (lcheck_ok (by simpa using h2) x hx), by simpa using h3⟩
theorem hasM_take {l : List Sd} {x : Sd} {k : Nat} (hk : k < l.length) : hasM (l.take (k + 1)) x = (hasM (l.take k) x || (mom x == mom l[k])) := by
  rw [List.take_succ_eq_append_getElem hk, hasM, hasM, List.any_append]
  simp
theorem twI_step {l : List Sd} {i : Nat} (hi : i < l.length) : twI (l.take i) (l.drop i) = (hasM (l.take i) l[i] || twI (l.take (i + 1)) (l.drop (i + 1))) := by
  rw [List.drop_eq_getElem_cons hi, twI, List.take_succ_eq_append_getElem hi]

theorem enc_pow : ∀ (k n : Nat), k ≤ 8 → n < 128 ^ (k + 1) → (enc n).length ≤ k + 1
  | 0, n, _, h => by rw [enc_small (by simpa using h)]; simp
  | k + 1, n, hk, h => by
    by_cases hn : n < 128
    · rw [enc_small hn]; simp
    · have hp : 128 ^ (k + 1 + 1) ≤ 128 ^ 9 := Nat.pow_le_pow_right (by omega) (by omega)
      rw [enc_big (by omega) (by have : 128 ^ 9 = 9223372036854775808 := by decide
                                 omega)]
      have h2 : n / 128 < 128 ^ (k + 1) := by rw [Nat.pow_succ] at h; omega
      have := enc_pow k (n / 128) (by omega) h2
      simp only [List.length_cons]; omega
theorem enc_1 {n : Nat} (h : n < 128) : (enc n).length = 1 := by rw [enc_small h]; rfl
theorem enc_2 {n : Nat} (h : n < 16384) : (enc n).length ≤ 2 := enc_pow 1 n (by omega) (by simpa using h)
theorem enc_8 {n : Nat} (h : n ≤ 9007199254740992) : (enc n).length ≤ 8 := enc_pow 7 n (by omega) (Nat.lt_of_le_of_lt h (by decide))
theorem qraw_len {x : Q} (h : qcheck x = 0) : (qraw x).length ≤ 1009 := by
  obtain ⟨h0, h1, h2⟩ := qcheck_ok h
  have h1' := raw_len h2
  have h2' := enc_1 (n := x.client.toNat) (by omega)
  have h3 := enc_8 (n := x.time.toNat) (by omega)
  simp only [qraw, List.length_append]
  omega
theorem qform_len (x : Q) : (qform x).length ≤ 1009 := by
  unfold qform
  split
  · simp
  · rename_i h; exact qraw_len (by simpa using h)
theorem qform_eq {x : Q} (h : qcheck x = 0) : qform x = qraw x := by rw [qform, if_neg (by omega)]
theorem sraw_len {s : Int × Int} (h : scheck s = 0) : (sraw s).length ≤ 9 := by
  obtain ⟨h1, h2⟩ := scheck_ok h
  have h2 := enc_1 (n := s.1.toNat) (by omega)
  have h3 := enc_8 (n := s.2.toNat) (by omega)
  simp only [sraw, List.length_append]
  omega
theorem sform_len (s : Int × Int) : (sform s).length ≤ 9 := by
  unfold sform
  split
  · simp
  · rename_i h; exact sraw_len (by simpa using h)
theorem sform_eq {s : Int × Int} (h : scheck s = 0) : sform s = sraw s := by rw [sform, if_neg (by omega)]
theorem dB_len {x : Sd} (h : qcheck x.q = 0) (hs : scheck x.s = 0) : (dB x).length ≤ 1020 := by
  have h1 := qraw_len h
  have h2 := sraw_len hs
  have h3 := enc_2 (n := (qraw x.q).length) (by omega)
  simp only [dB, encB, List.length_append]
  omega
theorem flat_dB : ∀ {l : List Sd}, (∀ x ∈ l, qcheck x.q = 0 ∧ scheck x.s = 0) → (l.flatMap dB).length ≤ 1020 * l.length
  | [], _ => by simp
  | x :: l, h => by
    have h0 := h x List.mem_cons_self
    have h1 := dB_len h0.1 h0.2
    have h2 := flat_dB fun y hy => h y (List.mem_cons_of_mem x hy)
    simp only [List.flatMap_cons, List.length_append, List.length_cons]
    omega
theorem braw_len {l : List Sd} (h : bcheck l = 0) : (braw l).length ≤ 4081 := by
  obtain ⟨h1, h2, _⟩ := bcheck_ok h
  have h3 := flat_dB h2
  have h4 := enc_1 (n := l.length) (by omega)
  simp only [braw, List.length_append]
  omega
theorem bform_len (l : List Sd) : (bform l).length ≤ 4081 := by
  unfold bform
  split
  · simp
  · rename_i h; exact braw_len (by simpa using h)
theorem bform_eq {l : List Sd} (h : bcheck l = 0) : bform l = braw l := by rw [bform, if_neg (by omega)]

/-! There and back. -/
theorem tl_len : ∀ (n : Nat) (s : RS) (acc : List Sd), (tl n s acc).1.length = acc.length + n
  | 0, s, acc => rfl
  | n + 1, s, acc => by rw [tl, tl_len n]; simp; omega
end Go.Proofs.YtmhmnkpaijoaaaaGreat.Jm

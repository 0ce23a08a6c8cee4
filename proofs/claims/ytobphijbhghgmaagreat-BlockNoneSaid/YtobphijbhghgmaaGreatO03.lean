/-
  Contracts of layer 1's functions that put, and of the document's own.
-/
import Derived.Test.YtobphijbhghgmaaGreatO02
import Derived.Deep.QuietTactic
import Derived.BigQuiet
import Derived.Test.YtobphijbhghgmaaGreatO01
import Derived.Lib.SliceRun
import Derived.Lib.MinMax
import Derived.Lib.SlBytesConst
import Derived.Deep.RegionWith
import Derived.Deep.RegionHeld3
import Derived.Deep.RegionLaw
import Derived.Deep.DrawnRows
import Derived.Deep.AppendLies
import Derived.Laws.CopyOwn
import Derived.RegionTactic
import Derived.Lib.ConvBytes
namespace Go.Proofs.YtobphijbhghgmaaGreat.Cb
set_option linter.unusedSimpArgs false
set_option linter.unusedVariables false
open Go Go.RowKit Ck Ca

theorem info_u8 : (Tryz.prog.info? 5).map (fun i => (i.zero, i.size, i.bytes)) = some (some (.int .u8 0), 1, 1) := by kernel_rfl

set_option maxRecDepth 100000 in
set_option maxHeartbeats 400000 in
theorem numlen_any (n : Nat) (h : n < 18446744073709551616) (w : World) :
    Calls Tryz.prog 52 #[.int .u64 n] w fun e w' => e = .returned (.int .i64 (Cm.enc n).length) ∧ Below w.heap.size w w' := by
  have hlen := Cm.enc_len n
  have hi := info_arr
  rw [← Ar_size hlen.1] at hi
  have HI := Lib.hid hi
  have HH := Lib.hid h
  clear hi h
  go_enter Tryz.func52, Tryz.ntmps52
  go_wp2_with (first
    | (go_at_call 71; refine (digits_any n HH.out _).mono ?_; rintro e w1 ⟨cs, rfl, rfl, hb⟩)
    | (refine wpList_store_row rfl 137 _ _ rfl w1.heap.size (Ar (Cm.enc n)) rfl rfl 137 (Ar []) (Blk.new_at rfl rfl) HI.out ?c2 (Ar_one _) ?_))
  case c2 => rw [Ar_size (by simp), Ar_size hlen.1]
  go_ret
  exact ⟨rfl, below_setRow (hb.alloc hb.size _) hb.size _⟩

set_option maxHeartbeats 400000 in
theorem byteslen_any (A : Option Addr) (n c : Nat) (h : n ≤ 140737488355328) (w : World) :
    Calls Tryz.prog 146 #[.slice A n c] w fun e w' => e = .returned (.int .i64 ((Cm.enc n).length + n : Nat)) ∧ Below w.heap.size w w' := by
  have hlen := Cm.enc_len n
  go_enter Tryz.func146, Tryz.ntmps146
  go_wp2_with (go_at_call 52; refine (numlen_any n (by omega) _).mono ?_; rintro e w1 ⟨rfl, hb⟩)
  go_ret
  exact ⟨rfl, hb⟩

set_option maxHeartbeats 400000 in
theorem roomy_any (X : Nat → Prop) (v : Value) (n : Nat) (l : List UInt8) (m : Nat) (w : World) (hv : Sl w X 1 v n (BVs l)) (hn : n ≤ 140737488355328) (hm : n + m ≤ 140737488355328) :
    Calls Tryz.prog 51 #[v, .int .i64 m] w fun e w' => Made w 5 l e w' := by
  have hnl : n = l.length := by obtain ⟨A, c, _, h, _⟩ := hv; rw [BVs_len] at h; omega
  subst hnl
  have hv' := hv
  obtain ⟨A, c, rfl, -⟩ := hv'
  obtain ⟨i0, hi0, hz0, hz1, hz2⟩ := info_parts info_u8
  go_enter Tryz.func51, Tryz.ntmps51
  go_wp2_with (first
    | (refine wpList_make_own _ rfl _ _ 25 rfl w.heap.size 5 i0 _ 1 Tryz.underlying25 hi0 hz0 hz1 .i64 .i64 _ (l.length + m) rfl rfl (by omega) (by rw [hz2]; omega) (by simp only [maxLen]; omega) (Nat.le_refl _) ?_; intro w1 hown1 hg1)
    | (at_builtin; refine wpList_append_sl _ rfl (.tmp 9) (.tmp 10) _ rfl w.heap.size 5 i0 _ 1 1 Tryz.underlying25 hi0 hz0 hz1 hz2 rfl (by omega) (.slice (some ⟨w.heap.size, 0, none⟩) 0 (l.length + m)) 0 [] rfl hown1 X _ l.length (BVs l) rfl (hv.grown hg1 (by simp)) (BVs_one l) (by simp only [maxLen]; omega) (by omega) hg1.size ?_; intro v2 w2 happ))
  go_ret
  refine ⟨v2, rfl, by simpa using happ.1, ?_⟩
  exact (below_of_grown hg1 (by simp)).grown happ.2.1 hg1.size (by simp [Value.ownBlock])

theorem slice_arr (k : Nat) (hk : k ≤ 10) (g : Nat) (W : World) :
    (Instr.sliceAt 137 (.pointer (some ⟨g, 0, none⟩)) none (some (.int .i64 (k : Int))) none).run Tryz.prog W = .ok (.slice (some ⟨g, 0, none⟩) k 10) W := by
  have al : Tryz.prog.arrayLen 137 = 10 := by kernel_rfl
  have he : (sizeOf (Tryz.prog.elem 137)).run Tryz.prog W = .ok 1 W := by kernel_rfl
  rw [run_sliceAt_array_h W 137 _ (by kernel_rfl) .i64 k (by omega) (by rw [al]; omega), he, al]
  simp [Result.andThen, slicedAt, Addr.add]
theorem Sl_arr {w : World} {X : Nat → Prop} {g : Nat} {t : TypeId} {l : List UInt8} (h : Blk w g t (Ar l)) (hl : l.length ≤ 10) (hX : ¬ X g) : Sl w X 1 (.slice (some ⟨g, 0, none⟩) l.length 10) l.length (BVs l) :=
  ⟨_, _, rfl, by simp [BVs_len], hl, by simp only [maxLen]; omega, fun _ => ⟨_, rfl, h.lt, hX, fun j u hu => by
    have hj : j < (BVs l).length := (List.getElem?_eq_some_iff.1 hu).1
    have ha : (⟨g, 0, none⟩ : Addr).add j = ⟨g, j, none⟩ := by unfold Addr.add; split <;> simp_all
    rw [ha, h.cell j]
    simp only [Ar, List.getElem?_toArray]
    rw [List.getElem?_append_left hj]
    exact hu⟩⟩

set_option maxRecDepth 100000 in
set_option maxHeartbeats 400000 in
theorem addnum_any (base : Nat) (v : Value) (n : Nat) (l : List UInt8) (w : World) (hown : w.ownsRow base 5 1 v l.length (BVs l)) (hbase : base ≤ w.heap.size) (hl : l.length ≤ 140737488355318) (h : n < 18446744073709551616) :
    Calls Tryz.prog 50 #[v, .int .u64 n] w fun e w' => Onto w base 5 v (l ++ Cm.enc n) e w' := by
  have hlen := Cm.enc_len n
  obtain ⟨i0, hi0, hz0, hz1, hz2⟩ := info_parts info_u8
  have hi := info_arr
  rw [← Ar_size hlen.1] at hi
  have HI := Lib.hid hi
  have HH := Lib.hid h
  clear hi h
  have hsl := slice_arr _ hlen.1
  go_enter Tryz.func50, Tryz.ntmps50
  go_wp2_with (first
    | (go_at_call 71; refine (digits_any n HH.out _).mono ?_; rintro e w1 ⟨cs, rfl, rfl, hb⟩)
    | (refine wpList_store_row rfl 137 _ _ rfl w1.heap.size (Ar (Cm.enc n)) rfl rfl 137 (Ar []) (Blk.new_at rfl rfl) HI.out ?c2 (Ar_one _) ?_)
    | (at_builtin; refine wpList_append_sl _ rfl (.tmp 12) (.tmp 14) _ rfl base 5 i0 _ 1 1 Tryz.underlying25 hi0 hz0 hz1 hz2 rfl (by omega) v l.length (BVs l) rfl (own_below hown (below_setRow (hb.alloc hb.size _) hb.size _)) (fun _ => False) _ (Cm.enc n).length (BVs (Cm.enc n)) rfl (Sl_arr (setRow_heap _ _ _ _ _ _ (Blk.new_at rfl rfl)) hlen.1 (fun h => h)) (BVs_one _) (by simp only [maxLen]; omega) (by omega) (Nat.le_trans hbase (below_setRow (hb.alloc hb.size _) hb.size _).size) ?_; intro v2 w2 happ))
  case c2 => rw [Ar_size (by simp), Ar_size hlen.1]
  go_ret
  exact Onto.of (below_setRow (hb.alloc hb.size _) hb.size _) happ

set_option maxHeartbeats 400000 in
theorem addbytes_any (base : Nat) (X : Nat → Prop) (v : Value) (l : List UInt8) (A : Option Addr) (n c : Nat) (x : List UInt8) (w : World) (hown : w.ownsRow base 5 1 v l.length (BVs l)) (hbase : base ≤ w.heap.size)
    (hx : Sl w X 1 (.slice A n c) n (BVs x)) (hX : ∀ g, v.ownBlock = some g → X g) (hl : l.length ≤ 140737488355318) (hn : l.length + n ≤ 140737488355318) :
    Calls Tryz.prog 145 #[v, .slice A n c] w fun e w' => Onto w base 5 v (l ++ Cm.encB x) e w' := by
  have hnl : n = x.length := by obtain ⟨A, c, _, h, _⟩ := hx; rw [BVs_len] at h; omega
  subst hnl
  have hlen := Cm.enc_len x.length
  obtain ⟨i0, hi0, hz0, hz1, hz2⟩ := info_parts info_u8
  go_enter Tryz.func145, Tryz.ntmps145
  go_wp2_with (first
    | (go_at_call 50; refine (addnum_any base v x.length l _ hown hbase (by omega) (by omega)).mono ?_; rintro e w1 ⟨v1, rfl, hown1, hg1, hr1⟩)
    | (at_builtin; refine wpList_append_sl _ rfl (.tmp 9) (.tmp 10) _ rfl base 5 i0 _ 1 1 Tryz.underlying25 hi0 hz0 hz1 hz2 rfl (by omega) v1 _ _ rfl hown1 X _ x.length (BVs x) rfl (hx.grown hg1 (fun g hg _ => hX g hg)) (BVs_one _) (by rw [List.length_append]; simp only [maxLen]; omega) (by rw [List.length_append]; omega) (Nat.le_trans hbase hg1.size) ?_; intro v2 w2 happ))
  go_ret
  have R := Onto.of (Below.refl _ _) happ
  rw [Cm.encB, ← List.append_assoc]
  exact R.then_ hg1 hr1

set_option maxHeartbeats 400000 in
theorem putnum_any (X : Nat → Prop) (v : Value) (n : Nat) (b : List UInt8) (m : Nat) (w : World) (hv : Sl w X 1 v n (BVs b)) (hn : n ≤ 140737488355318) (hm : m < 18446744073709551616) :
    Calls Tryz.prog 27 #[v, .int .u64 m] w fun e w' => Made w 5 (b ++ Cm.enc m) e w' := by
  have hnl : n = b.length := by obtain ⟨A, c, _, h, _⟩ := hv; rw [BVs_len] at h; omega
  subst hnl
  have hlen := Cm.enc_len m
  have HM := Lib.hid hm
  clear hm
  go_enter Tryz.func27, Tryz.ntmps27
  go_wp2_with (first
    | (go_at_call 52; refine (numlen_any m HM.out _).mono ?_; rintro e w1 ⟨rfl, hb1⟩)
    | (go_at_call 51; refine (roomy_any X v b.length b (Cm.enc m).length _ (hv.after hb1) (by omega) (by omega)).mono ?_; rintro e w2 ⟨v2, rfl, hown2, hb2⟩)
    | (go_at_call 50; refine (addnum_any w1.heap.size v2 m b _ hown2 hb2.size (by omega) HM.out).mono ?_; rintro e w3 ⟨v3, rfl, hown3, hg3, hr3⟩))
  go_ret
  obtain ⟨v4, he, hown4, hb4⟩ := Made.later hb1 (Made.onto hown2 hb2 ⟨v3, rfl, hown3, hg3, hr3⟩)
  exact ⟨v4, he, own_base hown4 hb1.size, hb4⟩

set_option maxHeartbeats 400000 in
theorem putbytes_any (X : Nat → Prop) (v x : Value) (n k : Nat) (b l : List UInt8) (w : World) (hv : Sl w X 1 v n (BVs b)) (hx : Sl w X 1 x k (BVs l)) (hn : n ≤ 140737488355318) (hk : n + k ≤ 140737488355318) :
    Calls Tryz.prog 120 #[v, x] w fun e w' => Made w 5 (b ++ Cm.encB l) e w' := by
  have hnl : n = b.length := by obtain ⟨A, c, _, h, _⟩ := hv; rw [BVs_len] at h; omega
  have hkl : k = l.length := by obtain ⟨A, c, _, h, _⟩ := hx; rw [BVs_len] at h; omega
  subst hnl; subst hkl
  have hlen := Cm.enc_len l.length
  have hx' := hx
  obtain ⟨A, c, rfl, -⟩ := hx'
  go_enter Tryz.func120, Tryz.ntmps120
  go_wp2_with (first
    | (go_at_call 146; refine (byteslen_any A l.length c (by omega) _).mono ?_; rintro e w1 ⟨rfl, hb1⟩)
    | (go_at_call 51; refine (roomy_any X v b.length b ((Cm.enc l.length).length + l.length) _ (hv.after hb1) (by omega) (by omega)).mono ?_; rintro e w2 ⟨v2, rfl, hown2, hb2⟩)
    | (go_at_call 145; refine (addbytes_any w1.heap.size (w1.heap.size ≤ ·) v2 b A _ c l _ hown2 hb2.size (((hx.after hb1).old' (Nat.le_refl _)).after hb2) (fun g hg => (hown2.lt g hg).1) (by omega) (by omega)).mono ?_; rintro e w3 ⟨v3, rfl, hown3, hg3, hr3⟩))
  go_ret
  obtain ⟨v4, he, hown4, hb4⟩ := Made.later hb1 (Made.onto hown2 hb2 ⟨v3, rfl, hown3, hg3, hr3⟩)
  exact ⟨v4, he, own_base hown4 hb1.size, hb4⟩

end Go.Proofs.YtobphijbhghgmaaGreat.Cb

/-
  Contract of layer 1's PutList.
-/
namespace Go.Proofs.YtobphijbhghgmaaGreat.Cc
set_option linter.unusedSimpArgs false
set_option linter.unusedVariables false
open Go Go.RowKit Ck Ca Cb

set_option maxHeartbeats 400000 in
theorem putlist_any (X Y : Nat → Prop) (v : Value) (n : Nat) (b : List UInt8) (A : Option Addr) (c : Nat) (ls : List (List UInt8)) (w : World) (hv : Sl w X 1 v n (BVs b)) (hls : Ls w Y (.slice A ls.length c) ls)
    (hn : n ≤ 274877906944) (ht : (Cm.encP ls).length ≤ 274877906944) :
    Calls Tryz.prog 178 #[v, .slice A ls.length c] w fun e w' => Made w 5 (b ++ Cm.encL ls) e w' := by
  have hnl : n = b.length := by obtain ⟨A, c, _, h, _⟩ := hv; rw [BVs_len] at h; omega
  subst hnl
  have hlen := Cm.enc_len ls.length
  have hll := Cm.len_le_encP ls
  go_enter Tryz.func178, Tryz.ntmps178
  go_wp2_with (go_at_call 52; refine (numlen_any ls.length (by omega) _).mono ?_; rintro e w1 ⟨rfl, hb1⟩)
  go_loopw [5, 16] (fun m i wr => ∃ k : Nat, k ≤ ls.length ∧ i = .int .i64 k ∧ m = .int .i64 ((Cm.enc ls.length).length + (Cm.encP (ls.take k)).length : Nat) ∧ Below w.heap.size w wr)
    (fun _ i _ => ls.length - (intOf i).toNat)
  case atStart => exact ⟨0, Nat.zero_le _, rfl, by simp [Cm.encP], hb1⟩
  case round =>
    obtain ⟨k, hk, rfl, rfl, hbr⟩ := hrel
    have hle := Cm.encP_le ls k
    by_cases hlt : k < ls.length
    · have hle2 := Cm.encP_le ls (k + 1)
      have htk := Cm.encP_take hlt
      have hpl := Cm.part_le_encP ls k hlt
      have hel := Cm.enc_len ls[k].length
      obtain ⟨ad, B, d, rfl, hcell, hx⟩ := (hls.after hbr).at_ hlt
      have HT := Lib.hid htk
      clear htk
      go_wp2_with (go_at_call 146; refine (byteslen_any B ls[k].length d (by omega) _).mono ?_; rintro e w2 ⟨rfl, hb2⟩)
      go_roundw
      case rel =>
        have HT2 := congrArg List.length HT.out
        rw [List.length_append, Cm.encB_len] at HT2
        exact ⟨k + 1, by omega, by go_num, by rw [HT2]; go_num, hbr.trans (hb2.mono hbr.size)⟩
      case measure => simp [intOf]; omega
    · have hke : k = ls.length := by omega
      subst hke
      rw [List.take_length] at hle ⊢
      go_wp2_with (first
        | (go_at_call 51; refine (roomy_any X v b.length b ((Cm.enc ls.length).length + (Cm.encP ls).length) _ (hv.after hbr) (by omega) (by omega)).mono ?_; rintro e w2 ⟨v2, rfl, hown2, hb2⟩)
        | (go_at_call 50; refine (addnum_any wr.heap.size v2 ls.length b _ hown2 hb2.size (by omega) (by omega)).mono ?_; rintro e w3 ⟨v3, rfl, hown3, hg3, hr3⟩))
      have hown4 := own_base hown3 hbr.size
      have hb4 : Below w.heap.size w w3 := hbr.trans ((hb2.mono hbr.size).grown hg3 (Nat.le_trans hbr.size hb2.size) (fun g hg => Nat.le_trans hbr.size (hown2.lt g hg).1))
      clear hown3 hg3 hr3 hown2 hb2
      go_loopw [0, 34] (fun u i wq => ∃ k : Nat, k ≤ ls.length ∧ i = .int .i64 k ∧ wq.ownsRow w.heap.size 5 1 u (b ++ Cm.enc ls.length ++ Cm.encP (ls.take k)).length (BVs (b ++ Cm.enc ls.length ++ Cm.encP (ls.take k))) ∧ Below w.heap.size w wq)
        (fun _ i _ => ls.length - (intOf i).toNat)
      case atStart => exact ⟨0, Nat.zero_le _, rfl, by simpa [Cm.encP] using hown4, hb4⟩
      case round =>
        obtain ⟨k, hk, rfl, hown, hbq⟩ := hrel
        have hle := Cm.encP_le ls k
        by_cases hlt : k < ls.length
        · have htk := Cm.encP_take hlt
          have hpl := Cm.part_le_encP ls k hlt
          have hx := (hls.old' (Nat.le_refl _)).below hbq (fun k _ h => h)
          obtain ⟨ad, B, d, rfl, hcell, hx⟩ := hx.at_ hlt
          have HT := Lib.hid htk
          clear htk
          go_wp2_with (go_at_call 145; refine (addbytes_any w.heap.size (w.heap.size ≤ ·) _ _ B _ d ls[k] _ hown hbq.size hx (fun g hg => (hown.lt g hg).1) (by simp only [List.length_append]; omega) (by simp only [List.length_append]; omega)).mono ?_; rintro e w5 ⟨v5, rfl, hown5, hg5, hr5⟩)
          go_roundw
          case rel =>
            exact ⟨k + 1, by omega, by go_num, by rw [HT.out, ← List.append_assoc]; exact hown5, hbq.grown hg5 hbq.size (fun g hg => (hown.lt g hg).1)⟩
          case measure => simp [intOf]; omega
        · have hke : k = ls.length := by omega
          subst hke
          rw [List.take_length] at hown
          go_wp2
          go_ret
          exact ⟨_, rfl, by rw [Cm.encL, ← List.append_assoc]; exact hown, hbq⟩

end Go.Proofs.YtobphijbhghgmaaGreat.Cc

/-
  Contracts of the document's own functions of layer 1 that put, of bytes.Clone, and of Same.
-/
namespace Go.Proofs.YtobphijbhghgmaaGreat.Cd
set_option linter.unusedSimpArgs false
set_option linter.unusedVariables false
open Go Go.RowKit Ck Ca Cb

theorem one_new (w : World) (X : Nat → Prop) (t : TypeId) {z : Int} {n : Nat} (hz : z = (n : Int)) (hn : n < 256) (hX : ¬ X w.heap.size) : Sl (w.alloc (.cells #[.int .u8 z] t)) X 1 (.slice (some ⟨w.heap.size, 0, none⟩) 1 1) 1 (BVs [UInt8.ofNat n]) :=
  ⟨_, _, rfl, rfl, Nat.le_refl _, by simp only [maxLen]; omega, fun _ => ⟨_, rfl, by simp, hX, fun j u hu => cell_one_new w _ t j u (by subst hz; rw [← BV_of hn]; simpa [BVs] using hu)⟩⟩

set_option maxHeartbeats 400000 in
theorem clone_any (X : Nat → Prop) (v : Value) (n : Nat) (b : List UInt8) (w : World) (hv : Sl w X 1 v n (BVs b)) (hn : n ≤ 140737488355328) :
    Calls Tryz.prog 138 #[v] w fun e w' => Made w 5 b e w' := by
  have hnl : n = b.length := by obtain ⟨A, c, _, h, _⟩ := hv; rw [BVs_len] at h; omega
  subst hnl
  obtain ⟨i0, hi0, hz0, hz1, hz2⟩ := info_parts info_u8
  have hv' := hv
  obtain ⟨A, c, rfl, -⟩ := hv'
  have heq := fun (W : World) => Lib.run_eql_slice_nil (P := Tryz.prog) W 25 5 A b.length c 0 0 Tryz.underlying25
  rcases A with _ | ad
  · obtain ⟨h0, _⟩ := hv.none_
    have hb : b = [] := List.eq_nil_of_length_eq_zero h0
    subst hb
    simp only [List.length_nil] at heq
    clear hv h0
    go_enter Tryz.func138, Tryz.ntmps138
    go_wp2
    go_ret
    exact ⟨_, rfl, World.ownsRow_nil _ _ _ _, Below.refl _ _⟩
  · go_enter Tryz.func138, Tryz.ntmps138
    go_wp2_with (at_builtin; refine wpList_append_sl _ rfl (.tmp 5) (.tmp 6) _ rfl w.heap.size 5 i0 _ 1 1 Tryz.underlying25 hi0 hz0 hz1 hz2 rfl (by omega) (.slice (some ⟨w.heap.size, 0, none⟩) 0 0) 0 [] rfl (World.ownsRow_made w #[] 0 (Nat.le_refl _) (by simp only [maxLen]; omega) rfl) X _ b.length (BVs b) rfl (hv.alloc _) (BVs_one _) (by simp only [maxLen]; omega) (by omega) (by simp) ?_; intro v2 w2 happ)
    go_ret
    refine ⟨v2, rfl, by simpa using happ.1, ?_⟩
    exact ((Below.refl _ _).alloc (Nat.le_refl _) _).grown happ.2.1 (by simp) (by simp [Value.ownBlock])

end Go.Proofs.YtobphijbhghgmaaGreat.Cd

/-
  Contracts of layer 1's reader.
-/
namespace Go.Proofs.YtobphijbhghgmaaGreat.Ce
set_option linter.unusedSimpArgs false
set_option linter.unusedVariables false
open Go Go.RowKit Ck Ca Cb

/-- The reader's block. -/
abbrev CB (w : World) (g : Nat) (v : Value) (err : Int) : Prop := Blk w g 114 #[.bool true, v, .int .i64 err]
/-- A reader in memory: what is left lies in no block of X. -/
def CR (w : World) (X : Nat → Prop) (g : Nat) (s : Cm.RS) : Prop :=
  ∃ A n c, CB w g (.slice A n c) s.2 ∧ Sl w (fun k => k = g ∨ X k) 1 (.slice A n c) n (BVs s.1) ∧ Cm.Good s
theorem CR.keep {w w' : World} {X : Nat → Prop} {g : Nat} {s : Cm.RS} (h : CR w X g s) (hs : w.heap.size ≤ w'.heap.size) (hk : ∀ b, b < w.heap.size → ¬ X b → w'.heap[b]? = w.heap[b]?) (hg : ¬ X g) : CR w' X g s := by
  obtain ⟨A, n, c, hb, hsl, hgd⟩ := h
  exact ⟨A, n, c, (hk g hb.lt hg).trans hb, hsl.keep hs fun b hb hX => hk b hb fun hx => hX (.inr hx), hgd⟩
theorem CR.weaken {w : World} {X Y : Nat → Prop} {g : Nat} {s : Cm.RS} (h : CR w X g s) (hk : ∀ b, b < w.heap.size → Y b → X b) : CR w Y g s := by
  obtain ⟨A, n, c, hb, hsl, hgd⟩ := h
  exact ⟨A, n, c, hb, hsl.weaken fun b hb hy => by
    rcases hy with hy | hy
    · exact .inl hy
    · exact .inr (hk b hb hy), hgd⟩
theorem CR.grown {w w' : World} {X : Nat → Prop} {g : Nat} {s : Cm.RS} {row : Option Nat} (h : CR w X g s) (hg : w.grownBy w' row) (hne : some g ≠ row) (hr : ∀ k, row = some k → k < w.heap.size → X k) : CR w' X g s := by
  obtain ⟨A, n, c, hb, hsl, hgd⟩ := h
  exact ⟨A, n, c, Blk.grown hb hg hne, hsl.grown hg fun k hk hlt => .inr (hr k hk hlt), hgd⟩
theorem CR.after {w w' : World} {X : Nat → Prop} {g : Nat} {s : Cm.RS} (h : CR w X g s) (hb : Below w.heap.size w w') : CR w' X g s :=
  h.grown (grown_of_below hb none) (by simp) (by simp)
theorem CR.old {w : World} {X : Nat → Prop} {g : Nat} {s : Cm.RS} (h : CR w X g s) {B : Nat} (hB : w.heap.size ≤ B) : CR w (fun k => X k ∨ B ≤ k) g s := by
  obtain ⟨A, n, c, hb, hsl, hgd⟩ := h
  refine ⟨A, n, c, hb, (hsl.old hB).weaken fun b _ hy => ?_, hgd⟩
  rcases hy with hy | hy | hy
  · exact .inl (.inl hy)
  · exact .inl (.inr hy)
  · exact .inr hy
theorem CR.lt {w : World} {X : Nat → Prop} {g : Nat} {s : Cm.RS} (h : CR w X g s) : g < w.heap.size := by
  obtain ⟨A, n, c, hb, _⟩ := h
  exact hb.lt

end Go.Proofs.YtobphijbhghgmaaGreat.Ce

/-
  Contracts of layer 1's reader: numbers.
-/
namespace Go.Proofs.YtobphijbhghgmaaGreat.Cf
set_option linter.unusedSimpArgs false
set_option linter.unusedVariables false
open Go Go.RowKit Ck Ca Cb Ce

theorem slice_upto (A : Option Addr) (n c k : Nat) (hk : k ≤ c) (W : World) : (Instr.slice 25 (.slice A n c) none (some (.int .i64 (k : Int))) none).run Tryz.prog W = .ok (.slice A k c) W := by
  have he : ∀ W : World, (sizeOf (Tryz.prog.elem 25)).run Tryz.prog W = .ok 1 W := fun _ => by kernel_rfl
  rw [run_slice_h W 25 A n c (by kernel_rfl) .i64 k (by omega) (by omega), he]
  simp only [Result.andThen_ok, sliced, Int.toNat_natCast]
  congr 2
  by_cases h0 : c = 0
  · simp [h0]
  · cases A <;> simp [h0, Addr.add]

end Go.Proofs.YtobphijbhghgmaaGreat.Cf

/-
  Contracts of layer 1's reader: Take, Bytes, Left, Done, Read.
-/
namespace Go.Proofs.YtobphijbhghgmaaGreat.Ch
set_option linter.unusedSimpArgs false
set_option linter.unusedVariables false
open Go Go.RowKit Ck Ca Cb Ce Cf

/-- What a reading of bytes leaves. -/
def Taken (w : World) (X : Nat → Prop) (g : Nat) (r : List UInt8 × Cm.RS) (e : Ending) (w' : World) : Prop :=
  ∃ v, e = .returned v ∧ w'.ownsRow w.heap.size 5 1 v r.1.length (BVs r.1) ∧ w.grownBy w' (some g) ∧ CR w' X g r.2
theorem Taken.nil {w w' : World} {X : Nat → Prop} {g : Nat} {s : Cm.RS} (hg : w.grownBy w' (some g)) (hc : CR w' X g s) : Taken w X g ([], s) (.returned (.slice none 0 0)) w' :=
  ⟨_, rfl, World.ownsRow_nil _ _ _ _, hg, hc⟩
end Go.Proofs.YtobphijbhghgmaaGreat.Ch

/-
  Contract of layer 1's reader: List.
-/
namespace Go.Proofs.YtobphijbhghgmaaGreat.Ci
set_option linter.unusedSimpArgs false
set_option linter.unusedVariables false
open Go Go.RowKit Ck Ca Cb Ce Cf Ch

theorem info_sl : (Tryz.prog.info? 25).map (fun i => (i.zero, i.size, i.bytes)) = some (some (.slice none 0 0), 1, 24) := by kernel_rfl

/-- The parts of a list that a call makes: none in an old block, none in the list's own row. -/
def Els (w : World) (B : Nat) (v : Value) (vals : List Value) (acc : List (List UInt8)) : Prop :=
  vals.length = acc.length ∧ ∀ i (h : i < acc.length), ∃ u, vals[i]? = some u ∧ Sl w (fun k => k < B ∨ v.ownBlock = some k) 1 u acc[i].length (BVs acc[i])
theorem Els.nil (w : World) (B : Nat) (v : Value) : Els w B v [] [] := ⟨rfl, fun i h => absurd h (by simp)⟩
theorem Els.keep {w w' : World} {B : Nat} {v : Value} {vals : List Value} {acc : List (List UInt8)} (h : Els w B v vals acc) (hs : w.heap.size ≤ w'.heap.size) (hk : ∀ b, b < w.heap.size → ¬ (b < B ∨ v.ownBlock = some b) → w'.heap[b]? = w.heap[b]?) : Els w' B v vals acc :=
  ⟨h.1, fun i hi => by obtain ⟨u, hu, h3⟩ := h.2 i hi; exact ⟨u, hu, h3.keep hs hk⟩⟩
theorem Els.grown {w w' : World} {B : Nat} {v : Value} {vals : List Value} {acc : List (List UInt8)} {row : Option Nat} (h : Els w B v vals acc) (hg : w.grownBy w' row) (hr : ∀ k, row = some k → k < B ∨ v.ownBlock = some k) : Els w' B v vals acc :=
  h.keep hg.size fun b hb hX => hg.block b hb fun e => hX (hr b e.symm)
theorem one_newv (w : World) (X : Nat → Prop) (t : TypeId) (u : Value) (hX : ¬ X w.heap.size) : Sl (w.alloc (.cells #[u] t)) X 1 (.slice (some ⟨w.heap.size, 0, none⟩) 1 1) 1 [u] :=
  ⟨_, _, rfl, rfl, Nat.le_refl _, by simp only [maxLen]; omega, fun _ => ⟨_, rfl, by simp, hX, fun j u' hu => cell_one_new w _ t j u' hu⟩⟩

end Go.Proofs.YtobphijbhghgmaaGreat.Ci

/-
  Layer 6 (op): the contracts of parts and records (a row of their own, the parts shared), of slices.Clone at records, of EqualFunc and Same.
-/
namespace Go.Proofs.YtobphijbhghgmaaGreat.Ppi
set_option linter.unusedSimpArgs false
open Go Go.RowKit Ck Kw Ca Cb Ci Pm Pa Pe Pf Pg
set_option linter.unusedVariables false

theorem info_sl : (Tryz.prog.info? 25).map (fun i => (i.zero, i.size, i.bytes)) = some (some (.slice none 0 0), 1, 24) := by kernel_rfl
theorem info_rec : (Tryz.prog.info? 145).map (fun i => (i.zero, i.size, i.bytes)) = some (some (.slice none 0 0), 1, 24) := by kernel_rfl

/-- A list's row made anew: its parts are those that they were. -/
def Rowed (w : World) (X : Nat → Prop) (ls : List Tx) (e : Ending) (w' : World) : Prop :=
  ∃ A c, e = .returned (.slice A ls.length c) ∧ Ls w' (fun k => X k ∧ k < w.heap.size) (.slice A ls.length c) ls ∧ Below w.heap.size w w'
theorem rowed_of {w w' : World} {X : Nat → Prop} {ls : List Tx} {vals : List Value} {v : Value} {t : TypeId} (hown : w'.ownsRow w.heap.size t 1 v ls.length vals)
    (hels : ∀ i (h : i < ls.length), ∃ u, vals[i]? = some u ∧ Sl w X 1 u ls[i].length (BVs ls[i])) (hb : Below w.heap.size w w') : Rowed w X ls (.returned v) w' := by
  obtain ⟨A, c, rfl⟩ := own_shape hown
  refine ⟨A, c, rfl, ⟨vals, Sl.of_own hown (fun k hk _ hx => by omega), fun i hi => ?_⟩, hb⟩
  obtain ⟨u, hu, hs⟩ := hels i hi
  exact ⟨u, hu, (hs.after hb).weaken (fun k _ hk => hk.1)⟩
theorem ls_vals {w : World} {X : Nat → Prop} {A : Option Addr} {c : Nat} {ls : List Tx} (h : Ls w X (.slice A ls.length c) ls) :
    ∃ vals : List Value, vals.length = ls.length ∧ (∀ k (hk : k < ls.length), ∃ ad B d, A = some ad ∧ vals[k]? = some (.slice B ls[k].length d) ∧ w.cell? (ad.add k) = some (.slice B ls[k].length d) ∧ ad.block < w.heap.size) ∧
      ∀ i (hi : i < ls.length), ∃ u, vals[i]? = some u ∧ Sl w X 1 u ls[i].length (BVs ls[i]) := by
  obtain ⟨vals, h1, h2⟩ := h
  obtain ⟨A0, c0, hv, hl, hc, hm, hx⟩ := h1
  obtain ⟨e1, e2, e3⟩ := Value.slice.inj hv
  refine ⟨vals, by omega, fun k hk => ?_, h2⟩
  obtain ⟨ad, hA, hb, hX, hcell⟩ := hx (by omega)
  obtain ⟨u, hu, h3⟩ := h2 k hk
  obtain ⟨B, d, rfl, -⟩ := h3
  exact ⟨ad, B, d, e1.trans hA, hu, hcell k _ hu, hb⟩

set_option maxHeartbeats 1000000 in
theorem parts_any (w : World) (X : Nat → Prop) (A : Option Addr) (c : Nat) (ls : List Tx) (hls : Ls w X (.slice A ls.length c) ls) (hl : ls.length ≤ 1000000) :
    Calls Tryz.prog 179 #[.slice A ls.length c] w (Rowed w X ls) := by
  obtain ⟨vals, hvl, hcell, hels⟩ := ls_vals hls
  have HV := Lib.hid hvl
  have HC := Lib.hid hcell
  have HE := Lib.hid hels
  obtain ⟨i0, hi0, hz0, hz1, hz2⟩ := info_parts info_sl
  clear hls hvl hcell hels
  go_enter Tryz.func179, Tryz.ntmps179
  go_wp2
  go_loopw [3, 8] (fun v i wr => ∃ k : Nat, k ≤ ls.length ∧ i = .int .i64 k ∧ wr.ownsRow w.heap.size 25 1 v k (vals.take k) ∧ Below w.heap.size w wr) (fun _ i _ => ls.length - (intOf i).toNat)
  case atStart => exact ⟨0, Nat.zero_le _, rfl, World.ownsRow_nil _ _ _ _, Below.refl _ _⟩
  case round =>
    obtain ⟨k, hk, rfl, hown, hb⟩ := hrel
    by_cases hlt : k < ls.length
    · obtain ⟨ad, B, d, rfl, hu, hc, hlt2⟩ := HC.out k hlt
      have hc' := (hb.cell (p := ad.add k) (by rw [add_block]; exact hlt2)).trans hc
      have HU : Hid (vals.take (k + 1) = vals.take k ++ [.slice B ls[k].length d]) := Lib.hid (by
        rw [List.take_add_one, hu]; rfl)
      have hsz := hb.size
      clear hc hu
      go_wp2_with (at_builtin; refine wpList_append_sl _ rfl (.tmp 12) (.tmp 14) _ rfl w.heap.size 25 i0 _ 1 24 Tryz.underlying38 hi0 hz0 hz1 hz2 rfl (by omega) u3 k (vals.take k) rfl (hown.alloc _) (fun _ => False) _ 1 [.slice B ls[k].length d] rfl (one_newv wr _ _ _ (fun h => h)) (by simp [Value.oneCell']) (by simp only [maxLen]; omega) (by omega) (by simp; omega) ?_; intro v4 w4 happ)
      go_roundw
      case rel =>
        have hb1 : Below w.heap.size w (wr.alloc (.cells #[.slice B ls[k].length d] 25)) := hb.alloc hsz _
        refine ⟨k + 1, by omega, by go_num, by rw [HU.out]; exact happ.1, hb1.grown happ.2.1 hb1.size (fun g hg => (hown.lt g hg).1)⟩
      case measure => simp [intOf]; omega
    · have hke : k = ls.length := by omega
      have HT : Hid (vals.take k = vals) := Lib.hid (by rw [hke, ← HV.out, List.take_length])
      go_wp2
      go_ret
      rw [HT.out] at hown
      rw [hke] at hown
      exact rowed_of hown HE.out hb

set_option maxHeartbeats 1000000 in
theorem rclone_any (w : World) (X : Nat → Prop) (A : Option Addr) (c : Nat) (ls : List Tx) (hls : Ls w X (.slice A ls.length c) ls) (hl : ls.length * 24 ≤ 140737488355328) :
    Calls Tryz.prog 137 #[.slice A ls.length c] w fun e w' => ∃ v vals, e = .returned v ∧ w'.ownsRow w.heap.size 145 1 v ls.length vals ∧ (∀ i (hi : i < ls.length), ∃ u, vals[i]? = some u ∧ Sl w X 1 u ls[i].length (BVs ls[i])) ∧ Below w.heap.size w w' := by
  obtain ⟨vals, h1, h2⟩ := hls
  have HE := Lib.hid h2
  have hvl : vals.length = ls.length := by obtain ⟨_, _, _, h, _⟩ := h1; omega
  have H1 : ∀ u ∈ vals, u.oneCell' = true := by
    intro u hu
    obtain ⟨i, hi, rfl⟩ := List.getElem_of_mem hu
    obtain ⟨u', hu', h3⟩ := h2 i (by omega)
    obtain ⟨B, d, rfl, -⟩ := h3
    rw [List.getElem?_eq_getElem hi] at hu'
    rw [Option.some.inj hu']
    rfl
  have HONE := Lib.hid H1
  have HVL := Lib.hid hvl
  obtain ⟨i0, hi0, hz0, hz1, hz2⟩ := info_parts info_rec
  have heq := fun (W : World) => Lib.run_eql_slice_nil (P := Tryz.prog) W 96 145 A ls.length c 0 0 Tryz.underlying96
  clear h2 H1 hvl
  rcases A with _ | ad
  · obtain ⟨h0, hv0⟩ := h1.none_
    have hb : ls = [] := List.eq_nil_of_length_eq_zero h0
    subst hb
    simp only [List.length_nil] at heq
    clear h1 h0 hv0
    go_enter Tryz.func137, Tryz.ntmps137
    go_wp2
    go_ret
    exact ⟨_, [], rfl, World.ownsRow_nil _ _ _ _, fun i hi => absurd hi (by simp), Below.refl _ _⟩
  · go_enter Tryz.func137, Tryz.ntmps137
    go_wp2_with (at_builtin; refine wpList_append_sl _ rfl (.tmp 5) (.tmp 6) _ rfl w.heap.size 145 i0 _ 1 24 Tryz.underlying96 hi0 hz0 hz1 hz2 rfl (by omega) (.slice (some ⟨w.heap.size, 0, none⟩) 0 0) 0 [] rfl (World.ownsRow_made w #[] 0 (Nat.le_refl _) (by simp only [maxLen]; omega) rfl) X _ ls.length vals rfl (h1.alloc _) HONE.out (by simp only [maxLen]; omega) (by omega) (by simp) ?_; intro v2 w2 happ)
    go_ret
    refine ⟨v2, vals, rfl, by simpa using happ.1, HE.out, ?_⟩
    exact ((Below.refl _ _).alloc (Nat.le_refl _) _).grown happ.2.1 (by simp) (by simp [Value.ownBlock])

end Go.Proofs.YtobphijbhghgmaaGreat.Ppi

/-
  Contracts of bytes.Clone and bytes.Equal; cuts of a slice of bytes; for any layer.
-/
namespace Go.Proofs.YtobphijbhghgmaaGreat.Ga
set_option linter.unusedSimpArgs false
set_option linter.unusedVariables false
open Go Go.RowKit Ck Kw

theorem info_u8 : (Tryz.prog.info? 5).map (fun i => (i.zero, i.size, i.bytes)) = some (some (.int .u8 0), 1, 1) := by kernel_rfl
set_option maxHeartbeats 400000 in
theorem clone_any (X : Nat → Prop) (v : Value) (n : Nat) (b : List UInt8) (w : World) (hv : Sl w X 1 v n (BVs b)) (hn : n ≤ 549755813888) :
    Calls Tryz.prog 138 #[v] w fun e w' => Made w 5 b e w' := by
  have hnl : n = b.length := by obtain ⟨A, c, _, h, _⟩ := hv; rw [BVs_len] at h; omega
  subst hnl
  obtain ⟨i0, hi0, hz0, hz1, hz2⟩ := info_parts info_u8
  have hv' := hv
  obtain ⟨A, c, rfl, -⟩ := hv'
  have heq := fun (W : World) => Lib.run_eql_slice_nil (P := Tryz.prog) W 25 5 A b.length c 0 0 Tryz.underlying25
  rcases A with _ | ad
  · obtain ⟨h0, _⟩ := hv.none_
    have hb : b = [] := List.eq_nil_of_length_eq_zero h0
    subst hb
    simp only [List.length_nil] at heq
    clear hv h0
    go_enter Tryz.func138, Tryz.ntmps138
    go_wp2
    go_ret
    exact ⟨_, rfl, World.ownsRow_nil _ _ _ _, Below.refl _ _⟩
  · go_enter Tryz.func138, Tryz.ntmps138
    go_wp2_with (at_builtin; refine wpList_append_sl _ rfl (.tmp 5) (.tmp 6) _ rfl w.heap.size 5 i0 _ 1 1 Tryz.underlying25 hi0 hz0 hz1 hz2 rfl (by omega) (.slice (some ⟨w.heap.size, 0, none⟩) 0 0) 0 [] rfl (World.ownsRow_made w #[] 0 (Nat.le_refl _) (by simp only [maxLen]; omega) rfl) X _ b.length (BVs b) rfl (hv.alloc _) (BVs_one _) (by simp only [maxLen]; omega) (by omega) (by simp) ?_; intro v2 w2 happ)
    go_ret
    refine ⟨v2, rfl, by simpa using happ.1, ?_⟩
    exact ((Below.refl _ _).alloc (Nat.le_refl _) _).grown happ.2.1 (by simp) (by simp [Value.ownBlock])

theorem clone_sh (X : Nat → Prop) (v : Value) (n : Nat) (b : List UInt8) (w : World) (hv : Sl w X 1 v n (BVs b)) (hn : n ≤ 549755813888) :
    Calls Tryz.prog 138 #[v] w fun e w' => ∃ A c, e = .returned (.slice A b.length c) ∧ w'.ownsRow w.heap.size 5 1 (.slice A b.length c) b.length (BVs b) ∧ Below w.heap.size w w' := by
  refine (clone_any X v n b w hv hn).mono ?_
  rintro e w' ⟨v2, rfl, ho, hb⟩
  obtain ⟨A, c, rfl⟩ := own_shape ho
  exact ⟨A, c, rfl, ho, hb⟩

theorem below_of_drew {B : Nat} {w w2 : World} (h : Below B w.drew w2) : Below B w w2 := ⟨h.os, h.tape, h.output, h.size, h.block⟩
theorem ch_of_drew {S : Nat → Prop} {w w2 : World} (h : Ch S w.drew w2) : Ch S w w2 := ⟨h.os, h.tape, h.output, h.size, h.block⟩

theorem wrap64 {z : Int} (h : -9223372036854775808 ≤ z) (h' : z ≤ 9223372036854775807) : IntKind.i64.wrap z = z := by
  simp [IntKind.wrap, IntKind.bits, IntKind.signed]
  split <;> omega

theorem up_mono {S : Nat → Prop} {a b c : World} (h : b.heap.size ≤ c.heap.size) {k : Nat} (hk : Up S a b k) : Up S a c k := by
  rcases hk with hk | ⟨h1, h2⟩
  · exact .inl hk
  · exact .inr ⟨h1, by omega⟩
theorem up_two {S : Nat → Prop} {a b c : World} (h : a.heap.size ≤ b.heap.size) (h' : b.heap.size ≤ c.heap.size) {k : Nat} (hk : Up (Up S a b) b c k) : Up S a c k := by
  rcases hk with hk | ⟨h1, h2⟩
  · exact up_mono h' hk
  · exact .inr ⟨by omega, h2⟩
theorem ch_two {S : Nat → Prop} {a b c : World} (h : Ch S a b) (h' : Ch (Up S a b) b c) : Ch S a c :=
  h.trans h' (fun k hk hu => by
    rcases hu with hu | ⟨h1, _⟩
    · exact hu
    · omega)

theorem slice_upto (A : Option Addr) (n c k : Nat) (hk : k ≤ c) (W : World) : (Instr.slice 25 (.slice A n c) none (some (.int .i64 (k : Int))) none).run Tryz.prog W = .ok (.slice A k c) W := by
  have he : ∀ W : World, (sizeOf (Tryz.prog.elem 25)).run Tryz.prog W = .ok 1 W := fun _ => by kernel_rfl
  rw [run_slice_h W 25 A n c (by kernel_rfl) .i64 k (by omega) (by omega), he]
  simp only [Result.andThen_ok, sliced, Int.toNat_natCast]
  congr 2
  by_cases h0 : c = 0
  · simp [h0]
  · cases A <;> simp [h0, Addr.add]

end Go.Proofs.YtobphijbhghgmaaGreat.Ga

/-
  Bytes made out of a text, for any layer.
-/
namespace Go.Proofs.YtobphijbhghgmaaGreat.Kx
set_option linter.unusedSimpArgs false
set_option linter.unusedVariables false
open Go Go.RowKit Ck Kw Ga
/-- v is new bytes, made out of a text. -/
def Out (w : World) (base : Nat) (v : Value) (l : List UInt8) : Prop :=
  ∃ (g cap : Nat) (cs : Array Value) (z : Nat), v = .slice (some ⟨g, 0, none⟩) l.length cap ∧ base ≤ g ∧ w.heap[g]? = some (.cells cs 5 (z, z + 1)) ∧ l.length ≤ z ∧ l.length ≤ cap ∧ cap ≤ maxLen ∧ ∀ (j : Nat) (u : Value), (BVs l)[j]? = some u → cs[j]? = some u
theorem Out.sl {w : World} {base : Nat} {v : Value} {l : List UInt8} {X : Nat → Prop} (h : Out w base v l) (hX : ∀ k, base ≤ k → k < w.heap.size → ¬ X k) : Sl w X 1 v l.length (BVs l) := by
  obtain ⟨g, cap, cs, z, rfl, hb, hg, hz, hc, hm, hx⟩ := h
  have hlt := (Array.getElem?_eq_some_iff.1 hg).1
  refine ⟨_, _, rfl, by simp [BVs_len], hc, hm, fun _ => ⟨_, rfl, hlt, hX g hb hlt, fun j u hu => ?_⟩⟩
  have ha : (⟨g, 0, none⟩ : Addr).add j = ⟨g, j, none⟩ := by unfold Addr.add; split <;> simp_all
  rw [ha]
  simp only [World.cell?, hg]
  exact hx j u hu
theorem Out.ch {w w' : World} {base : Nat} {v : Value} {l : List UInt8} {S : Nat → Prop} (h : Out w base v l) (c : Ch S w w') (hS : ∀ k, base ≤ k → k < w.heap.size → ¬ S k) : Out w' base v l := by
  obtain ⟨g, cap, cs, z, rfl, hb, hg, r⟩ := h
  exact ⟨g, cap, cs, z, rfl, hb, (c.block g (Array.getElem?_eq_some_iff.1 hg).1 (hS g hb (Array.getElem?_eq_some_iff.1 hg).1)).trans hg, r⟩
theorem Out.base {w : World} {base b' : Nat} {v : Value} {l : List UInt8} (h : Out w base v l) (hb : b' ≤ base) : Out w b' v l := by
  obtain ⟨g, cap, cs, z, hv, h1, r⟩ := h
  exact ⟨g, cap, cs, z, hv, Nat.le_trans hb h1, r⟩
theorem bytesWorld_below (w : World) (e : TypeId) (s : ByteArray) : Below w.heap.size w (Lib.bytesWorld w e s) := by
  refine ⟨?_, ?_, ?_, by rw [Lib.bytesWorld_size]; omega, fun k hk => Lib.bytesWorld_at_old w e s k hk⟩ <;>
    (unfold Lib.bytesWorld World.freeze; split <;> rfl)
theorem bytesWorld_out (w : World) (l : List UInt8) (hl : l.length ≤ 140737488355328) : Out (Lib.bytesWorld w 5 ⟨l.toArray⟩) w.heap.size (.slice (some ⟨w.heap.size, 0, none⟩) l.length (grownCap w l.length 0 5)) l := by
  have hge := grownCap_ge w l.length 0 5
  refine ⟨w.heap.size, _, _, _, rfl, Nat.le_refl _, Lib.bytesWorld_at_new w 5 ⟨l.toArray⟩, ?_, hge, grownCap_le_maxLen w _ _ _ (by simp only [maxLen]; omega), fun j u hu => ?_⟩
  · show l.length ≤ ((l.toArray.map fun b : UInt8 => Value.int .u8 b.toNat) ++ Array.replicate _ _).size
    simp
  · have hj : j < l.length := by have := (List.getElem?_eq_some_iff.1 hu).1; rwa [BVs_len] at this
    show ((l.toArray.map fun b : UInt8 => Value.int .u8 b.toNat) ++ Array.replicate _ _)[j]? = some u
    rw [Array.getElem?_append_left (by simpa using hj)]
    rw [BVs_get hj] at hu
    simpa [hj] using hu
theorem conv_bytes (l : List UInt8) (W : World) : (convert 9 25 (.string ⟨l.toArray⟩)).run Tryz.prog W = .ok (.slice (some ⟨W.heap.size, 0, none⟩) l.length (grownCap W l.length 0 5)) (Lib.bytesWorld W 5 ⟨l.toArray⟩) := by
  have := Lib.run_convert_string_bytes (P := Tryz.prog) W 9 25 5 ⟨l.toArray⟩ Tryz.underlying9 Tryz.underlying25 Tryz.underlying5
  have hs : (⟨l.toArray⟩ : ByteArray).size = l.length := by show l.toArray.size = _; simp
  rw [hs] at this
  exact this

end Go.Proofs.YtobphijbhghgmaaGreat.Kx

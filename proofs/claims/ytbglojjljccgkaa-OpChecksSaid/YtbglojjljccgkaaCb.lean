/-
  Contracts of layer 1's functions that put, and of the document's own.
-/
import Derived.Test.YtbglojjljccgkaaCa
namespace Go.Proofs.Ytbglojjljccgkaa.Cb
open Go Go.RowKit Ck Ca

theorem info_u8 : (Try.prog.info? 5).map (fun i => (i.zero, i.size, i.bytes)) = some (some (.int .u8 0), 1, 1) := by kernel_rfl

set_option maxRecDepth 100000 in
set_option maxHeartbeats 400000 in
theorem numlen_any (n : Nat) (h : n < 18446744073709551616) (w : World) :
    Calls Try.prog 71 #[.int .u64 n] w fun e w' => e = .returned (.int .i64 (Cm.enc n).length) ∧ Below w.heap.size w w' := by
  have hlen := Cm.enc_len n
  have hi := info_arr
  rw [← Ar_size hlen.1] at hi
  have HI := Lib.hid hi
  have HH := Lib.hid h
  clear hi h
  go_enter Try.func71, Try.ntmps71
  go_wp2_with (first
    | (go_at_call 81; refine (digits_any n HH.out _).mono ?_; rintro e w1 ⟨cs, rfl, rfl, hb⟩)
    | (refine wpList_store_row rfl 99 _ _ rfl w1.heap.size (Ar (Cm.enc n)) rfl rfl 99 (Ar []) (Blk.new_at rfl rfl) HI.out ?c2 (Ar_one _) ?_))
  case c2 => rw [Ar_size (by simp), Ar_size hlen.1]
  go_ret
  exact ⟨rfl, below_setRow (hb.alloc hb.size _) hb.size _⟩

set_option maxHeartbeats 400000 in
theorem byteslen_any (A : Option Addr) (n c : Nat) (h : n ≤ 140737488355328) (w : World) :
    Calls Try.prog 73 #[.slice A n c] w fun e w' => e = .returned (.int .i64 ((Cm.enc n).length + n : Nat)) ∧ Below w.heap.size w w' := by
  have hlen := Cm.enc_len n
  go_enter Try.func73, Try.ntmps73
  go_wp2_with (go_at_call 71; refine (numlen_any n (by omega) _).mono ?_; rintro e w1 ⟨rfl, hb⟩)
  go_ret
  exact ⟨rfl, hb⟩

set_option maxHeartbeats 400000 in
theorem roomy_any (X : Nat → Prop) (v : Value) (n : Nat) (l : List UInt8) (m : Nat) (w : World) (hv : Sl w X 1 v n (BVs l)) (hn : n ≤ 140737488355328) (hm : n + m ≤ 140737488355328) :
    Calls Try.prog 58 #[v, .int .i64 m] w fun e w' => Made w 5 l e w' := by
  have hnl : n = l.length := by obtain ⟨A, c, _, h, _⟩ := hv; rw [BVs_len] at h; omega
  subst hnl
  have hv' := hv
  obtain ⟨A, c, rfl, -⟩ := hv'
  obtain ⟨i0, hi0, hz0, hz1, hz2⟩ := info_parts info_u8
  go_enter Try.func58, Try.ntmps58
  go_wp2_with (first
    | (refine wpList_make_own _ rfl _ _ 32 rfl w.heap.size 5 i0 _ 1 Try.underlying32 hi0 hz0 hz1 .i64 .i64 _ (l.length + m) rfl rfl (by omega) (by rw [hz2]; omega) (by simp only [maxLen]; omega) (Nat.le_refl _) ?_; intro w1 hown1 hg1)
    | (at_builtin; refine wpList_append_sl _ rfl (.tmp 9) (.tmp 10) _ rfl w.heap.size 5 i0 _ 1 1 Try.underlying32 hi0 hz0 hz1 hz2 rfl (by omega) (.slice (some ⟨w.heap.size, 0, none⟩) 0 (l.length + m)) 0 [] rfl hown1 X _ l.length (BVs l) rfl (hv.grown hg1 (by simp)) (BVs_one l) (by simp only [maxLen]; omega) (by omega) hg1.size ?_; intro v2 w2 happ))
  go_ret
  refine ⟨v2, rfl, by simpa using happ.1, ?_⟩
  exact (below_of_grown hg1 (by simp)).grown happ.2.1 hg1.size (by simp [Value.ownBlock])

theorem slice_arr (k : Nat) (hk : k ≤ 10) (g : Nat) (W : World) :
    (Instr.sliceAt 99 (.pointer (some ⟨g, 0, none⟩)) none (some (.int .i64 (k : Int))) none).run Try.prog W = .ok (.slice (some ⟨g, 0, none⟩) k 10) W := by
  have al : Try.prog.arrayLen 99 = 10 := by kernel_rfl
  have he : (sizeOf (Try.prog.elem 99)).run Try.prog W = .ok 1 W := by kernel_rfl
  rw [run_sliceAt_array_h W 99 _ (by kernel_rfl) .i64 k (by omega) (by rw [al]; omega), he, al]
  simp [Result.andThen, slicedAt, Addr.add]
theorem Sl_arr {w : World} {X : Nat → Prop} {g : Nat} {t : TypeId} {l : List UInt8} (h : Blk w g t (Ar l)) (hl : l.length ≤ 10) (hX : ¬ X g) : Sl w X 1 (.slice (some ⟨g, 0, none⟩) l.length 10) l.length (BVs l) :=
  ⟨_, _, rfl, by simp [BVs_len], hl, by simp only [maxLen]; omega, fun _ => ⟨_, rfl, h.lt, hX, fun j u hu => by
    have hj : j < (BVs l).length := (List.getElem?_eq_some_iff.1 hu).1
    have ha : (⟨g, 0, none⟩ : Addr).add j = ⟨g, j, none⟩ := by unfold Addr.add; split <;> simp_all
    rw [ha, h.cell j]
    simp only [Ar, List.getElem?_toArray]
    rw [List.getElem?_append_left hj]
    exact hu⟩⟩

set_option maxRecDepth 100000 in
set_option maxHeartbeats 400000 in
theorem addnum_any (base : Nat) (v : Value) (n : Nat) (l : List UInt8) (w : World) (hown : w.ownsRow base 5 1 v l.length (BVs l)) (hbase : base ≤ w.heap.size) (hl : l.length ≤ 140737488355318) (h : n < 18446744073709551616) :
    Calls Try.prog 70 #[v, .int .u64 n] w fun e w' => Onto w base 5 v (l ++ Cm.enc n) e w' := by
  have hlen := Cm.enc_len n
  obtain ⟨i0, hi0, hz0, hz1, hz2⟩ := info_parts info_u8
  have hi := info_arr
  rw [← Ar_size hlen.1] at hi
  have HI := Lib.hid hi
  have HH := Lib.hid h
  clear hi h
  have hsl := slice_arr _ hlen.1
  go_enter Try.func70, Try.ntmps70
  go_wp2_with (first
    | (go_at_call 81; refine (digits_any n HH.out _).mono ?_; rintro e w1 ⟨cs, rfl, rfl, hb⟩)
    | (refine wpList_store_row rfl 99 _ _ rfl w1.heap.size (Ar (Cm.enc n)) rfl rfl 99 (Ar []) (Blk.new_at rfl rfl) HI.out ?c2 (Ar_one _) ?_)
    | (at_builtin; refine wpList_append_sl _ rfl (.tmp 12) (.tmp 14) _ rfl base 5 i0 _ 1 1 Try.underlying32 hi0 hz0 hz1 hz2 rfl (by omega) v l.length (BVs l) rfl (own_below hown (below_setRow (hb.alloc hb.size _) hb.size _)) (fun _ => False) _ (Cm.enc n).length (BVs (Cm.enc n)) rfl (Sl_arr (setRow_heap _ _ _ _ _ _ (Blk.new_at rfl rfl)) hlen.1 (fun h => h)) (BVs_one _) (by simp only [maxLen]; omega) (by omega) (Nat.le_trans hbase (below_setRow (hb.alloc hb.size _) hb.size _).size) ?_; intro v2 w2 happ))
  case c2 => rw [Ar_size (by simp), Ar_size hlen.1]
  go_ret
  exact Onto.of (below_setRow (hb.alloc hb.size _) hb.size _) happ

set_option maxHeartbeats 400000 in
theorem addbytes_any (base : Nat) (X : Nat → Prop) (v : Value) (l : List UInt8) (A : Option Addr) (n c : Nat) (x : List UInt8) (w : World) (hown : w.ownsRow base 5 1 v l.length (BVs l)) (hbase : base ≤ w.heap.size)
    (hx : Sl w X 1 (.slice A n c) n (BVs x)) (hX : ∀ g, v.ownBlock = some g → X g) (hl : l.length ≤ 140737488355318) (hn : l.length + n ≤ 140737488355318) :
    Calls Try.prog 72 #[v, .slice A n c] w fun e w' => Onto w base 5 v (l ++ Cm.encB x) e w' := by
  have hnl : n = x.length := by obtain ⟨A, c, _, h, _⟩ := hx; rw [BVs_len] at h; omega
  subst hnl
  have hlen := Cm.enc_len x.length
  obtain ⟨i0, hi0, hz0, hz1, hz2⟩ := info_parts info_u8
  go_enter Try.func72, Try.ntmps72
  go_wp2_with (first
    | (go_at_call 70; refine (addnum_any base v x.length l _ hown hbase (by omega) (by omega)).mono ?_; rintro e w1 ⟨v1, rfl, hown1, hg1, hr1⟩)
    | (at_builtin; refine wpList_append_sl _ rfl (.tmp 9) (.tmp 10) _ rfl base 5 i0 _ 1 1 Try.underlying32 hi0 hz0 hz1 hz2 rfl (by omega) v1 _ _ rfl hown1 X _ x.length (BVs x) rfl (hx.grown hg1 (fun g hg _ => hX g hg)) (BVs_one _) (by rw [List.length_append]; simp only [maxLen]; omega) (by rw [List.length_append]; omega) (Nat.le_trans hbase hg1.size) ?_; intro v2 w2 happ))
  go_ret
  have R := Onto.of (Below.refl _ _) happ
  rw [Cm.encB, ← List.append_assoc]
  exact R.then_ hg1 hr1

set_option maxHeartbeats 400000 in
theorem putnum_any (X : Nat → Prop) (v : Value) (n : Nat) (b : List UInt8) (m : Nat) (w : World) (hv : Sl w X 1 v n (BVs b)) (hn : n ≤ 140737488355318) (hm : m < 18446744073709551616) :
    Calls Try.prog 49 #[v, .int .u64 m] w fun e w' => Made w 5 (b ++ Cm.enc m) e w' := by
  have hnl : n = b.length := by obtain ⟨A, c, _, h, _⟩ := hv; rw [BVs_len] at h; omega
  subst hnl
  have hlen := Cm.enc_len m
  have HM := Lib.hid hm
  clear hm
  go_enter Try.func49, Try.ntmps49
  go_wp2_with (first
    | (go_at_call 71; refine (numlen_any m HM.out _).mono ?_; rintro e w1 ⟨rfl, hb1⟩)
    | (go_at_call 58; refine (roomy_any X v b.length b (Cm.enc m).length _ (hv.after hb1) (by omega) (by omega)).mono ?_; rintro e w2 ⟨v2, rfl, hown2, hb2⟩)
    | (go_at_call 70; refine (addnum_any w1.heap.size v2 m b _ hown2 hb2.size (by omega) HM.out).mono ?_; rintro e w3 ⟨v3, rfl, hown3, hg3, hr3⟩))
  go_ret
  obtain ⟨v4, he, hown4, hb4⟩ := Made.later hb1 (Made.onto hown2 hb2 ⟨v3, rfl, hown3, hg3, hr3⟩)
  exact ⟨v4, he, own_base hown4 hb1.size, hb4⟩

set_option maxHeartbeats 400000 in
theorem putbytes_any (X : Nat → Prop) (v x : Value) (n k : Nat) (b l : List UInt8) (w : World) (hv : Sl w X 1 v n (BVs b)) (hx : Sl w X 1 x k (BVs l)) (hn : n ≤ 140737488355318) (hk : n + k ≤ 140737488355318) :
    Calls Try.prog 50 #[v, x] w fun e w' => Made w 5 (b ++ Cm.encB l) e w' := by
  have hnl : n = b.length := by obtain ⟨A, c, _, h, _⟩ := hv; rw [BVs_len] at h; omega
  have hkl : k = l.length := by obtain ⟨A, c, _, h, _⟩ := hx; rw [BVs_len] at h; omega
  subst hnl; subst hkl
  have hlen := Cm.enc_len l.length
  have hx' := hx
  obtain ⟨A, c, rfl, -⟩ := hx'
  go_enter Try.func50, Try.ntmps50
  go_wp2_with (first
    | (go_at_call 73; refine (byteslen_any A l.length c (by omega) _).mono ?_; rintro e w1 ⟨rfl, hb1⟩)
    | (go_at_call 58; refine (roomy_any X v b.length b ((Cm.enc l.length).length + l.length) _ (hv.after hb1) (by omega) (by omega)).mono ?_; rintro e w2 ⟨v2, rfl, hown2, hb2⟩)
    | (go_at_call 72; refine (addbytes_any w1.heap.size (w1.heap.size ≤ ·) v2 b A _ c l _ hown2 hb2.size (((hx.after hb1).old' (Nat.le_refl _)).after hb2) (fun g hg => (hown2.lt g hg).1) (by omega) (by omega)).mono ?_; rintro e w3 ⟨v3, rfl, hown3, hg3, hr3⟩))
  go_ret
  obtain ⟨v4, he, hown4, hb4⟩ := Made.later hb1 (Made.onto hown2 hb2 ⟨v3, rfl, hown3, hg3, hr3⟩)
  exact ⟨v4, he, own_base hown4 hb1.size, hb4⟩

end Go.Proofs.Ytbglojjljccgkaa.Cb

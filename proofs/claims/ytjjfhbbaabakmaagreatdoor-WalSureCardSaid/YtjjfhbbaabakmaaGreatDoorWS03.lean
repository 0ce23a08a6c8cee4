/-
  Contracts of layer 1's functions that put: bytes.Equal, digits, NumLen, roomy, addNum, addBytes and their kin.
-/
import Derived.Test.YtjjfhbbaabakmaaGreatDoorWS01
import Derived.Test.YtjjfhbbaabakmaaGreatDoorRows
import Derived.Deep.QuietTactic
import Derived.BigQuiet
namespace Go.Proofs.YtjjfhbbaabakmaaGreatDoor.Ca
set_option linter.unusedSimpArgs false
set_option linter.unusedVariables false
open Go Go.RowKit Ck

/-- bytes.Equal tells whether two byte strings are the same. -/
theorem equal_any (w : World) (X Y : Nat → Prop) (va vb : Value) (n m : Nat) (l k : List UInt8) (ha : Sl w X 1 va n (BVs l)) (hb : Sl w Y 1 vb m (BVs k)) :
    Calls Tryz.prog 31 #[va, vb] w fun e w' => e = .returned (.bool (l == k)) ∧ w = w' := by
  have hn : n = l.length := by obtain ⟨A, c, _, h, _⟩ := ha; rw [BVs_len] at h; omega
  have hm : m = k.length := by obtain ⟨A, c, _, h, _⟩ := hb; rw [BVs_len] at h; omega
  subst hn; subst hm
  have ha' := ha
  have hb' := hb
  obtain ⟨A, c, rfl, -⟩ := ha'
  obtain ⟨B, d, rfl, -⟩ := hb'
  have c1 := run_convert_sl (P := Tryz.prog) w X 32 9 5 A c l Tryz.underlying32 Tryz.underlying5 Tryz.underlying9 ha
  have c2 := run_convert_sl (P := Tryz.prog) w Y 32 9 5 B d k Tryz.underlying32 Tryz.underlying5 Tryz.underlying9 hb
  clear ha hb
  go_enter Tryz.func31, Tryz.ntmps31
  go_wp2
  go_ret
  exact ⟨rfl, rfl⟩

/-- An array of ten bytes, so many of them written. -/
def Ar (pre : List UInt8) : Array Value := (BVs pre ++ List.replicate (10 - pre.length) (Value.int .u8 0)).toArray
theorem Ar_at {pre : List UInt8} {k : Nat} (hk : k = pre.length) (h9 : k ≤ 9) : (Ar pre)[k]? = some (Value.int .u8 0) := by
  simp only [Ar, List.getElem?_toArray]
  rw [List.getElem?_append_right (by rw [BVs_len]; omega), BVs_len, List.getElem?_replicate, if_pos (by omega)]
theorem Ar_set {pre : List UInt8} {k v : Nat} (hk : k = pre.length) (h9 : k ≤ 9) (hv : v < 256) : (Ar pre).setIfInBounds k (Value.int .u8 (v : Int)) = Ar (pre ++ [UInt8.ofNat v]) := by
  subst hk
  have hr : 10 - pre.length = (9 - pre.length) + 1 := by omega
  have hr2 : 10 - (pre ++ [UInt8.ofNat v]).length = 9 - pre.length := by simp only [List.length_append, List.length_singleton]; omega
  simp only [Ar, List.setIfInBounds_toArray]
  rw [hr, hr2, List.replicate_succ, BVs_app, List.append_assoc]
  congr 1
  rw [List.set_append_right _ _ (by rw [BVs_len]; omega), BVs_len]
  simp only [Nat.sub_self, List.set_cons_zero, BVs, List.map_cons, List.map_nil, List.cons_append, List.nil_append]
  rw [BV_of hv]
theorem byte_or (m : Nat) (h : m < 18446744073709551616) : bits .or .u8 (bits .and .u64 (m : Int) 127 % 256) 128 = ((m % 128 + 128 : Nat) : Int) := by
  have h1 : bits .and .u64 (m : Int) 127 = ((m % 128 : Nat) : Int) := by
    rw [show (127 : Int) = ((127 : Nat) : Int) from rfl, u64_and_nat m 127 h (by omega), nat_mask7]
  rw [h1, show ((m % 128 : Nat) : Int) % 256 = ((m % 128 : Nat) : Int) from by omega, show (128 : Int) = ((128 : Nat) : Int) from rfl, u8_or_nat _ _ (by omega) (by omega),
    Nat.or_comm, nat_join 7 128 (m % 128) (by omega) (by omega)]
  omega
theorem Ar_size {pre : List UInt8} (h : pre.length ≤ 10) : (Ar pre).size = 10 := by
  simp only [Ar, List.size_toArray, List.length_append, BVs_len, List.length_replicate]; omega
theorem Ar_one (pre : List UInt8) : (Ar pre).all (·.oneCell') = true := by
  simp only [Ar, List.all_toArray, List.all_append, List.all_replicate, Bool.and_eq_true]
  refine ⟨List.all_eq_true.2 (BVs_one pre), ?_⟩
  split <;> rfl
theorem Blk.setRow {w : World} {g g' : Nat} {t : TypeId} {cs : Array Value} (h : Blk w g t cs) (hne : g ≠ g') (ds : Array Value) : Blk (w.setRow g' ds) g t cs := (setRow_other w g' g ds (by omega)).trans h
theorem below_setRow {B : Nat} {a w : World} (h : Below B a w) {g : Nat} (hg : B ≤ g) (ds : Array Value) : Below B a (w.setRow g ds) :=
  h.trans ⟨rfl, rfl, rfl, by simp, fun k hk => setRow_other w g k ds (by omega)⟩
theorem info_arr : (Tryz.prog.info? 178).map (·.size) = some 10 := by kernel_rfl
theorem digits_end {wr : World} {B m k n : Nat} {pre : List UInt8} {t : TypeId} (hb : Blk wr B t (Ar pre)) (hP : pre ++ Cm.enc m = Cm.enc n) (hk : k = pre.length) (hm : m < 128) :
    k + 1 = (Cm.enc n).length ∧ Blk (wr.setCell ⟨B, k, none⟩ (.int .u8 (m : Int))) B t (Ar (Cm.enc n)) := by
  have h10 := Cm.enc_len n
  rw [Cm.enc_small hm] at hP
  have hl : pre.length + 1 = (Cm.enc n).length := by rw [← hP]; simp
  refine ⟨by omega, ?_⟩
  have := hb.set_ k (.int .u8 (m : Int))
  rw [Ar_set hk (by omega) (by omega), hP] at this
  exact this
theorem digits_step {wr : World} {B m k n : Nat} {pre : List UInt8} {t : TypeId} (hb : Blk wr B t (Ar pre)) (hP : pre ++ Cm.enc m = Cm.enc n) (hk : k = pre.length) (h9 : k ≤ 8) (hm : m < 18446744073709551616) (hbig : 128 ≤ m) :
    Value.int .u64 ((m : Int) / 128) = .int .u64 ((m / 128 : Nat) : Int) ∧ k + 1 = (pre ++ [UInt8.ofNat (m % 128 + 128)]).length ∧ (pre ++ [UInt8.ofNat (m % 128 + 128)]) ++ Cm.enc (m / 128) = Cm.enc n ∧ m / 128 < 18446744073709551616 ∧
      Blk (wr.setCell ⟨B, k, none⟩ (.int .u8 (bits .or .u8 (bits .and .u64 (m : Int) 127 % 256) 128))) B t (Ar (pre ++ [UInt8.ofNat (m % 128 + 128)])) := by
  refine ⟨by simp, by simp [hk], ?_, by omega, ?_⟩
  · rw [← hP, Cm.enc_big hbig hm, List.append_assoc]
    rfl
  · have := hb.set_ k (.int .u8 (bits .or .u8 (bits .and .u64 (m : Int) 127 % 256) 128))
    rw [byte_or m hm, Ar_set hk (by omega) (by omega)] at this
    rw [byte_or m hm]
    exact this

set_option maxRecDepth 100000 in
set_option maxHeartbeats 400000 in
theorem digits_any (n : Nat) (h : n < 18446744073709551616) (w : World) :
    Calls Tryz.prog 140 #[.int .u64 n] w fun e w' => ∃ cs : Array Value, e = .returned (.tuple #[.agg cs, .int .i64 (Cm.enc n).length]) ∧ cs = Ar (Cm.enc n) ∧ Below w.heap.size w w' := by
  go_enter Tryz.func140, Tryz.ntmps140
  go_wp2
  go_loopw [0, 5] (fun a i wr => ∃ (m k : Nat) (pre : List UInt8), a = .int .u64 m ∧ i = .int .i64 k ∧ k = pre.length ∧ pre ++ Cm.enc m = Cm.enc n ∧ m < 18446744073709551616 ∧
      Blk wr (w.heap.size + 1) 178 (Ar pre) ∧ Blk wr w.heap.size 178 (Ar []) ∧ Below w.heap.size w wr)
    (fun a _ _ => (intOf a).toNat)
  case atStart => exact ⟨n, 0, [], rfl, rfl, rfl, rfl, h, Blk.new_at (by simp) rfl, (Blk.new_at rfl rfl).alloc _, ((Below.refl _ _).alloc (Nat.le_refl _) _).alloc (by simp) _⟩
  case round =>
    obtain ⟨m, k, pre, rfl, rfl, hk, hpre, hm, hb1, hb0, hbel⟩ := hrel
    have hlen := Cm.enc_len n
    have hlm := Cm.enc_len m
    have hl2 := congrArg List.length hpre
    rw [List.length_append] at hl2
    by_cases hbig : 128 ≤ m
    · have hlb := Cm.enc_len_big hbig
      have hk8 : k ≤ 8 := by omega
      have hcell := hb1.cell k
      have hfr := hb1.frozen k
      have hc2 := Ar_at hk (by omega)
      rw [hc2] at hcell
      have HP := Lib.hid hpre
      have HK := Lib.hid hk
      have HM := Lib.hid hm
      clear hpre hk hl2 hc2 h hm
      go_wp2
      go_roundw
      case rel =>
        have R := digits_step hb1 HP.out HK.out hk8 HM.out hbig
        exact ⟨m / 128, k + 1, _, R.1, by go_num, R.2.1, R.2.2.1, R.2.2.2.1, R.2.2.2.2, hb0.far (by simp) _, hbel.setCell (by simp) _⟩
      case measure => simp [intOf]; omega
    · have hk9 : k ≤ 9 := by omega
      have hcell := hb1.cell k
      have hfr := hb1.frozen k
      have hc2 := Ar_at hk (by omega)
      rw [hc2] at hcell
      have R := digits_end hb1 hpre hk (by omega)
      have HR := Lib.hid R
      clear R hpre hk hl2 hc2 h hm
      have hi := info_arr
      rw [← Ar_size hlen.1] at hi
      have HI := Lib.hid hi
      clear hi
      go_wp2_with (first
        | (refine wpList_load_row rfl 178 _ rfl (w.heap.size + 1) rfl 178 (Ar (Cm.enc n)) (0, 0) _ HR.out.2 Tryz.underlying178 rfl HI.out ?_)
        | (refine wpList_store_row rfl 178 _ _ rfl w.heap.size (Ar (Cm.enc n)) rfl rfl 178 (Ar []) ?c1 HI.out ?c2 (Ar_one _) ?_))
      case c1 => exact hb0.far (by simp) _
      case c2 => rw [Ar_size (by simp), Ar_size hlen.1]
      refine bodyPost_ret (results_row_tmp rfl _ _ w.heap.size 178 (Ar (Cm.enc n)) (0, 0) _ rfl (setRow_heap _ _ _ _ _ _ (hb0.far (by simp) _)) Tryz.underlying178 rfl HI.out) rfl ?_
      refine ⟨_, ?_, rfl, below_setRow (hbel.setCell (by simp) _) (Nat.le_refl _) _⟩
      rw [← HR.out.1]
      rfl

end Go.Proofs.YtjjfhbbaabakmaaGreatDoor.Ca

/-
  Contracts of layer 1's functions that put, and of the document's own.
-/
namespace Go.Proofs.YtjjfhbbaabakmaaGreatDoor.Cb
set_option linter.unusedSimpArgs false
set_option linter.unusedVariables false
open Go Go.RowKit Ck Ca

theorem info_u8 : (Tryz.prog.info? 5).map (fun i => (i.zero, i.size, i.bytes)) = some (some (.int .u8 0), 1, 1) := by kernel_rfl

set_option maxRecDepth 100000 in
set_option maxHeartbeats 400000 in
theorem numlen_any (n : Nat) (h : n < 18446744073709551616) (w : World) :
    Calls Tryz.prog 109 #[.int .u64 n] w fun e w' => e = .returned (.int .i64 (Cm.enc n).length) ∧ Below w.heap.size w w' := by
  have hlen := Cm.enc_len n
  have hi := info_arr
  rw [← Ar_size hlen.1] at hi
  have HI := Lib.hid hi
  have HH := Lib.hid h
  clear hi h
  go_enter Tryz.func109, Tryz.ntmps109
  go_wp2_with (first
    | (go_at_call 140; refine (digits_any n HH.out _).mono ?_; rintro e w1 ⟨cs, rfl, rfl, hb⟩)
    | (refine wpList_store_row rfl 178 _ _ rfl w1.heap.size (Ar (Cm.enc n)) rfl rfl 178 (Ar []) (Blk.new_at rfl rfl) HI.out ?c2 (Ar_one _) ?_))
  case c2 => rw [Ar_size (by simp), Ar_size hlen.1]
  go_ret
  exact ⟨rfl, below_setRow (hb.alloc hb.size _) hb.size _⟩

set_option maxHeartbeats 400000 in
theorem byteslen_any (A : Option Addr) (n c : Nat) (h : n ≤ 140737488355328) (w : World) :
    Calls Tryz.prog 83 #[.slice A n c] w fun e w' => e = .returned (.int .i64 ((Cm.enc n).length + n : Nat)) ∧ Below w.heap.size w w' := by
  have hlen := Cm.enc_len n
  go_enter Tryz.func83, Tryz.ntmps83
  go_wp2_with (go_at_call 109; refine (numlen_any n (by omega) _).mono ?_; rintro e w1 ⟨rfl, hb⟩)
  go_ret
  exact ⟨rfl, hb⟩

set_option maxHeartbeats 400000 in
theorem roomy_any (X : Nat → Prop) (v : Value) (n : Nat) (l : List UInt8) (m : Nat) (w : World) (hv : Sl w X 1 v n (BVs l)) (hn : n ≤ 140737488355328) (hm : n + m ≤ 140737488355328) :
    Calls Tryz.prog 82 #[v, .int .i64 m] w fun e w' => Made w 5 l e w' := by
  have hnl : n = l.length := by obtain ⟨A, c, _, h, _⟩ := hv; rw [BVs_len] at h; omega
  subst hnl
  have hv' := hv
  obtain ⟨A, c, rfl, -⟩ := hv'
  obtain ⟨i0, hi0, hz0, hz1, hz2⟩ := info_parts info_u8
  go_enter Tryz.func82, Tryz.ntmps82
  go_wp2_with (first
    | (refine wpList_make_own _ rfl _ _ 32 rfl w.heap.size 5 i0 _ 1 Tryz.underlying32 hi0 hz0 hz1 .i64 .i64 _ (l.length + m) rfl rfl (by omega) (by rw [hz2]; omega) (by simp only [maxLen]; omega) (Nat.le_refl _) ?_; intro w1 hown1 hg1)
    | (at_builtin; refine wpList_append_sl _ rfl (.tmp 9) (.tmp 10) _ rfl w.heap.size 5 i0 _ 1 1 Tryz.underlying32 hi0 hz0 hz1 hz2 rfl (by omega) (.slice (some ⟨w.heap.size, 0, none⟩) 0 (l.length + m)) 0 [] rfl hown1 X _ l.length (BVs l) rfl (hv.grown hg1 (by simp)) (BVs_one l) (by simp only [maxLen]; omega) (by omega) hg1.size ?_; intro v2 w2 happ))
  go_ret
  refine ⟨v2, rfl, by simpa using happ.1, ?_⟩
  exact (below_of_grown hg1 (by simp)).grown happ.2.1 hg1.size (by simp [Value.ownBlock])

theorem slice_arr (k : Nat) (hk : k ≤ 10) (g : Nat) (W : World) :
    (Instr.sliceAt 178 (.pointer (some ⟨g, 0, none⟩)) none (some (.int .i64 (k : Int))) none).run Tryz.prog W = .ok (.slice (some ⟨g, 0, none⟩) k 10) W := by
  have al : Tryz.prog.arrayLen 178 = 10 := by kernel_rfl
  have he : (sizeOf (Tryz.prog.elem 178)).run Tryz.prog W = .ok 1 W := by kernel_rfl
  rw [run_sliceAt_array_h W 178 _ (by kernel_rfl) .i64 k (by omega) (by rw [al]; omega), he, al]
  simp [Result.andThen, slicedAt, Addr.add]
theorem Sl_arr {w : World} {X : Nat → Prop} {g : Nat} {t : TypeId} {l : List UInt8} (h : Blk w g t (Ar l)) (hl : l.length ≤ 10) (hX : ¬ X g) : Sl w X 1 (.slice (some ⟨g, 0, none⟩) l.length 10) l.length (BVs l) :=
  ⟨_, _, rfl, by simp [BVs_len], hl, by simp only [maxLen]; omega, fun _ => ⟨_, rfl, h.lt, hX, fun j u hu => by
    have hj : j < (BVs l).length := (List.getElem?_eq_some_iff.1 hu).1
    have ha : (⟨g, 0, none⟩ : Addr).add j = ⟨g, j, none⟩ := by unfold Addr.add; split <;> simp_all
    rw [ha, h.cell j]
    simp only [Ar, List.getElem?_toArray]
    rw [List.getElem?_append_left hj]
    exact hu⟩⟩

set_option maxRecDepth 100000 in
set_option maxHeartbeats 400000 in
theorem addnum_any (base : Nat) (v : Value) (n : Nat) (l : List UInt8) (w : World) (hown : w.ownsRow base 5 1 v l.length (BVs l)) (hbase : base ≤ w.heap.size) (hl : l.length ≤ 140737488355318) (h : n < 18446744073709551616) :
    Calls Tryz.prog 108 #[v, .int .u64 n] w fun e w' => Onto w base 5 v (l ++ Cm.enc n) e w' := by
  have hlen := Cm.enc_len n
  obtain ⟨i0, hi0, hz0, hz1, hz2⟩ := info_parts info_u8
  have hi := info_arr
  rw [← Ar_size hlen.1] at hi
  have HI := Lib.hid hi
  have HH := Lib.hid h
  clear hi h
  have hsl := slice_arr _ hlen.1
  go_enter Tryz.func108, Tryz.ntmps108
  go_wp2_with (first
    | (go_at_call 140; refine (digits_any n HH.out _).mono ?_; rintro e w1 ⟨cs, rfl, rfl, hb⟩)
    | (refine wpList_store_row rfl 178 _ _ rfl w1.heap.size (Ar (Cm.enc n)) rfl rfl 178 (Ar []) (Blk.new_at rfl rfl) HI.out ?c2 (Ar_one _) ?_)
    | (at_builtin; refine wpList_append_sl _ rfl (.tmp 12) (.tmp 14) _ rfl base 5 i0 _ 1 1 Tryz.underlying32 hi0 hz0 hz1 hz2 rfl (by omega) v l.length (BVs l) rfl (own_below hown (below_setRow (hb.alloc hb.size _) hb.size _)) (fun _ => False) _ (Cm.enc n).length (BVs (Cm.enc n)) rfl (Sl_arr (setRow_heap _ _ _ _ _ _ (Blk.new_at rfl rfl)) hlen.1 (fun h => h)) (BVs_one _) (by simp only [maxLen]; omega) (by omega) (Nat.le_trans hbase (below_setRow (hb.alloc hb.size _) hb.size _).size) ?_; intro v2 w2 happ))
  case c2 => rw [Ar_size (by simp), Ar_size hlen.1]
  go_ret
  exact Onto.of (below_setRow (hb.alloc hb.size _) hb.size _) happ

set_option maxHeartbeats 400000 in
theorem addbytes_any (base : Nat) (X : Nat → Prop) (v : Value) (l : List UInt8) (A : Option Addr) (n c : Nat) (x : List UInt8) (w : World) (hown : w.ownsRow base 5 1 v l.length (BVs l)) (hbase : base ≤ w.heap.size)
    (hx : Sl w X 1 (.slice A n c) n (BVs x)) (hX : ∀ g, v.ownBlock = some g → X g) (hl : l.length ≤ 140737488355318) (hn : l.length + n ≤ 140737488355318) :
    Calls Tryz.prog 81 #[v, .slice A n c] w fun e w' => Onto w base 5 v (l ++ Cm.encB x) e w' := by
  have hnl : n = x.length := by obtain ⟨A, c, _, h, _⟩ := hx; rw [BVs_len] at h; omega
  subst hnl
  have hlen := Cm.enc_len x.length
  obtain ⟨i0, hi0, hz0, hz1, hz2⟩ := info_parts info_u8
  go_enter Tryz.func81, Tryz.ntmps81
  go_wp2_with (first
    | (go_at_call 108; refine (addnum_any base v x.length l _ hown hbase (by omega) (by omega)).mono ?_; rintro e w1 ⟨v1, rfl, hown1, hg1, hr1⟩)
    | (at_builtin; refine wpList_append_sl _ rfl (.tmp 9) (.tmp 10) _ rfl base 5 i0 _ 1 1 Tryz.underlying32 hi0 hz0 hz1 hz2 rfl (by omega) v1 _ _ rfl hown1 X _ x.length (BVs x) rfl (hx.grown hg1 (fun g hg _ => hX g hg)) (BVs_one _) (by rw [List.length_append]; simp only [maxLen]; omega) (by rw [List.length_append]; omega) (Nat.le_trans hbase hg1.size) ?_; intro v2 w2 happ))
  go_ret
  have R := Onto.of (Below.refl _ _) happ
  rw [Cm.encB, ← List.append_assoc]
  exact R.then_ hg1 hr1

set_option maxHeartbeats 400000 in
theorem putnum_any (X : Nat → Prop) (v : Value) (n : Nat) (b : List UInt8) (m : Nat) (w : World) (hv : Sl w X 1 v n (BVs b)) (hn : n ≤ 140737488355318) (hm : m < 18446744073709551616) :
    Calls Tryz.prog 85 #[v, .int .u64 m] w fun e w' => Made w 5 (b ++ Cm.enc m) e w' := by
  have hnl : n = b.length := by obtain ⟨A, c, _, h, _⟩ := hv; rw [BVs_len] at h; omega
  subst hnl
  have hlen := Cm.enc_len m
  have HM := Lib.hid hm
  clear hm
  go_enter Tryz.func85, Tryz.ntmps85
  go_wp2_with (first
    | (go_at_call 109; refine (numlen_any m HM.out _).mono ?_; rintro e w1 ⟨rfl, hb1⟩)
    | (go_at_call 82; refine (roomy_any X v b.length b (Cm.enc m).length _ (hv.after hb1) (by omega) (by omega)).mono ?_; rintro e w2 ⟨v2, rfl, hown2, hb2⟩)
    | (go_at_call 108; refine (addnum_any w1.heap.size v2 m b _ hown2 hb2.size (by omega) HM.out).mono ?_; rintro e w3 ⟨v3, rfl, hown3, hg3, hr3⟩))
  go_ret
  obtain ⟨v4, he, hown4, hb4⟩ := Made.later hb1 (Made.onto hown2 hb2 ⟨v3, rfl, hown3, hg3, hr3⟩)
  exact ⟨v4, he, own_base hown4 hb1.size, hb4⟩

set_option maxHeartbeats 400000 in
theorem putbytes_any (X : Nat → Prop) (v x : Value) (n k : Nat) (b l : List UInt8) (w : World) (hv : Sl w X 1 v n (BVs b)) (hx : Sl w X 1 x k (BVs l)) (hn : n ≤ 140737488355318) (hk : n + k ≤ 140737488355318) :
    Calls Tryz.prog 61 #[v, x] w fun e w' => Made w 5 (b ++ Cm.encB l) e w' := by
  have hnl : n = b.length := by obtain ⟨A, c, _, h, _⟩ := hv; rw [BVs_len] at h; omega
  have hkl : k = l.length := by obtain ⟨A, c, _, h, _⟩ := hx; rw [BVs_len] at h; omega
  subst hnl; subst hkl
  have hlen := Cm.enc_len l.length
  have hx' := hx
  obtain ⟨A, c, rfl, -⟩ := hx'
  go_enter Tryz.func61, Tryz.ntmps61
  go_wp2_with (first
    | (go_at_call 83; refine (byteslen_any A l.length c (by omega) _).mono ?_; rintro e w1 ⟨rfl, hb1⟩)
    | (go_at_call 82; refine (roomy_any X v b.length b ((Cm.enc l.length).length + l.length) _ (hv.after hb1) (by omega) (by omega)).mono ?_; rintro e w2 ⟨v2, rfl, hown2, hb2⟩)
    | (go_at_call 81; refine (addbytes_any w1.heap.size (w1.heap.size ≤ ·) v2 b A _ c l _ hown2 hb2.size (((hx.after hb1).old' (Nat.le_refl _)).after hb2) (fun g hg => (hown2.lt g hg).1) (by omega) (by omega)).mono ?_; rintro e w3 ⟨v3, rfl, hown3, hg3, hr3⟩))
  go_ret
  obtain ⟨v4, he, hown4, hb4⟩ := Made.later hb1 (Made.onto hown2 hb2 ⟨v3, rfl, hown3, hg3, hr3⟩)
  exact ⟨v4, he, own_base hown4 hb1.size, hb4⟩

end Go.Proofs.YtjjfhbbaabakmaaGreatDoor.Cb

/-
  Contracts of the document's own functions of layer 1 that put, of bytes.Clone, and of Same.
-/
namespace Go.Proofs.YtjjfhbbaabakmaaGreatDoor.Cd
set_option linter.unusedSimpArgs false
set_option linter.unusedVariables false
open Go Go.RowKit Ck Ca Cb

set_option maxHeartbeats 400000 in
theorem clone_any (X : Nat → Prop) (v : Value) (n : Nat) (b : List UInt8) (w : World) (hv : Sl w X 1 v n (BVs b)) (hn : n ≤ 140737488355328) :
    Calls Tryz.prog 37 #[v] w fun e w' => Made w 5 b e w' := by
  have hnl : n = b.length := by obtain ⟨A, c, _, h, _⟩ := hv; rw [BVs_len] at h; omega
  subst hnl
  obtain ⟨i0, hi0, hz0, hz1, hz2⟩ := info_parts info_u8
  have hv' := hv
  obtain ⟨A, c, rfl, -⟩ := hv'
  have heq := fun (W : World) => Lib.run_eql_slice_nil (P := Tryz.prog) W 32 5 A b.length c 0 0 Tryz.underlying32
  rcases A with _ | ad
  · obtain ⟨h0, _⟩ := hv.none_
    have hb : b = [] := List.eq_nil_of_length_eq_zero h0
    subst hb
    simp only [List.length_nil] at heq
    clear hv h0
    go_enter Tryz.func37, Tryz.ntmps37
    go_wp2
    go_ret
    exact ⟨_, rfl, World.ownsRow_nil _ _ _ _, Below.refl _ _⟩
  · go_enter Tryz.func37, Tryz.ntmps37
    go_wp2_with (at_builtin; refine wpList_append_sl _ rfl (.tmp 5) (.tmp 6) _ rfl w.heap.size 5 i0 _ 1 1 Tryz.underlying32 hi0 hz0 hz1 hz2 rfl (by omega) (.slice (some ⟨w.heap.size, 0, none⟩) 0 0) 0 [] rfl (World.ownsRow_made w #[] 0 (Nat.le_refl _) (by simp only [maxLen]; omega) rfl) X _ b.length (BVs b) rfl (hv.alloc _) (BVs_one _) (by simp only [maxLen]; omega) (by omega) (by simp) ?_; intro v2 w2 happ)
    go_ret
    refine ⟨v2, rfl, by simpa using happ.1, ?_⟩
    exact ((Below.refl _ _).alloc (Nat.le_refl _) _).grown happ.2.1 (by simp) (by simp [Value.ownBlock])

end Go.Proofs.YtjjfhbbaabakmaaGreatDoor.Cd

/-
  Contracts of layer 1's reader.
-/
namespace Go.Proofs.YtjjfhbbaabakmaaGreatDoor.Ce
set_option linter.unusedSimpArgs false
set_option linter.unusedVariables false
open Go Go.RowKit Ck Ca Cb

/-- The reader's block. -/
abbrev CB (w : World) (g : Nat) (v : Value) (err : Int) : Prop := Blk w g 155 #[.bool true, v, .int .i64 err]
abbrev P_ (g : Nat) : Value := .pointer (some ⟨g, 0, none⟩)

theorem err_blk (w : World) (g : Nat) (v : Value) (err : Int) (h : CB w g v err) :
    Calls Tryz.prog 118 #[P_ g] w fun e w' => e = .returned (.int .i64 err) ∧ w = w' := by
  have h0 := h.cell 0
  have h2 := h.cell 2
  simp only [List.getElem?_toArray, List.getElem?_cons_zero, List.getElem?_cons_succ] at h0 h2
  clear h
  go_enter Tryz.func118, Tryz.ntmps118
  go_wp2
  go_ret
  exact ⟨rfl, rfl⟩
theorem reads_ok (w : World) (g : Nat) (v : Value) (h : CB w g v 0) :
    Calls Tryz.prog 115 #[P_ g] w fun e w' => e = .returned (.bool true) ∧ w = w' := by
  go_enter Tryz.func115, Tryz.ntmps115
  go_wp2_with (go_at_call 118; refine (err_blk _ g v 0 h).mono ?_; rintro e w1 ⟨rfl, rfl⟩)
  go_ret
  exact ⟨rfl, rfl⟩
theorem reads_no (w : World) (g : Nat) (v : Value) (err : Int) (h : CB w g v err) (he : err ≠ 0) :
    Calls Tryz.prog 115 #[P_ g] w fun e w' => e = .returned (.bool false) ∧ w = w' := by
  have he1 : (err == 0) = false := by rw [beq_eq_false_iff_ne]; exact he
  go_enter Tryz.func115, Tryz.ntmps115
  go_wp2_with (go_at_call 118; refine (err_blk _ g v err h).mono ?_; rintro e w1 ⟨rfl, rfl⟩)
  go_ret
  exact ⟨rfl, rfl⟩

/-- A reader in memory: what is left lies in no block of X. -/
def CR (w : World) (X : Nat → Prop) (g : Nat) (s : Cm.RS) : Prop :=
  ∃ A n c, CB w g (.slice A n c) s.2 ∧ Sl w (fun k => k = g ∨ X k) 1 (.slice A n c) n (BVs s.1) ∧ Cm.Good s
theorem CR.keep {w w' : World} {X : Nat → Prop} {g : Nat} {s : Cm.RS} (h : CR w X g s) (hs : w.heap.size ≤ w'.heap.size) (hk : ∀ b, b < w.heap.size → ¬ X b → w'.heap[b]? = w.heap[b]?) (hg : ¬ X g) : CR w' X g s := by
  obtain ⟨A, n, c, hb, hsl, hgd⟩ := h
  exact ⟨A, n, c, (hk g hb.lt hg).trans hb, hsl.keep hs fun b hb hX => hk b hb fun hx => hX (.inr hx), hgd⟩
theorem CR.weaken {w : World} {X Y : Nat → Prop} {g : Nat} {s : Cm.RS} (h : CR w X g s) (hk : ∀ b, b < w.heap.size → Y b → X b) : CR w Y g s := by
  obtain ⟨A, n, c, hb, hsl, hgd⟩ := h
  exact ⟨A, n, c, hb, hsl.weaken fun b hb hy => by
    rcases hy with hy | hy
    · exact .inl hy
    · exact .inr (hk b hb hy), hgd⟩
theorem CR.grown {w w' : World} {X : Nat → Prop} {g : Nat} {s : Cm.RS} {row : Option Nat} (h : CR w X g s) (hg : w.grownBy w' row) (hne : some g ≠ row) (hr : ∀ k, row = some k → k < w.heap.size → X k) : CR w' X g s := by
  obtain ⟨A, n, c, hb, hsl, hgd⟩ := h
  exact ⟨A, n, c, Blk.grown hb hg hne, hsl.grown hg fun k hk hlt => .inr (hr k hk hlt), hgd⟩
theorem CR.after {w w' : World} {X : Nat → Prop} {g : Nat} {s : Cm.RS} (h : CR w X g s) (hb : Below w.heap.size w w') : CR w' X g s :=
  h.grown (grown_of_below hb none) (by simp) (by simp)
theorem CR.old {w : World} {X : Nat → Prop} {g : Nat} {s : Cm.RS} (h : CR w X g s) {B : Nat} (hB : w.heap.size ≤ B) : CR w (fun k => X k ∨ B ≤ k) g s := by
  obtain ⟨A, n, c, hb, hsl, hgd⟩ := h
  refine ⟨A, n, c, hb, (hsl.old hB).weaken fun b _ hy => ?_, hgd⟩
  rcases hy with hy | hy | hy
  · exact .inl (.inl hy)
  · exact .inl (.inr hy)
  · exact .inr hy
theorem CR.lt {w : World} {X : Nat → Prop} {g : Nat} {s : Cm.RS} (h : CR w X g s) : g < w.heap.size := by
  obtain ⟨A, n, c, hb, _⟩ := h
  exact hb.lt

theorem fail_end {w : World} {g : Nat} {v : Value} {e0 : Int} {X : Nat → Prop} (h : CB w g v 0) :
    w.grownBy ((w.setCell ⟨g, 2, none⟩ (.int .i64 e0)).setCell ⟨g, 1, none⟩ (.slice none 0 0)) (some g) ∧ CR ((w.setCell ⟨g, 2, none⟩ (.int .i64 e0)).setCell ⟨g, 1, none⟩ (.slice none 0 0)) X g ([], e0) := by
  have h1 := Blk.set_ h 2 (.int .i64 e0)
  have h2 := Blk.set_ h1 1 (.slice none 0 0)
  refine ⟨?_, none, 0, 0, h2, Sl.nil _ _ _, fun _ => rfl⟩
  have g1 := grown_setCell (World.grownBy.refl w (some g)) (p := ⟨g, 2, none⟩) (.inl rfl) (.int .i64 e0)
  exact grown_setCell g1 (p := ⟨g, 1, none⟩) (.inl rfl) (.slice none 0 0)

set_option maxHeartbeats 400000 in
theorem fail_any (w : World) (X : Nat → Prop) (g : Nat) (s : Cm.RS) (h : CR w X g s) (e0 : Int) :
    Calls Tryz.prog 117 #[P_ g, .int .i64 e0] w fun e w' => e = .returned (.tuple #[]) ∧ w.grownBy w' (some g) ∧ CR w' X g (Cm.failS s e0) := by
  have hcr := h
  obtain ⟨A, n, c, hb, hsl, hgd⟩ := h
  by_cases hs : s.2 = 0
  · have hb0 := hb
    rw [hs] at hb0
    by_cases he : e0 = 0
    · have hf : Cm.failS s e0 = s := by simp [Cm.failS, hs, he]
      rw [hf]
      subst he
      have HS := Lib.hid hs
      clear hs hf
      go_enter Tryz.func117, Tryz.ntmps117
      go_wp2_with (go_at_call 115; refine (reads_ok _ g _ hb0).mono ?_; rintro e w1 ⟨rfl, rfl⟩)
      go_end0
      exact ⟨rfl, World.grownBy.refl _ _, hcr⟩
    · have hf : Cm.failS s e0 = ([], e0) := by simp [Cm.failS, hs, he]
      rw [hf]
      have he1 : (e0 == 0) = false := by rw [beq_eq_false_iff_ne]; exact he
      have he2 : (e0 != 0) = true := by rw [bne, he1]; rfl
      have h1 := hb0.cell 1
      have h2 := hb0.cell 2
      have f1 := hb0.frozen 1
      have f2 := hb0.frozen 2
      simp only [List.getElem?_toArray, List.getElem?_cons_zero, List.getElem?_cons_succ] at h1 h2
      have HS := Lib.hid hs
      have HE := Lib.hid he
      clear hs hf he
      go_enter Tryz.func117, Tryz.ntmps117
      go_wp2_with (go_at_call 115; refine (reads_ok _ g _ hb0).mono ?_; rintro e w1 ⟨rfl, rfl⟩)
      go_end0
      exact ⟨rfl, fail_end hb0⟩
  · have hf : Cm.failS s e0 = s := by simp [Cm.failS, hs]
    rw [hf]
    have HS := Lib.hid hs
    clear hs hf
    go_enter Tryz.func117, Tryz.ntmps117
    go_wp2_with (go_at_call 115; refine (reads_no _ g _ _ hb HS.out).mono ?_; rintro e w1 ⟨rfl, rfl⟩)
    go_end0
    exact ⟨rfl, World.grownBy.refl _ _, hcr⟩

end Go.Proofs.YtjjfhbbaabakmaaGreatDoor.Ce

/-
  Contracts of layer 1's reader: numbers.
-/
namespace Go.Proofs.YtjjfhbbaabakmaaGreatDoor.Cf
set_option linter.unusedSimpArgs false
set_option linter.unusedVariables false
open Go Go.RowKit Ck Ca Cb Ce

theorem Sl_at {w : World} {X : Nat → Prop} {A : Option Addr} {n c : Nat} {l : List UInt8} (h : Sl w X 1 (.slice A n c) n (BVs l)) {k : Nat} (hk : k < l.length) : ∃ ad, A = some ad ∧ w.cell? (ad.add k) = some (.int .u8 (l[k].toNat : Int)) := by
  obtain ⟨A0, c0, hv, hl, hc, hm, hx⟩ := h
  injection hv with e1 e2 e3
  rw [BVs_len] at hl
  obtain ⟨ad, hA, hb, hX, hcell⟩ := hx (by omega)
  exact ⟨ad, e1.trans hA, hcell k _ (BVs_get hk)⟩

theorem or_shl (k acc x : Nat) (hacc : acc < 128 ^ k) (hx : x < 256) (hk : k ≤ 9) (h9 : k = 9 → x % 128 ≤ 1) :
    bits .or .u64 (acc : Int) (IntKind.u64.wrap (IntKind.u64.wrap (bits .and .u8 (x : Int) 127) * 2 ^ (7 * k))) = ((acc + x % 128 * 128 ^ k : Nat) : Int) := by
  have hp := Cm.pow_le k hk
  have h1 : bits .and .u8 (x : Int) 127 = ((x % 128 : Nat) : Int) := by
    rw [show (127 : Int) = ((127 : Nat) : Int) from rfl, u8_and_nat x 127 hx (by omega), nat_mask7]
  have hw : ∀ n : Nat, n < 18446744073709551616 → IntKind.u64.wrap (n : Int) = (n : Int) := by
    intro n hn
    simp [IntKind.wrap, IntKind.bits, IntKind.signed]
    omega
  have h2 : ((2 : Int) ^ (7 * k)) = ((128 ^ k : Nat) : Int) := by
    rw [Int.pow_mul]
    simp
  have hb : x % 128 * 128 ^ k < 18446744073709551616 := by
    by_cases hk9 : k = 9
    · have := h9 hk9
      have : x % 128 * 128 ^ k ≤ 1 * 128 ^ k := Nat.mul_le_mul_right _ this
      omega
    · have h8 : 128 ^ k ≤ 72057594037927936 := by
        have : k = 0 ∨ k = 1 ∨ k = 2 ∨ k = 3 ∨ k = 4 ∨ k = 5 ∨ k = 6 ∨ k = 7 ∨ k = 8 := by omega
        rcases this with rfl | rfl | rfl | rfl | rfl | rfl | rfl | rfl | rfl <;> decide
      have : x % 128 * 128 ^ k ≤ 127 * 128 ^ k := Nat.mul_le_mul_right _ (by omega)
      omega
  rw [h1, hw _ (by omega), h2, ← Int.natCast_mul, hw _ hb, u64_or_nat _ _ (by omega) hb, Nat.or_comm]
  have h7 : (2 : Nat) ^ (7 * k) = 128 ^ k := by rw [Nat.pow_mul]
  rw [nat_join (7 * k) (x % 128 * 128 ^ k) acc (by rw [h7]; exact Nat.mul_mod_left _ _) (by rw [h7]; exact hacc)]
  omega

theorem or_shl9 (acc x : Nat) (hacc : acc < 128 ^ 9) (hx : x ≤ 1) :
    bits .or .u64 (acc : Int) (IntKind.u64.wrap (IntKind.u64.wrap (bits .and .u8 (x : Int) 127) * 9223372036854775808)) = ((acc + x * 128 ^ 9 : Nat) : Int) := by
  have h := or_shl 9 acc x hacc (by omega) (by omega) (fun _ => by omega)
  rw [Nat.mod_eq_of_lt (by omega), show ((2 : Int) ^ (7 * 9)) = 9223372036854775808 from by decide] at h
  exact h
theorem pn_at {xs : List UInt8} {k : Nat} (h : k < xs.length) (acc : Nat) : Cm.pn (xs.drop k) k acc =
    if k = 9 ∧ 1 < xs[k].toNat then (0, 0, 11)
    else if 128 ≤ xs[k].toNat then Cm.pn (xs.drop (k + 1)) (k + 1) (acc + xs[k].toNat % 128 * 128 ^ k)
    else if xs[k].toNat = 0 ∧ 0 < k then (0, 0, 11)
    else (acc + xs[k].toNat * 128 ^ k, k + 1, 0) := by
  rw [List.drop_eq_getElem_cons h]
  rfl
theorem pow_step {acc x k : Nat} (h : acc < 128 ^ k) : acc + x % 128 * 128 ^ k < 128 ^ (k + 1) := by
  have h1 : x % 128 * 128 ^ k ≤ 127 * 128 ^ k := Nat.mul_le_mul_right _ (by omega)
  have h2 : 128 ^ (k + 1) = 128 ^ k * 128 := Nat.pow_succ 128 k
  omega

set_option maxRecDepth 100000 in
set_option maxHeartbeats 400000 in
theorem parse_any (w : World) (X : Nat → Prop) (A : Option Addr) (c : Nat) (xs : List UInt8) (h : Sl w X 1 (.slice A xs.length c) xs.length (BVs xs)) :
    Calls Tryz.prog 116 #[.slice A xs.length c] w fun e w' => e = .returned (.tuple #[.int .u64 (Cm.pn xs 0 0).1, .int .i64 (Cm.pn xs 0 0).2.1, .int .i64 (Cm.pn xs 0 0).2.2]) ∧ w = w' := by
  go_enter Tryz.func116, Tryz.ntmps116
  go_wp2
  go_loop [5, 10] (fun a i => ∃ k acc : Nat, k ≤ xs.length ∧ i = .int .i64 k ∧ a = .int .u64 acc ∧ acc < 128 ^ k ∧ k ≤ 9 ∧ Cm.pn xs 0 0 = Cm.pn (xs.drop k) k acc)
    (fun _ i => xs.length - (intOf i).toNat)
  case atStart => exact ⟨0, 0, Nat.zero_le _, rfl, rfl, by simp, by omega, by simp⟩
  case round =>
    obtain ⟨k, acc, hk, rfl, rfl, hacc, hk9, hpn⟩ := hrel
    have HP := Lib.hid hpn
    have HA := Lib.hid hacc
    clear hpn hacc
    by_cases hlt : k < xs.length
    · obtain ⟨ad, rfl, hcell⟩ := Sl_at h hlt
      have hb := xs[k].toNat_lt
      generalize hx : xs[k].toNat = x at *
      have hat := pn_at hlt acc
      rw [hx] at hat
      have HAT := Lib.hid hat
      clear hat
      have HX := Lib.hid hx
      clear hx
      by_cases h9 : k = 9 ∧ 1 < x
      · have e := HAT.out
        rw [if_pos h9, ← HP.out] at e
        have HE := Lib.hid e
        have hk9a : 9 ≤ k := by omega
        have hx1 : 1 < x := h9.2
        clear h9 e
        go_wp2
        go_ret3
        exact ⟨by rw [HE.out]; rfl, rfl⟩
      · by_cases hbig : 128 ≤ x
        · have hkn : k < 9 := by omega
          have e := HAT.out
          rw [if_neg h9, if_pos hbig, ← HP.out] at e
          have HE := Lib.hid e
          clear h9 e
          go_wp2
          go_round
          case rel => exact ⟨k + 1, acc + x % 128 * 128 ^ k, by omega, by go_num, by rw [or_shl k acc x HA.out (by omega) (by omega) (by omega)], pow_step HA.out, by omega, HE.out⟩
          case measure => simp [intOf]; omega
        · have hsm : x < 128 := by omega
          have e := HAT.out
          rw [if_neg h9, if_neg hbig, ← HP.out] at e
          have hv : ∀ h9' : k = 9 → x % 128 ≤ 1, _ := or_shl k acc x HA.out (by omega) (by omega)
          have hv' := hv (by omega)
          rw [Nat.mod_eq_of_lt hsm] at hv'
          have HV := Lib.hid hv'
          by_cases hz : x = 0 ∧ 0 < k
          · rw [if_pos hz] at e
            have HE := Lib.hid e
            have hz1 : x ≤ 0 := by omega
            have hz2 : 0 < k := hz.2
            clear hz e hbig hv hv'
            by_cases hk8 : k < 9
            · clear h9
              go_wp2
              go_ret3
              exact ⟨by rw [HE.out]; rfl, rfl⟩
            · have hk9a : 9 ≤ k := by omega
              clear h9 hk8
              go_wp2
              go_ret3
              exact ⟨by rw [HE.out]; rfl, rfl⟩
          · rw [if_neg hz] at e
            have HE := Lib.hid e
            have hz3 : 1 ≤ x ∨ (x ≤ 0 ∧ k ≤ 0) := by omega
            clear e hbig hv hv'
            by_cases hk8 : k < 9
            · clear h9
              rcases hz3 with hz3 | ⟨hz3, hz4⟩
              · clear hz
                go_wp2
                go_ret3
                exact ⟨by rw [HE.out, ← HV.out]; rfl, rfl⟩
              · clear hz
                obtain rfl : x = 0 := by omega
                go_wp2
                go_ret3
                exact ⟨by rw [HE.out, ← HV.out]; rfl, rfl⟩
            · have hk9a : 9 ≤ k := by omega
              have hx1 : x ≤ 1 := by omega
              have hx2 : 1 ≤ x := by omega
              clear h9 hk8 hz hz3 HV
              go_wp2
              go_ret3
              obtain rfl : k = 9 := by omega
              have hv9 := or_shl9 acc x HA.out hx1
              exact ⟨by rw [HE.out, ← hv9]; rfl, rfl⟩
    · have hke : xs.length ≤ k := by omega
      have e := HP.out
      rw [List.drop_eq_nil_of_le hke] at e
      have HE := Lib.hid e
      clear e
      go_wp2
      go_ret3
      exact ⟨by rw [HE.out]; rfl, rfl⟩

/-- A cut from k on, and a cut up to k, of a slice of bytes. -/
theorem slice_from (A : Option Addr) (n c k : Nat) (hk : k ≤ n) (hc : n ≤ c) : ∃ A', (∀ W : World, (Instr.slice 32 (.slice A n c) (some (.int .i64 (k : Int))) none none).run Tryz.prog W = .ok (.slice A' (n - k) (c - k)) W) ∧ (∀ ad, A = some ad → k < n → A' = some (ad.add (k * 1))) := by
  have he : ∀ W : World, (sizeOf (Tryz.prog.elem 32)).run Tryz.prog W = .ok 1 W := fun _ => by kernel_rfl
  refine ⟨if c = k then A else A.map (·.add (k * 1)), fun W => ?_, ?_⟩
  · rw [run_slice_l W 32 A n c (by kernel_rfl) .i64 k (by omega) (by omega), he]
    rfl
  · rintro ad rfl hlt
    rw [if_neg (by omega)]
    rfl
theorem slice_upto (A : Option Addr) (n c k : Nat) (hk : k ≤ c) (W : World) : (Instr.slice 32 (.slice A n c) none (some (.int .i64 (k : Int))) none).run Tryz.prog W = .ok (.slice A k c) W := by
  have he : ∀ W : World, (sizeOf (Tryz.prog.elem 32)).run Tryz.prog W = .ok 1 W := fun _ => by kernel_rfl
  rw [run_slice_h W 32 A n c (by kernel_rfl) .i64 k (by omega) (by omega), he]
  simp only [Result.andThen_ok, sliced, Int.toNat_natCast]
  congr 2
  by_cases h0 : c = 0
  · simp [h0]
  · cases A <;> simp [h0, Addr.add]

end Go.Proofs.YtjjfhbbaabakmaaGreatDoor.Cf

/-
  Plain mathematics of layer 4 (wal): the sum (CRC-32) as a map on numbers, and why a burst of at most 32 bits shows. No program is named here.
-/
namespace Go.Proofs.YtjjfhbbaabakmaaGreatDoor.Wc
set_option linter.unusedSimpArgs false
set_option linter.unusedVariables false

/-- One bit further. -/
def T (r : Nat) : Nat := if r % 2 = 1 then (r / 2) ^^^ 3988292384 else r / 2
/-- So many bits further. -/
def Tn : Nat → Nat → Nat
  | 0, r => r
  | k + 1, r => Tn k (T r)
/-- The remainder behind some bytes. -/
def crc : List UInt8 → Nat → Nat
  | [], r => r
  | c :: l, r => crc l (Tn 8 (r ^^^ c.toNat))
def ones : Nat := 4294967295
/-- The sum of some bytes. -/
def sum (l : List UInt8) : Nat := ones ^^^ crc l ones
/-- A sum as it stands behind its bytes. -/
def le4 (s : Nat) : List UInt8 := [UInt8.ofNat (s % 256), UInt8.ofNat (s / 256 % 256), UInt8.ofNat (s / 65536 % 256), UInt8.ofNat (s / 16777216 % 256)]

theorem xor_lt {a b : Nat} (ha : a < 4294967296) (hb : b < 4294967296) : a ^^^ b < 4294967296 := Nat.xor_lt_two_pow (n := 32) ha hb
theorem T_lt {r : Nat} (h : r < 4294967296) : T r < 4294967296 := by
  unfold T
  split
  · exact xor_lt (by omega) (by omega)
  · omega
theorem Tn_lt : ∀ (k : Nat) {r : Nat}, r < 4294967296 → Tn k r < 4294967296
  | 0, _, h => h
  | k + 1, _, h => Tn_lt k (T_lt h)
theorem Tn_add : ∀ (i j r : Nat), Tn (i + j) r = Tn j (Tn i r)
  | 0, j, r => by rw [Nat.zero_add]; rfl
  | i + 1, j, r => by rw [Nat.succ_add]; exact Tn_add i j (T r)
theorem byte_lt (c : UInt8) : c.toNat < 4294967296 := by have := c.toNat_lt; omega
theorem crc_lt : ∀ (l : List UInt8) {r : Nat}, r < 4294967296 → crc l r < 4294967296
  | [], _, h => h
  | _ :: l, _, h => crc_lt l (Tn_lt 8 (xor_lt h (byte_lt _)))
theorem crc_app : ∀ (l m : List UInt8) (r : Nat), crc (l ++ m) r = crc m (crc l r)
  | [], _, _ => rfl
  | _ :: l, m, _ => crc_app l m _
theorem le4_len (s : Nat) : (le4 s).length = 4 := rfl
theorem sum_lt (l : List UInt8) : sum l < 4294967296 := xor_lt (by decide) (crc_lt l (by decide))
end Go.Proofs.YtjjfhbbaabakmaaGreatDoor.Wc

/-
  Contracts of layer 1's functions that put: bytes.Equal, digits, NumLen, roomy, addNum, addBytes and their kin.
-/
import Derived.Test.YtbglojjljccgkaaCk
import Derived.Test.YtbglojjljccgkaaRows
namespace Go.Proofs.Ytbglojjljccgkaa.Ca
open Go Go.RowKit Ck

/-- bytes.Equal tells whether two byte strings are the same. -/
theorem equal_any (w : World) (X Y : Nat → Prop) (va vb : Value) (n m : Nat) (l k : List UInt8) (ha : Sl w X 1 va n (BVs l)) (hb : Sl w Y 1 vb m (BVs k)) :
    Calls Try.prog 22 #[va, vb] w fun e w' => e = .returned (.bool (l == k)) ∧ w = w' := by
  have hn : n = l.length := by obtain ⟨A, c, _, h, _⟩ := ha; rw [BVs_len] at h; omega
  have hm : m = k.length := by obtain ⟨A, c, _, h, _⟩ := hb; rw [BVs_len] at h; omega
  subst hn; subst hm
  have ha' := ha
  have hb' := hb
  obtain ⟨A, c, rfl, -⟩ := ha'
  obtain ⟨B, d, rfl, -⟩ := hb'
  have c1 := run_convert_sl (P := Try.prog) w X 32 9 5 A c l Try.underlying32 Try.underlying5 Try.underlying9 ha
  have c2 := run_convert_sl (P := Try.prog) w Y 32 9 5 B d k Try.underlying32 Try.underlying5 Try.underlying9 hb
  clear ha hb
  go_enter Try.func22, Try.ntmps22
  go_wp2
  go_ret
  exact ⟨rfl, rfl⟩

/-- An array of ten bytes, so many of them written. -/
def Ar (pre : List UInt8) : Array Value := (BVs pre ++ List.replicate (10 - pre.length) (Value.int .u8 0)).toArray
theorem Ar_at {pre : List UInt8} {k : Nat} (hk : k = pre.length) (h9 : k ≤ 9) : (Ar pre)[k]? = some (Value.int .u8 0) := by
  simp only [Ar, List.getElem?_toArray]
  rw [List.getElem?_append_right (by rw [BVs_len]; omega), BVs_len, List.getElem?_replicate, if_pos (by omega)]
theorem Ar_set {pre : List UInt8} {k v : Nat} (hk : k = pre.length) (h9 : k ≤ 9) (hv : v < 256) : (Ar pre).setIfInBounds k (Value.int .u8 (v : Int)) = Ar (pre ++ [UInt8.ofNat v]) := by
  subst hk
  have hr : 10 - pre.length = (9 - pre.length) + 1 := by omega
  have hr2 : 10 - (pre ++ [UInt8.ofNat v]).length = 9 - pre.length := by simp only [List.length_append, List.length_singleton]; omega
  simp only [Ar, List.setIfInBounds_toArray]
  rw [hr, hr2, List.replicate_succ, BVs_app, List.append_assoc]
  congr 1
  rw [List.set_append_right _ _ (by rw [BVs_len]; omega), BVs_len]
  simp only [Nat.sub_self, List.set_cons_zero, BVs, List.map_cons, List.map_nil, List.cons_append, List.nil_append]
  rw [BV_of hv]
theorem byte_or (m : Nat) (h : m < 18446744073709551616) : bits .or .u8 (bits .and .u64 (m : Int) 127 % 256) 128 = ((m % 128 + 128 : Nat) : Int) := by
  have h1 : bits .and .u64 (m : Int) 127 = ((m % 128 : Nat) : Int) := by
    rw [show (127 : Int) = ((127 : Nat) : Int) from rfl, u64_and_nat m 127 h (by omega), nat_mask7]
  rw [h1, show ((m % 128 : Nat) : Int) % 256 = ((m % 128 : Nat) : Int) from by omega, show (128 : Int) = ((128 : Nat) : Int) from rfl, u8_or_nat _ _ (by omega) (by omega),
    Nat.or_comm, nat_join 7 128 (m % 128) (by omega) (by omega)]
  omega
theorem Ar_size {pre : List UInt8} (h : pre.length ≤ 10) : (Ar pre).size = 10 := by
  simp only [Ar, List.size_toArray, List.length_append, BVs_len, List.length_replicate]; omega
theorem Ar_one (pre : List UInt8) : (Ar pre).all (·.oneCell') = true := by
  simp only [Ar, List.all_toArray, List.all_append, List.all_replicate, Bool.and_eq_true]
  refine ⟨List.all_eq_true.2 (BVs_one pre), ?_⟩
  split <;> rfl
theorem Blk.setRow {w : World} {g g' : Nat} {t : TypeId} {cs : Array Value} (h : Blk w g t cs) (hne : g ≠ g') (ds : Array Value) : Blk (w.setRow g' ds) g t cs := (setRow_other w g' g ds (by omega)).trans h
theorem below_setRow {B : Nat} {a w : World} (h : Below B a w) {g : Nat} (hg : B ≤ g) (ds : Array Value) : Below B a (w.setRow g ds) :=
  h.trans ⟨rfl, rfl, rfl, by simp, fun k hk => setRow_other w g k ds (by omega)⟩
theorem info_arr : (Try.prog.info? 99).map (·.size) = some 10 := by kernel_rfl
theorem digits_end {wr : World} {B m k n : Nat} {pre : List UInt8} {t : TypeId} (hb : Blk wr B t (Ar pre)) (hP : pre ++ Cm.enc m = Cm.enc n) (hk : k = pre.length) (hm : m < 128) :
    k + 1 = (Cm.enc n).length ∧ Blk (wr.setCell ⟨B, k, none⟩ (.int .u8 (m : Int))) B t (Ar (Cm.enc n)) := by
  have h10 := Cm.enc_len n
  rw [Cm.enc_small hm] at hP
  have hl : pre.length + 1 = (Cm.enc n).length := by rw [← hP]; simp
  refine ⟨by omega, ?_⟩
  have := hb.set_ k (.int .u8 (m : Int))
  rw [Ar_set hk (by omega) (by omega), hP] at this
  exact this
theorem digits_step {wr : World} {B m k n : Nat} {pre : List UInt8} {t : TypeId} (hb : Blk wr B t (Ar pre)) (hP : pre ++ Cm.enc m = Cm.enc n) (hk : k = pre.length) (h9 : k ≤ 8) (hm : m < 18446744073709551616) (hbig : 128 ≤ m) :
    Value.int .u64 ((m : Int) / 128) = .int .u64 ((m / 128 : Nat) : Int) ∧ k + 1 = (pre ++ [UInt8.ofNat (m % 128 + 128)]).length ∧ (pre ++ [UInt8.ofNat (m % 128 + 128)]) ++ Cm.enc (m / 128) = Cm.enc n ∧ m / 128 < 18446744073709551616 ∧
      Blk (wr.setCell ⟨B, k, none⟩ (.int .u8 (bits .or .u8 (bits .and .u64 (m : Int) 127 % 256) 128))) B t (Ar (pre ++ [UInt8.ofNat (m % 128 + 128)])) := by
  refine ⟨by simp, by simp [hk], ?_, by omega, ?_⟩
  · rw [← hP, Cm.enc_big hbig hm, List.append_assoc]
    rfl
  · have := hb.set_ k (.int .u8 (bits .or .u8 (bits .and .u64 (m : Int) 127 % 256) 128))
    rw [byte_or m hm, Ar_set hk (by omega) (by omega)] at this
    rw [byte_or m hm]
    exact this

set_option maxRecDepth 100000 in
set_option maxHeartbeats 400000 in
theorem digits_any (n : Nat) (h : n < 18446744073709551616) (w : World) :
    Calls Try.prog 81 #[.int .u64 n] w fun e w' => ∃ cs : Array Value, e = .returned (.tuple #[.agg cs, .int .i64 (Cm.enc n).length]) ∧ cs = Ar (Cm.enc n) ∧ Below w.heap.size w w' := by
  go_enter Try.func81, Try.ntmps81
  go_wp2
  go_loopw [0, 5] (fun a i wr => ∃ (m k : Nat) (pre : List UInt8), a = .int .u64 m ∧ i = .int .i64 k ∧ k = pre.length ∧ pre ++ Cm.enc m = Cm.enc n ∧ m < 18446744073709551616 ∧
      Blk wr (w.heap.size + 1) 99 (Ar pre) ∧ Blk wr w.heap.size 99 (Ar []) ∧ Below w.heap.size w wr)
    (fun a _ _ => (intOf a).toNat)
  case atStart => exact ⟨n, 0, [], rfl, rfl, rfl, rfl, h, Blk.new_at (by simp) rfl, (Blk.new_at rfl rfl).alloc _, ((Below.refl _ _).alloc (Nat.le_refl _) _).alloc (by simp) _⟩
  case round =>
    obtain ⟨m, k, pre, rfl, rfl, hk, hpre, hm, hb1, hb0, hbel⟩ := hrel
    have hlen := Cm.enc_len n
    have hlm := Cm.enc_len m
    have hl2 := congrArg List.length hpre
    rw [List.length_append] at hl2
    by_cases hbig : 128 ≤ m
    · have hlb := Cm.enc_len_big hbig
      have hk8 : k ≤ 8 := by omega
      have hcell := hb1.cell k
      have hfr := hb1.frozen k
      have hc2 := Ar_at hk (by omega)
      rw [hc2] at hcell
      have HP := Lib.hid hpre
      have HK := Lib.hid hk
      have HM := Lib.hid hm
      clear hpre hk hl2 hc2 h hm
      go_wp2
      go_roundw
      case rel =>
        have R := digits_step hb1 HP.out HK.out hk8 HM.out hbig
        exact ⟨m / 128, k + 1, _, R.1, by go_num, R.2.1, R.2.2.1, R.2.2.2.1, R.2.2.2.2, hb0.far (by simp) _, hbel.setCell (by simp) _⟩
      case measure => simp [intOf]; omega
    · have hk9 : k ≤ 9 := by omega
      have hcell := hb1.cell k
      have hfr := hb1.frozen k
      have hc2 := Ar_at hk (by omega)
      rw [hc2] at hcell
      have R := digits_end hb1 hpre hk (by omega)
      have HR := Lib.hid R
      clear R hpre hk hl2 hc2 h hm
      have hi := info_arr
      rw [← Ar_size hlen.1] at hi
      have HI := Lib.hid hi
      clear hi
      go_wp2_with (first
        | (refine wpList_load_row rfl 99 _ rfl (w.heap.size + 1) rfl 99 (Ar (Cm.enc n)) (0, 0) _ HR.out.2 Try.underlying99 rfl HI.out ?_)
        | (refine wpList_store_row rfl 99 _ _ rfl w.heap.size (Ar (Cm.enc n)) rfl rfl 99 (Ar []) ?c1 HI.out ?c2 (Ar_one _) ?_))
      case c1 => exact hb0.far (by simp) _
      case c2 => rw [Ar_size (by simp), Ar_size hlen.1]
      refine bodyPost_ret (results_row_tmp rfl _ _ w.heap.size 99 (Ar (Cm.enc n)) (0, 0) _ rfl (setRow_heap _ _ _ _ _ _ (hb0.far (by simp) _)) Try.underlying99 rfl HI.out) rfl ?_
      refine ⟨_, ?_, rfl, below_setRow (hbel.setCell (by simp) _) (Nat.le_refl _) _⟩
      rw [← HR.out.1]
      rfl

end Go.Proofs.Ytbglojjljccgkaa.Ca

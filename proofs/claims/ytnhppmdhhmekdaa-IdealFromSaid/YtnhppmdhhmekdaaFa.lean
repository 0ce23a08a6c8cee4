/-
  Contract of the document's From.
-/
import Derived.Test.YtnhppmdhhmekdaaIj
import Derived.Test.YtnhppmdhhmekdaaIf
import Derived.Deep.RegionLaw
namespace Go.Proofs.Ytnhppmdhhmekdaa.Fa
open Go Go.RowKit Ck Im Ik Ia Ib Ic Ie If Ih Ii Ij
attribute [local go_sem ↓] Go.wp_at_zero Go.wp_at_succ

/-- What the document's From has made of the first k. -/
def Rk (w wr : World) (p : Nat) (l : List Tx) (k : Nat) : Prop :=
  ∃ lv vals, Blk wr p 29 #[lv] ∧ wr.ownsRow w.heap.size 24 1 lv k vals ∧ ∀ i (h : i < l.length), i < k → ∃ u, vals[i]? = some u ∧ wr.ownsRow w.heap.size 5 1 u l[i].length (BVs l[i])
theorem Rk.rf {w wr : World} {p : Nat} {l : List Tx} {k : Nat} (h : Rk w wr p l k) (hk : k ≤ l.length) (hl : l.length ≤ 1048576) (hall : ∀ x ∈ l, x.length ≤ 140737488355328) (hp : w.heap.size ≤ p) : Rf wr (New w wr) p (l.take k) := by
  obtain ⟨lv, vals, h1, h2, h3⟩ := h
  have hlen : (l.take k).length = k := by rw [List.length_take]; omega
  have far : ∀ {e n size : Nat} {v : Value} {xs : List Value}, wr.ownsRow w.heap.size e size v n xs → e ≠ 29 → Sl wr (fun g => ¬ New w wr g ∨ g = p) size v n xs := fun ho he => by
    refine Sl.of_own' ho fun g hg hn => ?_
    have hlt := ho.lt g hg
    rcases hn with hn | rfl
    · exact hn ⟨hlt.1, hlt.2⟩
    · exact own_far ho h1 he hg
  refine ⟨lv, h1, ⟨hp, h1.lt⟩, ⟨vals, ?_, fun i hi => ?_⟩, fun x hx => hall x (List.mem_of_mem_take hx), by omega⟩
  · rw [hlen]
    exact far h2 (by decide)
  · obtain ⟨u, hu, ho⟩ := h3 i (by omega) (by omega)
    refine ⟨u, hu, ?_⟩
    have e : (l.take k)[i] = l[i]'(by omega) := by simp
    rw [e]
    exact far ho (by decide)
/-- A text more. -/
theorem rk_snoc {w wr w3 w4 : World} {p : Nat} {l : List Tx} {k : Nat} {lv v3 v4 : Value} {vals : List Value} {o : Obj} (hk : k < l.length) (h1 : Blk wr p 29 #[lv]) (h2 : wr.ownsRow w.heap.size 24 1 lv k vals)
    (h3 : ∀ i (h : i < l.length), i < k → ∃ u, vals[i]? = some u ∧ wr.ownsRow w.heap.size 5 1 u l[i].length (BVs l[i])) (hb : Below w.heap.size w wr) (b3 : Below wr.heap.size wr w3) (ho3 : w3.ownsRow wr.heap.size 5 1 v3 l[k].length (BVs l[k]))
    (happ : Appended (w3.alloc o) w.heap.size 24 1 lv (k + 1) (vals ++ [v3]) v4 w4) (hp : w.heap.size ≤ p) :
    Rk w (w4.setCell ⟨p, 0, none⟩ v4) p l (k + 1) ∧ Below w.heap.size w (w4.setCell ⟨p, 0, none⟩ v4) ∧ Blk w4 p 29 #[lv] := by
  have ba : Below wr.heap.size wr (w3.alloc o) := b3.alloc b3.size o
  have h1' : Blk (w3.alloc o) p 29 #[lv] := h1.below ba h1.lt
  have h2' := own_below h2 ba
  have q4 : Blk w4 p 29 #[lv] := h1'.grown happ.2.1 (Ne.symm (own_far h2' h1' (by decide)))
  have hvl : vals.length = k := by have := h2.1; omega
  have bb : Below w.heap.size w (w3.alloc o) := hb.trans (ba.mono hb.size)
  have b4 : Below w.heap.size w w4 := bb.grown happ.2.1 bb.size (fun g hg => (h2.lt g hg).1)
  have c5 : Ch (fun g => g = p) w4 (w4.setCell ⟨p, 0, none⟩ v4) := (Ch.refl (fun g => g = p) w4).setCell (p := ⟨p, 0, none⟩) (fun _ => rfl) v4
  refine ⟨⟨v4, vals ++ [v3], ?_, ?_, fun i hi hik => ?_⟩, b4.setCell hp v4, q4⟩
  · have := q4.set_ 0 v4
    simpa using this
  · exact own_ch happ.1 c5 (fun g hg e => by subst e; exact own_far happ.1 q4 (by decide) hg)
  · by_cases he : i < k
    · obtain ⟨u, hu, ho⟩ := h3 i hi he
      have ho' := own_below ho ba
      have ho4 : w4.ownsRow w.heap.size 5 1 u l[i].length (BVs l[i]) := ho'.kept happ.2.1 (own_apart ho' h2' (by decide))
      exact ⟨u, by rw [List.getElem?_append_left (by omega)]; exact hu, own_ch ho4 c5 (fun g hg e => by subst e; exact own_far ho4 q4 (by decide) hg)⟩
    · have hie : i = k := by omega
      subst hie
      have ho' : (w3.alloc o).ownsRow w.heap.size 5 1 v3 l[i].length (BVs l[i]) := own_base (ho3.alloc o) hb.size
      have ho4 : w4.ownsRow w.heap.size 5 1 v3 l[i].length (BVs l[i]) := ho'.kept happ.2.1 (own_apart ho' h2' (by decide))
      exact ⟨v3, by rw [List.getElem?_append_right (by omega), hvl, Nat.sub_self]; rfl, own_ch ho4 c5 (fun g hg e => by subst e; exact own_far ho4 q4 (by decide) hg)⟩

/-- What the document's From answers. -/
def RFromP (w : World) (l : List Tx) (e : Ending) (w' : World) : Prop :=
  Below w.heap.size w w' ∧ ((l.Nodup ∧ ∃ p, e = .returned (.tuple #[.pointer (some ⟨p, 0, none⟩), .int .i64 0]) ∧ Rf w' (New w w') p l) ∨ (¬ l.Nodup ∧ e = .returned (.tuple #[.pointer none, .int .i64 5])))

theorem rfrom_long (w : World) (A : Option Addr) (c n : Nat) (h : 1048576 < n) :
    Calls Try.prog 23 #[.slice A n c] w fun e w' => e = .returned (.tuple #[.pointer none, .int .i64 3]) ∧ w = w' := by
  have h2 : decide ((1048576 : Int) < (n : Int)) = true := by rw [decide_eq_true_eq]; omega
  clear h
  go_enter Try.func23, Try.ntmps23
  go_wp2
  go_ret2
  exact ⟨rfl, rfl⟩

set_option maxRecDepth 100000 in
set_option maxHeartbeats 2000000 in
theorem rfrom_any (w : World) (Y : Nat → Prop) (A : Option Addr) (c : Nat) (l : List Tx) (hls : Ls w Y (.slice A l.length c) l) (hl : l.length ≤ 1048576) (hall : ∀ x ∈ l, x.length ≤ 140737488355328) :
    Calls Try.prog 23 #[.slice A l.length c] w (RFromP w l) := by
  have h2 : decide ((1048576 : Int) < (l.length : Int)) = false := by rw [decide_eq_false_iff_not]; omega
  have HL := Lib.hid hl
  have HA := Lib.hid hall
  have HLS := Lib.hid hls
  have hl3 : l.length ≤ 2000000 := by omega
  obtain ⟨i0, hi0, hz0, hz1, hz2⟩ := info_parts info_sl
  obtain ⟨j0, hj0, hy0, hy1, hy2⟩ := info_parts info_u8
  have H0 : Hid (Rk w (w.alloc (.cells #[.slice none 0 0] 29)) w.heap.size l 0) := Lib.hid ⟨.slice none 0 0, [], Blk.new _ _ _, World.ownsRow_nil _ _ _ _, fun i _ h => absurd h (by omega)⟩
  have HB0 : Hid (Below w.heap.size w (w.alloc (.cells #[.slice none 0 0] 29))) := Lib.hid ((Below.refl _ _).alloc (Nat.le_refl _) _)
  clear hl hall hls
  go_enter Try.func23, Try.ntmps23
  go_wp2
  obtain ⟨p, hp⟩ : ∃ p, p = w.heap.size := ⟨_, rfl⟩
  have HP := Lib.hid hp
  go_loopw [5] (fun i wr => ∃ k : Nat, k ≤ l.length ∧ i = .int .i64 k ∧ Rk w wr w.heap.size l k ∧ (l.take k).Nodup ∧ Below w.heap.size w wr)
    (fun i _ => l.length - (intOf i).toNat)
  case atStart => exact ⟨0, Nat.zero_le _, rfl, H0.out, by simp, HB0.out⟩
  case round =>
    obtain ⟨k, hk, rfl, hR, hnd, hbr⟩ := hrel
    have HR := Lib.hid hR
    have HN := Lib.hid hnd
    have HB := Lib.hid hbr
    clear H0 HB0 hp HP p
    by_cases hlt : k < l.length
    · have hx := (HLS.out.old' (Nat.le_refl _)).below hbr (fun k _ h => h)
      obtain ⟨ad, B, d, rfl, hcell, hx⟩ := hx.at_ hlt
      have hklen : (l.take k).length = k := by rw [List.length_take]; omega
      have HX := Lib.hid hx
      have HF := Lib.hid (hR.rf hk HL.out HA.out (Nat.le_refl _))
      have HLk := Lib.hid (HA.out _ (List.getElem_mem hlt))
      by_cases h0 : num (l.take k) l[k] = 0
      · have hin := isIn_false h0
        have hn0 : ((num (l.take k) l[k] : Nat) : Int) = 0 := by omega
        have H0 := Lib.hid h0
        obtain ⟨lv, vals, q1, q2, q3⟩ := hR
        obtain ⟨A', c', rfl⟩ := own_shape q2
        have p0 := q1.cell 0
        simp only [List.getElem?_toArray, List.getElem?_cons_zero] at p0
        have HQ := Lib.hid (And.intro q1 (And.intro q2 q3))
        clear hnd hbr hx h0 hklen q1 q2 q3
        go_wp2_with (go_at_call 18; refine (rlook_any _ (New w wr) _ w.heap.size (l.take k) _ _ l[k] HF.out HX.out).mono ?_; rintro e w2 ⟨rfl, rfl⟩)
        go_region_law (first
          | (refine step_append_new (by rfl) (.const (.slice none 0 0)) (.tmp 37) _ (by rfl) 5 j0 _ 1 1 Try.underlying24 hj0 hy0 hy1 hy2 rfl (by omega) (by rfl) _ (.slice B l[k].length d) l[k].length (BVs l[k]) (by rfl) (HX.out.drewN 1) (BVs_one _) (by have := HLk.out; simp only [maxLen]; omega) (by have := HLk.out; omega) ?_; intro A3 d3 w3 ho3 b3; have hb3 : Below wr.heap.size wr w3 := below_tr (below_drewN (Below.refl _ wr) 1) b3; have hq3 := HQ.out.1.below hb3 HQ.out.1.lt; have p0 := hq3.cell 0; have p0a := (hq3.alloc (.cells #[.slice A3 l[k].length d3] 24)).cell 0; have HO3 : Hid (w3.ownsRow wr.heap.size 5 1 (.slice A3 l[k].length d3) l[k].length (BVs l[k])) := Lib.hid ho3; have HB3 := Lib.hid hb3; simp only [List.getElem?_toArray, List.getElem?_cons_zero] at p0 p0a; clear ho3 hb3 hq3 b3)
          | (refine step_append_sh (by rfl) (.tmp 33) (.tmp 39) _ (by rfl) w.heap.size 24 i0 _ 1 24 Try.underlying22 hi0 hz0 hz1 hz2 rfl (by omega) (.slice A' k c') k vals (by rfl) ((own_below HQ.out.2.1 HB3.out).alloc _) (fun _ => False) _ 1 [.slice A3 l[k].length d3] (by rfl) (one_sv w3 (fun _ => False) _ _ (fun h => h)) (one_slice _ _ _) (by simp only [maxLen]; omega) (by omega) (by have h1 := HB.out.size; have h2 := HB3.out.size; simp; omega) ?_; intro A4 d4 w4 happ; have hF := rk_snoc hlt HQ.out.1 HQ.out.2.1 HQ.out.2.2 HB.out HB3.out HO3.out happ (Nat.le_refl _); have g6 := hF.2.2.cell 0; have g7 := hF.2.2.frozen 0; simp only [List.getElem?_toArray, List.getElem?_cons_zero] at g6; have HRK := Lib.hid hF; clear hF happ))
        all_goals
          go_wp2
          go_roundw
          case rel => exact ⟨k + 1, by omega, by go_num, HRK.out.1, nodup_take hlt HN.out H0.out, HRK.out.2.1⟩
          case measure => simp [intOf]; omega
      · have hin := isIn_true h0
        have H0 := Lib.hid h0
        clear hR hnd hbr hx h0 hklen
        go_wp2_with (go_at_call 18; refine (rlook_any _ (New w wr) _ w.heap.size (l.take k) _ _ l[k] HF.out HX.out).mono ?_; rintro e w2 ⟨rfl, rfl⟩)
        go_ret2
        exact ⟨HB.out, .inr ⟨not_nodup hlt H0.out, rfl⟩⟩
    · have hke : k = l.length := by omega
      have hf := hR.rf hk HL.out HA.out (Nat.le_refl _)
      rw [hke, List.take_length] at hf hnd
      have HF := Lib.hid hf
      have HN3 := Lib.hid hnd
      clear hR hf hnd
      go_wp2
      go_ret2
      exact ⟨HB.out, .inl ⟨HN3.out, _, rfl, HF.out⟩⟩

end Go.Proofs.Ytnhppmdhhmekdaa.Fa

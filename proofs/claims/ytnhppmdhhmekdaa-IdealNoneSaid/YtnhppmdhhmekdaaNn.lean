/-
  The walk of the statement IdealNone: a table and a ledger that no call made; what is handed in is not kept, and what is told is nobody's else.
-/
import Derived.Test.YtnhppmdhhmekdaaSu
namespace Go.Proofs.Ytnhppmdhhmekdaa.Nn
open Go Go.RowKit Ck Im Ik Ia Ib Ic Ie Ih Ii Lk Lb Lc Ba

/-- A table that no call made. -/
def TBare (w : World) (a : Option Addr) : Prop := a = none ∨ ∃ p tv, a = some ⟨p, 0, none⟩ ∧ Blk w p 65 #[.map none, tv]
theorem look_bare (w : World) (a : Option Addr) (v : Value) (h : TBare w a) : Calls Try.prog 17 #[.pointer a, v] w fun e w' => e = .returned (.tuple #[.int .i64 0, .bool false]) ∧ w = w' := by
  rcases h with rfl | ⟨p, tv, rfl, h⟩
  · exact look_nil w v
  · exact look_no w p tv v h
theorem open_bare (w : World) (a : Option Addr) (h : TBare w a) : Calls Try.prog 15 #[.pointer a, .int .i64 1] w fun e w' => e = .returned (.tuple #[.slice none 0 0, .bool false]) ∧ w = w' := by
  rcases h with rfl | ⟨p, tv, rfl, h⟩
  · exact Ig.open_nil w
  · exact Ig.open_none w p tv h
theorem sum_bare (w : World) (a : Option Addr) (v : Value) (h : TBare w a) : Calls Try.prog 11 #[.pointer a, v] w fun e w' => e = .returned (.int .i64 0) ∧ w = w' := by
  rcases h with rfl | ⟨p, tv, rfl, h⟩
  · exact Ig.sum_nil w v
  · exact Ig.sum_no w p tv v h
theorem len_bare (w : World) (a : Option Addr) (h : TBare w a) : Calls Try.prog 14 #[.pointer a] w fun e w' => e = .returned (.int .i64 0) ∧ w = w' := by
  rcases h with rfl | ⟨p, tv, rfl, h⟩
  · exact Ia.len_nil w
  · exact Ia.len_no w p tv h
theorem plain_bare (w : World) (a : Option Addr) (h : TBare w a) : Calls Try.prog 21 #[.pointer a] w fun e w' => e = .returned (.slice none 0 0) ∧ w = w' := by
  rcases h with rfl | ⟨p, tv, rfl, h⟩
  · exact Ig.plain_nil w
  · exact Ig.plain_no w p tv h
theorem clone_bare (w : World) (a : Option Addr) (h : TBare w a) : Calls Try.prog 10 #[.pointer a] w fun e w' => e = .returned (.pointer none) ∧ w = w' := by
  rcases h with rfl | ⟨p, tv, rfl, h⟩
  · exact Ig.tclone_nil w
  · exact Ig.tclone_no w p tv h

theorem own_head {w : World} {base n : Nat} {e : TypeId} {v : Value} {xs : List Value} (h : w.ownsRow base e 1 v n xs) (hn : 0 < n) : ∃ g c, v = .slice (some ⟨g, 0, none⟩) n c ∧ base ≤ g ∧ g < w.heap.size ∧ n ≤ c ∧ w.cell? ⟨g, 0, none⟩ = xs[0]? ∧ w.frozen? ⟨g, 0, none⟩ = false := by
  have hl := h.1
  rcases h.2 with ⟨_, h0⟩ | ⟨g, cap, cur, rfl, hb, hr, hc, _, hs, ht⟩
  · omega
  · refine ⟨g, cap, rfl, hb, (Array.getElem?_eq_some_iff.1 hr).1, hc, ?_, by simp [World.frozen?, hr]⟩
    rw [cell_of_row w g 0 cur e (0, 0) hr, ← ht, List.getElem?_take, if_pos (by omega)]
    simp
theorem out_head {w : World} {base : Nat} {v : Value} {l : Tx} (h : Out w base v l) (hn : 0 < l.length) : ∃ g c, v = .slice (some ⟨g, 0, none⟩) l.length c ∧ base ≤ g ∧ g < w.heap.size ∧ l.length ≤ c ∧ w.cell? ⟨g, 0, none⟩ = (BVs l)[0]? ∧ w.frozen? ⟨g, 0, none⟩ = false := by
  obtain ⟨g, cap, cs, z, rfl, hb, hr, hz, hc, hm, hx⟩ := h
  have h0 : (BVs l)[0]? = some (.int .u8 (l[0].toNat : Int)) := BVs_get hn
  refine ⟨g, cap, rfl, hb, (Array.getElem?_eq_some_iff.1 hr).1, hc, ?_, ?_⟩
  · rw [h0, World.cell?]
    simp only [hr]
    exact hx 0 _ h0
  · have : ¬ z ≤ 0 := by omega
    simp [World.frozen?, hr, this]
theorem open_one (w : World) (S : Nat → Prop) (p : Nat) (x : Tx) (h : Tb w S p [x]) :
    Calls Try.prog 15 #[.pointer (some ⟨p, 0, none⟩), .int .i64 1] w fun e w' => ∃ v, e = .returned (.tuple #[v, .bool true]) ∧ Out w' w.heap.size v x ∧ Below w.heap.size w w' :=
  open_yes w S p [x] 0 (by simp) h

set_option maxRecDepth 100000 in
set_option maxHeartbeats 4000000 in
theorem none_any (w : World) (A : Option Addr) (c : Nat) (b : Tx) (s : Sg) (hs : wfS s) (hb : Sl w (fun k => w.heap.size ≤ k) 1 (.slice A b.length c) b.length (BVs b)) (hbl : b.length ≤ 140737488351232) :
    Calls Try.prog 7 #[.slice A b.length c, GV s] w fun e w' => e = .returned (.bool true) ∧ Below w.heap.size w w' := by
  obtain ⟨x, y⟩ := s
  unfold GV
  have HBS := Lib.hid hb
  have HBL := Lib.hid hbl
  have HW := Lib.hid hs
  have HB0 : Hid (Below w.heap.size w (w.alloc (.cells #[.int .i64 x, .int .i64 y] 50))) := Lib.hid ((Below.refl _ _).alloc (Nat.le_refl _) _)
  have HK0 : Hid (Blk (w.alloc (.cells #[.int .i64 x, .int .i64 y] 50)) w.heap.size 50 #[.int .i64 x, .int .i64 y]) := Lib.hid (Blk.new _ _ _)
  clear hb hbl hs
  go_enter Try.func7, Try.ntmps7
  go_wp2_with fail
  refine (begun_any _).mono ?_
  rintro e w1 ⟨rfl, hB1⟩
  have HB1 := Lib.hid (below_tr HB0.out hB1)
  have HK1 := Lib.hid (HK0.out.below hB1 HK0.out.lt)
  clear hB1 HK0
  go_wp2_with fail
  have HT2 : Hid (∀ k : Nat, k < 2 → ∃ a, ((w1.alloc (.cells #[.map none, .slice none 0 0] 65)).alloc (.cells #[.pointer none, .pointer (some ⟨w1.heap.size, 0, none⟩)] 25)).cell? ⟨w1.heap.size + 1, k, none⟩ = some (.pointer a) ∧
      TBare ((w1.alloc (.cells #[.map none, .slice none 0 0] 65)).alloc (.cells #[.pointer none, .pointer (some ⟨w1.heap.size, 0, none⟩)] 25)) a) := Lib.hid fun k hk => by
    have hb2 : Blk ((w1.alloc (.cells #[.map none, .slice none 0 0] 65)).alloc (.cells #[.pointer none, .pointer (some ⟨w1.heap.size, 0, none⟩)] 25)) (w1.heap.size + 1) 25 #[.pointer none, .pointer (some ⟨w1.heap.size, 0, none⟩)] := Blk.new_at (by simp) rfl
    rcases (show k = 0 ∨ k = 1 by omega) with rfl | rfl
    · exact ⟨none, hb2.cell 0, .inl rfl⟩
    · exact ⟨_, hb2.cell 1, .inr ⟨w1.heap.size, .slice none 0 0, rfl, (Blk.new w1 _ _).alloc _⟩⟩
  have HB2 := Lib.hid ((HB1.out.alloc HB1.out.size (.cells #[.map none, .slice none 0 0] 65)).alloc (by have := HB1.out.size; simp; omega) (.cells #[.pointer none, .pointer (some ⟨w1.heap.size, 0, none⟩)] 25))
  have HK2 := Lib.hid ((HK1.out.alloc (.cells #[.map none, .slice none 0 0] 65)).alloc (.cells #[.pointer none, .pointer (some ⟨w1.heap.size, 0, none⟩)] 25))
  generalize (w1.alloc (.cells #[.map none, .slice none 0 0] 65)).alloc (.cells #[.pointer none, .pointer (some ⟨w1.heap.size, 0, none⟩)] 25) = W2 at HT2 HB2 HK2 ⊢
  generalize w1.heap.size = g1 at HT2 ⊢
  clear HB1 HK1
  go_loop [30] (fun i => ∃ k : Nat, k ≤ 2 ∧ i = .int .i64 k) (fun i => 2 - (intOf i).toNat)
  case atStart => exact ⟨0, Nat.zero_le _, rfl⟩
  case round =>
    obtain ⟨k, hk, rfl⟩ := hrel
    by_cases hlt : k < 2
    · obtain ⟨a, hc, hbare⟩ := HT2.out k hlt
      have HBA := Lib.hid hbare
      clear hbare
      go_wp2_with (first
        | (go_at_call 17; refine (look_bare _ _ _ HBA.out).mono ?_; rintro e w' ⟨rfl, rfl⟩)
        | (go_at_call 15; refine (open_bare _ _ HBA.out).mono ?_; rintro e w' ⟨rfl, rfl⟩)
        | (go_at_call 11; refine (sum_bare _ _ _ HBA.out).mono ?_; rintro e w' ⟨rfl, rfl⟩)
        | (go_at_call 14; refine (len_bare _ _ HBA.out).mono ?_; rintro e w' ⟨rfl, rfl⟩)
        | (go_at_call 21; refine (plain_bare _ _ HBA.out).mono ?_; rintro e w' ⟨rfl, rfl⟩)
        | (go_at_call 10; refine (clone_bare _ _ HBA.out).mono ?_; rintro e w' ⟨rfl, rfl⟩))
      go_round
      case rel => exact ⟨k + 1, by omega, by go_num⟩
      case measure => simp [intOf]; omega
    · have hke : k = 2 := by omega
      clear hk
      subst hke
      go_wp2_with fail
      have HT3 : Hid (∀ W', Below ((W2.alloc (.cells #[.map none, .slice none 0 0] 69)).alloc (.cells #[.pointer none, .pointer (some ⟨W2.heap.size, 0, none⟩)] 51)).heap.size ((W2.alloc (.cells #[.map none, .slice none 0 0] 69)).alloc (.cells #[.pointer none, .pointer (some ⟨W2.heap.size, 0, none⟩)] 51)) W' →
          ∀ k : Nat, k < 2 → ∃ a, W'.cell? ⟨W2.heap.size + 1, k, none⟩ = some (.pointer a) ∧ ∀ W'', Below W'.heap.size W' W'' → La.Bare W'' a) := Lib.hid fun W' hW k hk => by
        have hb2 : Blk ((W2.alloc (.cells #[.map none, .slice none 0 0] 69)).alloc (.cells #[.pointer none, .pointer (some ⟨W2.heap.size, 0, none⟩)] 51)) (W2.heap.size + 1) 51 #[.pointer none, .pointer (some ⟨W2.heap.size, 0, none⟩)] := Blk.new_at (by simp) rfl
        have hb3 : Blk ((W2.alloc (.cells #[.map none, .slice none 0 0] 69)).alloc (.cells #[.pointer none, .pointer (some ⟨W2.heap.size, 0, none⟩)] 51)) W2.heap.size 69 #[.map none, .slice none 0 0] := (Blk.new W2 _ _).alloc _
        have hb2' := hb2.below hW hb2.lt
        have hb3' := hb3.below hW hb3.lt
        rcases (show k = 0 ∨ k = 1 by omega) with rfl | rfl
        · exact ⟨none, hb2'.cell 0, fun _ _ => .inl rfl⟩
        · exact ⟨_, hb2'.cell 1, fun W'' hb => .inr ⟨W2.heap.size, .slice none 0 0, rfl, hb3'.below hb hb3'.lt⟩⟩
      have HB3 := Lib.hid ((HB2.out.alloc HB2.out.size (.cells #[.map none, .slice none 0 0] 69)).alloc (by have := HB2.out.size; simp; omega) (.cells #[.pointer none, .pointer (some ⟨W2.heap.size, 0, none⟩)] 51))
      have HK3 := Lib.hid ((HK2.out.alloc (.cells #[.map none, .slice none 0 0] 69)).alloc (.cells #[.pointer none, .pointer (some ⟨W2.heap.size, 0, none⟩)] 51))
      generalize (W2.alloc (.cells #[.map none, .slice none 0 0] 69)).alloc (.cells #[.pointer none, .pointer (some ⟨W2.heap.size, 0, none⟩)] 51) = W3 at HT3 HB3 HK3 ⊢
      generalize W2.heap.size = g2 at HT3 ⊢
      clear HB2 HK2 HT2 hlt
      go_loopw [74] (fun i wr => ∃ k : Nat, k ≤ 2 ∧ i = .int .i64 k ∧ Below W3.heap.size W3 wr) (fun i _ => 2 - (intOf i).toNat)
      case atStart => exact ⟨0, Nat.zero_le _, rfl, Below.refl _ _⟩
      case round =>
        obtain ⟨k, hk, rfl, hbr⟩ := hrel
        have HBR := Lib.hid hbr
        by_cases hlt : k < 2
        · obtain ⟨a, hc, hbare⟩ := HT3.out wr hbr k hlt
          have hk3 := HK3.out.below hbr HK3.out.lt
          have HBA := Lib.hid hbare
          have HKR := Lib.hid hk3
          clear hbare hbr hk3
          go_wp2_with fail
          refine (sign_bare _ _ _ _ (HBA.out _ (Below.refl _ _))).mono ?_
          rintro e w5 ⟨rfl, hb5⟩
          unfold GV
          have ba : Below w5.heap.size w5 (w5.alloc (.cells #[.int .i64 0, .int .i64 0] 50)) := (Below.refl _ _).alloc (Nat.le_refl _) _
          have hk5 := HKR.out.below (below_tr hb5 ba) HKR.out.lt
          have k50 := hk5.cell 0
          have k51 := hk5.cell 1
          simp only [List.getElem?_toArray, List.getElem?_cons_zero, List.getElem?_cons_succ] at k50 k51
          have HB5 := Lib.hid (below_tr hb5 ba)
          clear hb5 ba hk5
          go_wp2_with fail
          refine (La.signed_bare _ _ (x, y) (HBA.out _ HB5.out)).mono ?_
          rintro e w6 ⟨rfl, hb6⟩
          have HB6 := Lib.hid (below_tr HB5.out hb6)
          clear hb6
          go_wp2_with (first
            | (go_at_call 32; refine (La.len_bare _ _ (HBA.out _ HB6.out)).mono ?_; rintro e w' ⟨rfl, rfl⟩)
            | (go_at_call 31; refine (La.signs_bare _ _ (HBA.out _ HB6.out)).mono ?_; rintro e w' ⟨rfl, rfl⟩)
            | (go_at_call 25; refine (La.lclone_bare _ _ (HBA.out _ HB6.out)).mono ?_; rintro e w' ⟨rfl, rfl⟩))
          go_roundw
          case rel => exact ⟨k + 1, by omega, by go_num, HBR.out.trans (HB6.out.mono HBR.out.size)⟩
          case measure => simp [intOf]; omega
        · have hke : k = 2 := by omega
          clear hk
          subst hke
          have HB4 := Lib.hid (HB3.out.trans (hbr.mono HB3.out.size))
          clear hbr HT3 HK3 HBR HB3
          go_wp2_with fail
          refine (newtable_any _).mono ?_
          rintro e w5 ⟨p, rfl, hT5, hb5⟩
          have HT5 := Lib.hid hT5
          have HS5 := Lib.hid hb5.size
          have HB5 := Lib.hid (HB4.out.trans (hb5.mono HB4.out.size))
          clear hT5 hb5
          go_wp2_with fail
          refine (clone_bytes _ _ b.length (BVs b) w5 (HBS.out.below HB5.out (fun k _ h => h)) (BVs_one _) (by have := HBL.out; omega)).mono ?_
          rintro e w6 ⟨A6, c6, rfl, ho6, hb6⟩
          have HO6 := Lib.hid ho6
          have HB6 := Lib.hid hb6
          have hbl := HBL.out
          obtain ⟨i0, hi0, hz0, hz1, hz2⟩ := info_parts info_u8
          clear ho6 hb6
          go_wp2_with (at_builtin; refine wpList_append_sh _ rfl (.tmp 107) (.tmp 108) _ rfl w5.heap.size 5 i0 _ 1 1 Try.underlying24 hi0 hz0 hz1 hz2 rfl (by omega) (.slice A6 b.length c6) b.length (BVs b) rfl (HO6.out.alloc _) (fun _ => False) _ 1 (BVs [7]) rfl (Sl_lit w6 (fun _ => False) _ [7] rfl rfl (by omega) (fun h => h)) (BVs_one _) (by simp only [maxLen]; omega) (by omega) (by have := HB6.out.size; simp; omega) ?_; intro A7 c7 w7 happ; have hb7 : Below w5.heap.size w5 w7 := (HB6.out.alloc HB6.out.size _).grown happ.2.1 (by have := HB6.out.size; simp; omega) (fun g hg => (HO6.out.lt g hg).1); have ho7 := happ.1; rw [← BVs_app] at ho7; have HO7 := Lib.hid ho7; have HB7 := Lib.hid hb7; clear happ ho7 hb7)
          have hxl : (b ++ [7]).length = b.length + 1 := by simp
          have HXB : Hid ((b ++ [7]).length ≤ 140737488355328) := Lib.hid (by rw [hxl]; omega)
          clear hi0 hz0 hz1 hz2 hbl HBS
          rw [← hxl] at HO7 ⊢
          generalize b ++ [7] = X at *
          have hX0 : 0 < X.length := by omega
          clear hxl HBL
          obtain ⟨g7, c7', hv7, hg7a, hg7b, hc7, hcell7, hfr7⟩ := own_head HO7.out hX0
          injection hv7 with e1 _ e3
          subst e1; subst e3
          have hcellX : (BVs X)[0]? = some (.int .u8 (X[0].toNat : Int)) := BVs_get hX0
          have HT7 := Lib.hid (HT5.out.ch (Ch.of_below (S := fun _ => False) HB7.out (Nat.le_refl _)) (fun _ _ h => h))
          have hX0i : (0 : Int) < (X.length : Int) := by omega
          have HCX := Lib.hid hcellX
          clear hcell7 hfr7 hcellX
          refine (sum_yes w7 (New wr w5) (fun _ => False) p [] (some ⟨g7, 0, none⟩) c7 X HT7.out (Sl.of_own HO7.out (fun _ _ _ h => h)) HXB.out).mono ?_
          rintro e w8 ⟨he, hT8, hc8⟩
          rw [show sum [] X = 1 from rfl] at he
          subst he
          have hT8 : Tb w8 (Up (New wr w5) w7 w8) p [X] := hT8
          have HT8 := Lib.hid hT8
          have ho8 : w8.ownsRow w5.heap.size 5 1 (.slice (some ⟨g7, 0, none⟩) X.length c7) X.length (BVs X) := own_ch HO7.out hc8 (fun g hg hn => by have := (HO7.out.lt g hg).1; have := hn.2; omega)
          have HO8 := Lib.hid ho8
          have hs8 := hc8.size
          have HB8 : Hid (Below w.heap.size w w8) := Lib.hid ((HB5.out.trans (HB7.out.mono HB5.out.size)).trans (hc8.below (fun k hk hn => by have := hn.1; have := HB4.out.size; omega) (by have := HB5.out.size; have := HB7.out.size; omega)))
          clear hT8 hc8 ho8 HT7 HO7
          go_wp2_with fail
          refine (clone_bytes (fun _ => False) _ X.length (BVs X) w8 (Sl.of_own HO8.out (fun _ _ _ h => h)) (BVs_one _) (by have := HXB.out; omega)).mono ?_
          rintro e w9 ⟨A9, c9, rfl, ho9, hb9⟩
          have HO9 := Lib.hid ho9
          have HB9 := Lib.hid hb9
          obtain ⟨g7', c7', hv7, _, _, _, hcell9, hfr9⟩ := own_head (own_below HO8.out hb9) hX0
          injection hv7 with e1 _ e3
          injection e1 with e1
          injection e1 with e1
          subst e1; subst e3
          rw [HCX.out] at hcell9
          have hx255 := X[0].toNat_lt
          clear ho9 hb9
          go_wp2_with fail
          have hs9 := HB9.out.size
          have c10 : Ch (fun k => k = g7) w9 (w9.setCell ⟨g7, 0, none⟩ (.int .u8 (((X[0].toNat : Int) + 1) % 256))) := (Ch.refl (fun k => k = g7) w9).setCell (p := ⟨g7, 0, none⟩) (fun _ => rfl) _
          have s10 : (w9.setCell ⟨g7, 0, none⟩ (.int .u8 (((X[0].toNat : Int) + 1) % 256))).heap.size = w9.heap.size := by simp [World.setCell]
          generalize w9.setCell ⟨g7, 0, none⟩ (.int .u8 (((X[0].toNat : Int) + 1) % 256)) = W10 at c10 s10 ⊢
          have hB9 : Below w.heap.size w w9 := HB8.out.trans (HB9.out.mono HB8.out.size)
          have HT10 : Hid (Tb W10 (Up (New wr w5) w7 w8) p [X]) := Lib.hid ((HT8.out.ch (Ch.of_below (S := fun _ => False) HB9.out (Nat.le_refl _)) (fun _ _ h => h)).ch c10 (fun k hk e => by
            subst e
            rcases hk with hk | hk
            · have := hk.2; omega
            · omega))
          have HO10 : Hid (W10.ownsRow w8.heap.size 5 1 (.slice A9 X.length c9) X.length (BVs X)) := Lib.hid (own_ch HO9.out c10 (fun g hg e => by have := (HO9.out.lt g hg).1; subst e; omega))
          have HB10 : Hid (Below w.heap.size w W10) := Lib.hid (hB9.trans (c10.below (fun k hk e => by subst e; have := HB5.out.size; omega) hB9.size))
          clear c10 hB9 hcell9 hfr9 HT8 HO8
          refine (open_one W10 _ p X HT10.out).mono ?_
          rintro e w11 ⟨v11, rfl, hv11, hb11⟩
          obtain ⟨g11, c11, rfl, ha11, hb11g, hc11, hcell11, hfr11⟩ := out_head hv11 hX0
          rw [HCX.out] at hcell11
          have HB11 := Lib.hid hb11
          have HV11 := Lib.hid (hv11.sl (X := fun _ => False) (fun _ _ _ h => h))
          have HT11 := Lib.hid (HT10.out.ch (Ch.of_below (S := fun _ => False) hb11 (Nat.le_refl _)) (fun _ _ h => h))
          have HO11 := Lib.hid (own_below HO10.out hb11)
          clear hv11 hb11
          go_wp2_with fail
          refine (equal_any _ (fun _ => False) (fun _ => False) _ _ X.length X.length X X HV11.out (Sl.of_own HO11.out (fun _ _ _ h => h))).mono ?_
          rintro e w' ⟨he, rfl⟩
          rw [beq_self_eq_true] at he
          subst he
          go_wp2_with fail
          have c12 : Ch (fun k => k = g11) w11 (w11.setCell ⟨g11, 0, none⟩ (.int .u8 (((X[0].toNat : Int) + 1) % 256))) := (Ch.refl (fun k => k = g11) w11).setCell (p := ⟨g11, 0, none⟩) (fun _ => rfl) _
          have s12 : (w11.setCell ⟨g11, 0, none⟩ (.int .u8 (((X[0].toNat : Int) + 1) % 256))).heap.size = w11.heap.size := by simp [World.setCell]
          generalize w11.setCell ⟨g11, 0, none⟩ (.int .u8 (((X[0].toNat : Int) + 1) % 256)) = W12 at c12 s12 ⊢
          have s11 := HB11.out.size
          have HT12 : Hid (Tb W12 (Up (New wr w5) w7 w8) p [X]) := Lib.hid (HT11.out.ch c12 (fun k hk e => by
            subst e
            rcases hk with hk | hk
            · have := hk.2; omega
            · omega))
          have HO12 : Hid (W12.ownsRow w8.heap.size 5 1 (.slice A9 X.length c9) X.length (BVs X)) := Lib.hid (own_ch HO11.out c12 (fun g hg e => by have := (HO10.out.lt g hg).2; subst e; omega))
          have HB12 : Hid (Below w.heap.size w W12) := Lib.hid ((HB10.out.trans (HB11.out.mono HB10.out.size)).trans (c12.below (fun k hk e => by subst e; have := HB10.out.size; omega) (by have := HB10.out.size; omega)))
          clear c12 hcell11 hfr11 HT10 HT11 HO10 HO11 HO9
          refine (plain_yes W12 _ p [X] HT12.out).mono ?_
          rintro e w13 ⟨A13, c13, rfl, ⟨vals, ho13, hx13⟩, hb13⟩
          obtain ⟨u13, hu13, hout13⟩ := hx13 0 (by simp)
          have hout13 : Out w13 W12.heap.size u13 X := hout13
          have hl1 : ([X] : List Tx).length = 1 := rfl
          rw [hl1] at ho13 ⊢
          obtain ⟨g13, c13', hv13, ha13, hb13g, hc13, hcell13, _⟩ := own_head ho13 (by omega)
          injection hv13 with e1 _ e3
          subst e1; subst e3
          rw [hu13] at hcell13
          obtain ⟨g14, c14, rfl, ha14, hb14g, hc14, hcell14, hfr14⟩ := out_head hout13 hX0
          rw [HCX.out] at hcell14
          have HB13 := Lib.hid hb13
          clear ho13 hx13 hu13 hout13 hb13
          go_wp2_with fail
          generalize wr = wo at *
          go_loopw [142] (fun i wr => ∃ k : Nat, k ≤ 1 ∧ i = .int .i64 k ∧ Below W12.heap.size W12 wr ∧ (k = 0 → wr = w13)) (fun i _ => 1 - (intOf i).toNat)
          case atStart => exact ⟨0, by omega, rfl, HB13.out, fun _ => rfl⟩
          case round =>
            obtain ⟨k, hk, rfl, hbq, hq⟩ := hrel
            have HBQ := Lib.hid hbq
            clear hbq
            by_cases hlt : k < 1
            · have hk0 : k = 0 := by omega
              have hw := hq hk0
              subst hw
              have hcell13k : wr.cell? ⟨g13, k, none⟩ = some (.slice (some ⟨g14, 0, none⟩) X.length c14) := by rw [hk0]; exact hcell13
              clear hq hcell13 hk0
              go_wp2_with fail
              go_roundw
              case rel => exact ⟨k + 1, by omega, by go_num, HBQ.out.setCell ha14 _, fun h => absurd h (by omega)⟩
              case measure => simp [intOf]; omega
            · have hke : k = 1 := by omega
              clear hk hq hcell13 hcell14 hfr14
              subst hke
              go_wp2_with fail
              refine (open_one wr _ p X (HT12.out.ch (Ch.of_below (S := fun _ => False) HBQ.out (Nat.le_refl _)) (fun _ _ h => h))).mono ?_
              rintro e w15 ⟨v15, rfl, hv15, hb15⟩
              have HV15 := Lib.hid (hv15.sl (X := fun _ => False) (fun _ _ _ h => h))
              have HO15 := Lib.hid (own_below (own_below HO12.out HBQ.out) hb15)
              have HB15 := Lib.hid (HB12.out.trans ((below_tr HBQ.out hb15).mono HB12.out.size))
              clear hv15 hb15
              go_wp2_with fail
              refine (equal_any _ (fun _ => False) (fun _ => False) _ _ X.length X.length X X HV15.out (Sl.of_own HO15.out (fun _ _ _ h => h))).mono ?_
              rintro e w' ⟨he, rfl⟩
              rw [beq_self_eq_true] at he
              subst he
              go_wp2_with fail
              go_ret
              exact ⟨rfl, HB15.out⟩

end Go.Proofs.Ytnhppmdhhmekdaa.Nn

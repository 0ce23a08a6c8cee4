import Derived.Test.YtdkjimfehipeaaaGreatDoorT14
import Derived.Test.YtdkjimfehipeaaaGreatDoorZRg
/-
  For layer 4's names: slices.Equal at strings, the document's disk made and its List.
-/
namespace Go.Proofs.YtdkjimfehipeaaaGreatDoor.Ha
open Go Go.RowKit Go.Maps Ck Kw Ga Dm Dw Da Db Dc Dd De Df Dg Dh Di Dj Ra Rb Rc Rd Re Rf Rg Dl
attribute [local go_sem ↓] Go.wp_at_zero Go.wp_at_succ
set_option linter.unusedVariables false

theorem sv_at {w : World} {X : Nat → Prop} {A : Option Addr} {c k : Nat} {l : List Tx} (h : Sl w X 1 (.slice A l.length c) l.length (l.map SV)) (hk : k < l.length) : ∃ ad, A = some ad ∧ w.cell? (ad.add k) = some (.string ⟨l[k].toArray⟩) := by
  obtain ⟨A0, c0, hv, _, _, _, hx⟩ := h
  obtain ⟨ad, e, _, _, hc⟩ := hx (by omega)
  exact ⟨ad, by rw [(Value.slice.inj hv).1, e], hc k _ (by simp [hk, SV])⟩

set_option maxHeartbeats 1000000 in
/-- Two lists of strings that are the same. -/
theorem equal_strs (w : World) (X Y : Nat → Prop) (A B : Option Addr) (c d : Nat) (l : List Tx) (ha : Sl w X 1 (.slice A l.length c) l.length (l.map SV)) (hb : Sl w Y 1 (.slice B l.length d) l.length (l.map SV)) (hl : l.length ≤ 64) :
    Calls Tryz.prog 75 #[.slice A l.length c, .slice B l.length d] w fun e w' => e = .returned (.bool true) ∧ Below w.heap.size w w' := by
  have HA := Lib.hid ha
  have HB := Lib.hid hb
  clear ha hb
  go_enter Tryz.func75, Tryz.ntmps75
  go_wp2
  go_loopw [13] (fun i wr => ∃ k : Nat, k ≤ l.length ∧ i = .int .i64 (k : Int) ∧ Below w.heap.size w wr) (fun i _ => l.length - (intOf i).toNat)
  case atStart => exact ⟨0, Nat.zero_le _, rfl, Below.refl _ _⟩
  case round =>
    obtain ⟨k, hk, rfl, hbw⟩ := hrel
    by_cases hlt : k < l.length
    · obtain ⟨ad, rfl, h1⟩ := sv_at (HA.out.after hbw) hlt
      obtain ⟨bd, rfl, h2⟩ := sv_at (HB.out.after hbw) hlt
      have hk0 : (0 : Int) ≤ (k : Int) := by omega
      have hk1 : (k : Int) < (l.length : Int) := by omega
      go_wp2
      go_quiet (fail)
      go_wp2
      go_roundw
      case rel => exact ⟨k + 1, by omega, by go_num, below_drewN hbw nq⟩
      case measure => simp [intOf]; omega
    · have hke : k = l.length := by omega
      subst hke
      go_wp2
      go_ret
      exact ⟨rfl, hbw⟩

theorem info_str : (Tryz.prog.info? 9).map (fun i => (i.zero, i.size, i.bytes)) = some (some (.string ⟨#[]⟩), 1, 16) := by kernel_rfl
theorem one_sv (w : World) (X : Nat → Prop) (s : Tx) (hX : ¬ X w.heap.size) : Sl (w.alloc (.cells #[.string ⟨s.toArray⟩] 9)) X 1 (.slice (some ⟨w.heap.size, 0, none⟩) 1 1) 1 ([s].map SV) := by
  refine ⟨_, _, rfl, rfl, Nat.le_refl _, by simp only [maxLen]; omega, fun _ => ⟨_, rfl, by simp, hX, fun j u hu => ?_⟩⟩
  rw [add_zero rfl j, Blk.cell (Blk.new w _ _) j]
  simpa [SV] using hu
theorem svs_one (l : List Tx) : ∀ u ∈ l.map SV, u.oneCell' = true := by
  intro u hu
  obtain ⟨x, _, rfl⟩ := List.mem_map.1 hu
  rfl

set_option maxRecDepth 100000 in
set_option maxHeartbeats 1000000 in
theorem rlist_any (w : World) (S : Nat → Prop) (q : Nat) (L : List Fl) (most : Nat) (down : Bool) (h : Rk w S q L most down) :
    Calls Tryz.prog 76 #[.pointer (some ⟨q, 0, none⟩)] w fun e w' => ∃ A c, e = .returned (.slice A L.length c) ∧ w'.ownsRow w.heap.size 9 1 (.slice A L.length c) L.length ((L.map (·.n)).map SV) ∧ Below w.heap.size w w' := by
  obtain ⟨l, lv, hL, hP⟩ := h
  have hfew := hP.good.few
  rw [List.length_map] at hfew
  obtain ⟨A, c, rfl, -⟩ := hP.shape
  have c0 : w.cell? ⟨q, 0, none⟩ = some (.slice A l.length c) := hP.blk.cell 0
  have HP := Lib.hid hP
  have HL := Lib.hid hL
  have HLL := Lib.hid (rows_len hL)
  obtain ⟨i0, hi0, hz0, hz1, hz2⟩ := info_parts info_str
  clear hP hL c0
  go_enter Tryz.func76, Tryz.ntmps76
  go_wp2
  go_loopw [3, 4] (fun u i wr => ∃ k : Nat, k ≤ l.length ∧ i = .int .i64 (k : Int) ∧ wr.ownsRow w.heap.size 9 1 u k (((L.take k).map (·.n)).map SV) ∧ Below w.heap.size w wr) (fun _ i _ => l.length - (intOf i).toNat)
  case atStart => exact ⟨0, Nat.zero_le _, rfl, World.ownsRow_nil _ _ _ _, Below.refl _ _⟩
  case round =>
    obtain ⟨k, hk, rfl, hown, hbq⟩ := hrel
    have HO := Lib.hid hown
    have HBQ := Lib.hid hbq
    have hPq := HP.out.later hbq
    have c0 : wr.cell? ⟨q, 0, none⟩ = some (.slice A l.length c) := hPq.blk.cell 0
    obtain ⟨Au, cu, rfl⟩ := own_shape hown
    by_cases hlt : k < l.length
    · obtain ⟨ad, rfl, -, -, hfa⟩ := hPq.at_ hlt
      have a0 := hfa.a0
      clear hPq hfa hown hbq
      go_wp2_with (at_builtin; refine wpList_append_sh _ rfl (.tmp 14) (.tmp 23) _ rfl w.heap.size 9 i0 _ 1 16 Tryz.underlying92 hi0 hz0 hz1 hz2 rfl (by omega) _ k _ rfl (HO.out.alloc _) (fun _ => False) _ 1 ([l[k].1.n].map SV) rfl (one_sv _ _ _ (fun h => h)) (svs_one _) (by simp only [maxLen]; omega) (by omega) (by have := HBQ.out.size; simp; omega) ?_; intro A2 c2 w2 happ)
      have hb2 : Below w.heap.size w w2 := (HBQ.out.alloc HBQ.out.size _).grown happ.2.1 (by have := HBQ.out.size; simp; omega) (fun g hg => (HO.out.lt g hg).1)
      have ho2 := happ.1
      rw [← List.map_append] at ho2
      have htk : (L.take (k + 1)).map (·.n) = (L.take k).map (·.n) ++ [l[k].1.n] := by
        obtain ⟨hl, he⟩ := List.getElem?_eq_some_iff.1 (rows_at HL.out hlt)
        rw [List.take_succ_eq_append_getElem hl, he]
        simp
      rw [← htk] at ho2
      have HO2 := Lib.hid ho2
      have HB2 := Lib.hid hb2
      clear happ hb2 ho2 htk
      go_wp2
      go_roundw
      case rel => exact ⟨k + 1, by omega, by go_num, HO2.out, HB2.out⟩
      case measure => simp [intOf]; omega
    · have hke : k = l.length := by omega
      subst hke
      have htk : L.take l.length = L := by rw [← HLL.out, List.take_length]
      have HTK := Lib.hid htk
      clear hlt hk hPq htk hown
      go_wp2
      go_ret
      have ho := HO.out
      rw [HTK.out] at ho
      rw [HLL.out]
      exact ⟨_, _, rfl, ho, hbq⟩

theorem rk_none {w : World} {S : Nat → Prop} {q room : Nat} (hb : Blk w q 114 #[.slice none 0 0, .int .i64 (room : Int), .bool false]) (hq : S q) (hr : room ≤ 4194304) : Rk w S q [] room false :=
  ⟨[], .slice none 0 0, rfl, hb, ⟨rfl, .inl ⟨rfl, rfl⟩⟩, hq, (fun k hk => by cases hk), (fun x hx => (nomatch hx)), ⟨by simp, by simp, by simp [used], hr, (fun f hf => (nomatch hf)), (fun f hf => (nomatch hf))⟩⟩
theorem rnew_ok (w : World) (room : Nat) (h : room ≤ 4194304) : Calls Tryz.prog 37 #[.int .i64 (room : Int)] w fun e w' => ∃ q, e = .returned (.tuple #[.pointer (some ⟨q, 0, none⟩), .int .i64 0]) ∧ Rk w' (New w w') q [] room false ∧ Below w.heap.size w w' := by
  have h0 : ¬ (room : Int) < 0 := by omega
  have h1 : ¬ 4194304 < (room : Int) := by omega
  go_enter Tryz.func37, Tryz.ntmps37
  go_wp2
  go_ret2
  exact ⟨_, rfl, rk_none (Blk.new _ _ _) ⟨Nat.le_refl _, by simp⟩ h, (Below.refl _ w).alloc (Nat.le_refl _) _⟩

end Go.Proofs.YtdkjimfehipeaaaGreatDoor.Ha

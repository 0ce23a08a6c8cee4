import Derived.Test.YtmhmnkpaijoaaaaGreatRows
import Derived.BigQuiet
import Derived.Maps.OwnSet
import Derived.Maps.Views
import Derived.Test.YtmhmnkpaijoaaaaGreatSZ01
namespace Go.Proofs.YtmhmnkpaijoaaaaGreat.Bulk
set_option linter.unusedSimpArgs false
set_option linter.unusedVariables false
theorem slice_elems {H : Type} (elems spare : List (DataW H)) : Rows.uptoBulkAll elems + 1 <= Rows.uptoBulk (.slice elems spare) := by
  simp only [Rows.uptoBulk]
  omega
theorem small {H : Type} {l : List (DataW H)} (h : Rows.uptoSmall H l = true) : Rows.uptoBulkAll l <= 1048576 := of_decide_eq_true h
end Go.Proofs.YtmhmnkpaijoaaaaGreat.Bulk
namespace Go.Proofs.YtmhmnkpaijoaaaaGreat.Psi
set_option linter.unusedSimpArgs false
open Go Go.RowKit Ck Kw Ga Pra Prh
attribute [local go_sem ↓] Go.wp_at_zero Go.wp_at_succ
set_option linter.unusedVariables false
set_option maxRecDepth 100000
theorem shr_pos {s : Int} (h : 0 <= s) (h' : s < 65536) : ∀ k, 0 <= shr s k /\ shr s k < 65536
  | 0 => ⟨h, h'⟩
  | k + 1 => by
    have := shr_pos h h' k
    simp only [shr]
    omega
theorem has_yes {s b : Int} {k : Nat} (hk : k < 13) (e : (k : Int) = b) (h : shr s k % 2 = 1) : hasS s b = true := by
  subst e
  simp [hasS, bitS, h]
  omega
theorem has_no {s b : Int} (h : ∀ k : Nat, k < 13 -> (k : Int) = b -> ¬ shr s k % 2 = 1) : hasS s b = false := by
  unfold hasS
  by_cases h1 : 0 <= b
  . by_cases h2 : b < 13
    . have := h b.toNat (by omega) (by omega)
      simp [bitS, this]
    . simp [h2]
  . simp [h1]
set_option maxHeartbeats 2000000 in
theorem rhas_any (w : World) (s b : Int) (h0 : 0 <= s) (h1 : s < 65536) : Calls Tryz.prog 37 #[.int .u16 s, .int .i64 b] w fun e w' => e = .returned (.bool (hasS s b)) /\ w = w' := by
  have HP := Lib.hid (shr_pos h0 h1)
  clear h0 h1
  go_enter Tryz.func37, Tryz.ntmps37
  go_wp2_with fail
  go_loopw [0, 5] (fun x i wr => ∃ k : Nat, k <= 13 /\ i = .int .i64 k /\ x = .int .u16 (shr s k) /\ (∀ j : Nat, j < k -> (j : Int) = b -> ¬ shr s j % 2 = 1) /\ wr = w) (fun _ i _ => 13 - (intOf i).toNat)
  case atStart => exact ⟨0, by omega, rfl, rfl, fun j hj => by omega, rfl⟩
  case round =>
    obtain ⟨k, hk, rfl, rfl, hno, rfl⟩ := hrel
    by_cases hlt : k < 13
    . have hki : (k : Int) < 13 := by omega
      obtain ⟨p1, p2⟩ := HP.out k
      have hm : Int.tmod (shr s k) 2 = shr s k % 2 := Int.tmod_eq_emod_of_nonneg p1
      have hd : Int.tdiv (shr s k) 2 = shr s k / 2 := Int.tdiv_eq_ediv_of_nonneg p1
      have hst : shr s (k + 1) = shr s k / 2 := rfl
      have hw : IntKind.u16.wrap (shr s k / 2) = shr s k / 2 := by simp [IntKind.wrap, IntKind.bits, IntKind.signed]; omega
      have hw2 : IntKind.u16.wrap (shr s k % 2) = shr s k % 2 := by simp [IntKind.wrap, IntKind.bits, IntKind.signed]; omega
      by_cases he : (k : Int) = b
      . by_cases hb : shr s k % 2 = 1
        . have HY := Lib.hid (has_yes hlt he hb)
          have e1 : ((k : Int) == b) = true := by rw [beq_iff_eq]; exact he
          have e2 : (shr s k % 2 == 1) = true := by rw [beq_iff_eq]; exact hb
          generalize shr s k = x at *
          generalize hkk : (k : Int) = ki at *
          clear he hb hno hst hkk
          go_wp2_with fail
          go_ret
          exact ⟨by rw [HY.out]; rfl, rfl⟩
        . have HN := Lib.hid (show ∀ j : Nat, j < k + 1 -> (j : Int) = b -> ¬ shr s j % 2 = 1 from fun j hj hjb => by
            by_cases hjk : j = k
            . subst hjk; exact hb
            . exact hno j (by omega) hjb)
          have e1 : ((k : Int) == b) = true := by rw [beq_iff_eq]; exact he
          have e2 : (shr s k % 2 == 1) = false := by rw [beq_eq_false_iff_ne]; exact hb
          have HST := Lib.hid hst
          clear he hb hno hst
          generalize shr s k = x at *
          go_wp2_with fail
          go_roundw
          case rel => exact ⟨k + 1, by omega, by go_num, by rw [HST.out], HN.out, trivial⟩
          case measure => simp [intOf]; omega
      . have HN := Lib.hid (show ∀ j : Nat, j < k + 1 -> (j : Int) = b -> ¬ shr s j % 2 = 1 from fun j hj hjb => by
          by_cases hjk : j = k
          . subst hjk; exact absurd hjb he
          . exact hno j (by omega) hjb)
        have e1 : ((k : Int) == b) = false := by rw [beq_eq_false_iff_ne]; exact he
        have HST := Lib.hid hst
        clear he hno hst
        generalize shr s k = x at *
        go_wp2_with fail
        go_roundw
        case rel => exact ⟨k + 1, by omega, by go_num, by rw [HST.out], HN.out, trivial⟩
        case measure => simp [intOf]; omega
    . have hke : k = 13 := by omega
      subst hke
      have HN := Lib.hid (has_no hno)
      clear hno
      go_wp2_with fail
      go_ret
      exact ⟨by rw [HN.out]; rfl, rfl⟩
end Go.Proofs.YtmhmnkpaijoaaaaGreat.Psi
namespace Go.Proofs.YtmhmnkpaijoaaaaGreat.Psj
set_option linter.unusedSimpArgs false
open Go Go.RowKit Cm Ck Kw Ga Kf Pm Pe Pg Ph Qb Lk Ld Jm Ja Jb Jk Pra Prb Prc Prd Pre Prf Prh Psi
attribute [local go_sem ↓] Go.wp_at_zero Go.wp_at_succ
set_option linter.unusedVariables false
set_option maxRecDepth 100000
theorem info_int : (Tryz.prog.info? 3).map (fun i => (i.zero, i.size, i.bytes)) = some (some (.int .i64 0), 1, 8) := by kernel_rfl
theorem one_valI (w : World) (X : Nat -> Prop) (t : TypeId) (u : Value) (hX : ¬ X w.heap.size) : Sl (w.alloc (.cells #[u] t)) X 1 (.slice (some ⟨w.heap.size, 0, none⟩) 1 1) 1 [u] := by
  refine ⟨_, _, rfl, rfl, Nat.le_refl _, by simp only [maxLen]; omega, fun _ => ⟨_, rfl, by simp, hX, fun j u hu => ?_⟩⟩
  have hj : j = 0 := by have := (List.getElem?_eq_some_iff.1 hu).1; simp at this; omega
  subst hj
  show World.cell? _ ⟨w.heap.size, 0, none⟩ = _
  rw [Blk.cell (Blk.new w t _) 0]
  simpa using hu
def IVs (l : List Int) : List Value := l.map (Value.int .i64)
theorem listTo_len (P : Int -> Bool) (k : Nat) : (listTo P k).length <= k := by
  unfold listTo
  rw [List.length_map]
  exact Nat.le_trans (List.length_filter_le _ _) (by simp)
theorem listTo_snoc (P : Int -> Bool) (k : Nat) : listTo P (k + 1) = if P (k : Int) = true then listTo P k ++ [(k : Int)] else listTo P k := by
  unfold listTo
  rw [List.range_succ, List.filter_append, List.map_append]
  by_cases h : P (k : Int) = true
  . rw [if_pos h, List.filter_cons_of_pos (by simpa using h)]
    rfl
  . rw [if_neg h, List.filter_cons_of_neg (by simpa using h)]
    simp
theorem IVs_app (l : List Int) (x : Int) : IVs (l ++ [x]) = IVs l ++ [.int .i64 x] := by simp [IVs]
set_option maxHeartbeats 4000000 in
theorem rlist_any (w : World) (s : Int) (h0 : 0 <= s) (h1 : s < 65536) : Calls Tryz.prog 65 #[.int .u16 s] w fun e w' => ∃ A c, e = .returned (.slice A (listS s).length c) /\ w'.ownsRow w.heap.size 3 1 (.slice A (listS s).length c) (listS s).length (IVs (listS s)) /\ Below w.heap.size w w' := by
  have HS := Lib.hid (And.intro h0 h1)
  obtain ⟨i0, hi0, hz0, hz1, hz2⟩ := info_parts info_int
  clear h0 h1
  go_enter Tryz.func65, Tryz.ntmps65
  go_wp2_with fail
  go_loopw [3, 4] (fun v i wr => ∃ k : Nat, k <= 13 /\ i = .int .i64 k /\ wr.ownsRow w.heap.size 3 1 v (listTo (hasS s) k).length (IVs (listTo (hasS s) k)) /\ Below w.heap.size w wr) (fun _ i _ => 13 - (intOf i).toNat)
  case atStart => exact ⟨0, Nat.zero_le _, rfl, World.ownsRow_nil _ _ _ _, Below.refl _ _⟩
  case round =>
    obtain ⟨k, hk, rfl, hrow, hb⟩ := hrel
    obtain ⟨Al, cl, rfl⟩ := own_shape hrow
    have HB := Lib.hid hb
    have HRW := Lib.hid hrow
    by_cases hlt : k < 13
    . have hki : (k : Int) < 13 := by omega
      have hlen := listTo_len (hasS s) k
      have HSN := Lib.hid (listTo_snoc (hasS s) k)
      clear hb hrow
      go_wp2_with fail
      refine (rhas_any wr s (k : Int) HS.out.1 HS.out.2).mono ?_
      rintro e w2 ⟨rfl, rfl⟩
      by_cases hx : hasS s (k : Int) = true
      . rw [if_pos hx] at HSN
        rw [hx]
        generalize hL : listTo (hasS s) k = L at *
        generalize hL2 : listTo (hasS s) (k + 1) = L2 at *
        go_wp2_with (at_builtin; refine wpList_append_sh _ rfl (.tmp 12) (.tmp 14) _ rfl w.heap.size 3 i0 _ 1 8 Tryz.underlying146 hi0 hz0 hz1 hz2 rfl (by omega) (.slice Al L.length cl) L.length (IVs L) rfl (HRW.out.alloc _) (fun _ => False) _ 1 [.int .i64 (k : Int)] rfl (one_valI _ _ _ _ (fun h => h)) (by simp [Value.oneCell']) (by simp only [maxLen]; omega) (by omega) (by have := HB.out.size; simp; omega) ?_; intro A3 c3 w3 happ)
        have HAP := Lib.hid happ
        clear happ
        go_roundw
        case rel => exact ⟨k + 1, by omega, by go_num, by rw [hL2, HSN.out, List.length_append, IVs_app]; exact HAP.out.1, ((HB.out.alloc (by have := HB.out.size; omega) _).grown HAP.out.2.1 (by have := HB.out.size; simp; omega) (fun g hg => (HRW.out.lt g hg).1))⟩
        case measure => simp [intOf]; omega
      . rw [if_neg hx] at HSN
        have hx' : hasS s (k : Int) = false := by simpa using hx
        rw [hx']
        generalize hL : listTo (hasS s) k = L at *
        generalize hL2 : listTo (hasS s) (k + 1) = L2 at *
        go_wp2_with fail
        go_roundw
        case rel => exact ⟨k + 1, by omega, by go_num, by rw [hL2, HSN.out]; exact HRW.out, HB.out⟩
        case measure => simp [intOf]; omega
    . have hke : k = 13 := by omega
      subst hke
      clear hb hrow
      have HL := Lib.hid (show listS s = listTo (hasS s) 13 from rfl)
      generalize listTo (hasS s) 13 = L at *
      go_wp2_with fail
      go_ret
      rw [HL.out]
      exact ⟨_, _, rfl, HRW.out, HB.out⟩
set_option maxHeartbeats 4000000 in
theorem rmany_any (w : World) (s : Int) (h0 : 0 <= s) (h1 : s < 65536) : Calls Tryz.prog 34 #[.int .u16 s] w fun e w' => e = .returned (.int .i64 (listS s).length) /\ Below w.heap.size w w' := by
  go_enter Tryz.func34, Tryz.ntmps34
  go_wp2_with fail
  refine (rlist_any w s h0 h1).mono ?_
  rintro e w2 ⟨A, c, rfl, ho, hb⟩
  have HB := Lib.hid hb
  clear ho hb
  go_wp2_with fail
  go_ret
  exact ⟨rfl, HB.out⟩
end Go.Proofs.YtmhmnkpaijoaaaaGreat.Psj
namespace Go.Proofs.YtmhmnkpaijoaaaaGreat.Psk
set_option linter.unusedSimpArgs false
open Go Go.RowKit Cm Ck Kw Ga Kf Pm Pe Pg Ph Qb Lk Ld Jm Ja Jb Jk Pra Prb Prc Prd Pre Prf Prh Psi Psj
attribute [local go_sem ↓] Go.wp_at_zero Go.wp_at_succ
set_option linter.unusedVariables false
set_option maxRecDepth 100000
def bitP : Nat -> Int
  | 0 => 1
  | k + 1 => bitP k * 2
theorem bit_le : ∀ k, k < 14 -> 1 <= bitP k /\ bitP k <= 8192 := by decide
def ofTo (l : List Int) : Nat -> Int
  | 0 => 0
  | k + 1 => if (k : Int) ∈ l then ofTo l k + bitP k else ofTo l k
theorem of_le (l : List Int) : ∀ k, k < 14 -> 0 <= ofTo l k /\ ofTo l k < bitP k
  | 0, _ => by simp [ofTo, bitP]
  | k + 1, h => by
    have h1 := of_le l k (by omega)
    have h2 := bit_le k (by omega)
    simp only [ofTo, bitP]
    split <;> omega
def ofS (l : List Int) : Int := ofTo l 13
theorem iv_at {w : World} {X : Nat -> Prop} {A : Option Addr} {c : Nat} {l : List Int} (h : Sl w X 1 (.slice A l.length c) l.length (IVs l)) {k : Nat} (hk : k < l.length) : ∃ ad, A = some ad /\ w.cell? (ad.add k) = some (.int .i64 l[k]) := by
  obtain ⟨A0, c0, hv, hl, hc, hm, hx⟩ := h
  obtain ⟨e1, e2, e3⟩ := Value.slice.inj hv
  obtain ⟨ad, hA, _, _, hcell⟩ := hx (by omega)
  exact ⟨ad, e1.trans hA, hcell k _ (by simp [IVs, hk])⟩
set_option maxHeartbeats 4000000 in
theorem rof_any (w : World) (X : Nat -> Prop) (A : Option Addr) (c : Nat) (l : List Int) (h : Sl w X 1 (.slice A l.length c) l.length (IVs l)) (hl : l.length <= 4611686018427387904) : Calls Tryz.prog 66 #[.slice A l.length c] w fun e w' => e = .returned (.int .u16 (ofS l)) /\ w = w' := by
  have HSL := Lib.hid h
  clear h
  go_enter Tryz.func66, Tryz.ntmps66
  go_wp2_with fail
  go_loopw [3, 4, 5] (fun s b i wr => ∃ k : Nat, k <= 13 /\ i = .int .i64 k /\ s = .int .u16 (ofTo l k) /\ b = .int .u16 (bitP k) /\ wr = w) (fun _ _ i _ => 13 - (intOf i).toNat)
  case atStart => exact ⟨0, by omega, rfl, rfl, rfl, rfl⟩
  case round =>
    obtain ⟨k, hk, rfl, rfl, rfl, rfl⟩ := hrel
    by_cases hlt : k < 13
    . have hki : (k : Int) < 13 := by omega
      obtain ⟨o1, o2⟩ := of_le l k (by omega)
      obtain ⟨b1, b2⟩ := bit_le k (by omega)
      have HBS := Lib.hid (show bitP (k + 1) = bitP k * 2 from rfl)
      have HY := Lib.hid (show (k : Int) ∈ l -> ofTo l (k + 1) = ofTo l k + bitP k from fun h => if_pos h)
      have HN := Lib.hid (show ¬ (k : Int) ∈ l -> ofTo l (k + 1) = ofTo l k from fun h => if_neg h)
      have hb4 : bitP k <= 4096 := (by decide : ∀ k, k < 13 -> bitP k <= 4096) k hlt
      generalize ofTo l k = s at *
      generalize bitP k = b at *
      have w1 : IntKind.u16.wrap (s + b) = s + b := by simp [IntKind.wrap, IntKind.bits, IntKind.signed]; omega
      have w2 : IntKind.u16.wrap (b * 2) = b * 2 := by simp [IntKind.wrap, IntKind.bits, IntKind.signed]; omega
      go_wp2_with fail
      go_loopw [3, 6] (fun t j wx => ∃ m : Nat, m <= l.length /\ j = .int .i64 m /\ t = .int .u16 s /\ (∀ x ∈ l.take m, x ≠ (k : Int)) /\ wx = wr) (fun _ j _ => l.length - (intOf j).toNat)
      case atStart => exact ⟨0, by omega, rfl, rfl, by simp, rfl⟩
      case round =>
        obtain ⟨m, hm, rfl, rfl, hno, rfl⟩ := hrel
        by_cases hml : m < l.length
        . obtain ⟨ad, rfl, a0⟩ := iv_at HSL.out hml
          have hmp : (0 : Int) <= (m : Int) := by omega
          have hmi : (m : Int) < (l.length : Int) := by omega
          have HIN := Lib.hid (show l[m] ∈ l from List.getElem_mem hml)
          have HTK := Lib.hid (List.take_succ_eq_append_getElem hml)
          generalize l[m] = x at *
          by_cases hx : x = (k : Int)
          . subst hx
            have HS := Lib.hid (HY.out HIN.out)
            have e1 : ((k : Int) == (k : Int)) = true := by simp
            clear hno
            go_wp2_with fail
            go_roundw
            case rel => exact ⟨k + 1, by omega, by go_num, by rw [HS.out], by rw [HBS.out], trivial⟩
            case measure => simp [intOf]; omega
          . have HNO := Lib.hid (show ∀ y ∈ l.take (m + 1), y ≠ (k : Int) from fun y hy => by
              rw [HTK.out, List.mem_append] at hy
              rcases hy with hy | hy
              . exact hno y hy
              . rw [List.mem_singleton] at hy; subst hy; exact hx)
            have e1 : (x == (k : Int)) = false := by rw [beq_eq_false_iff_ne]; exact hx
            clear hno hx
            go_wp2_with fail
            go_roundw
            case rel => exact ⟨m + 1, by omega, by go_num, rfl, HNO.out, trivial⟩
            case measure => simp [intOf]; omega
        . have hme : m = l.length := by omega
          subst hme
          rw [List.take_length] at hno
          have HS := Lib.hid (HN.out (fun h => hno _ h rfl))
          clear hno
          go_wp2_with fail
          go_roundw
          case rel => exact ⟨k + 1, by omega, by go_num, by rw [HS.out], by rw [HBS.out], trivial⟩
          case measure => simp [intOf]; omega
    . have hke : k = 13 := by omega
      subst hke
      have HL := Lib.hid (show ofS l = ofTo l 13 from rfl)
      generalize ofTo l 13 = s at *
      generalize bitP 13 = b at *
      go_wp2_with fail
      go_ret
      exact ⟨by rw [HL.out]; rfl, rfl⟩
end Go.Proofs.YtmhmnkpaijoaaaaGreat.Psk
namespace Go.Proofs.YtmhmnkpaijoaaaaGreat.Psl
set_option linter.unusedSimpArgs false
open Go Go.RowKit Cm Ck Kw Ga Kf Pm Pe Pg Ph Qb Lk Ld Jm Ja Jb Jk Pra Prb Prc Prd Pre Prf Prh Psi Psj Psk
attribute [local go_sem ↓] Go.wp_at_zero Go.wp_at_succ
set_option linter.unusedVariables false
set_option maxRecDepth 100000
def upToS (k : Nat) : List Int := listTo (fun _ => true) k
def allS (f : Int) : Int := ofS (upToS (brokersP f).toNat)
def bothS (a b : Int) : Int := ofS (listTo (fun i => hasS a i && hasS b i) 13)
theorem brokers_le (f : Int) : 0 <= brokersP f /\ brokersP f <= 13 := by
  unfold brokersP
  by_cases h : okF f = true
  . rw [if_pos h]
    have := okF_yes h
    omega
  . rw [if_neg h]
    omega
set_option maxHeartbeats 4000000 in
theorem rall_any (w : World) (f : Int) : Calls Tryz.prog 36 #[.int .i64 f] w fun e w' => e = .returned (.int .u16 (allS f)) /\ Below w.heap.size w w' := by
  obtain ⟨i0, hi0, hz0, hz1, hz2⟩ := info_parts info_int
  have HBR := Lib.hid (brokers_le f)
  go_enter Tryz.func36, Tryz.ntmps36
  go_wp2_with fail
  go_loopw [3, 4] (fun v i wr => ∃ k : Nat, (k : Int) <= brokersP f /\ i = .int .i64 k /\ wr.ownsRow w.heap.size 3 1 v (upToS k).length (IVs (upToS k)) /\ Below w.heap.size w wr) (fun _ i _ => 13 - (intOf i).toNat)
  case atStart => exact ⟨0, HBR.out.1, rfl, World.ownsRow_nil _ _ _ _, Below.refl _ _⟩
  case round =>
    obtain ⟨k, hk, rfl, hrow, hb⟩ := hrel
    obtain ⟨Al, cl, rfl⟩ := own_shape hrow
    have HB := Lib.hid hb
    have HRW := Lib.hid hrow
    clear hb hrow
    have hlen := listTo_len (fun _ => true) k
    have HK := Lib.hid hk
    clear hk
    go_wp2_with fail
    refine (rbrokers_any wr f).mono ?_
    rintro e w2 ⟨rfl, rfl⟩
    by_cases hlt : (k : Int) < brokersP f
    . have h13 : k < 13 := by have := HBR.out; omega
      have HSN := Lib.hid ((listTo_snoc (fun _ => true) k).trans (if_pos rfl))
      change Hid (upToS (k + 1) = upToS k ++ [(k : Int)]) at HSN
      change (upToS k).length <= k at hlen
      generalize hL : upToS k = L at *
      generalize hL2 : upToS (k + 1) = L2 at *
      generalize hB : brokersP f = B at *
      go_wp2_with (at_builtin; refine wpList_append_sh _ rfl (.tmp 11) (.tmp 13) _ rfl w.heap.size 3 i0 _ 1 8 Tryz.underlying146 hi0 hz0 hz1 hz2 rfl (by omega) (.slice Al L.length cl) L.length (IVs L) rfl (HRW.out.alloc _) (fun _ => False) _ 1 [.int .i64 (k : Int)] rfl (one_valI _ _ _ _ (fun h => h)) (by simp [Value.oneCell']) (by simp only [maxLen]; omega) (by omega) (by have := HB.out.size; simp; omega) ?_; intro A3 c3 w3 happ)
      have HAP := Lib.hid happ
      clear happ
      go_roundw
      case rel => exact ⟨k + 1, by omega, by go_num, by rw [hL2, HSN.out, List.length_append, IVs_app]; exact HAP.out.1, ((HB.out.alloc (by have := HB.out.size; omega) _).grown HAP.out.2.1 (by have := HB.out.size; simp; omega) (fun g hg => (HRW.out.lt g hg).1))⟩
      case measure => simp [intOf]; omega
    . have hke : brokersP f = (k : Int) := by have := HK.out; omega
      have HL := Lib.hid (show allS f = ofS (upToS k) from by unfold allS; rw [hke]; rfl)
      have hll : (upToS k).length <= 4611686018427387904 := by
        have := HBR.out
        have : (upToS k).length <= k := hlen
        omega
      generalize upToS k = L at *
      rw [hke] at *
      go_wp2_with fail
      refine (rof_any wr (fun _ => False) Al cl L (Sl.of_own HRW.out (fun _ _ _ h => h)) hll).mono ?_
      rintro e w3 ⟨rfl, rfl⟩
      go_wp2_with fail
      go_ret
      exact ⟨by rw [HL.out]; rfl, HB.out⟩
set_option maxHeartbeats 4000000 in
theorem rboth_any (w : World) (a b : Int) (h0 : 0 <= a) (h1 : a < 65536) (h2 : 0 <= b) (h3 : b < 65536) : Calls Tryz.prog 35 #[.int .u16 a, .int .u16 b] w fun e w' => e = .returned (.int .u16 (bothS a b)) /\ Below w.heap.size w w' := by
  obtain ⟨i0, hi0, hz0, hz1, hz2⟩ := info_parts info_int
  have HS := Lib.hid (And.intro (And.intro h0 h1) (And.intro h2 h3))
  clear h0 h1 h2 h3
  go_enter Tryz.func35, Tryz.ntmps35
  go_wp2_with fail
  go_loopw [5, 6] (fun v i wr => ∃ k : Nat, k <= 13 /\ i = .int .i64 k /\ wr.ownsRow w.heap.size 3 1 v (listTo (fun i => hasS a i && hasS b i) k).length (IVs (listTo (fun i => hasS a i && hasS b i) k)) /\ Below w.heap.size w wr) (fun _ i _ => 13 - (intOf i).toNat)
  case atStart => exact ⟨0, Nat.zero_le _, rfl, World.ownsRow_nil _ _ _ _, Below.refl _ _⟩
  case round =>
    obtain ⟨k, hk, rfl, hrow, hb⟩ := hrel
    obtain ⟨Al, cl, rfl⟩ := own_shape hrow
    have HB := Lib.hid hb
    have HRW := Lib.hid hrow
    clear hb hrow
    by_cases hlt : k < 13
    . have hki : (k : Int) < 13 := by omega
      have hlen := listTo_len (fun i => hasS a i && hasS b i) k
      have HSN := Lib.hid (listTo_snoc (fun i => hasS a i && hasS b i) k)
      by_cases hx : hasS a (k : Int) = true
      . by_cases hy : hasS b (k : Int) = true
        . have HS2 := Lib.hid (HSN.out.trans (if_pos (by rw [hx, hy]; rfl)))
          clear HSN
          generalize hL : listTo (fun i => hasS a i && hasS b i) k = L at *
          generalize hL2 : listTo (fun i => hasS a i && hasS b i) (k + 1) = L2 at *
          go_wp2_with fail
          refine (rhas_any wr a (k : Int) HS.out.1.1 HS.out.1.2).mono ?_
          rintro e w2 ⟨rfl, rfl⟩
          rw [hx]
          go_wp2_with fail
          refine (rhas_any wr b (k : Int) HS.out.2.1 HS.out.2.2).mono ?_
          rintro e w2 ⟨rfl, rfl⟩
          rw [hy]
          go_wp2_with (at_builtin; refine wpList_append_sh _ rfl (.tmp 19) (.tmp 21) _ rfl w.heap.size 3 i0 _ 1 8 Tryz.underlying146 hi0 hz0 hz1 hz2 rfl (by omega) (.slice Al L.length cl) L.length (IVs L) rfl (HRW.out.alloc _) (fun _ => False) _ 1 [.int .i64 (k : Int)] rfl (one_valI _ _ _ _ (fun h => h)) (by simp [Value.oneCell']) (by simp only [maxLen]; omega) (by omega) (by have := HB.out.size; simp; omega) ?_; intro A3 c3 w3 happ)
          have HAP := Lib.hid happ
          clear happ
          go_roundw
          case rel => exact ⟨k + 1, by omega, by go_num, by rw [hL2, HS2.out, List.length_append, IVs_app]; exact HAP.out.1, ((HB.out.alloc (by have := HB.out.size; omega) _).grown HAP.out.2.1 (by have := HB.out.size; simp; omega) (fun g hg => (HRW.out.lt g hg).1))⟩
          case measure => simp [intOf]; omega
        . have hy' : hasS b (k : Int) = false := by simpa using hy
          have HS2 := Lib.hid (HSN.out.trans (if_neg (by rw [hx, hy']; decide)))
          clear HSN
          generalize hL : listTo (fun i => hasS a i && hasS b i) k = L at *
          generalize hL2 : listTo (fun i => hasS a i && hasS b i) (k + 1) = L2 at *
          go_wp2_with fail
          refine (rhas_any wr a (k : Int) HS.out.1.1 HS.out.1.2).mono ?_
          rintro e w2 ⟨rfl, rfl⟩
          rw [hx]
          go_wp2_with fail
          refine (rhas_any wr b (k : Int) HS.out.2.1 HS.out.2.2).mono ?_
          rintro e w2 ⟨rfl, rfl⟩
          rw [hy']
          go_wp2_with fail
          go_roundw
          case rel => exact ⟨k + 1, by omega, by go_num, by rw [hL2, HS2.out]; exact HRW.out, HB.out⟩
          case measure => simp [intOf]; omega
      . have hx' : hasS a (k : Int) = false := by simpa using hx
        have HS2 := Lib.hid (HSN.out.trans (if_neg (by rw [hx']; simp)))
        clear HSN
        generalize hL : listTo (fun i => hasS a i && hasS b i) k = L at *
        generalize hL2 : listTo (fun i => hasS a i && hasS b i) (k + 1) = L2 at *
        go_wp2_with fail
        refine (rhas_any wr a (k : Int) HS.out.1.1 HS.out.1.2).mono ?_
        rintro e w2 ⟨rfl, rfl⟩
        rw [hx']
        go_wp2_with fail
        go_roundw
        case rel => exact ⟨k + 1, by omega, by go_num, by rw [hL2, HS2.out]; exact HRW.out, HB.out⟩
        case measure => simp [intOf]; omega
    . have hke : k = 13 := by omega
      subst hke
      have HL := Lib.hid (show bothS a b = ofS (listTo (fun i => hasS a i && hasS b i) 13) from rfl)
      have hll : (listTo (fun i => hasS a i && hasS b i) 13).length <= 4611686018427387904 := by
        have := listTo_len (fun i => hasS a i && hasS b i) 13
        omega
      generalize listTo (fun i => hasS a i && hasS b i) 13 = L at *
      go_wp2_with fail
      refine (rof_any wr (fun _ => False) Al cl L (Sl.of_own HRW.out (fun _ _ _ h => h)) hll).mono ?_
      rintro e w3 ⟨rfl, rfl⟩
      go_wp2_with fail
      go_ret
      exact ⟨by rw [HL.out]; rfl, HB.out⟩
end Go.Proofs.YtmhmnkpaijoaaaaGreat.Psl
namespace Go.Proofs.YtmhmnkpaijoaaaaGreat.Psm
set_option linter.unusedSimpArgs false
open Go
set_option linter.unusedVariables false
theorem nodup_filter {l : List Int} (h : l.Nodup) (p : Int -> Bool) : (l.filter p).Nodup := h.sublist List.filter_sublist
theorem len_split (p : Int -> Bool) : ∀ l : List Int, (l.filter p).length + (l.filter fun x => !p x).length = l.length
  | [] => rfl
  | x :: l => by
    have := len_split p l
    by_cases h : p x = true
    . simp [List.filter_cons, h]; omega
    . have h' : p x = false := by simpa using h
      simp [List.filter_cons, h']; omega
theorem meet {A B F : List Int} {f n : Nat} (hA : A.Nodup) (hB : B.Nodup) (rA : ∀ x ∈ A, 0 <= x /\ x < (n : Int)) (rB : ∀ x ∈ B, 0 <= x /\ x < (n : Int)) (lA : 2 * f + 1 <= A.length) (lB : 2 * f + 1 <= B.length) (hn : n <= 3 * f + 1) (hF : F.length <= f) :
    ∃ x, x ∈ A /\ x ∈ B /\ ¬ x ∈ F := by
  refine Classical.byContradiction fun hno => ?_
  have hin : ∀ x, x ∈ A -> x ∈ B -> x ∈ F := fun x ha hb => Classical.byContradiction fun hf => hno ⟨x, ha, hb, hf⟩
  have hs := len_split (fun x => decide (x ∈ B)) A
  have hC := nodup_le (A.filter fun x => decide (x ∈ B)) F (nodup_filter hA _) (fun x hx => by
    rw [List.mem_filter] at hx
    exact hin x hx.1 (by simpa using hx.2))
  have hD : (B ++ A.filter fun x => !decide (x ∈ B)).length <= ((List.range n).map fun i : Nat => (i : Int)).length := by
    refine nodup_le _ _ ?_ ?_
    . rw [List.nodup_append]
      refine ⟨hB, nodup_filter hA _, fun a ha b hb e => ?_⟩
      subst e
      rw [List.mem_filter] at hb
      simp [ha] at hb
    . intro x hx
      rw [List.mem_append] at hx
      have hr : 0 <= x /\ x < (n : Int) := by
        rcases hx with hx | hx
        . exact rB x hx
        . exact rA x (List.mem_filter.1 hx).1
      rw [List.mem_map]
      exact ⟨x.toNat, by rw [List.mem_range]; omega, by omega⟩
  rw [List.length_append, List.length_map, List.length_range] at hD
  omega
end Go.Proofs.YtmhmnkpaijoaaaaGreat.Psm
namespace Go.Proofs.YtmhmnkpaijoaaaaGreat.Psn
set_option linter.unusedSimpArgs false
open Go Lk Jm Jn Kg Pra Prh Pri Prj Prk Prl Prn Psm
open Im (num isIn)
set_option linter.unusedVariables false
theorem back_all {L : List (List UInt8)} {G : List Sg} {f lead v q d : Int} : ∀ (l : List Sg) (last : Int), backB L G f lead v q d last l = true ->
    (∀ s ∈ l, last < s.1 /\ s.1 < brokersP f /\ s.1 ≠ lead /\ validVoteB L G s s.1 3 v q d = true) /\ (l.map (·.1)).Nodup
  | [], _, _ => by simp
  | s :: l, last, h => by
    rw [backB, Bool.and_eq_true] at h
    obtain ⟨h1, h2⟩ := h
    obtain ⟨i1, i2⟩ := back_all l s.1 h2
    simp only [backOne, Bool.and_eq_true, decide_eq_true_eq, Bool.not_eq_true', decide_eq_false_iff_not] at h1
    obtain ⟨⟨⟨a1, a2⟩, a3⟩, a4⟩ := h1
    refine ⟨fun x hx => ?_, ?_⟩
    . rcases List.mem_cons.1 hx with rfl | hx
      . exact ⟨a1, a2, a3, a4⟩
      . obtain ⟨b1, b2⟩ := i1 x hx
        exact ⟨by omega, b2⟩
    . rw [List.map_cons, List.nodup_cons]
      refine ⟨fun hm => ?_, i2⟩
      obtain ⟨x, hx, e⟩ := List.mem_map.1 hm
      have := (i1 x hx).1
      omega
theorem valid_signers {L : List (List UInt8)} {G : List Sg} {f : Int} {p : Pd} (h : validP L G f p = true) :
    (1 <= f /\ f <= 4) /\ ∃ A : List Int, A.Nodup /\ (∀ x ∈ A, 0 <= x /\ x < brokersP f) /\ (A.length : Int) = 2 * f + 1 /\ ∀ x ∈ A, Stands L G x p.view p.seq p.dig := by
  simp only [validP, preP, headP, Bool.and_eq_true, decide_eq_true_eq] at h
  obtain ⟨⟨⟨⟨⟨⟨hf, hv⟩, hq⟩, hb⟩, hlen⟩, ⟨hin, hdig⟩, hfirst⟩, hback⟩ := h
  have hf' := okF_yes hf
  obtain ⟨i1, i2⟩ := back_all _ _ hback
  have hbr : brokersP f = 3 * f + 1 := by unfold brokersP; rw [if_pos hf]
  have hpr : 0 <= primaryP f p.view /\ primaryP f p.view < brokersP f := by
    have hv' : 0 <= p.view /\ p.view <= 9007199254740992 := by simpa [numP] using hv
    have e : primaryP f p.view = p.view % (3 * f + 1) := by
      unfold primaryP
      rw [if_pos]
      simp only [hf, Bool.true_and, Bool.and_eq_true, Bool.not_eq_true', decide_eq_false_iff_not]
      omega
    rw [e, hbr]
    exact ⟨Int.emod_nonneg _ (by omega), Int.emod_lt_of_pos _ (by omega)⟩
  rw [hdig] at hfirst i1
  refine ⟨hf', primaryP f p.view :: p.signs.map (·.1), ?_, ?_, ?_, ?_⟩
  . rw [List.nodup_cons]
    refine ⟨fun hm => ?_, i2⟩
    obtain ⟨x, hx, e⟩ := List.mem_map.1 hm
    exact (i1 x hx).2.2.1 e
  . intro x hx
    rcases List.mem_cons.1 hx with rfl | hx
    . exact hpr
    . obtain ⟨s, hs, rfl⟩ := List.mem_map.1 hx
      have := i1 s hs
      exact ⟨by omega, this.2.1⟩
  . rw [List.length_cons, List.length_map]
    omega
  . intro x hx
    rcases List.mem_cons.1 hx with rfl | hx
    . exact ⟨_, 2, .inl rfl, hfirst⟩
    . obtain ⟨s, hs, rfl⟩ := List.mem_map.1 hx
      exact ⟨s, 3, .inr rfl, (i1 s hs).2.2.2⟩
theorem valid_meet {L : List (List UInt8)} {G : List Sg} {f : Int} {p p' : Pd} (h : validP L G f p = true) (h' : validP L G f p' = true) {F : List Int} (hF : (F.length : Int) <= f) :
    ∃ x, 0 <= x /\ x < brokersP f /\ ¬ x ∈ F /\ Stands L G x p.view p.seq p.dig /\ Stands L G x p'.view p'.seq p'.dig := by
  obtain ⟨hf, A, a1, a2, a3, a4⟩ := valid_signers h
  obtain ⟨-, B, b1, b2, b3, b4⟩ := valid_signers h'
  have hbr : brokersP f = 3 * f + 1 := by unfold brokersP; rw [if_pos (by simp [okF]; omega)]
  have hn : ((3 * f + 1).toNat : Int) = 3 * f + 1 := by omega
  obtain ⟨x, xa, xb, xf⟩ := meet (f := f.toNat) (n := (3 * f + 1).toNat) a1 b1 (fun x hx => by have := a2 x hx; omega) (fun x hx => by have := b2 x hx; omega) (by omega) (by omega) (by omega) (by omega : F.length <= f.toNat)
  exact ⟨x, (a2 x xa).1, (a2 x xa).2, xf, a4 x xa, b4 x xb⟩
end Go.Proofs.YtmhmnkpaijoaaaaGreat.Psn
namespace Go.Proofs.YtmhmnkpaijoaaaaGreat.Pso
set_option linter.unusedSimpArgs false
open Go Lk Jm Jn Kg Pra Prh Pri Prj Prk Prl Prn Psm Psn
open Im (num isIn)
set_option linter.unusedVariables false
theorem enc_inj {a b : Nat} (ha : a < 18446744073709551616) (hb : b < 18446744073709551616) {r s : List UInt8} (h : Cm.enc a ++ r = Cm.enc b ++ s) : a = b /\ r = s := by
  have h1 := Cm.pn_of_enc ha r
  rw [h, Cm.pn_of_enc hb s] at h1
  have e : b = a := congrArg (·.1) h1
  subst e
  exact ⟨rfl, List.append_cancel_left h⟩
theorem voteB_inj {k v s d k' v' s' d' : Nat} (hk : k < 18446744073709551616) (hv : v < 18446744073709551616) (hs : s < 18446744073709551616) (hd : d < 18446744073709551616) (hk' : k' < 18446744073709551616) (hv' : v' < 18446744073709551616) (hs' : s' < 18446744073709551616) (hd' : d' < 18446744073709551616)
    (h : voteB k v s d = voteB k' v' s' d') : k = k' /\ v = v' /\ s = s' /\ d = d' := by
  simp only [voteB, List.append_assoc] at h
  have h0 := List.append_cancel_left h
  obtain ⟨e1, h1⟩ := enc_inj hk hk' h0
  obtain ⟨e2, h2⟩ := enc_inj hv hv' h1
  obtain ⟨e3, h3⟩ := enc_inj hs hs' h2
  obtain ⟨e4, -⟩ := enc_inj (r := []) (s := []) hd hd' (by simpa using h3)
  exact ⟨e1, e2, e3, e4⟩
def keepV (F : Int -> Bool) (acc : List Vt) (u : Vt) : List Vt :=
  match hadV acc u with
  | some b => if b ≠ u.batch /\ F u.key = false then acc else acc ++ [u]
  | none => acc ++ [u]
def OneV (F : Int -> Bool) (l : List Vt) : Prop := ∀ a ∈ l, ∀ b ∈ l, alike a b = true -> F a.key = false -> a.batch = b.batch
theorem alike_symm {a b : Vt} (h : alike a b = true) : alike b a = true := by
  rw [alike_iff] at *
  exact ⟨h.1.symm, h.2.1.symm, h.2.2.symm⟩
theorem alike_trans {a b c : Vt} (h : alike a b = true) (k : alike b c = true) : alike a c = true := by
  rw [alike_iff] at *
  exact ⟨h.1.trans k.1, h.2.1.trans k.2.1, h.2.2.trans k.2.2⟩
theorem one_snoc {F : Int -> Bool} {acc : List Vt} {u : Vt} (h : OneV F acc) (hu : F u.key = false -> ∀ a ∈ acc, alike u a = true -> a.batch = u.batch) : OneV F (acc ++ [u]) := by
  intro a ha b hb hs hF
  rw [List.mem_append, List.mem_singleton] at ha hb
  rcases ha with ha | rfl
  . rcases hb with hb | rfl
    . exact h a ha b hb hs hF
    . have hk := (alike_iff.1 hs).1
      exact hu (by rw [<- hk]; exact hF) a ha (alike_symm hs)
  . rcases hb with hb | rfl
    . exact (hu hF b hb hs).symm
    . rfl
theorem keep_one {F : Int -> Bool} {acc : List Vt} {u : Vt} (h : OneV F acc) : OneV F (keepV F acc u) := by
  unfold keepV hadV
  cases hf : acc.reverse.find? (alike u) with
  | none =>
    refine one_snoc h (fun _ a ha hs => ?_)
    have := List.find?_eq_none.1 hf a (List.mem_reverse.2 ha)
    exact absurd hs this
  | some w =>
    have hw : w ∈ acc := List.mem_reverse.1 (List.mem_of_find?_eq_some hf)
    have hsw := List.find?_some hf
    simp only [Option.map_some]
    by_cases hc : w.batch ≠ u.batch /\ F u.key = false
    . rw [if_pos hc]
      exact h
    . rw [if_neg hc]
      refine one_snoc h (fun hF a ha hs => ?_)
      have hk := (alike_iff.1 hs).1
      have h1 := h a ha w hw (alike_trans (alike_symm hs) hsw) (by rw [<- hk]; exact hF)
      have h2 : w.batch = u.batch := Classical.byContradiction fun hne => hc ⟨hne, hF⟩
      exact h1.trans h2
theorem stands_one {L : List (List UInt8)} {G : List Sg} {votes : List Vt} {dg : Nat -> Int} {F : Int -> Bool}
    (hG : ∀ s ∈ G, s.1 < 13 -> ∃ u ∈ votes, u.key = s.1 /\ mayP u.kind u.view u.seq (dg u.batch) = true /\ s.2 = (num L (voteB u.kind.toNat u.view.toNat u.seq.toNat (dg u.batch).toNat) : Int))
    (hone : OneV F votes) {x v q d d' : Int} (hx : x < 13) (hF : F x = false) (h : Stands L G x v q d) (h' : Stands L G x v q d') : d = d' := by
  have key : ∀ {e : Int}, Stands L G x v q e -> ∃ u ∈ votes, u.key = x /\ u.view = v /\ u.seq = q /\ dg u.batch = e := by
    intro e he
    obtain ⟨s, k, hk, hv⟩ := he
    simp only [validVoteB, signedB, isIn, Lk.isS, Bool.and_eq_true, decide_eq_true_eq] at hv
    obtain ⟨hm, ⟨⟨h1, h2⟩, h3⟩, h4⟩ := hv
    obtain ⟨u, hu, ek, em, en⟩ := hG s h4 (by omega)
    have hn : num L (voteB k.toNat v.toNat q.toNat e.toNat) = num L (voteB u.kind.toNat u.view.toNat u.seq.toNat (dg u.batch).toNat) := by
      have := h3.symm.trans en
      exact_mod_cast this
    simp only [mayP, numP, Bool.and_eq_true, decide_eq_true_eq] at hm em
    obtain ⟨e1, e2, e3, e4⟩ := voteB_inj (by omega) (by omega) (by omega) (by omega) (by omega) (by omega) (by omega) (by omega) (num_inj hn h1)
    exact ⟨u, hu, by omega, by omega, by omega, by omega⟩
  obtain ⟨u, hu, a1, a2, a3, a4⟩ := key h
  obtain ⟨u', hu', b1, b2, b3, b4⟩ := key h'
  have := hone u hu u' hu' (alike_iff.2 ⟨by omega, by omega, by omega⟩) (by rw [a1]; exact hF)
  rw [<- a4, <- b4, this]
theorem one_digest {L : List (List UInt8)} {G : List Sg} {votes : List Vt} {dg : Nat -> Int} {F : Int -> Bool} {f : Int}
    (hG : ∀ s ∈ G, s.1 < 13 -> ∃ u ∈ votes, u.key = s.1 /\ mayP u.kind u.view u.seq (dg u.batch) = true /\ s.2 = (num L (voteB u.kind.toNat u.view.toNat u.seq.toNat (dg u.batch).toNat) : Int))
    (hone : OneV F votes) {FL : List Int} (hFL : ∀ x, 0 <= x -> x < brokersP f -> F x = true -> x ∈ FL) (hlen : (FL.length : Int) <= f)
    {p p' : Pd} (h : validP L G f p = true) (h' : validP L G f p' = true) (hv : p.view = p'.view) (hq : p.seq = p'.seq) : p.dig = p'.dig := by
  obtain ⟨x, x0, x1, xF, s1, s2⟩ := valid_meet h h' hlen
  have hb : brokersP f <= 13 := by
    unfold brokersP
    split
    . have := okF_yes (by assumption)
      omega
    . omega
  have hF : F x = false := by
    cases hc : F x with
    | false => rfl
    | true => exact absurd (hFL x x0 x1 hc) xF
  rw [<- hv, <- hq] at s2
  exact stands_one hG hone (by omega) hF s1 s2
end Go.Proofs.YtmhmnkpaijoaaaaGreat.Pso
namespace Go.Proofs.YtmhmnkpaijoaaaaGreat.Psp
set_option linter.unusedSimpArgs false
open Go Pra Prh Psi Psj Psk Psl Psm Psn Pso
set_option linter.unusedVariables false
theorem shr_nn {s : Int} (h : 0 <= s) : ∀ j, 0 <= shr s j
  | 0 => h
  | j + 1 => by
    have := shr_nn h j
    simp only [shr]
    omega
theorem shr_add (a : Int) : ∀ j i : Nat, shr (a + bitP (j + i)) j = shr a j + bitP i
  | 0, i => by rw [Nat.zero_add]; rfl
  | j + 1, i => by
    have h := shr_add a j (i + 1)
    have e : j + 1 + i = j + (i + 1) := by omega
    have eb : bitP (i + 1) = bitP i * 2 := rfl
    simp only [shr]
    rw [e, h, eb]
    omega
theorem shr_lt {a : Int} : ∀ j i : Nat, a < bitP (j + i) -> shr a j < bitP i
  | 0, i, h => by rw [Nat.zero_add] at h; exact h
  | j + 1, i, h => by
    have e : j + 1 + i = j + (i + 1) := by omega
    rw [e] at h
    have := shr_lt j (i + 1) h
    have eb : bitP (i + 1) = bitP i * 2 := rfl
    simp only [shr]
    omega
theorem bits_of (l : List Int) : ∀ k, k < 14 -> ∀ j, j < k -> (shr (ofTo l k) j % 2 = 1 ↔ (j : Int) ∈ l)
  | 0, _, j, hj => by omega
  | k + 1, hk, j, hj => by
    obtain ⟨o1, o2⟩ := of_le l k (by omega)
    by_cases hjk : j < k
    . have ih := bits_of l k (by omega) j hjk
      simp only [ofTo]
      split
      . have e := shr_add (ofTo l k) j (k - j)
        rw [show j + (k - j) = k by omega] at e
        rw [e]
        obtain ⟨m, hm⟩ : ∃ m, k - j = m + 1 := ⟨k - j - 1, by omega⟩
        have eb : bitP (k - j) = bitP m * 2 := by rw [hm]; rfl
        rw [eb, <- ih]
        omega
      . exact ih
    . have hje : j = k := by omega
      subst hje
      have h0 : shr (ofTo l j) j = 0 := by
        have h1 := shr_lt (a := ofTo l j) j 0 (by simpa using o2)
        have h2 := shr_nn o1 j
        have : bitP 0 = 1 := rfl
        omega
      simp only [ofTo]
      split
      . rename_i hin
        have e := shr_add (ofTo l j) j 0
        rw [Nat.add_zero, h0] at e
        rw [e]
        exact ⟨fun _ => hin, fun _ => by decide⟩
      . rename_i hin
        rw [h0]
        exact ⟨fun h => absurd h (by decide), fun h => absurd h hin⟩
theorem has_of (l : List Int) (b : Int) : hasS (ofS l) b = true ↔ 0 <= b /\ b < 13 /\ b ∈ l := by
  simp only [hasS, bitS, Bool.and_eq_true, decide_eq_true_eq]
  constructor
  . rintro ⟨⟨h0, h1⟩, h2⟩
    have := (bits_of l 13 (by omega) b.toNat (by omega)).1 h2
    rw [Int.toNat_of_nonneg h0] at this
    exact ⟨h0, h1, this⟩
  . rintro ⟨h0, h1, h2⟩
    refine ⟨⟨h0, h1⟩, (bits_of l 13 (by omega) b.toNat (by omega)).2 ?_⟩
    rw [Int.toNat_of_nonneg h0]
    exact h2
theorem mem_listTo {P : Int -> Bool} {k : Nat} {x : Int} : x ∈ listTo P k ↔ 0 <= x /\ x < (k : Int) /\ P x = true := by
  unfold listTo
  rw [List.mem_map]
  constructor
  . rintro ⟨i, hi, rfl⟩
    rw [List.mem_filter, List.mem_range] at hi
    exact ⟨by omega, by omega, hi.2⟩
  . rintro ⟨h0, h1, h2⟩
    refine ⟨x.toNat, ?_, by omega⟩
    rw [List.mem_filter, List.mem_range, Int.toNat_of_nonneg h0]
    exact ⟨by omega, h2⟩
theorem has_all (f x : Int) : hasS (allS f) x = true ↔ 0 <= x /\ x < brokersP f := by
  have hb := brokers_le f
  unfold allS upToS
  rw [has_of, mem_listTo, Int.toNat_of_nonneg hb.1]
  constructor
  . rintro ⟨h0, h1, -, h2, -⟩
    exact ⟨h0, h2⟩
  . rintro ⟨h0, h1⟩
    exact ⟨h0, by omega, h0, h1, rfl⟩
theorem mem_both (a b x : Int) : x ∈ listS (bothS a b) ↔ 0 <= x /\ x < 13 /\ hasS a x = true /\ hasS b x = true := by
  unfold listS bothS
  rw [mem_listTo, has_of, mem_listTo]
  simp only [Bool.and_eq_true]
  constructor
  . rintro ⟨h0, h1, -, -, -, -, h2⟩
    exact ⟨h0, by omega, h2⟩
  . rintro ⟨h0, h1, h2⟩
    exact ⟨h0, by omega, h0, h1, h0, by omega, h2⟩
theorem one_faulty {L : List (List UInt8)} {G : List Lk.Sg} {votes : List Vt} {dg : Nat -> Int} {faulty f : Int}
    (hG : ∀ s ∈ G, s.1 < 13 -> ∃ u ∈ votes, u.key = s.1 /\ Pri.mayP u.kind u.view u.seq (dg u.batch) = true /\ s.2 = (Im.num L (Prj.voteB u.kind.toNat u.view.toNat u.seq.toNat (dg u.batch).toNat) : Int))
    (hone : OneV (hasS faulty) votes) (hlen : ((listS (bothS faulty (allS f))).length : Int) <= f)
    {p p' : Pd} (h : Prn.validP L G f p = true) (h' : Prn.validP L G f p' = true) (hv : p.view = p'.view) (hq : p.seq = p'.seq) : p.dig = p'.dig :=
  one_digest hG hone (FL := listS (bothS faulty (allS f))) (fun x h0 h1 h2 => by
    have := brokers_le f
    exact (mem_both _ _ _).2 ⟨h0, by omega, h2, (has_all f x).2 ⟨h0, h1⟩⟩) hlen h h' hv hq
end Go.Proofs.YtmhmnkpaijoaaaaGreat.Psp
namespace Go.Proofs.YtmhmnkpaijoaaaaGreat.Psq
set_option linter.unusedSimpArgs false
open Go Lk Jm Jg Jn Pra Prh Pri Prj Prv Prw Prz
open Im (num isIn add sum)
set_option linter.unusedVariables false
def Hi (G : List Sg) : Prop := ∀ s ∈ G, 13 <= s.1
theorem seal_hi {L : List (List UInt8)} {G : List Sg} (q : Q) (h : Hi G) : Hi (sealG L G q) := by
  intro s hs
  unfold sealG at hs
  split at hs
  . exact h s hs
  . rename_i hq
    rcases mem_pay hs with hs | rfl
    . exact h s hs
    . have hb : qbad q = false := by
        cases hc : qbad q with
        | false => rfl
        | true => exact absurd (by rw [qcheck, if_pos hc]; decide) hq
      have hc : isC q.client = true := by
        cases hc : isC q.client with
        | true => rfl
        | false => rw [qbad, hc] at hb; simp at hb
      have h0 : 0 <= q.client := by
        simp only [isC, Bool.and_eq_true, decide_eq_true_eq] at hc
        exact hc.1
      show 13 <= key q.client
      rw [key, if_pos hc]
      omega
theorem seals_hi : ∀ (qs : List Q) (y : List (List UInt8) × List Sg × List Sd), Hi y.2.1 -> Hi (qs.foldl stepQ y).2.1
  | [], _, h => h
  | q :: qs, y, h => seals_hi qs _ (seal_hi q h)
theorem makes_hi : ∀ (qss : List (List Q)) (z : Bz), Hi z.G -> Hi (qss.foldl stepB z).G
  | [], _, h => h
  | qs :: qss, z, h => makes_hi qss _ (seals_hi qs (z.L, z.G, []) h)
theorem madeB_hi (qss : List (List Q)) : Hi (madeB qss).G := makes_hi qss _ (fun s hs => by simp at hs)
theorem votesV_VI (qss : List (List Q)) (vs : List (Vt × Nat)) : VI (madeB qss).ds (votesV (madeB qss) vs).L (votesV (madeB qss) vs).G vs := by
  have := VI.steps (ds := (madeB qss).ds) vs ⟨(madeB qss).L, (madeB qss).G, [(0, 0)]⟩ [] (fun s hs hk => by
    have := madeB_hi qss s hs
    omega)
  rw [List.nil_append] at this
  exact this
def toV (n : Nat) (v : Vt × Nat) : Pso.Vt := ⟨v.1.key, v.1.kind, v.1.view, v.1.seq, v.2 % n⟩
theorem one_begun {qss : List (List Q)} {vs : List (Vt × Nat)} {faulty f : Int} (hone : Pso.OneV (Psi.hasS faulty) (vs.map (toV (madeB qss).ds.length))) (hlen : ((Psj.listS (Psl.bothS faulty (Psl.allS f))).length : Int) <= f)
    {p p' : Pd} (h : Prn.validP (votesV (madeB qss) vs).L (votesV (madeB qss) vs).G f p = true) (h' : Prn.validP (votesV (madeB qss) vs).L (votesV (madeB qss) vs).G f p' = true) (hv : p.view = p'.view) (hq : p.seq = p'.seq) : p.dig = p'.dig := by
  refine Psp.one_faulty (dg := fun k => ((madeB qss).ds[k]?).getD 0) (fun s hs hk => ?_) hone hlen h h' hv hq
  obtain ⟨u, hu, a1, a2, a3, a4⟩ := votesV_VI qss vs s hs hk
  exact ⟨_, List.mem_map.2 ⟨u, hu, rfl⟩, a1, a2, a3⟩
end Go.Proofs.YtmhmnkpaijoaaaaGreat.Psq
namespace Go.Proofs.YtmhmnkpaijoaaaaGreat.Pta
set_option linter.unusedSimpArgs false
open Go Go.RowKit Ck Cf Kw Ga Kf Pm Pe Pg Ik Lk Jm Ja Jb Jf Jg Jl Jn Kc Kj Pra Prb Pre Prn Prr Prv Prw Prx Pry Prz Psa Psb Psr Psu Psv Psx
set_option linter.unusedVariables false
section
variable {w w' : World} {X : Nat -> Prop} {v : Value} {l : List SpD}
end
section
variable {B : Nat} {v v' : Value} {l : List Pd} {rs : List Pl2} {W W' : World}
end
theorem sealsR_recs {L : List (List UInt8)} {G : List Sg} {M : Nat} : ∀ (qs : List Q) (y : List (List UInt8) × List Sg × List Sd), (∀ q ∈ qs, q.o.recs.length <= M) -> (∀ d ∈ y.2.2, d.q.o.recs.length <= M) -> (∀ d ∈ (qs.foldl stepQ y).2.2, d.q.o.recs.length <= M) /\ (qs.foldl stepQ y).2.2.length <= y.2.2.length + qs.length
  | [], y, _, h => ⟨h, by simp⟩
  | q :: qs, y, hq, h => by
    have hs : (∀ d ∈ (stepQ y q).2.2, d.q.o.recs.length <= M) /\ (stepQ y q).2.2.length <= y.2.2.length + 1 := by
      simp only [stepQ, sealS]
      split
      . refine ⟨fun d hd => ?_, by simp⟩
        rcases List.mem_append.1 hd with hd | hd
        . exact h d hd
        . rw [List.mem_singleton.1 hd]
          exact Nat.le_trans (sealR_recs _ _) (hq q List.mem_cons_self)
      . exact ⟨h, by omega⟩
    have := sealsR_recs (L := L) (G := G) qs (stepQ y q) (fun x hx => hq x (List.mem_cons_of_mem _ hx)) hs.1
    refine ⟨this.1, ?_⟩
    have h2 := this.2
    simp only [List.foldl_cons, List.length_cons]
    omega
def okB (M : Nat) (bs : List (List Sd)) : Prop := ∀ b ∈ bs, b.length <= M /\ ∀ d ∈ b, d.q.o.recs.length <= M
theorem okB_steps {M : Nat} : ∀ (qss : List (List Q)) (z : Bz), (∀ qs ∈ qss, qs.length <= M /\ ∀ q ∈ qs, q.o.recs.length <= M) -> okB M z.bs -> okB M (qss.foldl stepB z).bs
  | [], z, _, h => h
  | qs :: qss, z, hq, h => by
    refine okB_steps qss _ (fun x hx => hq x (List.mem_cons_of_mem _ hx)) ?_
    have h1 := hq qs List.mem_cons_self
    have h2 := sealsR_recs (L := z.L) (G := z.G) (M := M) qs (z.L, z.G, []) h1.2 (fun d hd => by simp at hd)
    intro b hb
    simp only [stepB] at hb
    rcases List.mem_append.1 hb with hb | hb
    . exact h b hb
    . rw [List.mem_singleton.1 hb]
      refine ⟨?_, h2.1⟩
      have := h2.2
      simp only [List.length_nil] at this
      exact Nat.le_trans this (by omega)
theorem madeB_ok {M : Nat} {qss : List (List Q)} (h : ∀ qs ∈ qss, qs.length <= M /\ ∀ q ∈ qs, q.o.recs.length <= M) : okB M (madeB ([] :: qss)).bs := by
  refine okB_steps _ _ (fun qs hqs => ?_) (fun b hb => by simp at hb)
  rcases List.mem_cons.1 hqs with rfl | hqs
  . exact ⟨by simp, fun q hq => by simp at hq⟩
  . exact h qs hqs
theorem madeP_ok {z : Bz} {ss : List Sg} {s : Sp} (h : okB 1048576 z.bs) (hs : s.signs.length <= 140737488355328) : okP (madeP z ss s) := by
  have hb : (madeP z ss s).batch.length <= 1048576 /\ ∀ d ∈ (madeP z ss s).batch, d.q.o.recs.length <= 1048576 := by
    simp only [madeP]
    cases he : z.bs[s.batch % z.bs.length]? with
    | none => exact ⟨by simp, fun d hd => by simp at hd⟩
    | some b => exact h b (List.mem_of_getElem? he)
  refine ⟨fun y hy => Nat.le_trans (hb.2 y hy) (by decide), Nat.le_trans hb.1 (by decide), ?_⟩
  simp only [madeP, List.length_map]
  exact hs
structure BzOk (z : Bz) (x : Vz) : Prop where
  b1 : 0 < z.bs.length
  b2 : z.ds.length = z.bs.length
  b3 : 0 < x.ss.length
  b4 : z.bs.length <= 1048577
  b5 : x.ss.length <= 1048577
  ok : okB 1048576 z.bs
  hG : x.G.length <= 140737488355328
theorem bz_ok {w : World} {f view low : Int} {vb vv vs : Value} {qss : List (List Q)} {vts : List (Vt × Nat)} (h : CI w f vb vv vs view low qss vts) : BzOk (madeB ([] :: qss)) (votesV (madeB ([] :: qss)) vts) := by
  have hm : ∀ qs ∈ ([] :: qss), qs.length <= 1048576 := fun qs hqs => by
    rcases List.mem_cons.1 hqs with rfl | hqs
    . simp
    . exact (h.hq qs hqs).1
  have h1 := madeB_len hm ([] :: qss).length (Nat.le_refl _)
  rw [List.take_length] at h1
  have h2 := votesV_len (madeB ([] :: qss)) vts vts.length (Nat.le_refl _)
  rw [List.take_length] at h2
  have hn := h.hn
  have hv := h.hv
  have hl : ([] :: qss).length = qss.length + 1 := by simp
  rw [hl] at h1
  refine ⟨by omega, by omega, by omega, by omega, by omega, madeB_ok h.hq, ?_⟩
  have h3 : (qss.length + 1) * 1048576 <= 1048577 * 1048576 := Nat.mul_le_mul_right _ (by omega)
  have h4 := h1.1
  have h5 := h2.1
  omega
end Go.Proofs.YtmhmnkpaijoaaaaGreat.Pta
namespace Go.Proofs.YtmhmnkpaijoaaaaGreat.Ptm
set_option linter.unusedSimpArgs false
open Go Go.RowKit Go.ChangeShapes Go.WideShapes Go.ChangeAt Go.Deep Ck Kf Kp Pm Pe Py Lk Jm Ja Jb Jo Pra Prb Prr Pta Pte
set_option linter.unusedVariables false
set_option maxRecDepth 100000
section
variable {H : Type} {enc : TypeId × Value -> H}
theorem zip_maps {α β : Type} : ∀ l : List (α × β), (l.map (·.1)).zip (l.map (·.2)) = l
  | [] => rfl
  | e :: l => by rw [List.map_cons, List.map_cons, List.zip_cons_cons, zip_maps l]
end
end Go.Proofs.YtmhmnkpaijoaaaaGreat.Ptm
namespace Go.Proofs.YtmhmnkpaijoaaaaGreat.Ptj
set_option linter.unusedSimpArgs false
open Go Go.RowKit Ck Cf Kw Ga Kf Pm Pe Pg Ik Lk Jm Ja Jb Jf Jg Jl Jn Kc Kj Pra Prb Pre Prn Prr Prv Prw Prx Pry Prz Psa Psb Psr Psu Psv Psx Pta
set_option linter.unusedVariables false
set_option maxRecDepth 100000
def redu (n : Nat) (u : Vt × Nat) : Vt × Nat := (u.1, u.2 % n)
def stepW (F : Int -> Bool) (n : Nat) (acc : List (Vt × Nat)) (u : Vt × Nat) : List (Vt × Nat) :=
  match Pso.hadV (acc.map ofP) (ofP (redu n u)) with
  | some b => if b ≠ u.2 % n /\ F u.1.key = false then acc else acc ++ [redu n u]
  | none => acc ++ [redu n u]
def keptW (F : Int -> Bool) (n : Nat) (l : List (Vt × Nat)) : List (Vt × Nat) := l.foldl (stepW F n) []
theorem keptW_step {F : Int -> Bool} {n : Nat} {l : List (Vt × Nat)} {k : Nat} (hk : k < l.length) : keptW F n (l.take (k + 1)) = stepW F n (keptW F n (l.take k)) l[k] := by
  unfold keptW
  rw [List.take_succ_eq_append_getElem hk, List.foldl_append]
  rfl
theorem stepW_map {F : Int -> Bool} {n : Nat} {acc : List (Vt × Nat)} {u : Vt × Nat} : (stepW F n acc u).map ofP = Pso.keepV F (acc.map ofP) (ofP (redu n u)) := by
  unfold stepW Pso.keepV
  cases Pso.hadV (acc.map ofP) (ofP (redu n u)) with
  | none => simp
  | some b =>
    show (if b ≠ u.2 % n /\ F u.1.key = false then acc else acc ++ [redu n u]).map ofP = if b ≠ u.2 % n /\ F u.1.key = false then acc.map ofP else acc.map ofP ++ [ofP (redu n u)]
    split
    . rfl
    . simp
theorem keptW_one {F : Int -> Bool} {n : Nat} : ∀ (l : List (Vt × Nat)) (acc : List (Vt × Nat)), Pso.OneV F (acc.map ofP) -> Pso.OneV F ((l.foldl (stepW F n) acc).map ofP)
  | [], _, h => h
  | u :: l, acc, h => keptW_one l _ (by rw [stepW_map]; exact Pso.keep_one h)
theorem stepW_lt {F : Int -> Bool} {n : Nat} {acc : List (Vt × Nat)} {u : Vt × Nat} (hn : 0 < n) (h : ∀ v ∈ acc, v.2 < n) : ∀ v ∈ stepW F n acc u, v.2 < n := by
  have hs : ∀ v ∈ acc ++ [redu n u], v.2 < n := fun v hv => by
    rcases List.mem_append.1 hv with hv | hv
    . exact h v hv
    . rw [List.mem_singleton.1 hv]
      exact Nat.mod_lt _ hn
  unfold stepW
  split
  . split
    . exact h
    . exact hs
  . exact hs
theorem keptW_lt {F : Int -> Bool} {n : Nat} (hn : 0 < n) : ∀ (l : List (Vt × Nat)) (acc : List (Vt × Nat)), (∀ v ∈ acc, v.2 < n) -> ∀ v ∈ l.foldl (stepW F n) acc, v.2 < n
  | [], _, h => h
  | u :: l, acc, h => keptW_lt hn l _ (stepW_lt hn h)
theorem stepW_len {F : Int -> Bool} {n : Nat} {acc : List (Vt × Nat)} {u : Vt × Nat} : (stepW F n acc u).length <= acc.length + 1 := by
  unfold stepW
  split
  . split <;> simp
  . simp
theorem keptW_len {F : Int -> Bool} {n : Nat} (l : List (Vt × Nat)) : ∀ k, k <= l.length -> (keptW F n (l.take k)).length <= k
  | 0, _ => by simp [keptW]
  | k + 1, hk => by
    rw [keptW_step (by omega)]
    have := stepW_len (F := F) (n := n) (acc := keptW F n (l.take k)) (u := l[k]'(by omega))
    have := keptW_len (F := F) (n := n) l k (by omega)
    omega
theorem toV_kept {F : Int -> Bool} {n : Nat} (hn : 0 < n) (l : List (Vt × Nat)) : (keptW F n l).map (Psq.toV n) = (keptW F n l).map ofP := by
  refine List.map_congr_left (fun v hv => ?_)
  have := keptW_lt hn l [] (fun v hv => by simp at hv) v hv
  unfold Psq.toV ofP
  rw [Nat.mod_eq_of_lt this]
section
variable {w W W' : World} {gc mm : Nat} {cs : Array Value} {v v' : Value} {acc : List (Vt × Nat)} {k : Nat} {D : DataW Unit}
end
end Go.Proofs.YtmhmnkpaijoaaaaGreat.Ptj

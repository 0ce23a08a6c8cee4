/-
  Contracts of the document's table: SameAll, Open, Sum.
-/
import Derived.Test.YtnhppmdhhmekdaaIh
namespace Go.Proofs.Ytnhppmdhhmekdaa.Ii
open Go Go.RowKit Ck Im Ik Ia Ib Ic Ig Ie Ih

theorem quiet_left {f : FuncId} {args : Array Value} {w : World} {n : Nat} {v : Value}
    (h : Calls Try.prog f args (w.drewN n) fun e w' => e = .returned v ∧ w.drewN n = w') : Calls Try.prog f args (w.drewN n) fun e w'' => e = .returned v ∧ ∃ m, w'' = w.drewN m :=
  h.mono fun _ _ ⟨he, hm⟩ => ⟨he, n, hm.symm⟩

/-- Are the lists the same? (A word of its own.) -/
def sameB (a b : List Tx) : Bool := decide (a = b)

set_option maxHeartbeats 400000 in
theorem sameall_any (w : World) (X Y : Nat → Prop) (A B : Option Addr) (c d : Nat) (ls ks : List Tx) (ha : Ls w X (.slice A ls.length c) ls) (hb : Ls w Y (.slice B ks.length d) ks) (hl : ls.length ≤ 140737488355328) :
    Calls Try.prog 20 #[.slice A ls.length c, .slice B ks.length d] w fun e w' => e = .returned (.bool (sameB ls ks)) ∧ ∃ n, w' = w.drewN n := by
  by_cases hn : ls.length = ks.length
  · go_enter Try.func20, Try.ntmps20
    go_wp2
    go_loopw [5] (fun i wr => ∃ k : Nat, k ≤ ls.length ∧ i = .int .i64 k ∧ ls.take k = ks.take k ∧ ∃ n, wr = w.drewN n)
      (fun i _ => ls.length - (intOf i).toNat)
    case atStart => exact ⟨0, Nat.zero_le _, rfl, rfl, 0, rfl⟩
    case round =>
      obtain ⟨k, hk, rfl, htk, nd, rfl⟩ := hrel
      have HT := Lib.hid htk
      have HN := Lib.hid hn
      by_cases hlt : k < ls.length
      · have hlt2 : k < ks.length := by omega
        clear htk hn
        obtain ⟨ad, A', c', rfl, hc1, hx1⟩ := ha.at_ hlt
        obtain ⟨ad2, B', d', rfl, hc2, hx2⟩ := hb.at_ hlt2
        have hs := fun nq : Nat => quiet_left (w := w.drewN nd) (n := nq) (same_any ((w.drewN nd).drewN nq) X Y _ _ _ _ ls[k] ks[k] ((hx1.drewN nd).drewN nq) ((hx2.drewN nd).drewN nq))
        have hc1' : (w.drewN nd).cell? (ad.add k) = some (.slice A' ls[k].length c') := hc1
        have hc2' : (w.drewN nd).cell? (ad2.add k) = some (.slice B' ks[k].length d') := hc2
        clear hc1 hc2
        generalize hW : w.drewN nd = wr at *
        have HW := Lib.hid hW
        clear hW
        by_cases heq : ls[k] = ks[k]
        · have q1 : (ls[k] == ks[k]) = true := by rw [heq]; exact beq_self_eq_true _
          rw [q1] at hs
          have HS := Lib.hid hs
          have HE := Lib.hid heq
          clear heq hs q1 hx1 hx2
          go_wp2
          go_quiet ((go_at_call 37; exact HS.out _))
          go_wp2
          go_roundw
          case rel =>
            refine ⟨k + 1, by omega, by go_num, ?_, ?_⟩
            · rw [List.take_succ_eq_append_getElem hlt, List.take_succ_eq_append_getElem hlt2, HT.out, HE.out]
            · rw [← HW.out]
              exact ⟨_, by rw [World.drewN_drewN]⟩
          case measure => simp [intOf]; omega
        · have q1 : (ls[k] == ks[k]) = false := by rw [beq_eq_false_iff_ne]; exact heq
          rw [q1] at hs
          have HS := Lib.hid hs
          have HE := Lib.hid heq
          clear heq hs q1 hx1 hx2
          go_wp2
          go_quiet ((go_at_call 37; exact HS.out _))
          go_wp2
          go_ret
          have hne : sameB ls ks = false := by
            rw [sameB, decide_eq_false_iff_not]; rintro rfl; exact HE.out rfl
          rw [hne]
          refine ⟨rfl, ?_⟩
          rw [← HW.out]
          exact ⟨_, by rw [World.drewN_drewN]⟩
      · have hke : k = ls.length := by omega
        have hd : sameB ls ks = true := by
          have h1 := htk
          rw [hke, List.take_length, hn, List.take_length] at h1
          rw [sameB, h1]; simp
        have HD := Lib.hid hd
        clear htk hd
        go_wp2
        go_ret
        exact ⟨by rw [HD.out]; rfl, _, rfl⟩
  · have hne : sameB ls ks = false := by
      rw [sameB, decide_eq_false_iff_not]; rintro rfl; exact hn rfl
    rw [hne]
    have hni : ((ls.length : Int) == (ks.length : Int)) = false := by rw [beq_eq_false_iff_ne]; omega
    clear hne
    go_enter Try.func20, Try.ntmps20
    go_wp2
    go_ret
    exact ⟨rfl, 0, rfl⟩

theorem BVs_one1 (l : List UInt8) : ∀ u ∈ BVs l, u.oneCell' = true := BVs_one l

set_option maxHeartbeats 400000 in
theorem ropen_yes (w : World) (S : Nat → Prop) (p : Nat) (L : List Tx) (i : Nat) (hi : i < L.length) (h : Rf w S p L) :
    Calls Try.prog 16 #[.pointer (some ⟨p, 0, none⟩), .int .i64 ((i : Int) + 1)] w fun e w' => ∃ v, e = .returned (.tuple #[v, .bool true]) ∧ w'.ownsRow w.heap.size 5 1 v L[i].length (BVs L[i]) ∧ Below w.heap.size w w' := by
  obtain ⟨lv, h1, hp, hls, hall, hL⟩ := h
  obtain ⟨A, c, rfl⟩ := Ls.shape hls
  have c0 : w.cell? ⟨p, 0, none⟩ = some (.slice A L.length c) := h1.cell 0
  obtain ⟨ad, B, d, rfl, hcell, hx⟩ := hls.at_ hi
  have hcap : L.length ≤ c := by obtain ⟨vals, ⟨A0, c', hv, _, hc, _⟩, _⟩ := hls; injection hv with _ _ h3; omega
  have hll := hall _ (List.getElem_mem hi)
  obtain ⟨i0, hi0, hz0, hz1, hz2⟩ := info_parts info_u8
  have HX := Lib.hid hx
  clear h1 hp hall hls hx
  go_enter Try.func16, Try.ntmps16
  go_wp2_with (at_builtin; refine wpList_append_sh _ rfl (.const (.slice none 0 0)) (.tmp 24) _ rfl w.heap.size 5 i0 _ 1 1 Try.underlying24 hi0 hz0 hz1 hz2 rfl (by omega) (.slice none 0 0) 0 [] rfl (World.ownsRow_nil _ _ _ _) _ _ L[i].length (BVs L[i]) rfl HX.out (BVs_one _) (by simp only [maxLen]; omega) (by omega) (Nat.le_refl _) ?_; intro A1 d1 w1 happ)
  go_ret2
  obtain ⟨ho, hg, hr⟩ := happ
  refine ⟨_, rfl, by simpa using ho, below_of_grown hg (by simp [Value.ownBlock])⟩

theorem ropen_no (w : World) (S : Nat → Prop) (p : Nat) (L : List Tx) (d : Int) (hd : d < 1 ∨ L.length < d) (h : Rf w S p L) :
    Calls Try.prog 16 #[.pointer (some ⟨p, 0, none⟩), .int .i64 d] w fun e w' => e = .returned (.tuple #[.slice none 0 0, .bool false]) ∧ w = w' := by
  obtain ⟨lv, h1, hp, hls, hall, hL⟩ := h
  obtain ⟨A, c, rfl⟩ := Ls.shape hls
  have c0 : w.cell? ⟨p, 0, none⟩ = some (.slice A L.length c) := h1.cell 0
  clear h1 hp hall hls hL
  by_cases h1 : d < 1
  · clear hd
    go_enter Try.func16, Try.ntmps16
    go_wp2
    go_ret2
    exact ⟨rfl, rfl⟩
  · have h2 : (L.length : Int) < d := by omega
    clear hd
    go_enter Try.func16, Try.ntmps16
    go_wp2
    go_ret2
    exact ⟨rfl, rfl⟩

end Go.Proofs.Ytnhppmdhhmekdaa.Ii

/-
  The walk of the statement MerkleRoots.
-/
import Derived.Test.YtepdajhgfdjklaaNj
namespace Go.Proofs.Ytepdajhgfdjklaa.Nf
open Go Go.RowKit Ck Im Ik Ia Ib Ic Ig Ih Ij Mm Ma Mb Mc Md Pr Me Mf Mg Mh Mi Mj Ml Mk Na Nj
attribute [local go_sem ↓] Go.wp_at_zero Go.wp_at_succ
set_option linter.unusedVariables false

set_option maxHeartbeats 1000000 in
theorem equaldigs_any (w : World) (X Y : Nat → Prop) (A B : Option Addr) (c d n m : Nat) (ds : List Int) (hn : n = ds.length) (hm : m = ds.length) (ha : Sl w X 1 (.slice A n c) n (IVs ds)) (hb : Sl w Y 1 (.slice B m d) m (IVs ds)) (hl : ds.length ≤ 1000000) :
    Calls Try.prog 16 #[.slice A n c, .slice B m d] w fun e w' => e = .returned (.bool true) ∧ Below w.heap.size w w' := by
  subst hn; subst hm
  have h1 : ((ds.length : Int) != (ds.length : Int)) = false := by simp
  go_enter Try.func16, Try.ntmps16
  go_wp2_with fail
  go_loopw [13] (fun i wr => ∃ k : Nat, k ≤ ds.length ∧ i = .int .i64 k ∧ Below w.heap.size w wr) (fun i _ => ds.length - (intOf i).toNat)
  case atStart => exact ⟨0, Nat.zero_le _, rfl, Below.refl _ _⟩
  case round =>
    obtain ⟨k, hk, rfl, hb0⟩ := hrel
    have HB0 := Lib.hid hb0
    by_cases hlt : k < ds.length
    · obtain ⟨ad, rfl, hc1, _⟩ := ds_at (ha.after hb0) hlt
      obtain ⟨ad2, rfl, hc2, _⟩ := ds_at (hb.after hb0) hlt
      have hk0 : (0 : Int) ≤ (k : Int) := by omega
      have hk1 : (k : Int) < (ds.length : Int) := by omega
      generalize ds.getD k 0 = z at *
      clear hb0
      go_wp2_with fail
      go_quiet (fail)
      go_wp2_with fail
      go_roundw
      case rel => exact ⟨k + 1, by omega, by go_num, below_drewN HB0.out _⟩
      case measure => simp [intOf]; omega
    · have hke : k = ds.length := by omega
      clear hb0
      go_wp2_with fail
      go_ret
      exact ⟨rfl, HB0.out⟩

/-- What both Proves leave, side by side. -/
structure After (w : World) (B p q : Nat) (r : List Nat × List Tx) (v1 v2 : Value) (w' : World) : Prop where
  bel : Below B w w'
  tab : ∃ S, Tb w' S p r.2
  ref : ∃ S, Rf w' S q r.2
  s1 : Sl w' (fun _ => False) 1 v1 r.1.length (IVs (r.1.map fun x : Nat => (x : Int)))
  s2 : Sl w' (fun _ => False) 1 v2 r.1.length (IVs (r.1.map fun x : Nat => (x : Int)))

/-- The program's Prove beside the document's table. -/
def Mid (w : World) (B p q : Nat) (r : List Nat × List Tx) (L2 : List Tx) (w' : World) (v1 : Value) : Prop :=
  Below B w w' ∧ ∃ S T, Tb w' S p r.2 ∧ Rf w' T q L2 ∧ (∀ k, S k → B ≤ k) ∧ (∀ k, T k → B ≤ k ∧ k < w.heap.size) ∧ (∀ k, S k → T k → False) ∧ w.heap.size ≤ w'.heap.size ∧ B ≤ w.heap.size ∧ Sl w' (fun k => k < w.heap.size) 1 v1 r.1.length (IVs (r.1.map fun x : Nat => (x : Int)))
theorem prove_mid {w : World} {B p q : Nat} {L L2 : List Tx} {A : Option Addr} {c n i : Nat} {ls : List Tx} (hn : n = ls.length) (hB : B ≤ w.heap.size) (h : Two (fun k => k < B) w (TG p L) (RF q L2)) (hls : Ls w (fun k => B ≤ k) (.slice A n c) ls) (hbig : n ≤ 1000000) (hi : i < n) (hall : ∀ x ∈ ls, x.length ≤ 140737488355327) :
    Calls Try.prog 14 #[.pointer (some ⟨p, 0, none⟩), .int .i64 i, .slice A n c] w fun e w' => ∃ A0 c0, e = .returned (.tuple #[.slice A0 (prove L i ls).1.length c0, .int .i64 0]) ∧ Mid w B p q (prove L i ls) L2 w' (.slice A0 (prove L i ls).1.length c0) := by
  subst hn
  obtain ⟨hK, S, T, h1, h2, h3, h4, h5⟩ := h
  refine (prove_any w S (fun k => B ≤ k) p L i A c ls hbig hi h1 (fun k hk => (h3 k hk).2) hls (fun k hk => Nat.le_of_not_lt (h3 k hk).1) hall).mono ?_
  rintro e w' ⟨A0, c0, S', rfl, hrow, ht, hS', hnot, hc⟩
  refine ⟨A0, c0, rfl, hc.below (fun k hk hs => (h3 k hs).1 hk) hB, S', T, ht, Rf.ch h2 hc (fun k a b => h5 k b a), fun k hk => ?_, fun k hk => ⟨Nat.le_of_not_lt (h4 k hk).1, (h4 k hk).2⟩, fun k hk ht => ?_, hc.size, hB, Sl.of_own hrow (fun k hk _ => by omega)⟩
  · rcases hS' k hk with h | h
    · exact Nat.le_of_not_lt (h3 k h).1
    · omega
  · rcases hS' k hk with h | h
    · exact h5 k h ht
    · have := (h4 k ht).2; omega
theorem rprove_after {w w1 : World} {B p q : Nat} {L : List Tx} {A : Option Addr} {c n i : Nat} {ls : List Tx} {v1 : Value} (hn : n = ls.length) (h : Mid w B p q (prove L i ls) L w1 v1) (hls : Ls w1 (fun k => B ≤ k) (.slice A n c) ls) (hbig : n ≤ 1000000) (hi : i < n) (hall : ∀ x ∈ ls, x.length ≤ 140737488355327) :
    Calls Try.prog 15 #[.pointer (some ⟨q, 0, none⟩), .int .i64 i, .slice A n c] w1 fun e w' => ∃ A0 c0, e = .returned (.tuple #[.slice A0 (prove L i ls).1.length c0, .int .i64 0]) ∧ After w B p q (prove L i ls) v1 (.slice A0 (prove L i ls).1.length c0) w' := by
  subst hn
  obtain ⟨hb, S, T, h1, h2, h3, h4, h5, hs, hB, hsl⟩ := h
  refine (rprove_any ls.length w1 T (fun k => B ≤ k) q L i A c ls (Nat.le_refl _) hbig hi h2 (fun k hk => by have := h4 k hk; omega) hls (fun k hk => (h4 k hk).1) hall).mono ?_
  rintro e w' ⟨A0, c0, T', rfl, hrow, ht, hT', hnot, hc⟩
  refine ⟨A0, c0, rfl, hb.trans (hc.below (fun k hk hs => by have := h4 k hs; omega) (Nat.le_trans hB hs)), ⟨S, Tb.ch h1 hc h5⟩, ⟨T', ht⟩, ?_, Sl.of_own hrow (fun _ _ _ h => h)⟩
  exact (hsl.ch hc (fun k _ hk => (h4 k hk).2)).weaken (fun _ _ h => h.elim)

set_option maxRecDepth 100000 in
set_option maxHeartbeats 4000000 in
theorem roots_any (w : World) (A0 : Option Addr) (c0 : Nat) (hs : List Tx) (A : Option Addr) (c : Nat) (ls : List Tx) (i : Int) (hhs : Ls w (fun k => w.heap.size ≤ k) (.slice A0 hs.length c0) hs) (hls : Ls w (fun k => w.heap.size ≤ k) (.slice A ls.length c) ls)
    (hhl : hs.length ≤ 9007199254740992) (hl : ls.length ≤ 9007199254740992) (hha : ∀ x ∈ hs, x.length ≤ 140737488351232) (hla : ∀ x ∈ ls, x.length ≤ 140737488351232) :
    Calls Try.prog 3 #[.slice A0 hs.length c0, .slice A ls.length c, .int .i64 i] w fun e w' => e = .returned (.bool true) ∧ Below w.heap.size w w' := by
  obtain ⟨a, ha1, ha2, ha3, ha4⟩ := cut_min2 ls
  have hca := (Ls.cap hls).2
  have ra := cut_upto A ls.length c a (by omega)
  have hl1 := cut40_ls hls
  rw [ha4] at hl1
  have HL := Lib.hid (And.intro hl1 (show ∀ x ∈ cut40 ls, x.length ≤ 140737488355327 from fun x hx => Nat.le_trans (cut40_all hla x hx) (by omega)))
  generalize hg1 : cut40 ls = l1 at *
  have HLN := Lib.hid ha4
  have HH := Lib.hid (And.intro hhs hha)
  clear hls hla hl1 hg1 ha4 hhs hha
  go_enter Try.func3, Try.ntmps3
  go_wp2_with fail
  refine (live_any _).mono ?_
  rintro e w1 ⟨rfl, hb⟩
  have HB1 := Lib.hid hb
  clear hb
  go_wp2_with fail
  refine (tables_any w1 w.heap.size HB1.out.size A0 c0 hs (HH.out.1.below HB1.out (fun k _ h => h)) (by omega) HH.out.2).mono ?_
  rintro e w3 ⟨p, q, rfl, hT, hb⟩
  have HB3 := Lib.hid (HB1.out.trans hb)
  generalize adds hs = L at *
  have HC := Lib.hid (root_two HLN.out.symm hT (HL.out.1.below HB3.out (fun k _ h => h)) (by omega) HL.out.2)
  clear hT hb
  go_wp2_with fail
  refine HC.out.mono ?_
  rintro e w4 ⟨rfl, hT, hc⟩
  have HB4 := Lib.hid (HB3.out.trans (hc.below (fun k hk hn => hn hk) HB3.out.size))
  have HD := Lib.hid (rroot_two HLN.out.symm hT (HL.out.1.below HB4.out (fun k _ h => h)) (by omega) HL.out.2)
  clear hT hc
  generalize hR : (root L l1).2 = R at *
  generalize hr1 : (root L l1).1 = r1 at *
  clear hR hr1
  go_wp2_with fail
  refine HD.out.mono ?_
  rintro e w5 ⟨rfl, hT, hc⟩
  have HB5 := Lib.hid (HB4.out.trans (hc.below (fun k hk hn => hn hk) HB4.out.size))
  have HT5 := Lib.hid hT
  clear hT hc HC HD
  go_wp2_with fail
  by_cases hp : 0 ≤ i ∧ i < a
  · obtain ⟨j, rfl⟩ : ∃ j : Nat, i = (j : Int) := ⟨i.toNat, by omega⟩
    have hj : j < a := by omega
    have HP := Lib.hid (prove_mid HLN.out.symm HB5.out.size HT5.out (HL.out.1.below HB5.out (fun k _ h => h)) (by omega) hj HL.out.2)
    clear hp
    refine HP.out.mono ?_
    rintro e w6 ⟨A6, c6, rfl, hM⟩
    have HB6 := Lib.hid (HB5.out.trans hM.1)
    have HQ := Lib.hid (rprove_after HLN.out.symm hM (HL.out.1.below HB6.out (fun k _ h => h)) (by omega) hj HL.out.2)
    clear hM HP
    have hple : (prove R j l1).1.length ≤ 1000000 := by
      obtain ⟨S, h, _⟩ := HT5.out.left
      have := (prove_le l1 R j (Tb.len h)).2.1
      have := HLN.out
      omega
    generalize prove R j l1 = r at *
    go_wp2_with fail
    refine HQ.out.mono ?_
    rintro e w7 ⟨A7, c7, rfl, hA⟩
    have HB7 := Lib.hid (HB5.out.trans hA.bel)
    obtain ⟨S1, hT1⟩ := hA.tab
    obtain ⟨S2, hR1⟩ := hA.ref
    have HE := Lib.hid (equaldigs_any w7.drew (fun _ => False) (fun _ => False) A6 A7 c6 c7 r.1.length r.1.length (r.1.map fun x : Nat => (x : Int)) (by simp) (by simp) hA.s1 hA.s2 (by simpa using hple))
    have hR2 := hR1
    obtain ⟨lv, q1, _, hlsr, _, _⟩ := hR2
    obtain ⟨AL, cL, rfl⟩ := Ls.shape hlsr
    have x0 := q1.cell 0
    simp only [List.getElem?_toArray, List.getElem?_cons_zero] at x0
    have HQ1 := Lib.hid q1
    have HLN7 : Hid (∀ W, Below w7.heap.size w7 W → Calls Try.prog 17 #[.pointer (some ⟨p, 0, none⟩)] W fun e w' => e = .returned (.int .i64 r.2.length) ∧ W = w') := Lib.hid fun W hb => len_yes W S1 p r.2 (Tb.after hT1 hb)
    clear hA hT1 hR1 q1 hlsr HQ
    go_wp2_with fail
    go_region_held3 (fun w' => w'.cell? ⟨q, 0, none⟩ = some (.slice AL r.2.length cL)) (first | exact x0 | exact x1)
      (first
        | (go_at_call 16; refine HE.out.mono ?_; rintro e w8 ⟨rfl, hb8⟩; have hb8 : Below w7.heap.size w7 w8 := ⟨hb8.os, hb8.tape, hb8.output, hb8.size, hb8.block⟩; have x1 : w8.cell? ⟨q, 0, none⟩ = some (.slice AL r.2.length cL) := (HQ1.out.below hb8 HQ1.out.lt).cell 0; have HB8 := Lib.hid hb8; have HL8 := Lib.hid (HLN7.out w8 hb8); clear hb8)
        | (go_at_call 17; refine HL8.out.mono ?_; rintro e w9 ⟨rfl, rfl⟩))
    all_goals
      go_wp2_with fail
      go_ret
      exact ⟨rfl, HB7.out.trans (HB8.out.mono HB7.out.size)⟩
  · obtain ⟨S1, hT1, _⟩ := HT5.out.left
    obtain ⟨S2, hR1, _⟩ := HT5.out.right
    have HP := Lib.hid (prove_bad w5 S1 p R i A c a (by omega) hp hT1)
    have HRP := Lib.hid (fun W => rprove_bad W (.pointer (some ⟨q, 0, none⟩)) i A c a (by omega) hp)
    clear hp
    refine HP.out.mono ?_
    rintro e w6 ⟨rfl, hb6⟩
    have HB6 := Lib.hid hb6
    go_wp2_with fail
    refine (HRP.out _).mono ?_
    rintro e w7 ⟨rfl, rfl⟩
    have HE := Lib.hid (equaldigs_any w6.drew (fun _ => False) (fun _ => False) none none 0 0 0 0 [] rfl rfl (Sl.nil _ _ _) (Sl.nil _ _ _) (by simp))
    have hR2 := Rf.after hR1 hb6
    obtain ⟨lv, q1, _, hlsr, _, _⟩ := hR2
    obtain ⟨AL, cL, rfl⟩ := Ls.shape hlsr
    have x0 := q1.cell 0
    simp only [List.getElem?_toArray, List.getElem?_cons_zero] at x0
    have HQ1 := Lib.hid q1
    have HLN7 : Hid (∀ W, Below w6.heap.size w6 W → Calls Try.prog 17 #[.pointer (some ⟨p, 0, none⟩)] W fun e w' => e = .returned (.int .i64 R.length) ∧ W = w') := Lib.hid fun W hb => len_yes W S1 p R (Tb.after hT1 (below_tr hb6 hb))
    clear hb6 hT1 hR1 q1 hlsr HP HRP
    go_wp2_with fail
    go_region_held3 (fun w' => w'.cell? ⟨q, 0, none⟩ = some (.slice AL R.length cL)) (first | exact x0 | exact x1)
      (first
        | (go_at_call 16; refine HE.out.mono ?_; rintro e w8 ⟨rfl, hb8⟩; have hb8 : Below w6.heap.size w6 w8 := ⟨hb8.os, hb8.tape, hb8.output, hb8.size, hb8.block⟩; have x1 : w8.cell? ⟨q, 0, none⟩ = some (.slice AL R.length cL) := (HQ1.out.below hb8 HQ1.out.lt).cell 0; have HB8 := Lib.hid (below_tr HB6.out hb8); have HL8 := Lib.hid (HLN7.out w8 hb8); clear hb8)
        | (go_at_call 17; refine HL8.out.mono ?_; rintro e w9 ⟨rfl, rfl⟩))
    all_goals
      go_wp2_with fail
      go_ret
      exact ⟨rfl, HB5.out.trans (HB8.out.mono HB5.out.size)⟩

end Go.Proofs.Ytepdajhgfdjklaa.Nf

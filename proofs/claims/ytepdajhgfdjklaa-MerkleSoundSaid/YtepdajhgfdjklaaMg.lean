/-
  Contract of layer 5: the document's Prove.
-/
import Derived.Test.YtepdajhgfdjklaaMd
import Derived.Test.YtepdajhgfdjklaaMe
namespace Go.Proofs.Ytepdajhgfdjklaa.Mg
open Go Go.RowKit Ck Im Ik Ia Ib Ic Ig Ih Ij Mm Ma Mb Mc Md Pr Me
attribute [local go_sem ↓] Go.wp_at_zero Go.wp_at_succ
set_option linter.unusedVariables false

/-- What the document's Prove leaves. -/
def RProved (S : Nat → Prop) (p : Nat) (r : List Nat × List Tx) (w : World) (e : Ending) (w' : World) : Prop :=
  ∃ A c S', e = .returned (.tuple #[.slice A r.1.length c, .int .i64 0]) ∧ w'.ownsRow w.heap.size 28 1 (.slice A r.1.length c) r.1.length (IVs (r.1.map fun x : Nat => (x : Int))) ∧
    Rf w' S' p r.2 ∧ (∀ k, S' k → Up S w w' k) ∧ (∀ g, (Value.slice A r.1.length c).ownBlock = some g → ¬ S' g) ∧ Ch S w w'

theorem rproved_push {S S1 : Nat → Prop} {p : Nat} {w w1 w2 w3 : World} {L2 : List Tx} {ds : List Nat} {d n : Nat} {A A' : Option Addr} {c c' : Nat} {o : Obj} (hn : n = ds.length) (hS : ∀ k, S k → k < w.heap.size) (hS1 : ∀ k, S1 k → Up S w w1 k) (hrow : w1.ownsRow w.heap.size 28 1 (.slice A n c) n (IVs (ds.map fun x : Nat => (x : Int))))
    (hnot : ∀ g, (Value.slice A n c).ownBlock = some g → ¬ S1 g) (hc1 : Ch S w w1) (hT2 : Rf w2 (Up S1 w1 w2) p L2) (hc2 : Ch S1 w1 w2)
    (happ : Appended (w2.alloc o) w.heap.size 28 1 (.slice A n c) (n + 1) (IVs (ds.map fun x : Nat => (x : Int)) ++ [.int .i64 (d : Int)]) (.slice A' (n + 1) c') w3) :
    RProved S p (ds ++ [d], L2) w (.returned (.tuple #[.slice A' (n + 1) c', .int .i64 0])) w3 := by
  subst hn
  have hal : (w2.alloc o).heap.size = w2.heap.size + 1 := by simp
  have hs2 := hc2.size
  have hs1 := hc1.size
  have hlt := fun g hg => hrow.lt g hg
  have c3 : Ch (fun k => (Value.slice A ds.length c).ownBlock = some k) w2 w3 := ((Ch.refl _ w2).alloc o).trans (Ch.of_grown happ.2.1 (fun g hg _ => hg)) (fun _ _ h => h)
  have hs3 := c3.size
  have hl : (ds ++ [d]).length = ds.length + 1 := by simp
  refine ⟨A', c', Up S1 w1 w2, by rw [hl], ?_, ?_, ?_, ?_, ?_⟩
  · rw [hl, List.map_append, IVs_app]
    exact happ.1
  · refine Rf.ch hT2 c3 (fun k hk hg => ?_)
    rcases hk with hk | hk
    · exact hnot k hg hk
    · have := (hlt k hg).2; omega
  · intro k hk
    rcases hk with hk | hk
    · exact up_mono (by omega) (hS1 k hk)
    · exact .inr ⟨by omega, by omega⟩
  · intro g hg hk
    rw [hl] at hg
    rcases happ.2.2 with h2 | h2
    · rw [h2] at hg
      rcases hk with hk | hk
      · exact hnot g hg hk
      · have := (hlt g hg).2; omega
    · rw [h2] at hg
      injection hg with hg
      rcases hk with hk | hk
      · rcases hS1 g hk with h | h
        · have := hS g h; omega
        · omega
      · omega
  · refine (hc1.trans (hc2.mono (fun k _ hk => hk)) (T := S1) (fun k hk h => ?_)).trans c3 (fun k hk hg => ?_)
    · rcases hS1 k h with h | h
      · exact h
      · omega
    · have := (hlt k hg).1; omega

theorem rprove_bad (w : World) (v : Value) (i : Int) (A : Option Addr) (c n : Nat) (hn : n ≤ 140737488355328) (hi : ¬ (0 ≤ i ∧ i < n)) :
    Calls Try.prog 15 #[v, .int .i64 i, .slice A n c] w fun e w' => e = .returned (.tuple #[.slice none 0 0, .int .i64 1]) ∧ w = w' := by
  by_cases h0 : i < 0
  · clear hi
    go_enter Try.func15, Try.ntmps15
    go_wp2_with fail
    go_ret2
    exact ⟨rfl, rfl⟩
  · have h1 : (n : Int) ≤ i := by omega
    clear hi
    go_enter Try.func15, Try.ntmps15
    go_wp2_with fail
    go_ret2
    exact ⟨rfl, rfl⟩

set_option maxRecDepth 100000 in
set_option maxHeartbeats 4000000 in
theorem rprove_any : ∀ (f : Nat) (w : World) (S X : Nat → Prop) (p : Nat) (L : List Tx) (i : Nat) (A : Option Addr) (c : Nat) (ls : List Tx), ls.length ≤ f → ls.length ≤ 1000000 → i < ls.length → Rf w S p L → (∀ k, S k → k < w.heap.size) → Ls w X (.slice A ls.length c) ls →
    (∀ k, S k → X k) → (∀ x ∈ ls, x.length ≤ 140737488355327) →
    Calls Try.prog 15 #[.pointer (some ⟨p, 0, none⟩), .int .i64 i, .slice A ls.length c] w (RProved S p (prove L i ls) w)
  | 0, w, S, X, p, L, i, A, c, ls, hf, hbig, hi, _, _, _, _, _ => by omega
  | f + 1, w, S, X, p, L, i, A, c, ls, hf, hbig, hi, hT, hS, hls, hSX, hall => by
    by_cases hone : ls.length = 1
    · have HR := Lib.hid (prove_one L i (l := ls) (by omega))
      have HT := Lib.hid hT
      have hn : (ls.length : Int) = 1 := by omega
      have h0 : i = 0 := by omega
      subst h0
      clear hf hi hbig hT hS hls hall hSX hone
      go_enter Try.func15, Try.ntmps15
      go_wp2_with fail
      go_ret2
      rw [HR.out]
      exact ⟨none, 0, S, rfl, World.ownsRow_nil _ _ _ _, HT.out, fun k hk => .inl hk, fun g hg => by simp [Value.ownBlock] at hg, Ch.refl _ _⟩
    · obtain ⟨s1, s2, s3⟩ := split_spec (n := ls.length) (by omega)
      have h2 : 2 ≤ ls.length := by omega
      have hi6 : i ≤ 1000000 := by omega
      have hL : L.length ≤ 1048576 := Rf.len hT
      have hsp0 := rsplit_any w ls.length (by omega)
      rw [show ((ls.length : Int)).toNat = ls.length from by omega] at hsp0
      have HSPL := Lib.hid hsp0
      clear hsp0
      by_cases hs : i < split ls.length
      · have HM := Lib.hid (prove_left L (l := ls) h2 hs)
        have hih := rprove_any f
        generalize hk : split ls.length = k at *
        clear hk
        have hlt : (ls.take k).length = k := by rw [List.length_take]; omega
        have hld : (ls.drop k).length = ls.length - k := List.length_drop
        have hcap := (Ls.cap hls).2
        have r1 : ∀ W : World, (Instr.slice 22 (.slice A ls.length c) none (some (.int .i64 (k : Int))) none).run Try.prog W = .ok (.slice A k c) W := fun W => cut_upto A ls.length c k (by omega) _
        obtain ⟨r2, a2⟩ := cut_lt A ls.length c k (by omega) hcap
        have hT1 := Ls.upto hls (k := k) (by omega)
        have hT2 := Ls.from hls (k := k) (by omega) a2
        have hIH := hih w S X p L i A c (ls.take k) (by omega) (by omega) (by omega) hT hS hT1 hSX (fun x hx => hall x (List.mem_of_mem_take hx))
        rw [hlt] at hIH
        have HIH := Lib.hid hIH
        have HOTH := Lib.hid (Ls.old hT2 (Nat.le_refl _))
        have HOL := Lib.hid hld
        have HALL : Hid (∀ x ∈ (ls.drop k), x.length ≤ 140737488355327) := Lib.hid fun x hx => hall x (List.mem_of_mem_drop hx)
        obtain ⟨hp2, hp1, hp3⟩ := prove_le (ls.take k) L i hL
        have HPL := Lib.hid (And.intro hp2 (And.intro (show (prove L i (ls.take k)).1.length ≤ 1000000 by omega) (show (ls.drop k).length ≤ 1000000 by omega)))
        have HSP := Lib.hid HSPL.out
        have HSX := Lib.hid (And.intro hSX hS)
        have hii : ¬ ((i : Int) < 0) := by omega
        have hin : ¬ ((ls.length : Int) ≤ (i : Int)) := by omega
        clear hih hlt hld a2 hT1 hT2 hp1 hp2 hp3 hIH
        clear hf hbig hT hls hall hL hSX hS
        go_enter Try.func15, Try.ntmps15
        go_wp2_with fail
        refine HSP.out.mono ?_
        rintro e w' ⟨rfl, rfl⟩
        go_wp2_with fail
        refine HIH.out.mono ?_
        rintro e w1 ⟨A0, c0, S1, rfl, hrow, hT1, hS1, hnot, hc1⟩
        have hlsO := HOTH.out.ch hc1 (fun k _ h => .inl (HSX.out.1 k h))
        have hRt := rroot_any (ls.drop k).length w1 S1 (fun k => X k ∨ w.heap.size ≤ k) p (prove L i (ls.take k)).2 (A.map fun x => x.add k) (c - k) (ls.drop k) (Nat.le_refl _) (by have := HPL.out.2.2; omega) hT1 hlsO (fun k hk => by
          rcases hS1 k hk with h | h
          · exact .inl (HSX.out.1 k h)
          · exact .inr h.1) HALL.out
        rw [HOL.out] at hRt
        have HRT := Lib.hid hRt
        have hm9 : (prove L i (ls.take k)).1.length ≤ 1000000 := HPL.out.2.1
        generalize hdd : (prove L i (ls.take k)).1 = dd at *
        generalize hL1 : (prove L i (ls.take k)).2 = L1 at *
        generalize hrr : root L1 (ls.drop k) = rr at *
        generalize hnn : dd.length = n at *
        have HNN := Lib.hid hnn
        have HEQ := Lib.hid (And.intro hdd (And.intro hL1 hrr))
        have HROW := Lib.hid hrow
        have H1 := Lib.hid (And.intro hS1 (And.intro hnot hc1))
        have hs1 := hc1.size
        obtain ⟨i0, hi0, hz0, hz1, hz2⟩ := info_parts info_dig
        clear hdd hL1 hrr hnn hrow hT1 hS1 hnot hc1 hlsO hRt HIH
        go_wp2_with fail
        refine HRT.out.mono ?_
        rintro e w2 ⟨rfl, ht2, hc2⟩
        have HT2 := Lib.hid ht2
        have HC2 := Lib.hid hc2
        have hs2 := hc2.size
        have HO2 : Hid ((w2.alloc (.cells #[.int .i64 (rr.1 : Int)] 28)).ownsRow w.heap.size 28 1 (.slice A0 n c0) n (IVs (dd.map fun x : Nat => (x : Int)))) := Lib.hid ((own_ch HROW.out hc2 (fun g hg h => H1.out.2.1 g hg h)).alloc _)
        clear ht2 hc2
        go_wp2_with (at_builtin; refine wpList_append_sh _ rfl (.tmp 39) (.tmp 45) _ rfl w.heap.size 28 i0 _ 1 8 Try.underlying31 hi0 hz0 hz1 hz2 rfl (by omega) (.slice A0 n c0) n (IVs (dd.map fun x : Nat => (x : Int))) rfl HO2.out (fun _ => False) _ 1 [.int .i64 (rr.1 : Int)] rfl (one_sv w2 (fun _ => False) _ _ (fun h => h)) (IVs_one [(rr.1 : Int)]) (by simp only [maxLen]; omega) (by omega) (by simp; omega) ?_; intro A9 c9 w9 happ; have HAP := Lib.hid happ; clear happ)
        go_ret2
        rw [HM.out]
        exact rproved_push HNN.out.symm HSX.out.2 H1.out.1 HROW.out H1.out.2.1 H1.out.2.2 HT2.out HC2.out HAP.out
      · have HM := Lib.hid (prove_right L (l := ls) h2 hs)
        have hih := rprove_any f
        generalize hk : split ls.length = k at *
        clear hk
        have hlt : (ls.take k).length = k := by rw [List.length_take]; omega
        have hld : (ls.drop k).length = ls.length - k := List.length_drop
        have hcap := (Ls.cap hls).2
        have r1 : ∀ W : World, (Instr.slice 22 (.slice A ls.length c) none (some (.int .i64 (k : Int))) none).run Try.prog W = .ok (.slice A k c) W := fun W => cut_upto A ls.length c k (by omega) _
        obtain ⟨r2, a2⟩ := cut_lt A ls.length c k (by omega) hcap
        have hT1 := Ls.upto hls (k := k) (by omega)
        have hT2 := Ls.from hls (k := k) (by omega) a2
        have hIH := hih w S X p L (i - k) (A.map fun x => x.add k) (c - k) (ls.drop k) (by omega) (by omega) (by omega) hT hS hT2 hSX (fun x hx => hall x (List.mem_of_mem_drop hx))
        rw [hld, show ((i - k : Nat) : Int) = (i : Int) - k from by omega] at hIH
        have HIH := Lib.hid hIH
        have HOTH := Lib.hid (Ls.old hT1 (Nat.le_refl _))
        have HOL := Lib.hid hlt
        have HALL : Hid (∀ x ∈ (ls.take k), x.length ≤ 140737488355327) := Lib.hid fun x hx => hall x (List.mem_of_mem_take hx)
        obtain ⟨hp2, hp1, hp3⟩ := prove_le (ls.drop k) L (i - k) hL
        have HPL := Lib.hid (And.intro hp2 (And.intro (show (prove L (i - k) (ls.drop k)).1.length ≤ 1000000 by omega) (show (ls.take k).length ≤ 1000000 by omega)))
        have HSP := Lib.hid HSPL.out
        have HSX := Lib.hid (And.intro hSX hS)
        have hii : ¬ ((i : Int) < 0) := by omega
        have hin : ¬ ((ls.length : Int) ≤ (i : Int)) := by omega
        clear hih hlt hld a2 hT1 hT2 hp1 hp2 hp3 hIH
        clear hf hbig hT hls hall hL hSX hS
        go_enter Try.func15, Try.ntmps15
        go_wp2_with fail
        refine HSP.out.mono ?_
        rintro e w' ⟨rfl, rfl⟩
        go_wp2_with fail
        refine HIH.out.mono ?_
        rintro e w1 ⟨A0, c0, S1, rfl, hrow, hT1, hS1, hnot, hc1⟩
        have hlsO := HOTH.out.ch hc1 (fun k _ h => .inl (HSX.out.1 k h))
        have hRt := rroot_any (ls.take k).length w1 S1 (fun k => X k ∨ w.heap.size ≤ k) p (prove L (i - k) (ls.drop k)).2 A c (ls.take k) (Nat.le_refl _) (by have := HPL.out.2.2; omega) hT1 hlsO (fun k hk => by
          rcases hS1 k hk with h | h
          · exact .inl (HSX.out.1 k h)
          · exact .inr h.1) HALL.out
        rw [HOL.out] at hRt
        have HRT := Lib.hid hRt
        have hm9 : (prove L (i - k) (ls.drop k)).1.length ≤ 1000000 := HPL.out.2.1
        generalize hdd : (prove L (i - k) (ls.drop k)).1 = dd at *
        generalize hL1 : (prove L (i - k) (ls.drop k)).2 = L1 at *
        generalize hrr : root L1 (ls.take k) = rr at *
        generalize hnn : dd.length = n at *
        have HNN := Lib.hid hnn
        have HEQ := Lib.hid (And.intro hdd (And.intro hL1 hrr))
        have HROW := Lib.hid hrow
        have H1 := Lib.hid (And.intro hS1 (And.intro hnot hc1))
        have hs1 := hc1.size
        obtain ⟨i0, hi0, hz0, hz1, hz2⟩ := info_parts info_dig
        clear hdd hL1 hrr hnn hrow hT1 hS1 hnot hc1 hlsO hRt HIH
        go_wp2_with fail
        refine HRT.out.mono ?_
        rintro e w2 ⟨rfl, ht2, hc2⟩
        have HT2 := Lib.hid ht2
        have HC2 := Lib.hid hc2
        have hs2 := hc2.size
        have HO2 : Hid ((w2.alloc (.cells #[.int .i64 (rr.1 : Int)] 28)).ownsRow w.heap.size 28 1 (.slice A0 n c0) n (IVs (dd.map fun x : Nat => (x : Int)))) := Lib.hid ((own_ch HROW.out hc2 (fun g hg h => H1.out.2.1 g hg h)).alloc _)
        clear ht2 hc2
        go_wp2_with (at_builtin; refine wpList_append_sh _ rfl (.tmp 58) (.tmp 64) _ rfl w.heap.size 28 i0 _ 1 8 Try.underlying31 hi0 hz0 hz1 hz2 rfl (by omega) (.slice A0 n c0) n (IVs (dd.map fun x : Nat => (x : Int))) rfl HO2.out (fun _ => False) _ 1 [.int .i64 (rr.1 : Int)] rfl (one_sv w2 (fun _ => False) _ _ (fun h => h)) (IVs_one [(rr.1 : Int)]) (by simp only [maxLen]; omega) (by omega) (by simp; omega) ?_; intro A9 c9 w9 happ; have HAP := Lib.hid happ; clear happ)
        go_ret2
        rw [HM.out]
        exact rproved_push HNN.out.symm HSX.out.2 H1.out.1 HROW.out H1.out.2.1 H1.out.2.2 HT2.out HC2.out HAP.out

end Go.Proofs.Ytepdajhgfdjklaa.Mg

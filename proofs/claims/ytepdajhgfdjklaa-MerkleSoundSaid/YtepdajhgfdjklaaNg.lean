/-
  The walk of the statement MerkleSound.
-/
import Derived.Test.YtepdajhgfdjklaaNj
namespace Go.Proofs.Ytepdajhgfdjklaa.Ng
open Go Go.RowKit Ck Im Ik Ia Ib Ic Ig Ih Ij Mm Ma Mb Mc Md Pr Me Mf Mg Mh Mi Mj Ml Mk Na Nj
attribute [local go_sem ↓] Go.wp_at_zero Go.wp_at_succ
set_option linter.unusedVariables false

theorem has_add {L l : List Tx} {d : Nat} (h : Has L l d) (s : Tx) : Has (add L s) l d := by
  by_cases hk : num L s = 0
  · by_cases hf : 1048576 ≤ L.length
    · rw [(add_full hk hf).1]; exact h
    · rw [(add_new hk hf).1]; exact h.grown _
  · rw [(add_known hk).1]; exact h
theorem has_start {k l : List Tx} (hk : k.length ≤ 40) (hl : l.length ≤ 40) : Has (root (root [] k).2 l).2 l (root (root [] k).2 l).1 := by
  obtain ⟨h1, K1, e1, k1⟩ := root_has k [] (by simp; omega)
  have hlen : (root [] k).2.length ≤ 100 := by
    rw [e1]
    simp only [List.nil_append]
    split at k1 <;> omega
  exact (root_has l (root [] k).2 (by omega)).1
theorem verify_sound {L l : List Tx} {r : Nat} {x : Tx} {j : Nat} {ds : List Int} (hL : L.length ≤ 1048576) (hd : ∀ z ∈ ds, z ≤ 9223372036854775807) (h : Has L l r) (hj : j < l.length) (hv : verify L r x j l.length ds = true) : x = l[j] := by
  unfold verify at hv
  obtain ⟨_, _, _, d, hc, hdr⟩ := of_decide_eq_true hv
  simp only [Int.toNat_natCast] at hc
  have hdr : d = r := by omega
  subst hdr
  have := sound hL (fun z hz => by have := hd z hz; omega) hj h hc
  rw [this, List.getD_eq_getElem?_getD, List.getElem?_eq_getElem hj]
  rfl
theorem verify_proved {L l : List Tx} {r : Nat} {x : Tx} {j : Nat} (hL : L.length ≤ 1048576) (h : Has L l r) (hj : j < l.length) :
    prove L j l = ((prove L j l).1, L) ∧ (∀ d ∈ (prove L j l).1, d ≤ 1048576) ∧ verify L r x j l.length ((prove L j l).1.map fun y : Nat => (y : Int)) = (x == l[j]) := by
  obtain ⟨c1, c2, c3⟩ := complete hj h
  have hle := (prove_le l L j hL).2.2
  refine ⟨Prod.ext rfl c1, hle, ?_⟩
  by_cases hx : x = l[j]
  · have hg : l.getD j [] = x := by rw [List.getD_eq_getElem?_getD, List.getElem?_eq_getElem hj, hx]; rfl
    rw [hg] at c3
    rw [verify_some hj (by rw [List.length_map]; exact c2) c3, hx]
    simp
  · rw [beq_false_of_ne hx]
    by_cases hv : verify L r x j l.length ((prove L j l).1.map fun y : Nat => (y : Int)) = true
    · exact absurd (verify_sound hL (fun z hz => by
        obtain ⟨d, hd, rfl⟩ := List.mem_map.1 hz
        have := hle d hd
        omega) h hj hv) hx
    · simpa using hv

/-- A table whose blocks are not among those of K. -/
def TK (K : Nat → Prop) (p : Nat) (L : List Tx) (w : World) : Prop := (∀ k, K k → k < w.heap.size) ∧ ∃ S, Tb w S p L ∧ Own K w S
section
variable {K : Nat → Prop} {p : Nat} {L : List Tx} {w w' : World}
theorem TK.len (h : TK K p L w) : L.length ≤ 1048576 := by
  obtain ⟨_, S, h1, _⟩ := h
  exact Tb.len h1
theorem TK.after (h : TK K p L w) (b : Below w.heap.size w w') : TK K p L w' := by
  obtain ⟨hK, S, h1, h2⟩ := h
  exact ⟨fun k hk => Nat.lt_of_lt_of_le (hK k hk) b.size, S, Tb.after h1 b, h2.later b.size⟩
theorem leaf_tk (h : TK K p L w) (X : Nat → Prop) (v : Value) (n : Nat) (b : Tx) (hb : Sl w X 1 v n (BVs b)) (hl : n ≤ 140737488355327) :
    Calls Try.prog 18 #[.pointer (some ⟨p, 0, none⟩), v] w fun e w' => e = .returned (.int .i64 (sum L (leafB b) : Int)) ∧ TK K p (add L (leafB b)) w' ∧ Ch (fun k => ¬ K k) w w' := by
  obtain ⟨hK, S, h1, h2⟩ := h
  refine (leaf_any w S X p L v n b h1 hb hl).mono ?_
  rintro e w' ⟨rfl, ht, hc⟩
  exact ⟨rfl, ⟨fun k hk => Nat.lt_of_lt_of_le (hK k hk) hc.size, _, ht, h2.up hc.size hK⟩, ch_own hc h2⟩
theorem prove_tk (h : TK K p L w) {A : Option Addr} {c n i : Nat} {ls : List Tx} (hn : n = ls.length) (hls : Ls w (fun k => ¬ K k) (.slice A n c) ls) (hbig : n ≤ 1000000) (hi : i < n) (hall : ∀ x ∈ ls, x.length ≤ 140737488355327) :
    Calls Try.prog 14 #[.pointer (some ⟨p, 0, none⟩), .int .i64 i, .slice A n c] w fun e w' => ∃ A0 c0, e = .returned (.tuple #[.slice A0 (prove L i ls).1.length c0, .int .i64 0]) ∧ Sl w' (fun _ => False) 1 (.slice A0 (prove L i ls).1.length c0) (prove L i ls).1.length (IVs ((prove L i ls).1.map fun x : Nat => (x : Int)))
      ∧ TK K p (prove L i ls).2 w' ∧ Ch (fun k => ¬ K k) w w' := by
  subst hn
  obtain ⟨hK, S, h1, h2⟩ := h
  refine (prove_any w S (fun k => ¬ K k) p L i A c ls hbig hi h1 (fun k hk => (h2 k hk).2) hls (fun k hk => (h2 k hk).1) hall).mono ?_
  rintro e w' ⟨A0, c0, S', rfl, hrow, ht, hS', hnot, hc⟩
  exact ⟨A0, c0, rfl, Sl.of_own hrow (fun _ _ _ h => h), ⟨fun k hk => Nat.lt_of_lt_of_le (hK k hk) hc.size, S', ht, fun k hk => h2.up hc.size hK k (hS' k hk)⟩, ch_own hc h2⟩
theorem verify_tk (h : TK K p L w) (X Y : Nat → Prop) (r i n : Int) (A : Option Addr) (c m : Nat) (ds : List Int) (lv : Value) (b : Tx) (hm : m = ds.length) (hn63 : n ≤ 9223372036854775807) (hds : Sl w X 1 (.slice A m c) m (IVs ds))
    (hd63 : ∀ x ∈ ds, x ≤ 9223372036854775807) (hlv : Sl w Y 1 lv b.length (BVs b)) (hbl : b.length ≤ 140737488355327) (hdl : m ≤ 140737488355328) :
    Calls Try.prog 26 #[.pointer (some ⟨p, 0, none⟩), .int .i64 r, lv, .int .i64 i, .int .i64 n, .slice A m c] w fun e w' => e = .returned (.bool (verify L r b i n ds)) ∧ Below w.heap.size w w' := by
  subst hm
  obtain ⟨hK, S, h1, h2⟩ := h
  exact verify_any w S X Y p L r i n A c ds lv b hn63 h1 hds hd63 hlv hbl hdl
end

/-- What the loops hold: all of K stays. -/
structure Held (w6 : World) (K : Nat → Prop) (g a m : Nat) (l1 xs : List Tx) (A A9 PA : Option Addr) (c c9 pc : Nat) (lv : Value) (ds : List Int) (i n r : Int) (t : Bool) : Prop where
  leaves : Ls w6 (fun k => ¬ K k) (.slice A a c) l1
  names : Ls w6 (fun k => ¬ K k) (.slice A9 m c9) xs
  proof : Sl w6 (fun k => ¬ K k) 1 (.slice PA ds.length pc) ds.length (IVs ds)
  box : Box w6 g lv (.slice PA ds.length pc) i n r t
  hg : K g
  la : l1.length = a
  lm : xs.length = m
theorem Held.ch {w6 w7 : World} {K : Nat → Prop} {g a m : Nat} {l1 xs : List Tx} {A A9 PA : Option Addr} {c c9 pc : Nat} {lv : Value} {ds : List Int} {i n r : Int} {t : Bool} (h : Held w6 K g a m l1 xs A A9 PA c c9 pc lv ds i n r t) (c0 : Ch (fun k => ¬ K k) w6 w7) : Held w7 K g a m l1 xs A A9 PA c c9 pc lv ds i n r t :=
  ⟨h.leaves.ch c0 (fun _ _ h => h), h.names.ch c0 (fun _ _ h => h), h.proof.ch c0 (fun _ _ h => h), Blk.ch h.box c0 (fun hn => hn h.hg), h.hg, h.la, h.lm⟩

/-- The names in their new row. -/
theorem held_start {w5 w6 : World} {S5 : Nat → Prop} {B g a bk : Nat} {l1 k1 : List Tx} {A A2 A9 PA : Option Addr} {c c2 c9 pc : Nat} {lv : Value} {b : Tx} {ds : List Int} {i n r : Int} {t : Bool} {vals : List Value} {cs : Array Value}
    (hS : ∀ k, S5 k → B ≤ k ∧ k < w5.heap.size) (hg : g < B) (hB : B ≤ w5.heap.size) (hl : Ls w5 (fun k => B ≤ k) (.slice A a c) l1) (hla : l1.length = a) (hkl : k1.length = bk) (hvl : vals.length = bk) (hels : ∀ j (h : j < k1.length), ∃ u, vals[j]? = some u ∧ Sl w5 (fun k => B ≤ k) 1 u k1[j].length (BVs k1[j]))
    (hlv : Sl w5 (fun k => B ≤ k) 1 lv b.length (BVs b)) (hp : Sl w5 (fun k => B ≤ k) 1 (.slice PA ds.length pc) ds.length (IVs ds)) (hbx : Box w5 g lv (.slice PA ds.length pc) i n r t)
    (happ : Appended (w5.alloc (.cells cs 41)) w5.heap.size 41 1 (.slice (some ⟨w5.heap.size, 0, none⟩) 1 1) (1 + bk) ([lv] ++ vals) (.slice A9 (1 + bk) c9) w6) :
    Held w6 (fun k => k < w6.heap.size ∧ ¬ S5 k) g a (1 + bk) l1 (b :: k1) A A9 PA c c9 pc lv ds i n r t ∧ Below w5.heap.size w5 w6 := by
  have hb : Below w5.heap.size w5 w6 := ((Below.refl _ _).alloc (Nat.le_refl _) _).grown happ.2.1 (by simp) (by simp [Value.ownBlock])
  have hs := hb.size
  have wk : ∀ k, k < w6.heap.size → ¬ (k < w6.heap.size ∧ ¬ S5 k) → B ≤ k := fun k hk hn => by
    by_cases h : S5 k
    · exact (hS k h).1
    · exact absurd ⟨hk, h⟩ hn
  refine ⟨⟨?_, ?_, ?_, ?_, ⟨by omega, fun h => by have := hS g h; omega⟩, hla, by simp; omega⟩, hb⟩
  · exact (hl.after hb).weaken wk
  · have hlen : (b :: k1).length = 1 + bk := by simp; omega
    refine ⟨lv :: vals, ?_, fun j hj => ?_⟩
    · rw [hlen]
      exact Sl.of_own happ.1 (fun k h1 h2 hn => hn ⟨h2, fun h => by have := hS k h; omega⟩)
    · rcases j with _ | j
      · exact ⟨lv, rfl, (hlv.after hb).weaken wk⟩
      · obtain ⟨u, hu, hsl⟩ := hels j (by simpa using hj)
        exact ⟨u, by simpa using hu, (hsl.after hb).weaken wk⟩
  · exact (hp.after hb).weaken wk
  · exact hbx.after hb

set_option maxRecDepth 100000 in
set_option maxHeartbeats 8000000 in
theorem sound_any (w : World) (A : Option Addr) (c : Nat) (ls : List Tx) (A2 : Option Addr) (c2 : Nat) (ks : List Tx) (LA PA : Option Addr) (lc pc : Nat) (b : Tx) (ds : List Int) (i n r : Int) (t : Bool) (hls : Ls w (fun k => w.heap.size ≤ k) (.slice A ls.length c) ls) (hks : Ls w (fun k => w.heap.size ≤ k) (.slice A2 ks.length c2) ks)
    (hl : ls.length ≤ 9007199254740992) (hk : ks.length ≤ 9007199254740992) (hla : ∀ x ∈ ls, x.length ≤ 140737488351232) (hka : ∀ x ∈ ks, x.length ≤ 140737488351232) (hb : Sl w (fun k => w.heap.size ≤ k) 1 (.slice LA b.length lc) b.length (BVs b)) (hbl : b.length ≤ 140737488351232)
    (hd : Sl w (fun k => w.heap.size ≤ k) 1 (.slice PA ds.length pc) ds.length (IVs ds)) (hdl : ds.length ≤ 140737488355328) (hd63 : ∀ x ∈ ds, x ≤ 9223372036854775807) :
    Calls Try.prog 7 #[.slice A ls.length c, .slice A2 ks.length c2, .agg #[.slice LA b.length lc, .int .i64 i, .int .i64 n, .slice PA ds.length pc, .int .i64 r, .bool t]] w fun e w' => e = .returned (.bool true) ∧ Below w.heap.size w w' := by
  obtain ⟨a, ha1, ha2, ha3, ha4⟩ := cut_min2 ls
  obtain ⟨bk, hb1, hb2, hb3, hb4⟩ := cut_min2 ks
  have hca := (Ls.cap hls).2
  have hcb := (Ls.cap hks).2
  have ra := cut_upto A ls.length c a (by omega)
  have rb := cut_upto A2 ks.length c2 bk (by omega)
  have hl1 := cut40_ls hls
  have hk1 := cut40_ls hks
  rw [ha4] at hl1
  rw [hb4] at hk1
  have hha : ∀ x ∈ cut40 ls, x.length ≤ 140737488355327 := fun x hx => Nat.le_trans (cut40_all hla x hx) (by omega)
  have hhk : ∀ x ∈ cut40 ks, x.length ≤ 140737488355327 := fun x hx => Nat.le_trans (cut40_all hka x hx) (by omega)
  have hst := has_start (k := cut40 ks) (l := cut40 ls) (by omega) (by omega)
  generalize hg1 : cut40 ls = l1 at *
  generalize hg2 : cut40 ks = k1 at *
  have HLN := Lib.hid (And.intro ha4 hb4)
  have HAL := Lib.hid (And.intro hha hhk)
  have HXA : Hid (∀ x ∈ b :: k1, x.length ≤ 140737488355327) := Lib.hid fun x hx => by
    rcases List.mem_cons.1 hx with rfl | hx
    · omega
    · exact hhk x hx
  have HST := Lib.hid hst
  have hbox : Box (w.alloc (.cells #[.slice LA b.length lc, .int .i64 i, .int .i64 n, .slice PA ds.length pc, .int .i64 r, .bool t] 52)) w.heap.size (.slice LA b.length lc) (.slice PA ds.length pc) i n r t := Blk.new _ _ _
  have b0 : Below w.heap.size w (w.alloc (.cells #[.slice LA b.length lc, .int .i64 i, .int .i64 n, .slice PA ds.length pc, .int .i64 r, .bool t] 52)) := (Below.refl _ w).alloc (Nat.le_refl _) _
  have hs0 : (w.alloc (.cells #[.slice LA b.length lc, .int .i64 i, .int .i64 n, .slice PA ds.length pc, .int .i64 r, .bool t] 52)).heap.size = w.heap.size + 1 := by simp
  have HIN : Hid (∀ W, Below (w.heap.size + 1) (w.alloc (.cells #[.slice LA b.length lc, .int .i64 i, .int .i64 n, .slice PA ds.length pc, .int .i64 r, .bool t] 52)) W → Ls W (fun k => w.heap.size + 1 ≤ k) (.slice A a c) l1 ∧ Ls W (fun k => w.heap.size + 1 ≤ k) (.slice A2 bk c2) k1 ∧ Sl W (fun k => w.heap.size + 1 ≤ k) 1 (.slice LA b.length lc) b.length (BVs b) ∧ Sl W (fun k => w.heap.size + 1 ≤ k) 1 (.slice PA ds.length pc) ds.length (IVs ds)
      ∧ Box W w.heap.size (.slice LA b.length lc) (.slice PA ds.length pc) i n r t ∧ Below w.heap.size w W) := Lib.hid fun W hbw => by
    have hb' : Below w.heap.size w W := b0.trans (hbw.mono (Nat.le_succ _))
    exact ⟨ls_low (hl1.below hb' (fun k _ h => h)) (Nat.le_succ _), ls_low (hk1.below hb' (fun k _ h => h)) (Nat.le_succ _), (hb.below hb' (fun k _ h => h)).weaken (fun k _ hk => Nat.le_trans (Nat.le_succ _) hk), (hd.below hb' (fun k _ h => h)).weaken (fun k _ hk => Nat.le_trans (Nat.le_succ _) hk), hbox.low hbw (Nat.lt_succ_self _), hb'⟩
  have HS0 := Lib.hid hs0
  have HD63 := Lib.hid hd63
  clear hls hks hla hka hl1 hk1 hg1 hg2 ha4 hb4 hha hhk hst hbox b0 hb hd hd63 hs0
  go_enter Try.func7, Try.ntmps7
  go_wp2_with fail
  refine (live_any _).mono ?_
  rintro e w1 ⟨rfl, hb⟩
  rw [HS0.out] at hb
  have HB1 := Lib.hid hb
  have hs1 : w.heap.size + 1 ≤ w1.heap.size := by have := hb.size; rw [HS0.out] at this; exact this
  clear hb
  go_wp2_with fail
  go_quiet (fail)
  go_wp2_with fail
  refine (tables_nil (w1.drewN nq) (w.heap.size + 1) hs1).mono ?_
  rintro e w3 ⟨p, q, rfl, hT, hb⟩
  have HB3 := Lib.hid ((below_drewN HB1.out nq).trans hb)
  have hs3 : w.heap.size + 1 ≤ w3.heap.size := Nat.le_trans hs1 hb.size
  have HT3 := Lib.hid (two_tq hT)
  clear hT hb
  go_wp2_with fail
  refine (root_tq w3 (w.heap.size + 1) _ p [] (fun k => w.heap.size + 1 ≤ k) A2 c2 bk k1 HLN.out.2.symm HT3.out hs3 (Nat.le_refl _) (HIN.out w3 HB3.out).2.1 (fun k h _ => h) (by omega) HAL.out.2).mono ?_
  rintro e w4 ⟨rfl, hT, hb⟩
  have HT4 := Lib.hid hT
  have HB4 := Lib.hid (HB3.out.trans hb)
  have hs4 : w.heap.size + 1 ≤ w4.heap.size := Nat.le_trans hs3 hb.size
  clear hT hb
  generalize hL1 : (root [] k1).2 = L1 at *
  go_wp2_with fail
  refine (root_tq w4 (w.heap.size + 1) _ p L1 (fun k => w.heap.size + 1 ≤ k) A c a l1 HLN.out.1.symm HT4.out hs4 (Nat.le_refl _) (HIN.out w4 HB4.out).1 (fun k h _ => h) (by omega) HAL.out.1).mono ?_
  rintro e w5 ⟨rfl, hT, hb⟩
  have HB5 := Lib.hid (HB4.out.trans hb)
  have hs5 : w.heap.size + 1 ≤ w5.heap.size := Nat.le_trans hs4 hb.size
  obtain ⟨S5, hT5, hS5⟩ := hT
  obtain ⟨hl5, hk5, hlv5, hp5, hbx5, hb5⟩ := HIN.out w5 HB5.out
  obtain ⟨vals, hsl5, hels5⟩ := hk5
  have hvl5 : vals.length = bk := by obtain ⟨_, _, _, h, _⟩ := hsl5; have := HLN.out.2; omega
  have hsl5' := hsl5
  rw [HLN.out.2] at hsl5'
  have hone : ∀ u ∈ vals, u.oneCell' = true := vals_one (by rw [HLN.out.2]; exact hvl5) hels5
  generalize hr1 : (root L1 l1).1 = r1 at *
  generalize hL2 : (root L1 l1).2 = L2 at *
  have x0 := hbx5.cells.1
  have HT5 := Lib.hid (And.intro hT5 hS5)
  have HSL := Lib.hid hsl5'
  have HONE := Lib.hid hone
  have HHS : Hid (∀ A9 c9 w6, Appended (w5.alloc (.cells #[.slice LA b.length lc] 41)) w5.heap.size 41 1 (.slice (some ⟨w5.heap.size, 0, none⟩) 1 1) (1 + bk) ([.slice LA b.length lc] ++ vals) (.slice A9 (1 + bk) c9) w6 →
      Held w6 (fun k => k < w6.heap.size ∧ ¬ S5 k) w.heap.size a (1 + bk) l1 (b :: k1) A A9 PA c c9 pc (.slice LA b.length lc) ds i n r t ∧ Below w5.heap.size w5 w6) := Lib.hid fun A9 c9 w6 happ => held_start (A2 := A2) (c2 := c2) hS5 (Nat.lt_succ_self _) hs5 hl5 HLN.out.1 HLN.out.2 hvl5 hels5 hlv5 hp5 hbx5 happ
  have HBW := Lib.hid hb5
  obtain ⟨i0, hi0, hz0, hz1, hz2⟩ := info_parts info_sl
  clear hT5 hS5 hl5 hlv5 hp5 hbx5 hb5 hsl5 hels5 hvl5 hsl5' hone hb hL1 hr1 hL2
  go_wp2_with (at_builtin; refine wpList_append_sh _ rfl (.tmp 42) (.tmp 43) _ rfl w5.heap.size 41 i0 _ 1 24 Try.underlying22 hi0 hz0 hz1 hz2 rfl (by omega) (.slice (some ⟨w5.heap.size, 0, none⟩) 1 1) 1 [.slice LA b.length lc] rfl (own_lit w5 (Nat.le_refl _) _ _ (n := 1) rfl (by decide) rfl) (fun k => w.heap.size + 1 ≤ k) _ bk vals rfl (HSL.out.alloc _) HONE.out (by simp only [maxLen]; omega) (by omega) (by simp) ?_; intro A9 c9 w6 happ; have HHE := Lib.hid (HHS.out A9 c9 w6 happ); clear happ)
  obtain ⟨K, hK⟩ : ∃ K : Nat → Prop, K = (fun k => k < w6.heap.size ∧ ¬ S5 k) := ⟨_, rfl⟩
  have hTK : TK K p L2 w6 := by
    rw [hK]
    exact ⟨fun k hk => hk.1, S5, Tb.after HT5.out.1 HHE.out.2, fun k hk => ⟨fun h => h.2 hk, by have := HT5.out.2 k hk; have := HHE.out.2.size; omega⟩⟩
  have HKL : Hid (∀ k, k < w.heap.size → K k) := Lib.hid fun k hk => by
    rw [hK]
    exact ⟨by have := HHE.out.2.size; omega, fun h => by have := HT5.out.2 k h; omega⟩
  rw [← hK] at HHE
  have HBL : Hid (∀ W, Ch (fun k => ¬ K k) w6 W → Below w.heap.size w W) := Lib.hid fun W hc => (HBW.out.trans (HHE.out.2.mono HBW.out.size)).trans (hc.below (fun k hk hn => hn (HKL.out k hk)) (Nat.le_trans HBW.out.size HHE.out.2.size))
  have HTK := Lib.hid hTK
  clear hTK hK HHS HT5 HSL HONE x0 hi0 hz0 hz1 hz2
  go_loopw [46] (fun v wr => ∃ (k : Nat) (L : List Tx), k ≤ 1 + bk ∧ v = .int .i64 k ∧ TK K p L wr ∧ Has L l1 r1 ∧ Ch (fun k => ¬ K k) w6 wr) (fun v _ => 1 + bk - (intOf v).toNat)
  case atStart => exact ⟨0, L2, Nat.zero_le _, rfl, HTK.out, HST.out, Ch.refl _ _⟩
  case round =>
    obtain ⟨k, L, hk, rfl, hT, hH, hc⟩ := hrel
    by_cases hlt : k < 1 + bk
    · have hHe := HHE.out.1.ch hc
      have hnm : Ls wr (fun k => ¬ K k) (.slice A9 (b :: k1).length c9) (b :: k1) := by
        rw [hHe.lm]; exact hHe.names
      have hkx : k < (b :: k1).length := by rw [hHe.lm]; exact hlt
      obtain ⟨adx, Bx, dx, rfl, hcx, hx⟩ := hnm.at_ hkx
      have hxl := HXA.out _ (List.getElem_mem hkx)
      generalize hxe : (b :: k1)[k] = x at *
      have HLF := Lib.hid (leaf_tk hT (fun k => ¬ K k) (.slice Bx x.length dx) x.length x hx hxl)
      have HXL := Lib.hid hxl
      have HX : Hid (∀ W, Ch (fun k => ¬ K k) wr W → Sl W (fun k => ¬ K k) 1 (.slice Bx x.length dx) x.length (BVs x)) := Lib.hid fun W hcw => hx.ch hcw (fun _ _ h => h)
      have HHA := Lib.hid (has_add hH (leafB x))
      have HCR := Lib.hid hc
      have hk0 : (0 : Int) ≤ (k : Int) := by omega
      have hk1 : (k : Int) < 1 + (bk : Int) := by omega
      have hk2 : (k : Int) < ((1 + bk : Nat) : Int) := by omega
      clear hT hH hc hHe hnm hx hxl hxe hkx
      go_wp2_with fail
      refine HLF.out.mono ?_
      rintro e w8 ⟨rfl, hT8, hc8⟩
      have HT8 := Lib.hid hT8
      have HC8 := Lib.hid (HCR.out.trans hc8 (fun _ _ h => h))
      have HX8 : Hid (∀ W, Ch (fun k => ¬ K k) w8 W → Sl W (fun k => ¬ K k) 1 (.slice Bx x.length dx) x.length (BVs x)) := Lib.hid fun W hcw => HX.out W (hc8.trans hcw (fun _ _ h => h))
      clear hT8 hc8 HX HCR HLF hcx
      generalize add L (leafB x) = L3 at *
      generalize wr = wo at *
      go_wp2_with fail
      go_loopw [54] (fun v wr => ∃ j : Nat, j ≤ a ∧ v = .int .i64 j ∧ TK K p L3 wr ∧ Ch (fun k => ¬ K k) w8 wr) (fun v _ => a - (intOf v).toNat)
      case atStart => exact ⟨0, Nat.zero_le _, rfl, HT8.out, Ch.refl _ _⟩
      case round =>
        obtain ⟨j, hj, rfl, hTj, hcj⟩ := hrel
        by_cases hjl : j < a
        · have He := HHE.out.1.ch (HC8.out.trans hcj (fun _ _ h => h))
          have hla9 := He.la
          have hlv : Ls wr (fun k => ¬ K k) (.slice A l1.length c) l1 := by rw [He.la]; exact He.leaves
          have hjx : j < l1.length := by omega
          obtain ⟨adl, Bl, dl, rfl, hcl, hy⟩ := hlv.at_ hjx
          obtain ⟨_, _, _, x3, _, _⟩ := He.box.cells
          have hsx := HX8.out wr hcj
          have hLl := TK.len hTj
          have hV1 := verify_tk hTj (fun k => ¬ K k) (fun k => ¬ K k) (r1 : Int) j a PA pc ds.length ds (.slice Bx x.length dx) x rfl (by omega) He.proof HD63.out hsx HXL.out hdl
          have hvs : verify L3 r1 x j a ds = true → (x == l1[j]) = true := fun h => by
            rw [beq_iff_eq]
            exact verify_sound hLl HD63.out HHA.out hjx (by rw [hla9]; exact h)
          obtain ⟨hp1, hp2, hp3⟩ := verify_proved (x := x) hLl HHA.out hjx
          rw [hla9] at hp3
          have hpl : (prove L3 j l1).1.length ≤ 140737488355328 := by have := (prove_le l1 L3 j hLl).2.1; omega
          have HPV : Hid (∀ W, Below wr.heap.size wr W → _) := Lib.hid fun W hbw => prove_tk (hTj.after hbw) (i := j) hla9.symm (He.leaves.after hbw) (by omega) hjl HAL.out.1
          have HYW : Hid (∀ W, Ch (fun k => ¬ K k) wr W → W.cell? (adl.add j) = some (.slice Bl (l1[j]).length dl) ∧ Sl W (fun k => ¬ K k) 1 (.slice Bl (l1[j]).length dl) (l1[j]).length (BVs l1[j]) ∧ Sl W (fun k => ¬ K k) 1 (.slice Bx x.length dx) x.length (BVs x)) := Lib.hid fun W hcw => by
            have h2 := ((hlv.ch hcw (fun _ _ h => h)).at_ hjx)
            obtain ⟨ad2, B2, d2, e2, hc2, hs2⟩ := h2
            obtain rfl := Option.some.inj e2
            have hlow : K adl.block := by
              obtain ⟨vals3, ⟨A3, c3, hv3, _, _, _, hx3⟩, _⟩ := hlv
              obtain ⟨e1, _, _⟩ := Value.slice.inj hv3
              obtain ⟨ad3, hA3, _, hX3, _⟩ := hx3 (by omega)
              obtain rfl := Option.some.inj (e1.trans hA3)
              exact Classical.byContradiction hX3
            have e4 := hcw.cell hcl (by rw [add_block]; exact fun h => h hlow)
            exact ⟨e4, hy.ch hcw (fun _ _ h => h), hsx.ch hcw (fun _ _ h => h)⟩
          generalize hye : l1[j] = y at *
          rw [hp1] at HPV
          generalize hPe : (prove L3 j l1).1 = P at *
          have HPR := Lib.hid (And.intro hp2 (And.intro hp3 hpl))
          have HV1 := Lib.hid hV1
          have HVS := Lib.hid hvs
          have HCW := Lib.hid hcj
          have hj0 : (0 : Int) ≤ (j : Int) := by omega
          have hj1 : (j : Int) < (a : Int) := by omega
          have HEQ1 : Hid (∀ W, Below wr.heap.size wr W → Calls Try.prog 28 #[.slice Bx x.length dx, .slice Bl y.length dl] W fun e w' => e = .returned (.bool (x == y)) ∧ W = w') := Lib.hid fun W hbw =>
            Ca.equal_any W _ _ _ _ _ _ _ _ (HYW.out W (Ch.of_below (S := fun k => ¬ K k) hbw (Nat.le_refl _))).2.2 (HYW.out W (Ch.of_below (S := fun k => ¬ K k) hbw (Nat.le_refl _))).2.1
          generalize verify L3 r1 x j a ds = v1 at *
          clear hTj hcj He hlv hy hsx hLl hV1 hvs hp1 hp2 hp3 hpl hye hPe hla9
          go_wp2_with fail
          refine HV1.out.mono ?_
          rintro e w9 ⟨rfl, hb9⟩
          have HB9 := Lib.hid hb9
          have l9 := (HYW.out w9 (Ch.of_below (S := fun k => ¬ K k) hb9 (Nat.le_refl _))).1
          clear hb9
          rcases v1 with _ | _
          · focus
            go_wp2_with fail
            refine (HPV.out w9 HB9.out).mono ?_
            rintro e w10 ⟨A0, c0, rfl, hsl, hT10, hc10⟩
            have HT10 := Lib.hid hT10
            have HC10 := Lib.hid ((HCW.out.trans (Ch.of_below (S := fun k => ¬ K k) HB9.out (Nat.le_refl _)) (fun _ _ h => h)).trans hc10 (fun _ _ h => h))
            have HR10 := Lib.hid ((Ch.of_below (S := fun k => ¬ K k) HB9.out (Nat.le_refl _)).trans hc10 (fun _ _ h => h))
            have He10 := HHE.out.1.ch (HC8.out.trans HC10.out (fun _ _ h => h))
            have HSY : Hid (∀ W, Below w10.heap.size w10 W → W.cell? (adl.add j) = some (.slice Bl y.length dl) ∧ Sl W (fun k => ¬ K k) 1 (.slice Bl y.length dl) y.length (BVs y) ∧ Sl W (fun k => ¬ K k) 1 (.slice Bx x.length dx) x.length (BVs x)) := Lib.hid fun W hbw =>
              HYW.out W (HR10.out.trans (Ch.of_below (S := fun k => ¬ K k) hbw (Nat.le_refl _)) (fun _ _ h => h))
            have HVV := verify_tk (w := w10.drew) hT10 (fun _ => False) (fun k => ¬ K k) (r1 : Int) j a A0 c0 P.length (P.map fun z : Nat => (z : Int)) (.slice Bx x.length dx) x (by simp) (by omega) hsl (fun z hz => by
              obtain ⟨d, hd, rfl⟩ := List.mem_map.1 hz
              have := HPR.out.1 d hd
              omega) (HSY.out w10.drew (below_drewN (Below.refl _ w10) 1)).2.2 HXL.out HPR.out.2.2
            rw [HPR.out.2.1] at HVV
            have HVV := Lib.hid HVV
            have l10 := (HSY.out w10 (Below.refl _ _)).1
            have HEQ2 : Hid (∀ W, Below w10.heap.size w10 W → Calls Try.prog 28 #[.slice Bx x.length dx, .slice Bl y.length dl] W fun e w' => e = .returned (.bool (x == y)) ∧ W = w') := Lib.hid fun W hbw =>
              Ca.equal_any W _ _ _ _ _ _ _ _ (HSY.out W hbw).2.2 (HSY.out W hbw).2.1
            generalize (x == y) = s at *
            clear hsl hT10 hc10 He10
            go_wp2_with fail
            go_region_held3 (fun w' => w'.cell? (adl.add j) = some (.slice Bl y.length dl)) (first | exact l10 | exact l11)
              (first
                | (go_at_call 26; refine HVV.out.mono ?_; rintro e w11 ⟨rfl, hb11⟩; have hb11 : Below w10.heap.size w10 w11 := ⟨hb11.os, hb11.tape, hb11.output, hb11.size, hb11.block⟩; have l11 := (HSY.out w11 hb11).1; have HE11 := Lib.hid (HEQ2.out w11 hb11); have HB11 := Lib.hid hb11; clear hb11)
                | (go_at_call 28; refine HE11.out.mono ?_; rintro e w12 ⟨rfl, rfl⟩))
            all_goals
              go_wp2_with fail
              go_roundw
              case rel => exact ⟨j + 1, by omega, by go_num, HT10.out.after HB11.out, HC10.out.trans (Ch.of_below (S := fun k => ¬ K k) HB11.out (Nat.le_refl _)) (fun _ _ h => h)⟩
              case measure => simp [intOf]; omega
          · focus
            have hq := HEQ1.out w9 HB9.out
            rw [HVS.out rfl] at hq
            have HQ := Lib.hid hq
            clear hq
            go_wp2_with fail
            refine HQ.out.mono ?_
            rintro e w12 ⟨rfl, rfl⟩
            go_wp2_with fail
            refine (HPV.out w9 HB9.out).mono ?_
            rintro e w10 ⟨A0, c0, rfl, hsl, hT10, hc10⟩
            have HT10 := Lib.hid hT10
            have HC10 := Lib.hid ((HCW.out.trans (Ch.of_below (S := fun k => ¬ K k) HB9.out (Nat.le_refl _)) (fun _ _ h => h)).trans hc10 (fun _ _ h => h))
            have HR10 := Lib.hid ((Ch.of_below (S := fun k => ¬ K k) HB9.out (Nat.le_refl _)).trans hc10 (fun _ _ h => h))
            have He10 := HHE.out.1.ch (HC8.out.trans HC10.out (fun _ _ h => h))
            have HSY : Hid (∀ W, Below w10.heap.size w10 W → W.cell? (adl.add j) = some (.slice Bl y.length dl) ∧ Sl W (fun k => ¬ K k) 1 (.slice Bl y.length dl) y.length (BVs y) ∧ Sl W (fun k => ¬ K k) 1 (.slice Bx x.length dx) x.length (BVs x)) := Lib.hid fun W hbw =>
              HYW.out W (HR10.out.trans (Ch.of_below (S := fun k => ¬ K k) hbw (Nat.le_refl _)) (fun _ _ h => h))
            have HVV := verify_tk (w := w10.drew) hT10 (fun _ => False) (fun k => ¬ K k) (r1 : Int) j a A0 c0 P.length (P.map fun z : Nat => (z : Int)) (.slice Bx x.length dx) x (by simp) (by omega) hsl (fun z hz => by
              obtain ⟨d, hd, rfl⟩ := List.mem_map.1 hz
              have := HPR.out.1 d hd
              omega) (HSY.out w10.drew (below_drewN (Below.refl _ w10) 1)).2.2 HXL.out HPR.out.2.2
            rw [HPR.out.2.1] at HVV
            have HVV := Lib.hid HVV
            have l10 := (HSY.out w10 (Below.refl _ _)).1
            have HEQ2 : Hid (∀ W, Below w10.heap.size w10 W → Calls Try.prog 28 #[.slice Bx x.length dx, .slice Bl y.length dl] W fun e w' => e = .returned (.bool (x == y)) ∧ W = w') := Lib.hid fun W hbw =>
              Ca.equal_any W _ _ _ _ _ _ _ _ (HSY.out W hbw).2.2 (HSY.out W hbw).2.1
            generalize (x == y) = s at *
            clear hsl hT10 hc10 He10
            go_wp2_with fail
            go_region_held3 (fun w' => w'.cell? (adl.add j) = some (.slice Bl y.length dl)) (first | exact l10 | exact l11)
              (first
                | (go_at_call 26; refine HVV.out.mono ?_; rintro e w11 ⟨rfl, hb11⟩; have hb11 : Below w10.heap.size w10 w11 := ⟨hb11.os, hb11.tape, hb11.output, hb11.size, hb11.block⟩; have l11 := (HSY.out w11 hb11).1; have HE11 := Lib.hid (HEQ2.out w11 hb11); have HB11 := Lib.hid hb11; clear hb11)
                | (go_at_call 28; refine HE11.out.mono ?_; rintro e w12 ⟨rfl, rfl⟩))
            all_goals
              go_wp2_with fail
              go_roundw
              case rel => exact ⟨j + 1, by omega, by go_num, HT10.out.after HB11.out, HC10.out.trans (Ch.of_below (S := fun k => ¬ K k) HB11.out (Nat.le_refl _)) (fun _ _ h => h)⟩
              case measure => simp [intOf]; omega
        · have hje : j = a := by omega
          have HTJ := Lib.hid hTj
          have HCJ := Lib.hid (HC8.out.trans hcj (fun _ _ h => h))
          clear hTj hcj
          go_wp2_with fail
          go_roundw
          case rel => exact ⟨k + 1, L3, by omega, by go_num, HTJ.out, HHA.out, HCJ.out⟩
          case measure => simp [intOf]; omega
    · have HF := Lib.hid (HBL.out wr hc)
      clear hT hH hc
      go_wp2_with fail
      go_ret
      exact ⟨rfl, HF.out⟩

end Go.Proofs.Ytepdajhgfdjklaa.Ng

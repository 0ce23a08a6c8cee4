/-
  The walk of the statement MerkleVerifies.
-/
import Derived.Test.YtepdajhgfdjklaaNa
namespace Go.Proofs.Ytepdajhgfdjklaa.Nj
open Go Go.RowKit Ck Im Ik Ia Ib Ic Ig Ih Ij Mm Ma Mb Mc Md Pr Me Mf Mg Mh Mi Mj Ml Mk Na
attribute [local go_sem ↓] Go.wp_at_zero Go.wp_at_succ
set_option linter.unusedVariables false

/-- A call that changes the left one: what its blocks are is known. -/
theorem Two.call2 {K : Nat → Prop} {w : World} {P P' Q : World → (Nat → Prop) → Prop} {pg : Program} {f : FuncId} {args : Array Value} {R : Ending → Prop} (h : Two K w P Q) (hQ : Stable Q) (hc : ∀ S, P w S → Own K w S → Calls pg f args w fun e w' => R e ∧ P' w' (Up S w w') ∧ Ch S w w') :
    Calls pg f args w fun e w' => R e ∧ Two K w' P' Q ∧ Ch (fun k => ¬ K k) w w' := by
  obtain ⟨hK, S, T, h1, h2, h3, h4, h5⟩ := h
  refine (hc S h1 h3).mono fun e w' ⟨he, hP, c⟩ => ⟨he, ⟨fun k hk => Nat.lt_of_lt_of_le (hK k hk) c.size, Up S w w', T, hP, hQ _ _ _ _ h2 c (fun k a b => h5 k b a), h3.up c.size hK, h4.later c.size, up_apart h5 h4⟩, ch_own c h3⟩
theorem Two.callr2 {K : Nat → Prop} {w : World} {P Q Q' : World → (Nat → Prop) → Prop} {pg : Program} {f : FuncId} {args : Array Value} {R : Ending → Prop} (h : Two K w P Q) (hP : Stable P) (hc : ∀ S, Q w S → Own K w S → Calls pg f args w fun e w' => R e ∧ Q' w' (Up S w w') ∧ Ch S w w') :
    Calls pg f args w fun e w' => R e ∧ Two K w' P Q' ∧ Ch (fun k => ¬ K k) w w' :=
  (Two.call2 h.swap hP hc).mono fun _ _ ⟨a, b, c⟩ => ⟨a, b.swap, c⟩
/-- A change of others' blocks alone. -/
theorem two_ch {K T' : Nat → Prop} {w w' : World} {P Q : World → (Nat → Prop) → Prop} (h : Two K w P Q) (hP : Stable P) (hQ : Stable Q) (c : Ch T' w w') (hT : ∀ k, T' k → K k) : Two K w' P Q := by
  obtain ⟨hK, S, T, h1, h2, h3, h4, h5⟩ := h
  exact ⟨fun k hk => Nat.lt_of_lt_of_le (hK k hk) c.size, S, T, hP _ _ _ _ h1 c (fun k hk ht => (h3 k hk).1 (hT k ht)), hQ _ _ _ _ h2 c (fun k hk ht => (h4 k hk).1 (hT k ht)), h3.later c.size, h4.later c.size, h5⟩
theorem root_two {w : World} {B p q : Nat} {L L2 : List Tx} {A : Option Addr} {c n : Nat} {ls : List Tx} (hn : n = ls.length) (h : Two (fun k => k < B) w (TG p L) (RF q L2)) (hls : Ls w (fun k => B ≤ k) (.slice A n c) ls) (hbig : n ≤ 1000000) (hall : ∀ x ∈ ls, x.length ≤ 140737488355327) :
    Calls Try.prog 12 #[.pointer (some ⟨p, 0, none⟩), .slice A n c] w fun e w' => e = .returned (.int .i64 ((root L ls).1 : Int)) ∧ Two (fun k => k < B) w' (TG p (root L ls).2) (RF q L2) ∧ Ch (fun k => ¬ k < B) w w' := by
  subst hn
  exact Two.call2 h (rf_stable _ _) (R := fun e => e = .returned (.int .i64 ((root L ls).1 : Int))) (fun S hS ho => root_any w S (fun k => B ≤ k) p L A c ls (by omega) hS (fun k hk => (ho k hk).2) hls (fun k hk => Nat.le_of_not_lt (ho k hk).1) hall)
theorem rroot_two {w : World} {B p q : Nat} {L L2 : List Tx} {A : Option Addr} {c n : Nat} {ls : List Tx} (hn : n = ls.length) (h : Two (fun k => k < B) w (TG p L) (RF q L2)) (hls : Ls w (fun k => B ≤ k) (.slice A n c) ls) (hbig : n ≤ 1000000) (hall : ∀ x ∈ ls, x.length ≤ 140737488355327) :
    Calls Try.prog 13 #[.pointer (some ⟨q, 0, none⟩), .slice A n c] w fun e w' => e = .returned (.int .i64 ((root L2 ls).1 : Int)) ∧ Two (fun k => k < B) w' (TG p L) (RF q (root L2 ls).2) ∧ Ch (fun k => ¬ k < B) w w' := by
  subst hn
  exact Two.callr2 h (tg_stable _ _) (R := fun e => e = .returned (.int .i64 ((root L2 ls).1 : Int))) (fun S hS ho => rroot_any ls.length w S (fun k => B ≤ k) q L2 A c ls (Nat.le_refl _) (by omega) hS hls (fun k hk => Nat.le_of_not_lt (ho k hk).1) hall)
theorem ls_low {w : World} {B B' : Nat} {v : Value} {ls : List Tx} (h : Ls w (fun k => B ≤ k) v ls) (hB : B ≤ B') : Ls w (fun k => B' ≤ k) v ls := h.weaken (fun k _ hk => Nat.le_trans hB hk)
theorem cut_min2 (ls : List Tx) : ∃ k : Nat, min (ls.length : Int) 40 = (k : Int) ∧ k ≤ ls.length ∧ k ≤ 40 ∧ (cut40 ls).length = k := ⟨min ls.length 40, by omega, by omega, by omega, cut40_len ls⟩
/-- A claim in a box. -/
def Box (w : World) (g : Nat) (lv pv : Value) (i n r : Int) (t : Bool) : Prop := Blk w g 52 #[lv, .int .i64 i, .int .i64 n, pv, .int .i64 r, .bool t]
theorem Box.cells {w : World} {g : Nat} {lv pv : Value} {i n r : Int} {t : Bool} (h : Box w g lv pv i n r t) : w.cell? ⟨g, 0, none⟩ = some lv ∧ w.cell? ⟨g, 1, none⟩ = some (.int .i64 i) ∧ w.cell? ⟨g, 2, none⟩ = some (.int .i64 n) ∧ w.cell? ⟨g, 3, none⟩ = some pv ∧ w.cell? ⟨g, 4, none⟩ = some (.int .i64 r) ∧ w.cell? ⟨g, 5, none⟩ = some (.bool t) :=
  ⟨Blk.cell h 0, Blk.cell h 1, Blk.cell h 2, Blk.cell h 3, Blk.cell h 4, Blk.cell h 5⟩
theorem Box.low {w w' : World} {g B : Nat} {lv pv : Value} {i n r : Int} {t : Bool} (h : Box w g lv pv i n r t) (b : Below B w w') (hg : g < B) : Box w' g lv pv i n r t := Blk.below h b hg
theorem Box.after {w w' : World} {g : Nat} {lv pv : Value} {i n r : Int} {t : Bool} (h : Box w g lv pv i n r t) (b : Below w.heap.size w w') : Box w' g lv pv i n r t := Blk.below h b h.lt
theorem Box.set4 {w : World} {g : Nat} {lv pv : Value} {i n r : Int} {t : Bool} (h : Box w g lv pv i n r t) (r' : Int) : Box (w.setCell ⟨g, 4, none⟩ (.int .i64 r')) g lv pv i n r' t := by
  have := Blk.set_ h 4 (.int .i64 r')
  simpa [Box] using this

set_option maxRecDepth 100000 in
set_option maxHeartbeats 4000000 in
theorem verifies_any (w : World) (A : Option Addr) (c : Nat) (ls : List Tx) (LA PA : Option Addr) (lc pc : Nat) (b : Tx) (ds : List Int) (i n r : Int) (t : Bool) (hls : Ls w (fun k => w.heap.size ≤ k) (.slice A ls.length c) ls)
    (hl : ls.length ≤ 9007199254740992) (hla : ∀ x ∈ ls, x.length ≤ 140737488351232) (hb : Sl w (fun k => w.heap.size ≤ k) 1 (.slice LA b.length lc) b.length (BVs b)) (hbl : b.length ≤ 140737488351232)
    (hd : Sl w (fun k => w.heap.size ≤ k) 1 (.slice PA ds.length pc) ds.length (IVs ds)) (hdl : ds.length ≤ 140737488355328) (hd63 : ∀ x ∈ ds, x ≤ 9223372036854775807) (hn : n ≤ 9223372036854775807) :
    Calls Try.prog 5 #[.slice A ls.length c, .agg #[.slice LA b.length lc, .int .i64 i, .int .i64 n, .slice PA ds.length pc, .int .i64 r, .bool t]] w fun e w' => e = .returned (.bool true) ∧ Below w.heap.size w w' := by
  obtain ⟨a, ha1, ha2, ha3, ha4⟩ := cut_min2 ls
  have hca := (Ls.cap hls).2
  have ra := cut_upto A ls.length c a (by omega)
  have hl1 := cut40_ls hls
  rw [ha4] at hl1
  have HL := Lib.hid (And.intro (ls_low hl1 (Nat.le_succ _)) (show ∀ x ∈ cut40 ls, x.length ≤ 140737488355327 from fun x hx => Nat.le_trans (cut40_all hla x hx) (by omega)))
  generalize hg1 : cut40 ls = l1 at *
  have HLN := Lib.hid ha4
  have hbox : Box (w.alloc (.cells #[.slice LA b.length lc, .int .i64 i, .int .i64 n, .slice PA ds.length pc, .int .i64 r, .bool t] 52)) w.heap.size (.slice LA b.length lc) (.slice PA ds.length pc) i n r t := Blk.new _ _ _
  have b0 : Below w.heap.size w (w.alloc (.cells #[.slice LA b.length lc, .int .i64 i, .int .i64 n, .slice PA ds.length pc, .int .i64 r, .bool t] 52)) := (Below.refl _ w).alloc (Nat.le_refl _) _
  have HBX := Lib.hid hbox
  have HB0 := Lib.hid b0
  have HARG := Lib.hid (And.intro hb (And.intro hd (And.intro hd63 (show b.length ≤ 140737488355327 by omega))))
  have hs0 : (w.alloc (.cells #[.slice LA b.length lc, .int .i64 i, .int .i64 n, .slice PA ds.length pc, .int .i64 r, .bool t] 52)).heap.size = w.heap.size + 1 := by simp
  have HS0 := Lib.hid hs0
  have HLB : Hid (∀ W, Below w.heap.size w W → Ls W (fun k => w.heap.size + 1 ≤ k) (.slice A a c) l1) := Lib.hid fun W hb => by
    have h := hl1.below hb (fun k _ h => h)
    exact ls_low h (Nat.le_succ _)
  clear hls hla hl1 hg1 ha4 hbox b0 hb hd hd63 hs0
  go_enter Try.func5, Try.ntmps5
  go_wp2_with fail
  refine (live_any _).mono ?_
  rintro e w1 ⟨rfl, hb⟩
  rw [HS0.out] at hb
  have HB1 := Lib.hid hb
  have hs1 : w.heap.size + 1 ≤ w1.heap.size := by have := hb.size; rw [HS0.out] at this; exact this
  clear hb
  go_wp2_with fail
  refine (tables_nil w1 (w.heap.size + 1) hs1).mono ?_
  rintro e w3 ⟨p, q, rfl, hT, hb⟩
  have HB3 := Lib.hid (HB1.out.trans hb)
  have HC := Lib.hid (root_two HLN.out.symm hT (HLB.out w3 (HB0.out.trans (HB3.out.mono (Nat.le_succ _)))) (by omega) HL.out.2)
  clear hT hb
  go_wp2_with fail
  refine HC.out.mono ?_
  rintro e w4 ⟨rfl, hT, hc⟩
  have HB4 := Lib.hid (HB3.out.trans (hc.below (fun k hk hn => hn hk) (by have h3 := HB3.out.size; rw [HS0.out] at h3; exact h3)))
  have HD := Lib.hid (rroot_two HLN.out.symm hT (HLB.out w4 (HB0.out.trans (HB4.out.mono (Nat.le_succ _)))) (by omega) HL.out.2)
  clear hT hc
  generalize hR : (root [] l1).2 = R at *
  generalize hr1 : (root [] l1).1 = r1 at *
  clear hR hr1
  go_wp2_with fail
  refine HD.out.mono ?_
  rintro e w5 ⟨rfl, hT, hc⟩
  have HB5 := Lib.hid (HB4.out.trans (hc.below (fun k hk hn => hn hk) (by have h3 := HB4.out.size; rw [HS0.out] at h3; exact h3)))
  have HT5 := Lib.hid hT
  have HX5 := Lib.hid (HBX.out.low HB5.out (Nat.lt_succ_self _))
  have k5 := HX5.out.cells.2.2.2.2.2
  have k4 := HX5.out.cells.2.2.2.2.1
  have f4 := Blk.frozen HX5.out 4
  clear hT hc HC HD
  rcases t with _ | _
  · focus
    have HT6 := Lib.hid (HT5.out)
    have HX6 : Hid (Box w5 w.heap.size (.slice LA b.length lc) (.slice PA ds.length pc) i n r false) := Lib.hid (HX5.out)
    have HB6 : Hid (Below w.heap.size w w5) := Lib.hid (HB0.out.trans (HB5.out.mono (Nat.le_succ _)))
    go_wp2_with fail
    clear k4 k5 f4
    obtain ⟨S1, hT1, _⟩ := HT6.out.left
    obtain ⟨S2, hR1, _⟩ := HT6.out.right
    have HN := Lib.hid (len_yes w5 S1 p R hT1)
    refine HN.out.mono ?_
    rintro e w' ⟨rfl, rfl⟩
    obtain ⟨x0, x1, x2, x3, x4, _⟩ := HX6.out.cells
    have HVE := Lib.hid (verify_any w5.drew S1 (fun k => w.heap.size ≤ k) (fun k => w.heap.size ≤ k) p R r i n PA pc ds (.slice LA b.length lc) b hn hT1 (HARG.out.2.1.below (below_drewN HB6.out 1) (fun k _ h => h)) HARG.out.2.2.1 (HARG.out.1.below (below_drewN HB6.out 1) (fun k _ h => h)) HARG.out.2.2.2 hdl)
    have HRV : Hid (∀ W', Below w5.heap.size w5 W' → Calls Try.prog 27 #[.pointer (some ⟨q, 0, none⟩), .int .i64 r, .slice LA b.length lc, .int .i64 i, .int .i64 n, .slice PA ds.length pc] W' fun e w' => e = .returned (.bool (verify R r b i n ds)) ∧ Below W'.heap.size W' w') := Lib.hid fun W' hb =>
      rverify_any W' S2 (fun k => w.heap.size ≤ k) (fun k => w.heap.size ≤ k) q R r i n PA pc ds (.slice LA b.length lc) b hn (Rf.after hR1 hb) (HARG.out.2.1.below (HB6.out.trans (hb.mono HB6.out.size)) (fun k _ h => h)) HARG.out.2.2.1 (HARG.out.1.below (HB6.out.trans (hb.mono HB6.out.size)) (fun k _ h => h)) HARG.out.2.2.2 hdl
    have HT1 := Lib.hid hT1
    generalize verify R r b i n ds = vv at *
    clear hT1 hR1
    go_wp2_with fail
    go_region_held3 (fun w' => w'.cell? ⟨w.heap.size, 0, none⟩ = some (.slice LA b.length lc) ∧ w'.cell? ⟨w.heap.size, 1, none⟩ = some (.int .i64 i) ∧ w'.cell? ⟨w.heap.size, 2, none⟩ = some (.int .i64 n) ∧ w'.cell? ⟨w.heap.size, 3, none⟩ = some (.slice PA ds.length pc) ∧ w'.cell? ⟨w.heap.size, 4, none⟩ = some (.int .i64 r)) (first | exact ⟨x0, x1, x2, x3, x4⟩ | exact ⟨y0, y1, y2, y3, y4⟩ | exact ⟨z0, z1, z2, z3, z4⟩)
      (first
        | (go_at_call 26; refine HVE.out.mono ?_; rintro e w7 ⟨rfl, hb7⟩; have hb7 : Below w5.heap.size w5 w7 := ⟨hb7.os, hb7.tape, hb7.output, hb7.size, hb7.block⟩; obtain ⟨y0, y1, y2, y3, y4, _⟩ := (HX6.out.after hb7).cells; have HB7 := Lib.hid hb7; clear hb7)
        | (go_at_call 27; refine (HRV.out _ HB7.out).mono ?_; rintro e w8 ⟨rfl, hb8⟩; have hb8 := below_tr HB7.out hb8; obtain ⟨z0, z1, z2, z3, z4, _⟩ := (HX6.out.after hb8).cells; have HB8 := Lib.hid hb8; have HLN8 := Lib.hid (len_yes w8 S1 p R (Tb.after HT1.out hb8)); clear hb8)
        | (go_at_call 17; refine HLN8.out.mono ?_; rintro e w9 ⟨rfl, rfl⟩))
    all_goals
      go_wp2_with fail
      go_ret
      exact ⟨rfl, HB6.out.trans (HB8.out.mono HB6.out.size)⟩
  · focus
    have HT6 := Lib.hid (two_ch HT5.out (tg_stable _ _) (rf_stable _ _) ((Ch.refl (fun k => k = w.heap.size) w5).setCell (p := ⟨w.heap.size, 4, none⟩) (fun _ => rfl) (.int .i64 (r1 : Int))) (fun k hk => by subst hk; exact Nat.lt_succ_self _))
    have HX6 : Hid (Box (w5.setCell ⟨w.heap.size, 4, none⟩ (.int .i64 (r1 : Int))) w.heap.size (.slice LA b.length lc) (.slice PA ds.length pc) i n (r1 : Int) true) := Lib.hid (HX5.out.set4 (r1 : Int))
    have HB6 : Hid (Below w.heap.size w (w5.setCell ⟨w.heap.size, 4, none⟩ (.int .i64 (r1 : Int)))) := Lib.hid ((HB0.out.trans (HB5.out.mono (Nat.le_succ _))).setCell (Nat.le_refl _) _)
    go_wp2_with fail
    clear k4 k5 f4
    generalize (w5.setCell ⟨w.heap.size, 4, none⟩ (.int .i64 (r1 : Int))) = w6 at *
    obtain ⟨S1, hT1, _⟩ := HT6.out.left
    obtain ⟨S2, hR1, _⟩ := HT6.out.right
    have HN := Lib.hid (len_yes w6 S1 p R hT1)
    refine HN.out.mono ?_
    rintro e w' ⟨rfl, rfl⟩
    obtain ⟨x0, x1, x2, x3, x4, _⟩ := HX6.out.cells
    have HVE := Lib.hid (verify_any w6.drew S1 (fun k => w.heap.size ≤ k) (fun k => w.heap.size ≤ k) p R (r1 : Int) i n PA pc ds (.slice LA b.length lc) b hn hT1 (HARG.out.2.1.below (below_drewN HB6.out 1) (fun k _ h => h)) HARG.out.2.2.1 (HARG.out.1.below (below_drewN HB6.out 1) (fun k _ h => h)) HARG.out.2.2.2 hdl)
    have HRV : Hid (∀ W', Below w6.heap.size w6 W' → Calls Try.prog 27 #[.pointer (some ⟨q, 0, none⟩), .int .i64 (r1 : Int), .slice LA b.length lc, .int .i64 i, .int .i64 n, .slice PA ds.length pc] W' fun e w' => e = .returned (.bool (verify R (r1 : Int) b i n ds)) ∧ Below W'.heap.size W' w') := Lib.hid fun W' hb =>
      rverify_any W' S2 (fun k => w.heap.size ≤ k) (fun k => w.heap.size ≤ k) q R (r1 : Int) i n PA pc ds (.slice LA b.length lc) b hn (Rf.after hR1 hb) (HARG.out.2.1.below (HB6.out.trans (hb.mono HB6.out.size)) (fun k _ h => h)) HARG.out.2.2.1 (HARG.out.1.below (HB6.out.trans (hb.mono HB6.out.size)) (fun k _ h => h)) HARG.out.2.2.2 hdl
    have HT1 := Lib.hid hT1
    generalize verify R (r1 : Int) b i n ds = vv at *
    clear hT1 hR1
    go_wp2_with fail
    go_region_held3 (fun w' => w'.cell? ⟨w.heap.size, 0, none⟩ = some (.slice LA b.length lc) ∧ w'.cell? ⟨w.heap.size, 1, none⟩ = some (.int .i64 i) ∧ w'.cell? ⟨w.heap.size, 2, none⟩ = some (.int .i64 n) ∧ w'.cell? ⟨w.heap.size, 3, none⟩ = some (.slice PA ds.length pc) ∧ w'.cell? ⟨w.heap.size, 4, none⟩ = some (.int .i64 (r1 : Int))) (first | exact ⟨x0, x1, x2, x3, x4⟩ | exact ⟨y0, y1, y2, y3, y4⟩ | exact ⟨z0, z1, z2, z3, z4⟩)
      (first
        | (go_at_call 26; refine HVE.out.mono ?_; rintro e w7 ⟨rfl, hb7⟩; have hb7 : Below w6.heap.size w6 w7 := ⟨hb7.os, hb7.tape, hb7.output, hb7.size, hb7.block⟩; obtain ⟨y0, y1, y2, y3, y4, _⟩ := (HX6.out.after hb7).cells; have HB7 := Lib.hid hb7; clear hb7)
        | (go_at_call 27; refine (HRV.out _ HB7.out).mono ?_; rintro e w8 ⟨rfl, hb8⟩; have hb8 := below_tr HB7.out hb8; obtain ⟨z0, z1, z2, z3, z4, _⟩ := (HX6.out.after hb8).cells; have HB8 := Lib.hid hb8; have HLN8 := Lib.hid (len_yes w8 S1 p R (Tb.after HT1.out hb8)); clear hb8)
        | (go_at_call 17; refine HLN8.out.mono ?_; rintro e w9 ⟨rfl, rfl⟩))
    all_goals
      go_wp2_with fail
      go_ret
      exact ⟨rfl, HB6.out.trans (HB8.out.mono HB6.out.size)⟩

end Go.Proofs.Ytepdajhgfdjklaa.Nj

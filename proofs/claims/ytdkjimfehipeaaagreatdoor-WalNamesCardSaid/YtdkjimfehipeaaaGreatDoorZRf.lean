import Derived.Test.YtdkjimfehipeaaaGreatDoorZRe
/-
  Contracts of the document's disk: Remove, Create.
-/
namespace Go.Proofs.YtdkjimfehipeaaaGreatDoor.Rf
open Go Go.RowKit Go.Maps Ck Kw Ga Dm Dw Da Db Dc Dd De Df Dg Dh Di Ra Rb Rc Rd Re
attribute [local go_sem ↓] Go.wp_at_zero Go.wp_at_succ
set_option linter.unusedVariables false

/-- Go's order of strings is that of lists of bytes. -/
theorem less_eq (x y : List UInt8) : Op.bytesLess x y = decide (x < y) := by
  induction x generalizing y with
  | nil => cases y <;> simp [Op.bytesLess]
  | cons a x ih =>
    cases y with
    | nil => simp [Op.bytesLess]
    | cons b y =>
      rw [Op.bytesLess, ih y]
      by_cases hl : a < b
      · simp [List.cons_lt_cons_iff, hl]
      · by_cases he : a = b
        · subst he
          simp
        · simp [List.cons_lt_cons_iff, hl, he]

theorem info_file : (Tryz.prog.info? 153).map (fun i => (i.zero, i.size, i.bytes)) = some (some (.agg #[.string ⟨#[]⟩, .slice none 0 0, .int .i64 0]), 3, 48) := by kernel_rfl
theorem fslice_from (A : Option Addr) (n c k : Nat) (hk : k ≤ n) (hc : n ≤ c) : ∃ A', (∀ W : World, (Instr.slice 112 (.slice A n c) (some (.int .i64 (k : Int))) none none).run Tryz.prog W = .ok (.slice A' (n - k) (c - k)) W) ∧ (∀ ad, A = some ad → k < n → A' = some (ad.add (k * 3))) := by
  have he : ∀ W : World, (sizeOf (Tryz.prog.elem 112)).run Tryz.prog W = .ok 3 W := fun _ => by kernel_rfl
  refine ⟨if c = k then A else A.map (·.add (k * 3)), fun W => ?_, ?_⟩
  · rw [run_slice_l W 112 A n c (by kernel_rfl) .i64 k (by omega) (by omega), he]
    rfl
  · rintro ad rfl hlt
    rw [if_neg (by omega)]
    rfl
theorem fslice_upto (A : Option Addr) (n c k : Nat) (hk : k ≤ c) (W : World) : (Instr.slice 112 (.slice A n c) none (some (.int .i64 (k : Int))) none).run Tryz.prog W = .ok (.slice A k c) W := by
  have he : ∀ W : World, (sizeOf (Tryz.prog.elem 112)).run Tryz.prog W = .ok 3 W := fun _ => by kernel_rfl
  rw [run_slice_h W 112 A n c (by kernel_rfl) .i64 k (by omega) (by omega), he]
  simp only [Result.andThen_ok, sliced, Int.toNat_natCast]
  congr 2
  by_cases h0 : c = 0
  · simp [h0]
  · cases A <;> simp [h0, Addr.add]

theorem FCs_one {w : World} {S : Nat → Prop} {q most : Nat} {l : List (Fl × Value)} {down : Bool} {lv : Value} (h : RParts w S q l most down lv) : ∀ u ∈ FCs l, u.oneCell' = true := by
  intro u hu
  obtain ⟨x, hx, hux⟩ := List.mem_flatMap.1 hu
  simp only [FC, List.mem_cons, List.not_mem_nil, or_false] at hux
  rcases hux with rfl | rfl | rfl
  · rfl
  · obtain ⟨A, c, e, _⟩ := h.bytes x hx
    rw [e]
    rfl
  · rfl
/-- What a call leaves that may lay a new row of files: of the old blocks only the disk's own has turned. -/
def RNew (S : Nat → Prop) (q : Nat) (r : List Fl × Nat) (most : Nat) (down : Bool) (w : World) (e : Ending) (w' : World) : Prop :=
  e = .returned (.int .i64 (r.2 : Int)) ∧ (∃ l' lv', l'.map (·.1) = r.1 ∧ RParts w' (Up S w w') q l' most down lv' ∧ (r.2 = 0 → ∀ k, lv'.ownBlock = some k → w.heap.size ≤ k)) ∧ S q ∧ Ch (fun k => k = q) w w'
theorem RNew.did {S : Nat → Prop} {q : Nat} {r : List Fl × Nat} {most : Nat} {down : Bool} {w w' : World} {e : Ending} (h : RNew S q r most down w e w') : RDid S q r most down w e w' := by
  obtain ⟨h1, ⟨l', lv', h2, h3, _⟩, h5, h4⟩ := h
  exact ⟨h1, ⟨l', lv', h2, h3⟩, h4.mono (fun k _ hk => by rw [hk]; exact h5)⟩
theorem rnew_refl {S : Nat → Prop} {q : Nat} {L : List Fl} {c most : Nat} {down : Bool} {w : World} (h : Rk w S q L most down) (hc : c ≠ 0) : RNew S q (L, c) most down w (.returned (.int .i64 (c : Int))) w := by
  obtain ⟨l, lv, e, hP⟩ := h
  exact ⟨rfl, ⟨l, lv, e, hP.weaken (fun k hk => .inl hk), fun h => absurd h hc⟩, hP.sq, Ch.refl _ _⟩
/-- A new row of files has been stored. -/
theorem rk_newrow {w W : World} {S : Nat → Prop} {q most base : Nat} {l l' : List (Fl × Value)} {down : Bool} {lv lv' : Value} (h : RParts w S q l most down lv) (hb : Below w.heap.size w W) (hbase : w.heap.size ≤ base) (ho : W.ownsRow base 153 3 lv' l'.length (FCs l'))
    (hx : ∀ x ∈ l', x ∈ l ∨ (x.2 = .slice none 0 0 ∧ x.1.b = [])) (hg : GoodL (l'.map (·.1)) most) :
    RNew S q (l'.map (·.1), 0) most down w (.returned (.int .i64 0)) (W.setCell ⟨q, 0, none⟩ lv') := by
  have hql := h.blk.lt
  have hc : Ch (fun k => k = q) W (W.setCell ⟨q, 0, none⟩ lv') := (Ch.refl (fun k => k = q) W).setCell (p := ⟨q, 0, none⟩) (fun _ => rfl) _
  have hs := hb.size
  have hs2 := hc.size
  refine ⟨rfl, ⟨l', lv', rfl, ⟨(h.later hb).blk.set_ 0 _, own_base (own_ch ho hc (fun k hk e => by have := (ho.lt k hk).1; omega)) (Nat.zero_le _), .inl h.sq, fun k hk => .inr ⟨by have := (ho.lt k hk).1; omega, by have := (ho.lt k hk).2; omega⟩, fun x hx' => ?_, hg⟩, fun _ k hk => Nat.le_trans hbase (ho.lt k hk).1⟩,
    h.sq, (Ch.of_below hb (Nat.le_refl _)).trans hc (fun _ _ h => h)⟩
  rcases hx x hx' with hxl | ⟨e1, e2⟩
  · have h1 := (h.bytes x hxl).weaken (Y := fun k => ¬ Up S w (W.setCell ⟨q, 0, none⟩ lv') k ∨ k = q ∨ lv'.ownBlock = some k) (fun k hk hy => by
      rcases hy with hy | hy | hy
      · exact .inl (fun hs => hy (.inl hs))
      · exact .inr (.inl hy)
      · have := (ho.lt k hy).1
        omega)
    exact (h1.after hb).ch hc (fun k _ e => .inr (.inl e))
  · rw [e1, e2]
    exact Sl.nil _ _ _

theorem erase_del {L : List Fl} (hn : (L.map (·.n)).Nodup) {i : Nat} {f : Fl} (hi : L[i]? = some f) : L.take i ++ L.drop (i + 1) = del L f.n := by
  induction L generalizing i with
  | nil => simp at hi
  | cons x L ih =>
    rw [List.map_cons, List.nodup_cons] at hn
    cases i with
    | zero =>
      simp at hi
      subst hi
      have : del L x.n = L := List.filter_eq_self.2 (fun g hg => by
        have : g.n ≠ x.n := fun e => hn.1 (List.mem_map.2 ⟨g, hg, e⟩)
        simpa using this)
      show [] ++ L = List.filter _ (x :: L)
      rw [List.filter_cons_of_neg (by simp)]
      exact this.symm
    | succ i =>
      have hi' : L[i]? = some f := by simpa using hi
      have hne : x.n ≠ f.n := fun e => hn.1 (List.mem_map.2 ⟨f, List.mem_of_getElem? hi', e.symm⟩)
      rw [List.take_succ_cons, List.drop_succ_cons, List.cons_append, ih hn.2 hi']
      show x :: List.filter _ L = List.filter _ (x :: L)
      rw [List.filter_cons_of_pos (by simpa using hne)]

theorem rem_some {L : List Fl} {s : Tx} {f : Fl} (hf : find L s = some f) : remS L false s = (del L f.n, 0) := by rw [remS, hf]; rfl
set_option maxRecDepth 100000 in
set_option maxHeartbeats 1000000 in
theorem rremove_new (w : World) (S : Nat → Prop) (q : Nat) (L : List Fl) (most : Nat) (down : Bool) (s : Tx) (h : Rk w S q L most down) :
    Calls Tryz.prog 108 #[.pointer (some ⟨q, 0, none⟩), .string ⟨s.toArray⟩] w (RNew S q (remS L down s) most down w) := by
  rcases find_cases L down s with ⟨c, hc1, hc2, hc⟩ | ⟨rfl, f, hf⟩
  · have HM := Lib.hid (rmay_no w S q L most down s h c hc)
    have H := Lib.hid h
    rw [rem_no hc]
    have hne : ((c : Int) == 0) = false := by rw [beq_eq_false_iff_ne]; omega
    clear h hc
    go_enter Tryz.func108, Tryz.ntmps108
    go_wp2_with (go_at_call 114; refine HM.out.mono ?_; rintro e w' ⟨rfl, rfl⟩)
    go_ret
    exact rnew_refl H.out (by omega)
  · have HM := Lib.hid (rmay_in w S q L most s h f hf)
    have HG := Lib.hid h.good
    obtain ⟨l, lv, hL, hP⟩ := h
    have hfew := hP.good.few
    rw [List.length_map] at hfew
    obtain ⟨A, c, rfl, hlc⟩ := hP.shape
    have c0 : w.cell? ⟨q, 0, none⟩ = some (.slice A l.length c) := hP.blk.cell 0
    have f0 := hP.blk.frozen 0
    have HP := Lib.hid hP
    have HL := Lib.hid hL
    have HF := Lib.hid hf
    clear hP hL hf
    go_enter Tryz.func108, Tryz.ntmps108
    go_wp2_with fail
    refine HM.out.mono ?_
    rintro e w' ⟨⟨i, hi, rfl⟩, rfl⟩
    have hlt : i < l.length := rows_lt HL.out hi
    have HI := Lib.hid hi
    have hi2 : (i : Int) < (l.length : Int) := by omega
    have hi0 : (0 : Int) ≤ (i : Int) := by omega
    have hs1 := fun W => fslice_upto A l.length c i (by omega) W
    obtain ⟨A', hs2, hA'⟩ := fslice_from A l.length c (i + 1) (by omega) hlc
    rw [show ((i + 1 : Nat) : Int) = (i : Int) + 1 from by omega] at hs2
    have hw1 : IntKind.i64.wrap ((i : Int) + 1) = (i : Int) + 1 := wrap64 (by omega) (by omega)
    have hrow : Sl w (fun _ => False) 3 (.slice A l.length c) l.length (FCs l) := Sl.of_own HP.out.row (fun _ _ _ h => h)
    have hr1 : Sl w (fun _ => False) 3 (.slice A i c) i (FCs (l.take i)) := by rw [FCs_take]; exact hrow.upto (by omega)
    have hr2 : Sl w (fun _ => False) 3 (.slice A' (l.length - (i + 1)) (c - (i + 1))) (l.length - (i + 1)) (FCs (l.drop (i + 1))) := by rw [FCs_drop]; exact hrow.cut (by omega) A' hA'
    have hone := FCs_one HP.out
    have h1a : ∀ u ∈ FCs (l.take i), u.oneCell' = true := fun u hu => hone u (by rw [FCs_take] at hu; exact List.mem_of_mem_take hu)
    have h1b : ∀ u ∈ FCs (l.drop (i + 1)), u.oneCell' = true := fun u hu => hone u (by rw [FCs_drop] at hu; exact List.mem_of_mem_drop hu)
    have HR := Lib.hid (And.intro hr1 (And.intro hr2 (And.intro h1a h1b)))
    obtain ⟨i0, hi0', hz0, hz1, hz2⟩ := info_parts info_file
    clear hi hA' hrow hr1 hr2 hone h1a h1b
    go_wp2_with (first
      | (at_builtin; refine wpList_append_new _ rfl (.tmp 17) (.tmp 23) _ rfl 153 i0 _ 3 48 Tryz.underlying112 hi0' hz0 hz1 hz2 rfl (by omega) rfl _ _ i (FCs (l.take i)) rfl HR.out.1 HR.out.2.2.1 (by simp only [maxLen]; omega) (by omega) ?_; intro A5 c5 w5 ho5 hb5; have HO5 := Lib.hid ho5; have HB5 := Lib.hid hb5; have k5 := HP.out.blk.below hb5 HP.out.blk.lt; have g0 := k5.cell 0; have g1 := k5.frozen 0; simp only [List.getElem?_toArray, List.getElem?_cons_zero] at g0; clear ho5 hb5 k5)
      | (at_builtin; refine wpList_append_sh _ rfl (.tmp 26) (.tmp 33) _ rfl w.heap.size 153 i0 _ 3 48 Tryz.underlying112 hi0' hz0 hz1 hz2 rfl (by omega) _ i _ rfl HO5.out _ _ (l.length - (i + 1)) (FCs (l.drop (i + 1))) rfl (HR.out.2.1.after HB5.out) HR.out.2.2.2 (by simp only [maxLen]; omega) (by omega) (by exact HB5.out.size) ?_; intro A6 c6 w6 happ; have HAP := Lib.hid happ; have HB6 := Lib.hid (below_of_app HB5.out HO5.out happ); have k6 := HP.out.blk.below HB6.out HP.out.blk.lt; have j0 := k6.cell 0; have j1 := k6.frozen 0; simp only [List.getElem?_toArray, List.getElem?_cons_zero] at j0; clear happ k6))
    go_ret
    have ho := HAP.out.1
    rw [← FCs_app] at ho
    have hlen : i + (l.length - (i + 1)) = (l.take i ++ l.drop (i + 1)).length := by rw [List.length_append, List.length_take, List.length_drop]; omega
    have hmap : (l.take i ++ l.drop (i + 1)).map (·.1) = del L f.n := by
      rw [List.map_append, List.map_take, List.map_drop, HL.out]
      exact erase_del HG.out.nodup HI.out
    have ho' : w6.ownsRow w.heap.size 153 3 (.slice A6 (i + (l.length - (i + 1))) c6) (l.take i ++ l.drop (i + 1)).length (FCs (l.take i ++ l.drop (i + 1))) := by rw [← hlen]; exact ho
    have r1 := rk_newrow HP.out HB6.out (Nat.le_refl _) ho' (fun x hx => .inl (by
      rcases List.mem_append.1 hx with hx | hx
      · exact List.mem_of_mem_take hx
      · exact List.mem_of_mem_drop hx)) (by rw [hmap]; exact good_del HG.out _)
    rw [hmap] at r1
    rw [rem_some HF.out]
    exact r1
theorem rremove_any (w : World) (S : Nat → Prop) (q : Nat) (L : List Fl) (most : Nat) (down : Bool) (s : Tx) (h : Rk w S q L most down) :
    Calls Tryz.prog 108 #[.pointer (some ⟨q, 0, none⟩), .string ⟨s.toArray⟩] w (RDid S q (remS L down s) most down w) :=
  (rremove_new w S q L most down s h).mono fun _ _ h => h.did

end Go.Proofs.YtdkjimfehipeaaaGreatDoor.Rf

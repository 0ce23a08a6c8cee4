import Derived.Test.YtdkjimfehipeaaaGreatDoorZRf
/-
  Contract of the document's disk: Create.
-/
namespace Go.Proofs.YtdkjimfehipeaaaGreatDoor.Rg
open Go Go.RowKit Go.Maps Ck Kw Ga Dm Dw Da Db Dc Dd De Df Dg Dh Di Ra Rb Rc Rd Re Rf
attribute [local go_sem ↓] Go.wp_at_zero Go.wp_at_succ
set_option linter.unusedVariables false

theorem ins_at {x : Fl} {L : List Fl} {k : Nat} (hk : k ≤ L.length) (h0 : ∀ j, j < k → ∀ f, L[j]? = some f → f.n < x.n) (h1 : ∀ f, L[k]? = some f → ¬ f.n < x.n) : ins x L = L.take k ++ x :: L.drop k := by
  induction L generalizing k with
  | nil =>
    have : k = 0 := by simpa using hk
    subst this
    rfl
  | cons f L ih =>
    cases k with
    | zero =>
      have := h1 f rfl
      rw [ins, if_neg this]
      rfl
    | succ k =>
      have := h0 0 (by omega) f rfl
      rw [ins, if_pos this, ih (by simpa using hk) (fun j hj g hg => h0 (j + 1) (by omega) g hg) (fun g hg => h1 g hg)]
      rfl

theorem file_lit (w : World) (n : Tx) : Sl (w.alloc (.cells #[.string ⟨n.toArray⟩, .slice none 0 0, .int .i64 0] 153)) (fun _ => False) 3 (.slice (some ⟨w.heap.size, 0, none⟩) 1 1) 1 (FCs [(⟨n, [], 0⟩, .slice none 0 0)]) := by
  refine ⟨_, _, rfl, rfl, Nat.le_refl _, by simp only [maxLen]; omega, fun _ => ⟨_, rfl, by simp, fun h => h, fun j u hu => ?_⟩⟩
  have ha : (⟨w.heap.size, 0, none⟩ : Addr).add j = ⟨w.heap.size, j, none⟩ := add_zero rfl j
  rw [ha, Blk.cell (Blk.new w _ _) j]
  simpa [FCs, FC, SV] using hu

theorem rcreate_end {w W : World} {S : Nat → Prop} {q most k n : Nat} {L : List Fl} {l : List (Fl × Value)} {lv out : Value} {s : Tx} (hL : l.map (·.1) = L) (hP : RParts w S q l most false lv) (hg : GoodL L most) (hi : isIn L s = false) (hl : L.length < 64) (hs : s.length ≤ 140737488355328) (hk : k ≤ l.length)
    (h0 : ∀ j, j < k → ∀ f, L[j]? = some f → f.n < s) (h1 : ∀ f, L[k]? = some f → ¬ f.n < s) (he : createS L false s = (ins ⟨s, [], 0⟩ L, 0)) (hb : Below w.heap.size w W)
    (ho : W.ownsRow w.heap.size 153 3 out n (FCs (l.take k) ++ FCs [(⟨s, [], 0⟩, .slice none 0 0)] ++ FCs (l.drop k))) :
    RNew S q (createS L false s) most false w (.returned (.int .i64 0)) (W.setCell ⟨q, 0, none⟩ out) := by
  rw [he]
  have hll := rows_len hL
  have hmap : (l.take k ++ [((⟨s, [], 0⟩, .slice none 0 0) : Fl × Value)] ++ l.drop k).map (·.1) = ins ⟨s, [], 0⟩ L := by
    rw [List.map_append, List.map_append, List.map_take, List.map_drop, hL, ins_at (by omega) h0 h1]
    simp
  rw [← FCs_app, ← FCs_app] at ho
  have hn : n = (l.take k ++ [((⟨s, [], 0⟩, .slice none 0 0) : Fl × Value)] ++ l.drop k).length := by
    have := ho.1
    rw [FCs_len] at this
    omega
  subst hn
  have r1 := rk_newrow hP hb (Nat.le_refl _) ho (fun x hx => by
    rcases List.mem_append.1 hx with hx | hx
    · rcases List.mem_append.1 hx with hx | hx
      · exact .inl (List.mem_of_mem_take hx)
      · rw [List.mem_singleton] at hx
        subst hx
        exact .inr ⟨rfl, rfl⟩
    · exact .inl (List.mem_of_mem_drop hx)) (by rw [hmap]; exact good_ins hg hi hl (by simpa using hg.fits) hs (Nat.zero_le _))
  rw [hmap] at r1
  exact r1

set_option maxRecDepth 100000 in
set_option maxHeartbeats 2000000 in
theorem rcreate_new (w : World) (S : Nat → Prop) (q : Nat) (L : List Fl) (most : Nat) (down : Bool) (s : Tx) (hs : s.length ≤ 140737488355328) (h : Rk w S q L most down) :
    Calls Tryz.prog 104 #[.pointer (some ⟨q, 0, none⟩), .string ⟨s.toArray⟩] w (RNew S q (createS L down s) most down w) := by
  have H := Lib.hid h
  have HA := Lib.hid (rat_any w S q L most down s h)
  have HG := Lib.hid h.good
  obtain ⟨l, lv, hL, hP⟩ := h
  have hfew := hP.good.few
  rw [List.length_map] at hfew
  obtain ⟨A, c, rfl, hlc⟩ := hP.shape
  have c0 : w.cell? ⟨q, 0, none⟩ = some (.slice A l.length c) := hP.blk.cell 0
  have c2 : w.cell? ⟨q, 2, none⟩ = some (.bool down) := hP.blk.cell 2
  have HP := Lib.hid hP
  have HL := Lib.hid hL
  clear hP hL
  cases down
  · by_cases h0 : s = []
    · subst h0
      have e : createS L false [] = (L, 1) := rfl
      rw [e]
      go_enter Tryz.func104, Tryz.ntmps104
      go_wp2_with fail
      go_ret
      exact rnew_refl H.out (by omega)
    · have hse := str_ne h0
      by_cases hi : isIn L s = true
      · have e : createS L false s = (L, 31) := by rw [createS, if_neg (by simp), if_neg h0, if_pos hi]
        rw [e]
        have hfs : ∃ f, find L s = some f := by
          cases hf : find L s with
          | none => rw [isIn_find, hf] at hi; cases hi
          | some f => exact ⟨f, rfl⟩
        obtain ⟨f, hf⟩ := hfs
        clear h0 hi e
        go_enter Tryz.func104, Tryz.ntmps104
        go_wp2_with fail
        refine HA.out.mono ?_
        rintro e w' ⟨⟨z, rfl, hz⟩, rfl⟩
        obtain ⟨i, rfl⟩ : ∃ i : Nat, z = i := by
          rcases hz with ⟨i, f', h1, h2, h3⟩ | ⟨h1, _⟩
          · exact ⟨i, h3⟩
          · rw [hf] at h1; cases h1
        clear hz
        have hi0 : (0 : Int) ≤ (i : Int) := by omega
        go_wp2_with fail
        go_ret
        exact rnew_refl H.out (by omega)
      · have hi' : isIn L s = false := by simpa using hi
        have hfn : find L s = none := by
          cases hf : find L s with
          | none => rfl
          | some f => rw [isIn_find, hf] at hi'; cases hi'
        have hz1 : ∀ z : Int, ((∃ (i : Nat) (f : Fl), find L s = some f ∧ L[i]? = some f ∧ z = i) ∨ (find L s = none ∧ z = -1)) → z = -1 := fun z hz => by
          rcases hz with ⟨i, f', h1, h2, h3⟩ | ⟨_, h1⟩
          · rw [hfn] at h1; cases h1
          · exact h1
        have HZ := Lib.hid hz1
        have hLl := rows_len HL.out
        by_cases hl : 64 ≤ L.length
        · have e : createS L false s = (L, 6) := by rw [createS, if_neg (by simp), if_neg h0, if_neg (by rw [hi']; simp), if_pos hl]
          rw [e]
          have hll : (64 : Int) ≤ (l.length : Int) := by omega
          clear h0 hi e hz1
          go_enter Tryz.func104, Tryz.ntmps104
          go_wp2_with fail
          refine HA.out.mono ?_
          rintro e w' ⟨⟨z, rfl, hz⟩, rfl⟩
          obtain rfl := HZ.out z hz
          clear hz
          go_wp2_with fail
          go_ret
          exact rnew_refl H.out (by omega)
        · have e : createS L false s = (ins ⟨s, [], 0⟩ L, 0) := by rw [createS, if_neg (by simp), if_neg h0, if_neg (by rw [hi']; simp), if_neg hl]
          have HE := Lib.hid e
          have hll : (l.length : Int) < (64 : Int) := by omega
          have HI := Lib.hid hi'
          have HLL := Lib.hid hl
          obtain ⟨i0, hi0', hz0, hz1', hz2⟩ := info_parts info_file
          have HC := Lib.hid c0
          clear h0 hi e hz1 hi' hl hfn
          go_enter Tryz.func104, Tryz.ntmps104
          go_wp2_with fail
          refine HA.out.mono ?_
          rintro e w' ⟨⟨z, rfl, hz⟩, rfl⟩
          obtain rfl := HZ.out z hz
          clear hz
          go_wp2_with fail
          go_loop [5] (fun i => ∃ k : Nat, k ≤ l.length ∧ i = .int .i64 k ∧ ∀ j, j < k → ∀ f, L[j]? = some f → f.n < s) (fun i => l.length - (intOf i).toNat)
          case atStart => exact ⟨0, Nat.zero_le _, rfl, fun j hj => absurd hj (by omega)⟩
          case round =>
            obtain ⟨k, hk, rfl, hzr⟩ := hrel
            have HZR := Lib.hid hzr
            clear hzr
            by_cases hgo : ∃ hlt : k < l.length, l[k].1.n < s
            · obtain ⟨hlt, hless⟩ := hgo
              obtain ⟨ad, rfl, -, -, hfa⟩ := HP.out.at_ hlt
              have a0 := hfa.a0
              have hb : Op.bytesLess l[k].1.n s = true := by rw [less_eq]; exact decide_eq_true hless
              have HLS := Lib.hid hless
              clear hfa hless
              go_wp2
              go_round
              case rel =>
                refine ⟨k + 1, by omega, by go_num, fun j hj f hf => ?_⟩
                by_cases hjk : j < k
                · exact HZR.out j hjk f hf
                · obtain rfl : j = k := by omega
                  rw [rows_at HL.out hlt] at hf
                  rw [← Option.some.inj hf]
                  exact HLS.out
              case measure => simp [intOf]; omega
            · have hstop : ∀ f, L[k]? = some f → ¬ f.n < s := fun f hf hlf => hgo ⟨rows_lt HL.out hf, by rw [rows_eq HL.out hf (rows_lt HL.out hf)]; exact hlf⟩
              have HSTOP := Lib.hid hstop
              have hs1 := fun W => fslice_upto A l.length c k (by omega) W
              obtain ⟨A', hs2, hA'⟩ := fslice_from A l.length c k hk hlc
              have hrow : Sl w (fun _ => False) 3 (.slice A l.length c) l.length (FCs l) := Sl.of_own HP.out.row (fun _ _ _ h => h)
              have hr1 : Sl w (fun _ => False) 3 (.slice A k c) k (FCs (l.take k)) := by rw [FCs_take]; exact hrow.upto (by omega)
              have hr2 : Sl w (fun _ => False) 3 (.slice A' (l.length - k) (c - k)) (l.length - k) (FCs (l.drop k)) := by rw [FCs_drop]; exact hrow.cut (by omega) A' hA'
              have hone := FCs_one HP.out
              have h1a : ∀ u ∈ FCs (l.take k), u.oneCell' = true := fun u hu => hone u (by rw [FCs_take] at hu; exact List.mem_of_mem_take hu)
              have h1b : ∀ u ∈ FCs (l.drop k), u.oneCell' = true := fun u hu => hone u (by rw [FCs_drop] at hu; exact List.mem_of_mem_drop hu)
              have HR := Lib.hid (And.intro hr1 (And.intro hr2 (And.intro h1a h1b)))
              have hk0 : (0 : Int) ≤ (k : Int) := by omega
              have hk1 : (k : Int) ≤ (l.length : Int) := by omega
              have hone1 : ∀ u ∈ FCs [((⟨s, [], 0⟩, .slice none 0 0) : Fl × Value)], u.oneCell' = true := fun u hu => by
                simp only [FCs, FC, List.flatMap_cons, List.flatMap_nil, List.append_nil, List.mem_cons, List.not_mem_nil, or_false] at hu
                rcases hu with rfl | rfl | rfl <;> rfl
              have HO1 := Lib.hid hone1
              clear hA' hrow hr1 hr2 hone h1a h1b hstop hone1
              by_cases hlt : k < l.length
              · obtain ⟨ad, rfl, -, -, hfa⟩ := HP.out.at_ hlt
                have a0 := hfa.a0
                have hb : Op.bytesLess l[k].1.n s = false := by rw [less_eq]; exact decide_eq_false (fun h => hgo ⟨hlt, h⟩)
                clear hfa hgo
                go_wp2_with (first
                  | (at_builtin; refine wpList_append_new _ rfl (.tmp 44) (.tmp 50) _ rfl 153 i0 _ 3 48 Tryz.underlying112 hi0' hz0 hz1' hz2 rfl (by omega) rfl _ _ k (FCs (l.take k)) rfl HR.out.1 HR.out.2.2.1 (by simp only [maxLen]; omega) (by omega) ?_; intro A5 c5 w5 ho5 hb5; have HO5 := Lib.hid ho5; have HB5 := Lib.hid hb5; clear ho5 hb5)
                  | (at_builtin; refine wpList_append_sh _ rfl (.tmp 51) (.tmp 54) _ rfl w.heap.size 153 i0 _ 3 48 Tryz.underlying112 hi0' hz0 hz1' hz2 rfl (by omega) _ k _ rfl (HO5.out.alloc _) _ _ 1 (FCs [(⟨s, [], 0⟩, .slice none 0 0)]) rfl (file_lit w5 s) HO1.out (by simp only [maxLen]; omega) (by omega) (by have := HB5.out.size; simp; omega) ?_; intro A6 c6 w6 happ; have HAP := Lib.hid happ; have HB6 := Lib.hid (below_of_app (HB5.out.alloc HB5.out.size _) (HO5.out.alloc _) happ); have k6 := HP.out.blk.below HB6.out HP.out.blk.lt; have g0 := k6.cell 0; simp only [List.getElem?_toArray, List.getElem?_cons_zero] at g0; clear happ k6)
                  | (at_builtin; refine wpList_append_sh _ rfl (.tmp 57) (.tmp 63) _ rfl w.heap.size 153 i0 _ 3 48 Tryz.underlying112 hi0' hz0 hz1' hz2 rfl (by omega) _ (k + 1) _ rfl HAP.out.1 _ _ (l.length - k) (FCs (l.drop k)) rfl (HR.out.2.1.after HB6.out) HR.out.2.2.2 (by simp only [maxLen]; omega) (by omega) (by exact HB6.out.size) ?_; intro A8 c8 w8 happ8; have HAP8 := Lib.hid happ8; have HB8 := Lib.hid (below_of_app HB6.out HAP.out.1 happ8); have k8 := HP.out.blk.below HB8.out HP.out.blk.lt; have j0 := k8.cell 0; have j1 := k8.frozen 0; simp only [List.getElem?_toArray, List.getElem?_cons_zero] at j0; clear happ8 k8))
                go_ret
                exact rcreate_end HL.out HP.out HG.out HI.out (by have := HLL.out; omega) hs hk HZR.out HSTOP.out HE.out HB8.out HAP8.out.1
              · clear hgo
                go_wp2_with (first
                  | (at_builtin; refine wpList_append_new _ rfl (.tmp 44) (.tmp 50) _ rfl 153 i0 _ 3 48 Tryz.underlying112 hi0' hz0 hz1' hz2 rfl (by omega) rfl _ _ k (FCs (l.take k)) rfl HR.out.1 HR.out.2.2.1 (by simp only [maxLen]; omega) (by omega) ?_; intro A5 c5 w5 ho5 hb5; have HO5 := Lib.hid ho5; have HB5 := Lib.hid hb5; clear ho5 hb5)
                  | (at_builtin; refine wpList_append_sh _ rfl (.tmp 51) (.tmp 54) _ rfl w.heap.size 153 i0 _ 3 48 Tryz.underlying112 hi0' hz0 hz1' hz2 rfl (by omega) _ k _ rfl (HO5.out.alloc _) _ _ 1 (FCs [(⟨s, [], 0⟩, .slice none 0 0)]) rfl (file_lit w5 s) HO1.out (by simp only [maxLen]; omega) (by omega) (by have := HB5.out.size; simp; omega) ?_; intro A6 c6 w6 happ; have HAP := Lib.hid happ; have HB6 := Lib.hid (below_of_app (HB5.out.alloc HB5.out.size _) (HO5.out.alloc _) happ); have k6 := HP.out.blk.below HB6.out HP.out.blk.lt; have g0 := k6.cell 0; simp only [List.getElem?_toArray, List.getElem?_cons_zero] at g0; clear happ k6)
                  | (at_builtin; refine wpList_append_sh _ rfl (.tmp 57) (.tmp 63) _ rfl w.heap.size 153 i0 _ 3 48 Tryz.underlying112 hi0' hz0 hz1' hz2 rfl (by omega) _ (k + 1) _ rfl HAP.out.1 _ _ (l.length - k) (FCs (l.drop k)) rfl (HR.out.2.1.after HB6.out) HR.out.2.2.2 (by simp only [maxLen]; omega) (by omega) (by exact HB6.out.size) ?_; intro A8 c8 w8 happ8; have HAP8 := Lib.hid happ8; have HB8 := Lib.hid (below_of_app HB6.out HAP.out.1 happ8); have k8 := HP.out.blk.below HB8.out HP.out.blk.lt; have j0 := k8.cell 0; have j1 := k8.frozen 0; simp only [List.getElem?_toArray, List.getElem?_cons_zero] at j0; clear happ8 k8))
                go_ret
                exact rcreate_end HL.out HP.out HG.out HI.out (by have := HLL.out; omega) hs hk HZR.out HSTOP.out HE.out HB8.out HAP8.out.1
  · have e : createS L true s = (L, 32) := rfl
    rw [e]
    go_enter Tryz.func104, Tryz.ntmps104
    go_wp2_with fail
    go_ret
    exact rnew_refl H.out (by omega)
theorem rcreate_any (w : World) (S : Nat → Prop) (q : Nat) (L : List Fl) (most : Nat) (down : Bool) (s : Tx) (hs : s.length ≤ 140737488355328) (h : Rk w S q L most down) :
    Calls Tryz.prog 104 #[.pointer (some ⟨q, 0, none⟩), .string ⟨s.toArray⟩] w (RDid S q (createS L down s) most down w) :=
  (rcreate_new w S q L most down s hs h).mono fun _ _ h => h.did

end Go.Proofs.YtdkjimfehipeaaaGreatDoor.Rg

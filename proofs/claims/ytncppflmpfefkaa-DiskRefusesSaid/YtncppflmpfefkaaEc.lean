/-
  Contract of the document's disk: Clone.
-/
import Derived.Test.YtncppflmpfefkaaEb
namespace Go.Proofs.Ytncppflmpfefkaa.Ec
open Go Go.RowKit Go.Maps Ck Kw Ga Dm Dw Da Db Dc Dd De Df Dg Dh Di Dj Ra Rb Rc Rd Re Rf Rg Rh Ri Rj Pw Dq
attribute [local go_sem ↓] Go.wp_at_zero Go.wp_at_succ
set_option linter.unusedVariables false
set_option linter.unusedSimpArgs false

theorem file_lit2 (w : World) (n : Tx) (v : Value) (d : Nat) (b : Tx) : Sl (w.alloc (.cells #[.string ⟨n.toArray⟩, v, .int .i64 (d : Int)] 84)) (fun _ => False) 3 (.slice (some ⟨w.heap.size, 0, none⟩) 1 1) 1 (FCs [(⟨n, b, d⟩, v)]) := by
  refine ⟨_, _, rfl, rfl, Nat.le_refl _, by simp only [maxLen]; omega, fun _ => ⟨_, rfl, by simp, fun h => h, fun j u hu => ?_⟩⟩
  have ha : (⟨w.heap.size, 0, none⟩ : Addr).add j = ⟨w.heap.size, j, none⟩ := add_zero rfl j
  rw [ha, Blk.cell (Blk.new w _ _) j]
  simpa [FCs, FC, SV] using hu
theorem good_take {L : List Fl} {room : Nat} (h : GoodL L room) (k : Nat) : GoodL (L.take k) room :=
  ⟨h.nodup.sublist ((List.take_sublist k L).map _), by rw [List.length_take]; have := h.few; omega, Nat.le_trans (used_take_le L k) h.fits, h.room, fun f hf => h.name f (List.mem_of_mem_take hf), fun f hf => h.done f (List.mem_of_mem_take hf)⟩

theorem clone_step {w wr w2 w5 : World} {p most : Nat} {l' : List (Fl × Value)} {down : Bool} {ov v2 ov' : Value} {f : Fl} {cs cs2 : Array Value} (hp : p = w.heap.size) (hP : RParts wr (New w wr) p l' most down ov) (hr : wr.ownsRow p 84 3 ov l'.length (FCs l')) (hB : Below w.heap.size w wr)
    (ho2 : w2.ownsRow (wr.alloc (.cells cs 84)).heap.size 5 1 v2 f.b.length (BVs f.b)) (hb2 : Below (wr.alloc (.cells cs 84)).heap.size (wr.alloc (.cells cs 84)) w2)
    (happ : Appended ((w2.setCell ⟨wr.heap.size, 1, none⟩ v2).alloc (.cells cs2 84)) p 84 3 ov (l'.length + 1) (FCs l' ++ FCs [(f, v2)]) ov' w5)
    (hg : GoodL ((l' ++ [(f, v2)]).map (·.1)) most) :
    RParts (w5.setCell ⟨p, 0, none⟩ ov') (New w (w5.setCell ⟨p, 0, none⟩ ov')) p (l' ++ [(f, v2)]) most down ov' ∧ (w5.setCell ⟨p, 0, none⟩ ov').ownsRow p 84 3 ov' (l' ++ [(f, v2)]).length (FCs (l' ++ [(f, v2)])) ∧ Below w.heap.size w (w5.setCell ⟨p, 0, none⟩ ov') := by
  have hfar : ov.ownBlock ≠ some p := own_far hr hP.blk (by decide)
  have hpl := hP.blk.lt
  have s0 := hB.size
  have s1 : (wr.alloc (.cells cs 84)).heap.size = wr.heap.size + 1 := by simp
  have s2 := hb2.size
  have b02 : Below wr.heap.size wr w2 := ((Below.refl _ wr).alloc (Nat.le_refl _) _).trans (hb2.mono (by omega))
  have c02 : Ch (fun _ => False) wr w2 := Ch.of_below b02 (Nat.le_refl _)
  have c23 : Ch (fun m => m = wr.heap.size) w2 (w2.setCell ⟨wr.heap.size, 1, none⟩ v2) := (Ch.refl (fun m => m = wr.heap.size) w2).setCell (p := ⟨wr.heap.size, 1, none⟩) (fun _ => rfl) _
  have c24 := c23.alloc (.cells cs2 84)
  have c45 : Ch (fun m => ov.ownBlock = some m) _ w5 := Ch.of_grown happ.2.1 (fun g hg _ => hg)
  have c56 : Ch (fun m => m = p) w5 (w5.setCell ⟨p, 0, none⟩ ov') := (Ch.refl (fun m => m = p) w5).setCell (p := ⟨p, 0, none⟩) (fun _ => rfl) _
  have hovl : ∀ m, ov.ownBlock = some m → p ≤ m ∧ m < wr.heap.size := fun m hm => hr.lt m hm
  have s3 := c24.size
  have s3' : ((w2.setCell ⟨wr.heap.size, 1, none⟩ v2).alloc (.cells cs2 84)).heap.size = w2.heap.size + 1 := by simp [World.setCell]
  have s4 := c45.size
  have s5 := c56.size
  have hw2 : ∀ m, v2.ownBlock = some m → wr.heap.size + 1 ≤ m ∧ m < w2.heap.size := fun m hm => by have := ho2.lt m hm; omega
  have hov' : ∀ m, ov'.ownBlock = some m → (ov.ownBlock = some m ∨ w2.heap.size < m) ∧ p ≤ m ∧ m < w5.heap.size := fun m hm => by
    have h1 := happ.1.lt m hm
    refine ⟨?_, h1⟩
    rcases happ.2.2 with h | h
    · rw [h] at hm; exact .inl hm
    · rw [h] at hm; have := Option.some.inj hm; exact .inr (by omega)
  have hfar' : ov'.ownBlock ≠ some p := fun h => by
    rcases (hov' p h).1 with h | h
    · exact hfar h
    · omega
  have c25 : Ch (fun m => m = wr.heap.size ∨ ov.ownBlock = some m) w2 w5 := (c24.mono (T := fun m => m = wr.heap.size ∨ ov.ownBlock = some m) (fun m _ h => .inl h)).trans c45 (fun m _ h => .inr h)
  have c05 : Ch (fun m => ov.ownBlock = some m) wr w5 := (c02.mono (T := fun m => ov.ownBlock = some m) (fun m _ h => h.elim)).trans c25 (fun m hm h => by
    rcases h with h | h
    · omega
    · exact h)
  have c26 : Ch (fun m => m = wr.heap.size ∨ ov.ownBlock = some m ∨ m = p) w2 (w5.setCell ⟨p, 0, none⟩ ov') := (c25.mono (T := fun m => m = wr.heap.size ∨ ov.ownBlock = some m ∨ m = p) (fun m _ h => h.imp id .inl)).trans c56 (fun m _ h => .inr (.inr h))
  have c06 : Ch (fun m => ov.ownBlock = some m ∨ m = p) wr (w5.setCell ⟨p, 0, none⟩ ov') := (c05.mono (T := fun m => ov.ownBlock = some m ∨ m = p) (fun m _ h => .inl h)).trans c56 (fun m _ h => .inr h)
  have hrow : (w5.setCell ⟨p, 0, none⟩ ov').ownsRow p 84 3 ov' (l' ++ [(f, v2)]).length (FCs (l' ++ [(f, v2)])) := by
    rw [FCs_app, List.length_append]
    exact own_ch happ.1 c56 (fun m hm e => hfar' (by rw [hm, e]))
  refine ⟨⟨(hP.blk.ch c05 (fun h => hfar h)).set_ 0 _, own_base hrow (Nat.zero_le _), ⟨by omega, by omega⟩, fun m hm => ⟨by have := (hov' m hm).2.1; omega, by have := (hov' m hm).2.2; omega⟩, fun x hx => ?_, hg⟩, hrow, hB.trans (c06.below (fun m hm h => by
    rcases h with h | h
    · have := (hovl m h).1; omega
    · omega) s0)⟩
  rcases List.mem_append.1 hx with hx | hx
  · refine ((hP.bytes x hx).ch c06 (fun m _ h => ?_)).weaken (fun m hm hy => ?_)
    · rcases h with h | h
      · exact .inr (.inr h)
      · exact .inr (.inl h)
    · rcases hy with hy | hy | hy
      · exact .inl (fun h => hy ⟨h.1, by have := h.2; omega⟩)
      · exact .inr (.inl hy)
      · rcases (hov' m hy).1 with h | h
        · exact .inr (.inr h)
        · exact .inl (fun h' => by have := h'.2; omega)
  · rw [List.mem_singleton] at hx
    subst hx
    have h1 : Sl w2 (fun m => (m = wr.heap.size ∨ ov.ownBlock = some m ∨ m = p) ∨ (¬ New w (w5.setCell ⟨p, 0, none⟩ ov') m ∨ m = p ∨ ov'.ownBlock = some m)) 1 v2 f.b.length (BVs f.b) := Sl.of_own' ho2 (fun m hm h => by
      have g1 := hw2 m hm
      rcases h with (h | h | h) | (h | h | h)
      · omega
      · have := (hovl m h).2; omega
      · omega
      · exact h ⟨by omega, by omega⟩
      · omega
      · rcases (hov' m h).1 with h | h
        · have := (hovl m h).2; omega
        · omega)
    exact (h1.ch c26 (fun m _ h => .inl h)).weaken (fun m _ h => .inr h)

set_option maxRecDepth 100000 in
set_option maxHeartbeats 4000000 in
theorem rclone_any (w : World) (S : Nat → Prop) (q : Nat) (L : List Fl) (most : Nat) (down : Bool) (h : Rk w S q L most down) :
    Calls Try.prog 24 #[.pointer (some ⟨q, 0, none⟩)] w fun e w' => ∃ q', e = .returned (.pointer (some ⟨q', 0, none⟩)) ∧ Rk w' (New w w') q' L most down ∧ Below w.heap.size w w' := by
  obtain ⟨l, lv, hL, hP⟩ := h
  have hfew := hP.good.few
  rw [List.length_map] at hfew
  obtain ⟨A, c, rfl, hlc⟩ := hP.shape
  have HF : Hid (∀ W, Below w.heap.size w W → W.cell? ⟨q, 0, none⟩ = some (.slice A l.length c) ∧ W.cell? ⟨q, 1, none⟩ = some (.int .i64 (most : Int)) ∧ W.cell? ⟨q, 2, none⟩ = some (.bool down)) := Lib.hid fun W hb => by
    have h1 := hP.later hb
    exact ⟨h1.blk.cell 0, h1.blk.cell 1, h1.blk.cell 2⟩
  have b0 := HF.out _ (Below.refl _ w)
  have HP := Lib.hid hP
  have HL := Lib.hid hL
  clear hP hL
  go_enter Try.func24, Try.ntmps24
  go_wp2_with fail
  go_region_held3 (fun w' => w'.cell? ⟨q, 1, none⟩ = some (.int .i64 (most : Int)) ∧ w'.cell? ⟨q, 2, none⟩ = some (.bool down)) (first | exact b0.2 | go_keep) (fail)
  have hgl := HP.out.good
  rw [HL.out] at hgl
  have HG := Lib.hid hgl
  have hB0 : Below w.heap.size w (w.alloc (.cells #[.slice none 0 0, .int .i64 (most : Int), .bool down] 42)).drew := below_drewN ((Below.refl _ w).alloc (Nat.le_refl _) _) 1
  have hst : RParts (w.alloc (.cells #[.slice none 0 0, .int .i64 (most : Int), .bool down] 42)).drew (New w (w.alloc (.cells #[.slice none 0 0, .int .i64 (most : Int), .bool down] 42)).drew) w.heap.size [] most down (.slice none 0 0) :=
    ⟨Blk.new _ _ _, ⟨rfl, .inl ⟨rfl, rfl⟩⟩, ⟨Nat.le_refl _, by simp⟩, (fun k hk => by cases hk), (fun x hx => (nomatch hx)), ⟨by simp, by simp, by simp [used], hgl.room, (fun f hf => (nomatch hf)), (fun f hf => (nomatch hf))⟩⟩
  have HST := Lib.hid (And.intro hst hB0)
  clear hst hB0 hgl b0
  obtain ⟨i0, hi0, hz0, hz1, hz2⟩ := info_parts info_file
  obtain ⟨j0, hj0, hy0, hy1, hy2⟩ := info_parts info_u8
  all_goals
    go_wp2_with fail
    go_loopw [4] (fun i wr => ∃ (k : Nat) (l' : List (Fl × Value)) (ov : Value), k ≤ l.length ∧ i = .int .i64 k ∧ l'.map (·.1) = L.take k ∧ l'.length = k ∧ RParts wr (New w wr) w.heap.size l' most down ov ∧ wr.ownsRow w.heap.size 84 3 ov l'.length (FCs l') ∧ Below w.heap.size w wr)
      (fun i _ => l.length - (intOf i).toNat)
    case atStart => exact ⟨0, [], .slice none 0 0, Nat.zero_le _, rfl, by simp, rfl, HST.out.1, ⟨rfl, .inl ⟨rfl, rfl⟩⟩, HST.out.2⟩
    case round =>
      obtain ⟨k, l', ov, hk, rfl, hmap, hlen, hP', hrow', hB⟩ := hrel
      clear HST
      obtain ⟨A', c', rfl⟩ := own_shape hrow'
      have HM := Lib.hid (And.intro hmap hlen)
      have HP' := Lib.hid (And.intro hP' hrow')
      have HB := Lib.hid hB
      have b0 := HF.out _ hB
      by_cases hlt : k < l.length
      · have hPr := HP.out.later hB
        obtain ⟨ad, rfl, had, hadq, hfa⟩ := hPr.at_ hlt
        obtain ⟨B, d, hx⟩ : ∃ B d, l[k].2 = .slice B l[k].1.b.length d := by
          obtain ⟨B, d, h, _⟩ := hPr.bytes _ (List.getElem_mem hlt)
          exact ⟨B, d, h⟩
        have hby := hPr.bytes _ (List.getElem_mem hlt)
        rw [hx] at hby
        have a0 := hfa.a0
        have a1 := hfa.a1
        have a2 := hfa.a2
        rw [hx] at a1
        have hu := used_take (rows_at HL.out hlt)
        have hle := used_take_le L (k + 1)
        have hbd : l[k].1.b.length ≤ 4194304 := by have := HG.out.fits; have := HG.out.room; omega
        have HBD := Lib.hid hbd
        have HBY := Lib.hid hby
        have HAT := Lib.hid (rows_at HL.out hlt)
        clear hmap hlen hP' hrow' hB hPr had hadq hfa hx hby hu hle hbd
        generalize l[k].1 = f at *
        obtain ⟨fn, fb, fd⟩ := f
        simp only at a0 a1 a2 HBD HBY
        go_wp2_with (at_builtin; refine wpList_append_new _ rfl (.tmp 33) (.tmp 35) _ rfl 5 j0 _ 1 1 Try.underlying31 hj0 hy0 hy1 hy2 rfl (by omega) rfl _ _ fb.length (BVs fb) rfl (HBY.out.alloc _) (BVs_one _) (by have := HBD.out; simp only [maxLen]; omega) (by have := HBD.out; omega) ?_; intro A2 d2 w2 ho2 b2; have hk2 := (Blk.new wr 84 #[.string ⟨fn.toArray⟩, .slice B fb.length d, .int .i64 (fd : Int)]).below b2 (by simp); have m0 := hk2.cell 0; have m1 := hk2.cell 1; have m2 := hk2.cell 2; have m3 := hk2.frozen 1; simp only [List.getElem?_toArray, List.getElem?_cons_zero, List.getElem?_cons_succ] at m0 m1 m2; have HO2 := Lib.hid ho2; have HB2 := Lib.hid b2; have HK2 := Lib.hid hk2; clear hk2)
        have hwr := HB.out.size
        have hpl := HP'.out.1.blk.lt
        have hb02 : Below wr.heap.size wr w2 := ((Below.refl _ wr).alloc (Nat.le_refl _) _).trans (HB2.out.mono (by simp))
        have hk3 := HK2.out.set_ 1 (.slice A2 fb.length d2)
        have c23 : Ch (fun m => m = wr.heap.size) w2 (w2.setCell ⟨wr.heap.size, 1, none⟩ (.slice A2 fb.length d2)) := (Ch.refl (fun m => m = wr.heap.size) w2).setCell (p := ⟨wr.heap.size, 1, none⟩) (fun _ => rfl) _
        have hp3 := (HP'.out.1.blk.below hb02 hpl).ch c23 (fun e => by omega)
        have hr3 := own_ch (own_below HP'.out.2 hb02) c23 (fun m hm e => by have := (HP'.out.2.lt m hm).2; omega)
        generalize hw3 : w2.setCell ⟨wr.heap.size, 1, none⟩ (.slice A2 fb.length d2) = w3 at hk3 hp3 hr3 ⊢
        have e0 := hk3.cell 0
        have e1 := hk3.cell 1
        have e2 := hk3.cell 2
        have p0 := hp3.cell 0
        have p0' := (hp3.alloc (.cells #[.string ⟨fn.toArray⟩, .slice A2 fb.length d2, .int .i64 (fd : Int)] 84)).cell 0
        simp only [List.getElem?_toArray, List.getElem?_cons_zero, List.getElem?_cons_succ, Array.setIfInBounds, List.size_toArray, List.length_cons, List.length_nil, Nat.zero_add, Nat.reduceAdd, Nat.reduceLT, dite_true, List.set_toArray, List.setIfInBounds_toArray, List.set_cons_succ, List.set_cons_zero] at e0 e1 e2 p0 p0'
        have hone1 : ∀ u ∈ FCs [((⟨fn, fb, fd⟩, .slice A2 fb.length d2) : Fl × Value)], u.oneCell' = true := fun u hu => by
          simp only [FCs, FC, List.flatMap_cons, List.flatMap_nil, List.append_nil, List.mem_cons, List.not_mem_nil, or_false] at hu
          rcases hu with rfl | rfl | rfl <;> rfl
        have HP3 := Lib.hid hp3
        have HR3 := Lib.hid hr3
        have HO1 := Lib.hid hone1
        have HW3 := Lib.hid hw3
        have HLE := Lib.hid HM.out.2
        clear hwr hpl hb02 hk3 c23 hp3 hr3 hone1 hw3
        go_region_law ((refine step_append_sh (by rfl) (.tmp 42) (.tmp 44) _ (by rfl) w.heap.size 84 i0 _ 3 48 Try.underlying40 hi0 hz0 hz1 hz2 rfl (by omega) (.slice A' l'.length c') l'.length (FCs l') (by rfl) (show (w3.alloc (.cells #[.string ⟨fn.toArray⟩, .slice A2 fb.length d2, .int .i64 (fd : Int)] 84)).drew.ownsRow w.heap.size 84 3 (.slice A' l'.length c') l'.length (FCs l') from HR3.out.alloc _) (fun _ => False) _ 1 (FCs [((⟨fn, fb, fd⟩, .slice A2 fb.length d2) : Fl × Value)]) (by rfl) (show Sl (w3.alloc (.cells #[.string ⟨fn.toArray⟩, .slice A2 fb.length d2, .int .i64 (fd : Int)] 84)).drew (fun _ => False) _ _ _ _ from file_lit2 w3 fn _ fd fb) HO1.out (by have := HLE.out; simp only [maxLen]; omega) (by have := HLE.out; omega) (by have := HP3.out.lt; simp; omega) ?_; intro A4 c4 w5 happ; have happ := appended_drew happ; have q5 := (HP3.out.alloc (.cells #[.string ⟨fn.toArray⟩, .slice A2 fb.length d2, .int .i64 (fd : Int)] 84)).ch (Ch.of_grown happ.2.1 (fun g hg _ => hg) : Ch (fun m => (Value.slice A' l'.length c').ownBlock = some m) _ w5) (fun h => own_far HR3.out HP3.out (by decide) h); have g0 := q5.cell 0; have g1 := q5.frozen 0; simp only [List.getElem?_toArray, List.getElem?_cons_zero, List.getElem?_cons_succ] at g0; have HAP := Lib.hid happ; clear q5 happ))
        all_goals
          go_wp2
          have hmap1 : (l' ++ [((⟨fn, fb, fd⟩, .slice A2 fb.length d2) : Fl × Value)]).map (·.1) = L.take (k + 1) := by
            rw [List.map_append, HM.out.1, List.take_add_one, HAT.out]
            rfl
          have hap := HAP.out
          rw [← HW3.out] at hap
          have hs := clone_step (f := ⟨fn, fb, fd⟩) rfl HP'.out.1 HP'.out.2 HB.out HO2.out HB2.out hap (by rw [hmap1]; exact good_take HG.out _)
          have HS := Lib.hid hs
          have HM1 := Lib.hid hmap1
          clear hs hap hmap1
          go_roundw
          case rel => exact ⟨k + 1, _, _, by omega, by go_num, HM1.out, by simp [HLE.out], HS.out.1, HS.out.2.1, HS.out.2.2⟩
          case measure => simp [intOf]; omega
      · have hke : k = L.length := by rw [rows_len HL.out]; omega
        have hz : L.take k = L := by rw [hke, List.take_length]
        have HZ := Lib.hid (hmap.trans hz)
        clear hz hke hmap hlen hP' hrow' hB
        go_wp2_with fail
        go_ret
        exact ⟨_, rfl, ⟨l', _, HZ.out, HP'.out.1⟩, HB.out⟩

end Go.Proofs.Ytncppflmpfefkaa.Ec

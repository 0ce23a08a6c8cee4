import Derived.Test.YtdkjimfehipeaaaGreatDoorZRc
/-
  Contract of the document's disk: Write.
-/
namespace Go.Proofs.YtdkjimfehipeaaaGreatDoor.Rd
open Go Go.RowKit Go.Maps Ck Kw Ga Dm Dw Da Db Dc Dd De Df Dg Dh Di Ra Rb Rc
attribute [local go_sem ↓] Go.wp_at_zero Go.wp_at_succ
set_option linter.unusedVariables false

/-- What is known behind the bytes' making, and behind the first store. -/
theorem write_facts {w W : World} {S : Nat → Prop} {q most : Nat} {l : List (Fl × Value)} {ad : Addr} {c i : Nat} {f : Fl} {v : Value} {cs : Array Value} (hP : RParts w S q l most false (.slice (some ad) l.length c)) (had : ad = ⟨ad.block, 0, none⟩) (hlt : i < l.length) (hf : l[i] = (f, v)) (hb : Below w.heap.size w W) (hm : Blk W w.heap.size 153 cs) (out : Value) :
    W.cell? ⟨q, 0, none⟩ = some (.slice (some ad) l.length c) ∧ W.cell? ⟨(ad.add (i * 3)).block, (ad.add (i * 3)).off + 1, none⟩ = some v ∧ W.frozen? ⟨(ad.add (i * 3)).block, (ad.add (i * 3)).off + 1, none⟩ = false ∧
      (W.setCell ⟨(ad.add (i * 3)).block, (ad.add (i * 3)).off + 1, none⟩ out).cell? ⟨q, 0, none⟩ = some (.slice (some ad) l.length c) ∧ (W.setCell ⟨(ad.add (i * 3)).block, (ad.add (i * 3)).off + 1, none⟩ out).cell? ⟨w.heap.size, 2, none⟩ = cs[2]? ∧
      (W.setCell ⟨(ad.add (i * 3)).block, (ad.add (i * 3)).off + 1, none⟩ out).cell? ⟨(ad.add (i * 3)).block, (ad.add (i * 3)).off + 2, none⟩ = some (.int .i64 (f.d : Int)) ∧ (W.setCell ⟨(ad.add (i * 3)).block, (ad.add (i * 3)).off + 1, none⟩ out).frozen? ⟨(ad.add (i * 3)).block, (ad.add (i * 3)).off + 2, none⟩ = false := by
  have hPW := hP.later hb
  obtain ⟨ad', e, -, hq, hfa⟩ := hPW.at_ hlt
  obtain rfl := Option.some.inj e
  have hal := (hP.row.lt ad.block rfl).2
  have a1 := hfa.a1
  have a2 := hfa.a2
  have f1 := hfa.f1
  rw [hf] at a1 a2
  have ha := add_zero had (i * 3)
  rw [ha] at a1 a2 f1 ⊢
  obtain ⟨cur, k1⟩ : ∃ cur, Blk W ad.block 153 cur := by
    rcases hPW.row.2 with ⟨hn, _⟩ | ⟨g, cap, cur, hv', hb', hr, _⟩
    · cases hn
    · have e1 := Option.some.inj (Value.slice.inj hv').1
      have : ad.block = g := by rw [e1]
      exact ⟨cur, by rw [this]; exact hr⟩
  have k2 := k1.set_ (i * 3 + 1) out
  refine ⟨hPW.blk.cell 0, a1, f1, (hPW.blk.far (p := ⟨ad.block, i * 3 + 1, none⟩) (fun e => hq e.symm) _).cell 0, (hm.far (p := ⟨ad.block, i * 3 + 1, none⟩) (Nat.ne_of_gt hal) _).cell 2, ?_, k2.frozen _⟩
  rw [k2.cell, Array.getElem?_setIfInBounds_ne (show i * 3 + 1 ≠ i * 3 + 2 by omega), ← k1.cell]
  exact a2

theorem below_of_app {W1 w5 w6 : World} {e : TypeId} {size n m : Nat} {v v' : Value} {xs ys : List Value} (hb : Below W1.heap.size W1 w5) (ho : w5.ownsRow W1.heap.size e size v n xs) (h : Appended w5 W1.heap.size e size v m ys v' w6) : Below W1.heap.size W1 w6 :=
  hb.grown h.2.1 hb.size (fun g hg => (ho.lt g hg).1)
theorem rdid_drew {w W : World} {S : Nat → Prop} {q most : Nat} {r : List Fl × Nat} {down : Bool} {e : Ending} (h : RDid S q r most down w e W) : RDid S q r most down w e W.drew :=
  ⟨h.1, h.2.1.drewN 1, h.2.2.drew⟩
theorem rwrite_end {w W : World} {S : Nat → Prop} {q most : Nat} {L : List Fl} {l : List (Fl × Value)} {ad : Addr} {c i k base n : Nat} {f : Fl} {x : Tx} {out : Value} (hL : l.map (·.1) = L) (hP : RParts w S q l most false (.slice (some ad) l.length c)) (had : ad = ⟨ad.block, 0, none⟩) (hi : L[i]? = some f)
    (hg : GoodL L most) (hk : k ≤ f.b.length) (hroom : ¬ most + f.b.length < x.length + used L + k) (hb : Below w.heap.size w W) (hbase : w.heap.size ≤ base) (ho : W.ownsRow base 5 1 out n (BVs (wr f.b k x))) (hn : n = (wr f.b k x).length) :
    RDid S q (upd L f.n (setf (wr f.b k x) (min f.d k)), 0) most false w (.returned (.int .i64 0)) (setW W ad i out (min f.d k)) := by
  subst hn
  have hfm := List.mem_of_getElem? hi
  have hnl := wr_len f.b k x hk
  have hu0 := used_upd hg.nodup hfm (setf (wr f.b k x) (min f.d k))
  have hum := used_mem hfm
  have hd := hg.done f hfm
  have hfit := hg.fits
  have hu : used (upd L f.n (setf (wr f.b k x) (min f.d k))) ≤ most := by
    have : (setf (wr f.b k x) (min f.d k) f).b.length = (wr f.b k x).length := rfl
    omega
  have hql := hP.blk.lt
  have hal : ad.block < w.heap.size := by
    have := hP.row.lt ad.block rfl
    exact this.2
  obtain ⟨r1, r2⟩ := rk_set hL (hP.later hb) hi (wr f.b k x) (min f.d k) out (puts_two W had i out _) hb hg (by omega) hu (Sl.of_own ho (fun j h1 h2 h3 => by
    rcases h3 with h3 | h3 | h3
    · exact h3 (.inr ⟨by omega, h2⟩)
    · omega
    · omega))
  exact ⟨rfl, r1, r2⟩

set_option maxRecDepth 100000 in
set_option maxHeartbeats 4000000 in
theorem rwrite_in (w : World) (S X : Nat → Prop) (q : Nat) (L : List Fl) (most : Nat) (s : Tx) (h : Rk w S q L most false) (z : Int) (x : Tx) (Bx : Option Addr) (cx : Nat)
    (hx : Sl w X 1 (.slice Bx x.length cx) x.length (BVs x)) (hxl : x.length ≤ 140737488355328) (f : Fl) (hf : find L s = some f) :
    Calls Tryz.prog 135 #[.pointer (some ⟨q, 0, none⟩), .string ⟨s.toArray⟩, .int .i64 z, .slice Bx x.length cx] w (RDid S q (writeS L most false s z x) most false w) := by
  have H := Lib.hid h
  have HM := Lib.hid (rmay_in w S q L most s h f hf)
  have HG := Lib.hid h.good
  have hlen := h.good.len (find_some hf).1
  have hdone := h.good.done f (find_some hf).1
  obtain ⟨l, lv, hL, hP⟩ := h
  have hfew := hP.good.few
  rw [List.length_map] at hfew
  obtain ⟨A, c, rfl, -⟩ := hP.shape
  have c0 : w.cell? ⟨q, 0, none⟩ = some (.slice A l.length c) := hP.blk.cell 0
  have HP := Lib.hid hP
  have HL := Lib.hid hL
  have HX := Lib.hid hx
  have HF := Lib.hid hf
  clear hP hL hf hx
  go_enter Tryz.func135, Tryz.ntmps135
  go_wp2_with fail
  refine HM.out.mono ?_
  rintro e w' ⟨⟨i, hi, rfl⟩, rfl⟩
  have hlt : i < l.length := rows_lt HL.out hi
  obtain ⟨ad, rfl, had, hadq, hfa⟩ := HP.out.at_ hlt
  have hfe : l[i].1 = f := rows_eq HL.out hi hlt
  have hby := HP.out.bytes _ (List.getElem_mem hlt)
  have HFA := Lib.hid hfa
  rw [hfe] at hby
  obtain ⟨B, d, hxx⟩ : ∃ B d, l[i].2 = .slice B f.b.length d := by
    obtain ⟨B, d, h, _⟩ := hby
    exact ⟨B, d, h⟩
  have a0 := hfa.a0
  have a1 := hfa.a1
  have a2 := hfa.a2
  rw [hfe] at a0 a2
  rw [hxx] at a1 hby
  have HBY := Lib.hid hby
  have HI := Lib.hid hi
  have HAD := Lib.hid had
  have hi2 : (i : Int) < (l.length : Int) := by omega
  have hi0 : (0 : Int) ≤ (i : Int) := by omega
  have hli : l[i] = (f, .slice B f.b.length d) := Prod.ext hfe hxx
  have HLI := Lib.hid hli
  clear hfa hfe hi hby had hxx hli
  have HM0 : Hid (Blk (w.alloc (.cells #[.string ⟨f.n.toArray⟩, .slice B f.b.length d, .int .i64 (f.d : Int)] 153)) w.heap.size 153 #[.string ⟨f.n.toArray⟩, .slice B f.b.length d, .int .i64 (f.d : Int)]) := Lib.hid (Blk.new _ _ _)
  have HBW : Hid (Below w.heap.size w (w.alloc (.cells #[.string ⟨f.n.toArray⟩, .slice B f.b.length d, .int .i64 (f.d : Int)] 153))) := Lib.hid ((Below.refl _ w).alloc (Nat.le_refl _) _)
  have HSZ : Hid ((w.alloc (.cells #[.string ⟨f.n.toArray⟩, .slice B f.b.length d, .int .i64 (f.d : Int)] 153)).heap.size = w.heap.size + 1) := Lib.hid (by simp)
  by_cases hz : z < 0
  · have e : writeS L most false s z x = (L, 1) := by rw [write_some HF.out, if_pos (.inl hz)]
    have HE := Lib.hid e
    clear e
    go_wp2_with fail
    go_ret
    rw [HE.out]
    exact rdid_later H.out HBW.out
  · by_cases hz2 : (f.b.length : Int) < z
    · have e : writeS L most false s z x = (L, 1) := by rw [write_some HF.out, if_pos (.inr hz2)]
      have HE := Lib.hid e
      clear e
      go_wp2_with fail
      go_ret
      rw [HE.out]
      exact rdid_later H.out HBW.out
    · obtain ⟨k, rfl⟩ : ∃ k : Nat, z = (k : Int) := ⟨z.toNat, by omega⟩
      have hk : k ≤ f.b.length := by omega
      have e : writeS L most false s (k : Int) x = putS L most f k x := by
        rw [write_some HF.out, if_neg (by omega)]
        rfl
      have HE := Lib.hid e
      clear e
      have HU : Hid (∀ n, Calls Tryz.prog 156 #[.pointer (some ⟨q, 0, none⟩)] ((w.alloc (.cells #[.string ⟨f.n.toArray⟩, .slice B f.b.length d, .int .i64 (f.d : Int)] 153)).drewN n) fun e w'' => e = .returned (.int .i64 (used L : Int)) ∧ ∃ m, w'' = (w.alloc (.cells #[.string ⟨f.n.toArray⟩, .slice B f.b.length d, .int .i64 (f.d : Int)] 153)).drewN m) := Lib.hid fun n =>
        (rused_any _ S q L most false ((H.out.later HBW.out).drewN n)).mono fun e w'' ⟨h1, h2⟩ => ⟨h1, n, h2.symm⟩
      have c1' : (w.alloc (.cells #[.string ⟨f.n.toArray⟩, .slice B f.b.length d, .int .i64 (f.d : Int)] 153)).cell? ⟨q, 1, none⟩ = some (.int .i64 (most : Int)) := (HP.out.blk.alloc _).cell 1
      have hfit := HG.out.fits
      have hroom := HG.out.room
      by_cases hov : most + f.b.length < x.length + used L + k
      · have e : putS L most f k x = (L, 30) := by rw [putS, if_pos hov]
        have hgt : (most : Int) - (used L : Int) < (x.length : Int) - ((f.b.length : Int) - (k : Int)) := by omega
        have hgt0 : (0 : Int) < (x.length : Int) - ((f.b.length : Int) - (k : Int)) := by omega
        have HE2 := Lib.hid (HE.out.trans e)
        clear e
        have hw1 : IntKind.i64.wrap ((x.length : Int) - ((f.b.length : Int) - (k : Int))) = (x.length : Int) - ((f.b.length : Int) - (k : Int)) := wrap64 (by omega) (by omega)
        have hw2 : IntKind.i64.wrap ((f.b.length : Int) - (k : Int)) = (f.b.length : Int) - (k : Int) := wrap64 (by omega) (by omega)
        have hw3 : IntKind.i64.wrap ((most : Int) - (used L : Int)) = (most : Int) - (used L : Int) := wrap64 (by omega) (by omega)
        go_wp2_with fail
        go_quiet ((go_at_call 156; exact HU.out _))
        go_wp2_with fail
        go_ret
        rw [HE2.out]
        exact rdid_later H.out (below_drewN HBW.out _)
      · have e : putS L most f k x = (upd L f.n (setf (wr f.b k x) (min f.d k)), 0) := by rw [putS, if_neg hov]
        have HE2 := Lib.hid (HE.out.trans e)
        clear e
        have hgt : ¬ ((most : Int) - (used L : Int) < (x.length : Int) - ((f.b.length : Int) - (k : Int))) := by omega
        have hgt' : decide ((most : Int) - (used L : Int) < (x.length : Int) - ((f.b.length : Int) - (k : Int))) = false := by rw [decide_eq_false_iff_not]; exact hgt
        have hw1 : IntKind.i64.wrap ((x.length : Int) - ((f.b.length : Int) - (k : Int))) = (x.length : Int) - ((f.b.length : Int) - (k : Int)) := wrap64 (by omega) (by omega)
        have hw2 : IntKind.i64.wrap ((f.b.length : Int) - (k : Int)) = (f.b.length : Int) - (k : Int) := wrap64 (by omega) (by omega)
        have hw3 : IntKind.i64.wrap ((most : Int) - (used L : Int)) = (most : Int) - (used L : Int) := wrap64 (by omega) (by omega)
        go_wp2_with fail
        go_quiet ((go_at_call 156; exact HU.out _))
        obtain ⟨i0, hi0, hz0, hz1, hz2⟩ := info_parts info_u8
        have hbd : f.b.length ≤ d := by
          obtain ⟨B0, d0, hv, _, hcc, _⟩ := HBY.out
          have := (Value.slice.inj hv).2.2
          omega
        have hsu := fun W => slice_upto B f.b.length d k (by omega) W
        have hut : Sl w (fun k => ¬ S k ∨ k = q ∨ (Value.slice (some ad) l.length c).ownBlock = some k) 1 (.slice B k d) k (BVs (f.b.take k)) := by rw [BVs_take]; exact HBY.out.upto hk
        have HUT := Lib.hid hut
        have hb1 := HBW.out
        have HM1 : Hid (∀ w2, Below (w.alloc (.cells #[.string ⟨f.n.toArray⟩, .slice B f.b.length d, .int .i64 (f.d : Int)] 153)).heap.size (w.alloc (.cells #[.string ⟨f.n.toArray⟩, .slice B f.b.length d, .int .i64 (f.d : Int)] 153)) w2 → w2.cell? ⟨w.heap.size, 1, none⟩ = some (.slice B f.b.length d)) := Lib.hid fun w2 hb => (HM0.out.below hb HM0.out.lt).cell 1
        clear hut hb1
        generalize hWW : w.alloc (.cells #[.string ⟨f.n.toArray⟩, .slice B f.b.length d, .int .i64 (f.d : Int)] 153) = W1 at *
        clear hWW
        have m1 := HM1.out W1 (Below.refl _ _)
        have HFT : Hid (∀ W2, Below W1.heap.size W1 W2 → ∀ out, _) := Lib.hid (fun W2 hb out => write_facts HP.out HAD.out hlt HLI.out (HBW.out.trans (hb.mono HBW.out.size)) (HM0.out.below hb HM0.out.lt) out)
        by_cases hmore : k + x.length < f.b.length
        · obtain ⟨B', hs2, hB'⟩ := slice_from B f.b.length d (k + x.length) (by omega) hbd
          have hdr : Sl w (fun k => ¬ S k ∨ k = q ∨ (Value.slice (some ad) l.length c).ownBlock = some k) 1 (.slice B' (f.b.length - (k + x.length)) (d - (k + x.length))) (f.b.length - (k + x.length)) (BVs (f.b.drop (k + x.length))) := by rw [BVs_drop]; exact HBY.out.cut (by omega) B' hB'
          have HDR := Lib.hid hdr
          have hs3 := hs2
          simp only [Int.natCast_add] at hs3
          clear hdr hB'
          have hm1 : ((k + x.length : Nat) : Int) < (f.b.length : Int) := by omega
          have hm2 : (0 : Int) ≤ ((k + x.length : Nat) : Int) := by omega
          go_wp2_with (first
            | (at_builtin; refine wpList_append_new _ rfl (.tmp 60) (.tmp 64) _ rfl 5 i0 _ 1 1 Tryz.underlying22 hi0 hz0 hz1 hz2 rfl (by omega) rfl _ _ k (BVs (f.b.take k)) rfl ((HUT.out.after HBW.out).drewN nq) (BVs_one _) (by simp only [maxLen]; omega) (by omega) ?_; intro A5 c5 w5 ho5 hb5; have HO5 := Lib.hid ho5; have HB5 : Hid (Below W1.heap.size W1 w5) := Lib.hid ⟨hb5.os, hb5.tape, hb5.output, hb5.size, hb5.block⟩; have m5 := HM1.out w5 HB5.out; clear ho5 hb5)
            | (at_builtin; refine wpList_append_sh _ rfl (.tmp 65) (.tmp 66) _ rfl W1.heap.size 5 i0 _ 1 1 Tryz.underlying22 hi0 hz0 hz1 hz2 rfl (by omega) _ k _ rfl HO5.out X _ x.length (BVs x) rfl ((HX.out.after HBW.out).after HB5.out) (BVs_one _) (by simp only [maxLen]; omega) (by omega) (by exact HB5.out.size) ?_; intro A6 c6 w6 happ; have HAP := Lib.hid happ; have HB6 := Lib.hid (below_of_app HB5.out HO5.out happ); have m6 := HM1.out w6 HB6.out; clear happ)
            | (at_builtin; refine wpList_append_sh _ rfl (.tmp 74) (.tmp 79) _ rfl W1.heap.size 5 i0 _ 1 1 Tryz.underlying22 hi0 hz0 hz1 hz2 rfl (by omega) _ (k + x.length) _ rfl HAP.out.1 _ _ (f.b.length - (k + x.length)) (BVs (f.b.drop (k + x.length))) rfl ((HDR.out.after HBW.out).after HB6.out) (BVs_one _) (by simp only [maxLen]; omega) (by omega) (by exact HB6.out.size) ?_; intro A8 c8 w8 happ8; have HAP8 := Lib.hid happ8; have HB8 := Lib.hid (below_of_app HB6.out HAP.out.1 happ8); have FT := HFT.out w8 HB8.out (.slice A8 (k + x.length + (f.b.length - (k + x.length))) c8); have g1 := FT.1; have g2 := FT.2.1; have g3 := FT.2.2.1; have g4 := FT.2.2.2.1; have g5 := FT.2.2.2.2.1; have g6 := FT.2.2.2.2.2.1; have g7 := FT.2.2.2.2.2.2; simp only [List.getElem?_toArray, List.getElem?_cons_zero, List.getElem?_cons_succ] at g5; clear happ8 FT))
          generalize hW9 : w8.setCell ⟨(ad.add (i * 3)).block, (ad.add (i * 3)).off + 1, none⟩ (.slice A8 (k + x.length + (f.b.length - (k + x.length))) c8) = W9 at *
          have HW9 := Lib.hid hW9
          clear hW9
          go_still_tail 11, (by kernel_rfl)
          change wpList _ _ _ _ _ W9.drew
          go_wp2_with fail
          go_ret
          rw [HE2.out, min_int, ← HW9.out]
          have ho := HAP8.out.1
          rw [← BVs_app, ← BVs_app, show f.b.take k ++ x ++ f.b.drop (k + x.length) = wr f.b k x from rfl] at ho
          exact rdid_drew (rwrite_end (base := W1.heap.size) HL.out HP.out HAD.out HI.out HG.out hk hov (HBW.out.trans (HB8.out.mono HBW.out.size)) HBW.out.size ho (by rw [wr_len f.b k x hk]; omega))
        · have hm1 : (f.b.length : Int) ≤ ((k + x.length : Nat) : Int) := by omega
          have hm2 : ¬ (((k + x.length : Nat) : Int) < (f.b.length : Int)) := by omega
          have hwr : f.b.take k ++ x = wr f.b k x := by rw [wr, List.drop_eq_nil_of_le (by omega), List.append_nil]
          have HWR := Lib.hid hwr
          clear hwr
          go_wp2_with (first
            | (at_builtin; refine wpList_append_new _ rfl (.tmp 60) (.tmp 64) _ rfl 5 i0 _ 1 1 Tryz.underlying22 hi0 hz0 hz1 hz2 rfl (by omega) rfl _ _ k (BVs (f.b.take k)) rfl ((HUT.out.after HBW.out).drewN nq) (BVs_one _) (by simp only [maxLen]; omega) (by omega) ?_; intro A5 c5 w5 ho5 hb5; have HO5 := Lib.hid ho5; have HB5 : Hid (Below W1.heap.size W1 w5) := Lib.hid ⟨hb5.os, hb5.tape, hb5.output, hb5.size, hb5.block⟩; have m5 := HM1.out w5 HB5.out; clear ho5 hb5)
            | (at_builtin; refine wpList_append_sh _ rfl (.tmp 65) (.tmp 66) _ rfl W1.heap.size 5 i0 _ 1 1 Tryz.underlying22 hi0 hz0 hz1 hz2 rfl (by omega) _ k _ rfl HO5.out X _ x.length (BVs x) rfl ((HX.out.after HBW.out).after HB5.out) (BVs_one _) (by simp only [maxLen]; omega) (by omega) (by exact HB5.out.size) ?_; intro A6 c6 w6 happ; have HAP := Lib.hid happ; have HB6 := Lib.hid (below_of_app HB5.out HO5.out happ); have m6 := HM1.out w6 HB6.out; have FT := HFT.out w6 HB6.out (.slice A6 (k + x.length) c6); have g1 := FT.1; have g2 := FT.2.1; have g3 := FT.2.2.1; have g4 := FT.2.2.2.1; have g5 := FT.2.2.2.2.1; have g6 := FT.2.2.2.2.2.1; have g7 := FT.2.2.2.2.2.2; simp only [List.getElem?_toArray, List.getElem?_cons_zero, List.getElem?_cons_succ] at g5; clear happ FT))
          generalize hW9 : w6.setCell ⟨(ad.add (i * 3)).block, (ad.add (i * 3)).off + 1, none⟩ (.slice A6 (k + x.length) c6) = W9 at *
          have HW9 := Lib.hid hW9
          clear hW9
          go_still_tail 11, (by kernel_rfl)
          change wpList _ _ _ _ _ W9.drew
          go_wp2_with fail
          go_ret
          rw [HE2.out, min_int, ← HW9.out]
          have ho := HAP.out.1
          rw [← BVs_app, HWR.out] at ho
          exact rdid_drew (rwrite_end (base := W1.heap.size) HL.out HP.out HAD.out HI.out HG.out hk hov (HBW.out.trans (HB6.out.mono HBW.out.size)) HBW.out.size ho (by rw [wr_len f.b k x hk]; omega))

end Go.Proofs.YtdkjimfehipeaaaGreatDoor.Rd

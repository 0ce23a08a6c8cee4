import Derived.Test.YtdkjimfehipeaaaGreatDoorZRd
/-
  Contracts of the document's disk: Write, whatever comes; Append.
-/
namespace Go.Proofs.YtdkjimfehipeaaaGreatDoor.Re
open Go Go.RowKit Go.Maps Ck Kw Ga Dm Dw Da Db Dc Dd De Df Dg Dh Di Ra Rb Rc Rd
attribute [local go_sem ↓] Go.wp_at_zero Go.wp_at_succ
set_option linter.unusedVariables false

theorem rwrite_any (w : World) (S X : Nat → Prop) (q : Nat) (L : List Fl) (most : Nat) (down : Bool) (s : Tx) (h : Rk w S q L most down) (z : Int) (x : Tx) (Bx : Option Addr) (cx : Nat)
    (hx : Sl w X 1 (.slice Bx x.length cx) x.length (BVs x)) (hxl : x.length ≤ 140737488355328) :
    Calls Tryz.prog 135 #[.pointer (some ⟨q, 0, none⟩), .string ⟨s.toArray⟩, .int .i64 z, .slice Bx x.length cx] w (RDid S q (writeS L most down s z x) most down w) := by
  rcases find_cases L down s with ⟨c, hc1, hc2, hc⟩ | ⟨rfl, f, hf⟩
  · have HM := Lib.hid (rmay_no w S q L most down s h c hc)
    have H := Lib.hid h
    rw [write_no hc]
    have hne : ((c : Int) == 0) = false := by rw [beq_eq_false_iff_ne]; omega
    clear h hc hx
    go_enter Tryz.func135, Tryz.ntmps135
    go_wp2_with (go_at_call 114; refine HM.out.mono ?_; rintro e w' ⟨rfl, rfl⟩)
    go_ret
    exact rdid_refl H.out
  · exact rwrite_in w S X q L most s h z x Bx cx hx hxl f hf

theorem upd_self {L : List Fl} (hn : (L.map (·.n)).Nodup) {i : Nat} {f : Fl} (hi : L[i]? = some f) : upd L f.n (setf f.b f.d) = L := by
  rw [← set_upd hn hi]
  obtain ⟨hl, he⟩ := List.getElem?_eq_some_iff.1 hi
  show L.set i ⟨f.n, f.b, f.d⟩ = L
  have : (⟨f.n, f.b, f.d⟩ : Fl) = L[i] := he.symm
  rw [this, List.set_getElem_self]
/-- How many are sure, stored as it was. -/
theorem rk_same {W : World} {S : Nat → Prop} {q most : Nat} {L : List Fl} {l : List (Fl × Value)} {down : Bool} {ad : Addr} {c i : Nat} {f : Fl} (hL : l.map (·.1) = L) (h : RParts W S q l most down (.slice (some ad) l.length c)) (had : ad = ⟨ad.block, 0, none⟩) (hi : L[i]? = some f) :
    Rk (W.setCell ⟨(ad.add (i * 3)).block, (ad.add (i * 3)).off + 2, none⟩ (.int .i64 (f.d : Int))) S q L most down ∧ Ch S W (W.setCell ⟨(ad.add (i * 3)).block, (ad.add (i * 3)).off + 2, none⟩ (.int .i64 (f.d : Int))) := by
  have hlt := rows_lt hL hi
  have hfe := rows_eq hL hi hlt
  have hg : GoodL L most := by rw [← hL]; exact h.good
  obtain ⟨ad', e, -, -, hfa⟩ := h.at_ hlt
  obtain rfl := Option.some.inj e
  have hby := h.bytes _ (List.getElem_mem hlt)
  rw [hfe] at hby
  have hp := puts_done had hfa f.d
  have hself := upd_self hg.nodup hi
  have hset : (l.set i (⟨l[i].1.n, f.b, f.d⟩, l[i].2)).map (·.1) = L := by
    rw [List.map_set, hL, hfe]
    have := set_upd hg.nodup hi f.b f.d
    rw [hself] at this
    exact this
  have h1 := rparts_set h hlt f.b f.d l[i].2 hp (hby.weaken (fun k _ hk => by
    rcases hk with hk | hk | hk
    · exact .inl hk
    · exact .inr (.inl hk)
    · exact .inr (.inr (by rw [hk]; rfl)))) (by rw [hset]; exact hg)
  exact ⟨⟨_, _, hset, h1⟩, hp.1.mono (fun k _ hk => by rw [hk]; exact h.slv _ rfl)⟩

theorem app_some {L : List Fl} {room : Nat} {s x : Tx} {f : Fl} (hf : find L s = some f) : appS L room false s x = putS L room f f.b.length x := by rw [appS, hf]; rfl

set_option maxRecDepth 100000 in
set_option maxHeartbeats 1000000 in
theorem rappend_any (w : World) (S X : Nat → Prop) (q : Nat) (L : List Fl) (most : Nat) (down : Bool) (s : Tx) (h : Rk w S q L most down) (x : Tx) (Bx : Option Addr) (cx : Nat)
    (hx : Sl w X 1 (.slice Bx x.length cx) x.length (BVs x)) (hxl : x.length ≤ 140737488355328) :
    Calls Tryz.prog 106 #[.pointer (some ⟨q, 0, none⟩), .string ⟨s.toArray⟩, .slice Bx x.length cx] w (RDid S q (appS L most down s x) most down w) := by
  rcases find_cases L down s with ⟨c, hc1, hc2, hc⟩ | ⟨rfl, f, hf⟩
  · have HM := Lib.hid (rmay_no w S q L most down s h c hc)
    have H := Lib.hid h
    rw [app_no hc]
    have hne : ((c : Int) == 0) = false := by rw [beq_eq_false_iff_ne]; omega
    clear h hc hx
    go_enter Tryz.func106, Tryz.ntmps106
    go_wp2_with (go_at_call 114; refine HM.out.mono ?_; rintro e w' ⟨rfl, rfl⟩)
    go_ret
    exact rdid_refl H.out
  · have HM := Lib.hid (rmay_in w S q L most s h f hf)
    have HG := Lib.hid h.good
    have hlen := h.good.len (find_some hf).1
    have hdone := h.good.done f (find_some hf).1
    have HWR : Hid (Calls Tryz.prog 135 #[.pointer (some ⟨q, 0, none⟩), .string ⟨s.toArray⟩, .int .i64 (f.b.length : Int), .slice Bx x.length cx] w (RDid S q (appS L most false s x) most false w)) := Lib.hid (by
      have := rwrite_in w S X q L most s h (f.b.length : Int) x Bx cx hx hxl f hf
      rw [write_some hf, if_neg (by omega)] at this
      rw [app_some hf]
      exact this)
    obtain ⟨l, lv, hL, hP⟩ := h
    have hfew := hP.good.few
    rw [List.length_map] at hfew
    obtain ⟨A, c, rfl, -⟩ := hP.shape
    have c0 : w.cell? ⟨q, 0, none⟩ = some (.slice A l.length c) := hP.blk.cell 0
    have HP := Lib.hid hP
    have HL := Lib.hid hL
    have HF := Lib.hid hf
    clear hP hL hf hx
    go_enter Tryz.func106, Tryz.ntmps106
    go_wp2_with fail
    refine HM.out.mono ?_
    rintro e w' ⟨⟨i, hi, rfl⟩, rfl⟩
    have hlt : i < l.length := rows_lt HL.out hi
    obtain ⟨ad, rfl, had, hadq, hfa⟩ := HP.out.at_ hlt
    have hfe : l[i].1 = f := rows_eq HL.out hi hlt
    obtain ⟨B, d, hxx⟩ : ∃ B d, l[i].2 = .slice B f.b.length d := by
      obtain ⟨B, d, h, _⟩ := HP.out.bytes _ (List.getElem_mem hlt)
      rw [hfe] at h
      exact ⟨B, d, h⟩
    have a1 := hfa.a1
    have a2 := hfa.a2
    rw [hfe] at a2
    rw [hxx] at a1
    have HI := Lib.hid hi
    have hi2 : (i : Int) < (l.length : Int) := by omega
    have hi0 : (0 : Int) ≤ (i : Int) := by omega
    clear hfa hfe hi had hxx
    go_wp2_with fail
    refine HWR.out.mono ?_
    rintro e w2 ⟨rfl, hR2, hC2⟩
    obtain ⟨l2, lv2, hL2, hP2⟩ := hR2
    have hfew2 := hP2.good.few
    rw [List.length_map] at hfew2
    obtain ⟨A2, c2, rfl, -⟩ := hP2.shape
    have e0 : w2.cell? ⟨q, 0, none⟩ = some (.slice A2 l2.length c2) := hP2.blk.cell 0
    obtain ⟨f2, hf2, hd2⟩ : ∃ f2, (appS L most false s x).1[i]? = some f2 ∧ f2.d = f.d := by
      rw [app_some HF.out]
      unfold putS
      split
      · exact ⟨f, HI.out, rfl⟩
      · refine ⟨setf (wr f.b f.b.length x) (min f.d f.b.length) f, ?_, by show min f.d f.b.length = f.d; omega⟩
        show (upd L f.n _)[i]? = _
        rw [← set_upd HG.out.nodup HI.out, List.getElem?_set_self (List.getElem?_eq_some_iff.1 HI.out).1]
    have hlt2 : i < l2.length := rows_lt hL2 hf2
    obtain ⟨ad2, rfl, had2, hadq2, hfa2⟩ := hP2.at_ hlt2
    have hi3 : (i : Int) < (l2.length : Int) := by omega
    have b2 := hfa2.a2
    have g2 := hfa2.f2
    have HR := Lib.hid (rk_same hL2 hP2 had2 hf2)
    rw [hd2] at HR
    have HC2 := Lib.hid hC2
    clear hL2 hP2 had2 hfa2 hf2 hd2 hC2
    go_wp2_with fail
    go_ret
    exact ⟨rfl, HR.out.1.weaken (fun k hk => up_mono HR.out.2.size hk), ch_two HC2.out HR.out.2⟩

end Go.Proofs.YtdkjimfehipeaaaGreatDoor.Re

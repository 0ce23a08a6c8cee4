import Derived.Test.YtdkjimfehipeaaaGreatDoorZRb
import Derived.StillTailTactics
/-
  A file of the document's disk set in its place.
-/
namespace Go.Proofs.YtdkjimfehipeaaaGreatDoor.Rc
open Go Go.RowKit Go.Maps Ck Kw Ga Dm Dw Da Db Dc Dd De Df Dg Dh Di Ra Rb
attribute [local go_sem ↓] Go.wp_at_zero Go.wp_at_succ
set_option linter.unusedVariables false

theorem FCs_set (l : List (Fl × Value)) (i : Nat) (hi : i < l.length) (b : Tx) (d : Nat) (v : Value) :
    FCs (l.set i (⟨l[i].1.n, b, d⟩, v)) = ((FCs l).set (i * 3 + 1) v).set (i * 3 + 2) (.int .i64 (d : Int)) := by
  induction l generalizing i with
  | nil => exact absurd hi (by simp)
  | cons x l ih =>
    cases i with
    | zero => rfl
    | succ i =>
      have hx : (FC x).length = 3 := rfl
      rw [List.set_cons_succ, FCs_cons, FCs_cons, List.set_append_right _ _ (by omega), List.set_append_right _ _ (by omega), hx]
      rw [show (i + 1) * 3 + 1 - 3 = i * 3 + 1 from by omega, show (i + 1) * 3 + 2 - 3 = i * 3 + 2 from by omega]
      congr 1
      exact ih i (by simpa using hi)
theorem set_upd {L : List Fl} (hn : (L.map (·.n)).Nodup) {i : Nat} {f : Fl} (hi : L[i]? = some f) (b : Tx) (d : Nat) : L.set i (setf b d f) = upd L f.n (setf b d) := by
  induction L generalizing i with
  | nil => simp at hi
  | cons x L ih =>
    rw [List.map_cons, List.nodup_cons] at hn
    cases i with
    | zero =>
      simp at hi
      subst hi
      have : upd L x.n (setf b d) = L := upd_other (fun h hh e => hn.1 (List.mem_map.2 ⟨h, hh, e⟩))
      show setf b d x :: L = (if x.n = x.n then setf b d x else x) :: upd L x.n (setf b d)
      rw [this, if_pos rfl]
    | succ i =>
      have hi' : L[i]? = some f := by simpa using hi
      have hne : x.n ≠ f.n := fun e => hn.1 (List.mem_map.2 ⟨f, List.mem_of_getElem? hi', e.symm⟩)
      rw [List.set_cons_succ, ih hn.2 hi']
      show x :: upd L f.n (setf b d) = (if x.n = f.n then setf b d x else x) :: upd L f.n (setf b d)
      rw [if_neg hne]

/-- The world behind the two stores. -/
def setW (W : World) (ad : Addr) (i : Nat) (v : Value) (d : Nat) : World :=
  (W.setCell ⟨(ad.add (i * 3)).block, (ad.add (i * 3)).off + 1, none⟩ v).setCell ⟨(ad.add (i * 3)).block, (ad.add (i * 3)).off + 2, none⟩ (.int .i64 (d : Int))
/-- A file's bytes and how many are sure have been stored. -/
def Puts (W W' : World) (ad : Addr) (i : Nat) (v : Value) (d : Nat) : Prop :=
  Ch (fun k => k = ad.block) W W' ∧ ∀ cur, Blk W ad.block 153 cur → ∃ cur', Blk W' ad.block 153 cur' ∧ cur'.size = cur.size ∧ cur'.toList = (cur.toList.set (i * 3 + 1) v).set (i * 3 + 2) (.int .i64 (d : Int))
theorem puts_two (W : World) {ad : Addr} (had : ad = ⟨ad.block, 0, none⟩) (i : Nat) (v : Value) (d : Nat) : Puts W (setW W ad i v d) ad i v d := by
  have ha := add_zero had (i * 3)
  unfold setW
  rw [ha]
  refine ⟨((Ch.refl (fun k => k = ad.block) W).setCell (p := ⟨ad.block, i * 3 + 1, none⟩) (fun _ => rfl) _).setCell (p := ⟨ad.block, i * 3 + 2, none⟩) (fun _ => rfl) _, fun cur hk => ⟨_, (hk.set_ (i * 3 + 1) v).set_ (i * 3 + 2) _, by simp, by simp⟩⟩
theorem puts_done {W : World} {ad : Addr} (had : ad = ⟨ad.block, 0, none⟩) {i : Nat} {x : Fl × Value} (h : FlAt W ad i x) (d : Nat) : Puts W (W.setCell ⟨(ad.add (i * 3)).block, (ad.add (i * 3)).off + 2, none⟩ (.int .i64 (d : Int))) ad i x.2 d := by
  have ha := add_zero had (i * 3)
  have a1 := h.a1
  rw [ha] at a1 ⊢
  refine ⟨(Ch.refl (fun k => k = ad.block) W).setCell (p := ⟨ad.block, i * 3 + 2, none⟩) (fun _ => rfl) _, fun cur hk => ⟨_, hk.set_ (i * 3 + 2) _, by simp, ?_⟩⟩
  have h1 : cur.toList[i * 3 + 1]? = some x.2 := by rw [← a1, hk.cell]; simp
  obtain ⟨hl, he⟩ := List.getElem?_eq_some_iff.1 h1
  rw [Array.toList_setIfInBounds, ← he, List.set_getElem_self]

theorem rparts_set {W W' : World} {S : Nat → Prop} {q most : Nat} {l : List (Fl × Value)} {down : Bool} {ad : Addr} {c i : Nat} (h : RParts W S q l most down (.slice (some ad) l.length c)) (hi : i < l.length) (b : Tx) (d : Nat) (v : Value) (hp : Puts W W' ad i v d)
    (hv : Sl W (fun k => ¬ S k ∨ k = q ∨ k = ad.block) 1 v b.length (BVs b)) (hg : GoodL ((l.set i (⟨l[i].1.n, b, d⟩, v)).map (·.1)) most) :
    RParts W' S q (l.set i (⟨l[i].1.n, b, d⟩, v)) most down (.slice (some ad) l.length c) := by
  have hfar := own_far h.row h.blk (by decide)
  have hqa : q ≠ ad.block := fun e => hfar (by show some ad.block = some q; rw [e])
  obtain ⟨hc, hcur⟩ := hp
  refine ⟨h.blk.ch hc hqa, ?_, h.sq, h.slv, fun x hx => ?_, hg⟩
  · rcases h.row.2 with ⟨hn, _⟩ | ⟨g, cap, cur, hv', hb, hr, h1, h2, h3, h4⟩
    · cases hn
    · obtain ⟨e1, _, e3⟩ := Value.slice.inj hv'
      have e1 := Option.some.inj e1
      subst e1
      obtain ⟨cur', k1, k2, k3⟩ := hcur cur hr
      refine ⟨by rw [FCs_len, List.length_set], .inr ⟨g, cap, cur', by rw [List.length_set, e3], hb, k1, by rw [List.length_set]; exact h1, h2, by rw [k2]; exact h3, ?_⟩⟩
      rw [FCs_set l i hi, ← h4, List.length_set, k3]
      simp only [List.take_set]
  · rcases List.mem_or_eq_of_mem_set hx with hx | rfl
    · exact (h.bytes x hx).ch hc (fun k _ e => .inr (.inr (by rw [e]; rfl)))
    · refine (hv.ch hc (fun k _ e => .inr (.inr e))).weaken (fun k _ hk => ?_)
      rcases hk with hk | hk | hk
      · exact .inl hk
      · exact .inr (.inl hk)
      · exact .inr (.inr (Option.some.inj hk).symm)

/-- The same, said of the disk. -/
theorem rk_set {w W W' : World} {S : Nat → Prop} {q most : Nat} {L : List Fl} {l : List (Fl × Value)} {down : Bool} {ad : Addr} {c i : Nat} {f : Fl} (hL : l.map (·.1) = L) (h : RParts W S q l most down (.slice (some ad) l.length c)) (hi : L[i]? = some f) (b : Tx) (d : Nat) (v : Value) (hp : Puts W W' ad i v d)
    (hcw : Below w.heap.size w W) (hgr : GoodL L most) (hd : d ≤ b.length) (hu : used (upd L f.n (setf b d)) ≤ most)
    (hv : Sl W (fun k => ¬ Up S w W k ∨ k = q ∨ k = ad.block) 1 v b.length (BVs b)) :
    Rk W' (Up S w W') q (upd L f.n (setf b d)) most down ∧ Ch S w W' := by
  have hlt := rows_lt hL hi
  have hfe := rows_eq hL hi hlt
  have hset : (l.set i (⟨l[i].1.n, b, d⟩, v)).map (·.1) = upd L f.n (setf b d) := by
    rw [List.map_set, hL, hfe]
    exact set_upd hgr.nodup hi b d
  have hU : RParts W (Up S w W) q l most down (.slice (some ad) l.length c) := h.weaken (fun k hk => .inl hk)
  have h1 := rparts_set hU hlt b d v hp hv (by rw [hset]; exact good_upd hgr (List.mem_of_getElem? hi) hd hu)
  have hs := hp.1.size
  exact ⟨⟨_, _, hset, h1.weaken (fun k hk => up_mono hs hk)⟩, (Ch.of_below hcw (Nat.le_refl _)).trans (hp.1.mono (T := S) (fun k _ hk => by rw [hk]; exact h.slv _ rfl)) (fun _ _ h => h)⟩

theorem old_sl {w W : World} {S : Nat → Prop} {q size n m c : Nat} {ad : Addr} {v : Value} {xs : List Value} (h : Sl W (fun k => ¬ S k ∨ k = q ∨ (Value.slice (some ad) m c).ownBlock = some k) size v n xs) : Sl W (fun k => ¬ Up S w W k ∨ k = q ∨ k = ad.block) size v n xs :=
  h.weaken (fun k _ hk => by
    rcases hk with hk | hk | hk
    · exact .inl (fun hs => hk (.inl hs))
    · exact .inr (.inl hk)
    · exact .inr (.inr (by rw [hk]; rfl)))
theorem sync_some {L : List Fl} {s : Tx} {f : Fl} (hf : find L s = some f) : syncS L false s = (upd L f.n (setf f.b f.b.length), 0) := by rw [syncS, hf]; rfl

set_option maxRecDepth 100000 in
set_option maxHeartbeats 1000000 in
theorem rsync_any (w : World) (S : Nat → Prop) (q : Nat) (L : List Fl) (most : Nat) (down : Bool) (s : Tx) (h : Rk w S q L most down) :
    Calls Tryz.prog 109 #[.pointer (some ⟨q, 0, none⟩), .string ⟨s.toArray⟩] w (RDid S q (syncS L down s) most down w) := by
  rcases find_cases L down s with ⟨c, hc1, hc2, hc⟩ | ⟨rfl, f, hf⟩
  · have HM := Lib.hid (rmay_no w S q L most down s h c hc)
    have H := Lib.hid h
    rw [sync_no hc]
    have hne : ((c : Int) == 0) = false := by rw [beq_eq_false_iff_ne]; omega
    clear h hc
    go_enter Tryz.func109, Tryz.ntmps109
    go_wp2_with (go_at_call 114; refine HM.out.mono ?_; rintro e w' ⟨rfl, rfl⟩)
    go_ret
    exact rdid_refl H.out
  · rw [sync_some hf]
    have HM := Lib.hid (rmay_in w S q L most s h f hf)
    have HG := Lib.hid h.good
    obtain ⟨l, lv, hL, hP⟩ := h
    have hfew := hP.good.few
    rw [List.length_map] at hfew
    obtain ⟨A, c, rfl, -⟩ := hP.shape
    have c0 : w.cell? ⟨q, 0, none⟩ = some (.slice A l.length c) := hP.blk.cell 0
    have HP := Lib.hid hP
    have HL := Lib.hid hL
    clear hP hL hf
    go_enter Tryz.func109, Tryz.ntmps109
    go_wp2_with fail
    refine HM.out.mono ?_
    rintro e w' ⟨⟨i, hi, rfl⟩, rfl⟩
    have hlt : i < l.length := rows_lt HL.out hi
    obtain ⟨ad, rfl, had, hadq, hfa⟩ := HP.out.at_ hlt
    have hfe : l[i].1 = f := rows_eq HL.out hi hlt
    have hby := HP.out.bytes _ (List.getElem_mem hlt)
    have HFA := Lib.hid hfa
    rw [hfe] at hby
    obtain ⟨B, d, hx⟩ : ∃ B d, l[i].2 = .slice B f.b.length d := by
      obtain ⟨B, d, h, _⟩ := hby
      exact ⟨B, d, h⟩
    have a1 := hfa.a1
    have a2 := hfa.a2
    have f2 := hfa.f2
    rw [hx] at a1
    have HBY := Lib.hid hby
    have HI := Lib.hid hi
    have HAD := Lib.hid had
    clear hfa hfe hi hby hx had
    have hi2 : (i : Int) < (l.length : Int) := by omega
    have hi0 : (0 : Int) ≤ (i : Int) := by omega
    go_wp2
    go_still_tail 16, (by kernel_rfl)
    change wpList _ _ _ _ _ w.drew
    go_wp2
    go_ret
    have hu := used_le HG.out.nodup (List.mem_of_getElem? HI.out) (b := f.b) (d := f.b.length) (Nat.le_refl _)
    have hp := puts_done HAD.out HFA.out f.b.length
    obtain ⟨r1, r2⟩ := rk_set HL.out HP.out HI.out f.b f.b.length _ hp (Below.refl _ _) HG.out (Nat.le_refl _) (Nat.le_trans hu HG.out.fits) (old_sl HBY.out)
    exact ⟨rfl, r1.drewN 1, r2.drew⟩

end Go.Proofs.YtdkjimfehipeaaaGreatDoor.Rc

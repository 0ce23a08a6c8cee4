/-
  Contract of live: the bytes that the document fixes.
-/
import Derived.Test.YtncppflmpfefkaaDn
namespace Go.Proofs.Ytncppflmpfefkaa.Dv
open Go Go.RowKit Go.Maps Ck Kw Ga Dm Dw Da Db Dc Dd De Df Dg Dh Di Dj Dn
attribute [local go_sem ↓] Go.wp_at_zero Go.wp_at_succ
set_option linter.unusedVariables false

/-- Since world w a disk of these files was made, in new blocks. -/
def Lv (w W : World) (p : Nat) (L : List Fl) (room : Nat) (off : Bool) : Prop := Dk W (New w W) p L room off ∧ Below w.heap.size w W
theorem lv_did {w W W' : World} {p : Nat} {r : List Fl × Nat} {room : Nat} {off off' : Bool} {L : List Fl} {e : Ending} (h : Lv w W p L room off) (hd : Did (New w W) p r room off' W e W') : e = .returned (.int .i64 (r.2 : Int)) ∧ Lv w W' p r.1 room off' := by
  obtain ⟨he, hk, hc⟩ := hd
  have h1 := h.2.size
  have h2 := hc.size
  refine ⟨he, hk.weaken (fun k hk => ?_), h.2.trans (hc.below (fun k hk hn => by have := hn.1; omega) h1)⟩
  rcases hk with ⟨g1, g2⟩ | ⟨g1, g2⟩
  · exact ⟨g1, by omega⟩
  · exact ⟨by omega, g2⟩
theorem lv_later {w W W' : World} {p : Nat} {room : Nat} {off : Bool} {L : List Fl} (h : Lv w W p L room off) (b : Below W.heap.size W W') : Lv w W' p L room off :=
  ⟨(h.1.later b).weaken (fun k hk => ⟨hk.1, Nat.lt_of_lt_of_le hk.2 b.size⟩), h.2.trans (b.mono h.2.size)⟩
theorem lv_lit {w W : World} {p : Nat} {room : Nat} {off : Bool} {L : List Fl} (h : Lv w W p L room off) (cs : Array Value) (fr : Nat × Nat) :
    Dk (W.alloc (.cells cs 5 fr)) (New w W) p L room off ∧ Below w.heap.size w (W.alloc (.cells cs 5 fr)) :=
  ⟨h.1.later ((Below.refl _ W).alloc (Nat.le_refl _) _), h.2.alloc h.2.size _⟩
/-- A slice of constants. -/
theorem sl_lit (W : World) (l : List UInt8) (cs : Array Value) (fr : Nat × Nat) (n : Nat) (hc : cs.toList = BVs l) (hn : n = l.length) (h63 : n ≤ 65536) (w : World) : Sl (W.alloc (.cells cs 5 fr)) (New w W) 1 (.slice (some ⟨W.heap.size, 0, none⟩) n n) n (BVs l) := by
  subst hn
  refine ⟨_, _, rfl, by simp [BVs_len], Nat.le_refl _, by simp only [maxLen]; omega, fun _ => ⟨_, rfl, by simp, fun h => by have := h.2; simp at this, fun j u hu => ?_⟩⟩
  have ha : (⟨W.heap.size, 0, none⟩ : Addr).add j = ⟨W.heap.size, j, none⟩ := by unfold Addr.add; split <;> simp_all
  have hh := heap_alloc_new W (.cells cs 5 fr)
  rw [ha]
  simp only [World.cell?, hh]
  rw [← hc] at hu
  simpa using hu
/-- Append of constants. -/
theorem lv_append {w W : World} {p : Nat} {room : Nat} {L : List Fl} (h : Lv w W p L room false) (l : List UInt8) (cs : Array Value) (fr : Nat × Nat) (hc : cs.toList = BVs l) (h63 : l.length ≤ 65536) (s : Tx) (hs : s.length ≤ 140737488355328) (r : List Fl × Nat) (hr : appS L room false s l = r) :
    Calls Try.prog 14 #[.pointer (some ⟨p, 0, none⟩), .string ⟨s.toArray⟩, .slice (some ⟨W.heap.size, 0, none⟩) l.length l.length] (W.alloc (.cells cs 5 fr)) fun e w' => e = .returned (.int .i64 (r.2 : Int)) ∧ Lv w w' p r.1 room false := by
  subst hr
  have h1 := lv_lit h cs fr
  refine (append_on _ (New w W) (New w W) p L room false s hs h1.1 l _ _ (sl_lit W l cs fr l.length hc rfl h63 w) (fun _ h => h) (by omega)).mono ?_
  rintro e w' ⟨he, hk, hcc⟩
  have g1 := h.2.size
  have g2 := hcc.size
  have g3 : W.heap.size ≤ (W.alloc (.cells cs 5 fr)).heap.size := by simp
  refine ⟨he, hk.weaken (fun k hk => ?_), h1.2.trans (hcc.below (fun k hk hn => by have := hn.1; omega) (by omega))⟩
  rcases hk with ⟨q1, q2⟩ | ⟨q1, q2⟩
  · exact ⟨q1, by omega⟩
  · exact ⟨by omega, q2⟩

set_option maxRecDepth 100000 in
set_option maxHeartbeats 4000000 in
theorem live_any (w : World) : Calls Try.prog 7 #[] w fun e w' => e = .returned (.bool true) ∧ Below w.heap.size w w' := by
  go_enter Try.func7, Try.ntmps7
  go_wp2_with fail
  refine (new_ok w 10 (by omega)).mono ?_
  rintro e w1 ⟨p, rfl, hD1, hB1⟩
  have H1 : Hid (Lv w w1 p [] 10 false) := Lib.hid ⟨hD1, hB1⟩
  clear hD1 hB1
  go_wp2_with fail
  refine (create_on w1 _ p [] 10 false [97] (by simp) H1.out.1).mono ?_
  rintro e w2 hd
  obtain ⟨rfl, h2⟩ := lv_did H1.out hd
  have H2 : Hid (Lv w w2 p [⟨[97], [], 0⟩] 10 false) := Lib.hid h2
  clear hd h2
  go_wp2_with fail
  refine (lv_append H2.out [1, 2, 3] _ _ rfl (by simp) [97] (by simp) ([⟨[97], [1, 2, 3], 0⟩], 0) rfl).mono ?_
  rintro e w3 ⟨rfl, h3⟩
  have H3 := Lib.hid h3
  clear h3
  go_wp2_with fail
  refine (sync_on w3 _ p _ 10 false [97] (by simp) H3.out.1).mono ?_
  rintro e w4 hd
  obtain ⟨rfl, h4⟩ := lv_did H3.out hd
  have H4 : Hid (Lv w w4 p [⟨[97], [1, 2, 3], 3⟩] 10 false) := Lib.hid h4
  clear hd h4
  go_wp2_with fail
  refine (lv_append H4.out [4, 5] _ _ rfl (by simp) [97] (by simp) ([⟨[97], [1, 2, 3, 4, 5], 3⟩], 0) rfl).mono ?_
  rintro e w5 ⟨rfl, h5⟩
  have H5 := Lib.hid h5
  clear h5
  go_wp2_with fail
  refine (synced_on w5 _ p _ 10 false [97] (by simp) H5.out.1).mono ?_
  rintro e w' ⟨rfl, rfl⟩
  go_wp2_with fail
  refine (room_on w5 _ p _ 10 false H5.out.1).mono ?_
  rintro e w6 ⟨rfl, hb6⟩
  have H6 := Lib.hid (lv_later H5.out hb6)
  clear hb6
  go_wp2_with fail
  refine (crash_on w6 _ p _ 10 false 1 (by omega) (by omega) H6.out.1).mono ?_
  rintro e w7 hd
  obtain ⟨rfl, h7⟩ := lv_did H6.out hd
  have H7 : Hid (Lv w w7 p [⟨[97], [1, 2, 3, 4], 4⟩] 10 true) := Lib.hid h7
  clear hd h7
  go_wp2_with fail
  refine (off_on w7 _ p _ 10 true H7.out.1).mono ?_
  rintro e w' ⟨rfl, rfl⟩
  go_wp2_with fail
  refine (restart_on w7 _ p _ 10 true H7.out.1).mono ?_
  rintro e w8 ⟨rfl, hD8, hC8⟩
  have H8 : Hid (Lv w w8 p [⟨[97], [1, 2, 3, 4], 4⟩] 10 false) := Lib.hid (lv_did (r := ([⟨[97], [1, 2, 3, 4], 4⟩], 0)) H7.out ⟨rfl, hD8.weaken (fun k hk => .inl hk), hC8⟩).2
  clear hD8 hC8
  go_wp2_with fail
  refine (get_on w8 _ p _ 10 false [97] (by simp) H8.out.1).mono ?_
  rintro e w9 ⟨A, c, rfl, ho9, hb9⟩
  have H9 := Lib.hid (lv_later H8.out hb9)
  have HO := Lib.hid ho9
  clear ho9 hb9
  go_wp2_with fail
  refine (equal_any _ (fun _ => False) (New w w9) _ _ 4 4 [1, 2, 3, 4] [1, 2, 3, 4] ((Sl.of_own HO.out (fun _ _ _ h => h)).alloc _) (sl_lit w9 [1, 2, 3, 4] _ _ 4 rfl rfl (by omega) w)).mono ?_
  rintro e w' ⟨rfl, rfl⟩
  go_wp2_with fail
  go_ret
  exact ⟨rfl, H9.out.2.alloc H9.out.2.size _⟩

end Go.Proofs.Ytncppflmpfefkaa.Dv

import Derived.Test.YtdkjimfehipeaaaGreatDoorZHc
import Derived.Test.YtdkjimfehipeaaaGreatDoorT14
/-
  The document's first segment on an empty disk.
-/
namespace Go.Proofs.YtdkjimfehipeaaaGreatDoor.Hd
open Go Go.RowKit Ck Kw Ga Dm Dw Da Db Dc Dd De Df Dg Dh Di Dj Ra Rb Rc Rd Re Rf Rg Wc Wf Wa Wb Wd Wn We Kx Wg Wq Vr Vs Ha Hc
attribute [local go_sem ↓] Go.wp_at_zero Go.wp_at_succ
set_option linter.unusedVariables false

theorem create_1 (name : Tx) : createS [] false (nm name 1) = ([⟨nm name 1, [], 0⟩], 0) := by
  have hne := nm_ne name 1
  simp [createS, hne, isIn, ins]
theorem app_1 (name : Tx) {room : Nat} (hr : 15 ≤ room) : appS [⟨nm name 1, [], 0⟩] room false (nm name 1) (head 1) = ([⟨nm name 1, head 1, 0⟩], 0) := by
  have h1 := head_len 1
  have hf : find [⟨nm name 1, [], 0⟩] (nm name 1) = some ⟨nm name 1, [], 0⟩ := by simp [find]
  rw [appS, hf]
  simp only [Bool.false_eq_true, if_false, putS]
  rw [if_neg (by simp [used]; omega)]
  simp [upd, setf, Db.wr]
theorem sync_1 (name : Tx) : syncS [⟨nm name 1, head 1, 0⟩] false (nm name 1) = ([⟨nm name 1, head 1, (head 1).length⟩], 0) := by
  have hf : find [⟨nm name 1, head 1, 0⟩] (nm name 1) = some ⟨nm name 1, head 1, 0⟩ := by simp [find]
  rw [sync_some hf]
  simp [upd, setf]

/-- Where the first segment's making stands. -/
structure At1 (w0 : World) (S0 : Nat → Prop) (q g room : Nat) (cs : Array Value) (w : World) (L : List Fl) : Prop where
  blk : Blk w g 117 cs
  dk : ∃ T, Rk w T q L room false ∧ (∀ k, T k → k < w.heap.size) ∧ ¬ T g ∧ Ch S0 w0 w ∧ (∀ k, k < w0.heap.size → T k → S0 k)
section
variable {w0 w w' : World} {S0 : Nat → Prop} {q g room : Nat} {cs : Array Value} {L : List Fl} {name : Tx}
theorem At1.later (h : At1 w0 S0 q g room cs w L) (b : Below w.heap.size w w') : At1 w0 S0 q g room cs w' L := by
  obtain ⟨hb, T, h1, h2, h3, h4, h5⟩ := h
  exact ⟨hb.below b hb.lt, T, h1.later b, fun k hk => Nat.lt_of_lt_of_le (h2 k hk) b.size, h3, h4.trans (Ch.of_below (S := fun _ => False) b (Nat.le_refl _)) (fun _ _ h => h.elim), h5⟩
theorem At1.did {L' : List Fl} {c : Nat} {T : Nat → Prop} {e : Ending} (hb : Blk w g 117 cs) (h2 : ∀ k, T k → k < w.heap.size) (h3 : ¬ T g) (h4 : Ch S0 w0 w) (h5 : ∀ k, k < w0.heap.size → T k → S0 k) (d : RDid T q (L', c) room false w e w') : At1 w0 S0 q g room cs w' L' := by
  obtain ⟨_, hR, hC⟩ := d
  have hs := hC.size
  refine ⟨hb.ch hC h3, Up T w w', hR, fun k hk => ?_, fun hg => ?_, h4.trans hC h5, fun k hk h => ?_⟩
  · rcases hk with hk | hk
    · have := h2 k hk; omega
    · exact hk.2
  · rcases hg with hg | hg
    · exact h3 hg
    · have := hb.lt; omega
  · rcases h with h | h
    · exact h5 k hk h
    · have := h4.size; omega
theorem At1.create (h : At1 w0 S0 q g room cs w []) (hn : name.length ≤ 16) : Calls Tryz.prog 104 #[.pointer (some ⟨q, 0, none⟩), .string ⟨(nm name 1).toArray⟩] w fun e w' => e = .returned (.int .i64 0) ∧ At1 w0 S0 q g room cs w' [⟨nm name 1, [], 0⟩] := by
  obtain ⟨hb, T, h1, h2, h3, h4, h5⟩ := h
  have hl := nm_len (name := name) (k := 1) (by omega)
  refine (rcreate_any w T q [] room false (nm name 1) (by omega) h1).mono fun e w' hd => ?_
  rw [create_1] at hd
  exact ⟨hd.1, At1.did hb h2 h3 h4 h5 hd⟩
theorem At1.append (h : At1 w0 S0 q g room cs w [⟨nm name 1, [], 0⟩]) (hr : 15 ≤ room) {X : Nat → Prop} {A : Option Addr} {c : Nat} (hx : Sl w X 1 (.slice A (head 1).length c) (head 1).length (BVs (head 1))) : Calls Tryz.prog 106 #[.pointer (some ⟨q, 0, none⟩), .string ⟨(nm name 1).toArray⟩, .slice A (head 1).length c] w fun e w' => e = .returned (.int .i64 0) ∧ At1 w0 S0 q g room cs w' [⟨nm name 1, head 1, 0⟩] := by
  obtain ⟨hb, T, h1, h2, h3, h4, h5⟩ := h
  have hl := head_len 1
  refine (rappend_any w T X q _ room false (nm name 1) h1 (head 1) A c hx (by omega)).mono fun e w' hd => ?_
  rw [app_1 name hr] at hd
  exact ⟨hd.1, At1.did hb h2 h3 h4 h5 hd⟩
theorem At1.sync (h : At1 w0 S0 q g room cs w [⟨nm name 1, head 1, 0⟩]) : Calls Tryz.prog 109 #[.pointer (some ⟨q, 0, none⟩), .string ⟨(nm name 1).toArray⟩] w fun e w' => e = .returned (.int .i64 0) ∧ At1 w0 S0 q g room cs w' [⟨nm name 1, head 1, (head 1).length⟩] := by
  obtain ⟨hb, T, h1, h2, h3, h4, h5⟩ := h
  refine (rsync_any w T q _ room false (nm name 1) h1).mono fun e w' hd => ?_
  rw [sync_1] at hd
  exact ⟨hd.1, At1.did hb h2 h3 h4 h5 hd⟩
end

theorem info_seg : (Tryz.prog.info? 147).map (fun i => (i.zero, i.size, i.bytes)) = some (some (.agg #[.int .i64 0, .int .i64 0, .slice none 0 0]), 3, 40) := by kernel_rfl
/-- The first segment's cells. -/
def SG : List Value := [.int .i64 1, .int .i64 1, .slice none 0 0]
theorem seg_lit (w : World) : Sl (w.alloc (.cells #[.int .i64 1, .int .i64 1, .slice none 0 0] 147)) (fun _ => False) 3 (.slice (some ⟨w.heap.size, 0, none⟩) 1 1) 1 SG := by
  refine ⟨_, _, rfl, rfl, Nat.le_refl _, by simp only [maxLen]; omega, fun _ => ⟨_, rfl, by simp, fun h => h, fun j u hu => ?_⟩⟩
  have ha : (⟨w.heap.size, 0, none⟩ : Addr).add j = ⟨w.heap.size, j, none⟩ := add_zero rfl j
  rw [ha, Blk.cell (Blk.new w _ _) j]
  simpa [SG] using hu
theorem seg_one : ∀ u ∈ SG, u.oneCell' = true := fun u hu => by
  simp only [SG, List.mem_cons, List.not_mem_nil, or_false] at hu
  rcases hu with rfl | rfl | rfl <;> rfl

set_option maxRecDepth 100000 in
set_option maxHeartbeats 4000000 in
theorem rbegins_one (w : World) (S : Nat → Prop) (q g room : Nat) (name : Tx) (most : Int) (hb : Blk w g 117 #[.pointer (some ⟨q, 0, none⟩), .string ⟨name.toArray⟩, .int .i64 most, .slice none 0 0, .int .i64 0]) (hk : Rk w S q [] room false) (hS : ∀ k, S k → k < w.heap.size) (hg : ¬ S g) (hn : name.length ≤ 16) (hr : 15 ≤ room) :
    Calls Tryz.prog 72 #[.pointer (some ⟨g, 0, none⟩), .int .i64 1, .int .i64 1] w fun e w' => e = .returned (.int .i64 0) ∧ (∃ T, Rk w' T q [⟨nm name 1, head 1, (head 1).length⟩] room false) ∧ Ch (fun k => S k ∨ k = g) w w' := by
  have hA : At1 w S q g room #[.pointer (some ⟨q, 0, none⟩), .string ⟨name.toArray⟩, .int .i64 most, .slice none 0 0, .int .i64 0] w [] := ⟨hb, S, hk, hS, hg, Ch.refl _ _, fun k _ h => h⟩
  have HA0 : Hid (At1 w S q g room #[.pointer (some ⟨q, 0, none⟩), .string ⟨name.toArray⟩, .int .i64 most, .slice none 0 0, .int .i64 0] w.drew []) := Lib.hid (hA.later (below_drewN (Below.refl _ w) 1))
  have hgl := hb.lt
  obtain ⟨i0, hi0, hz0, hz1, hz2⟩ := info_parts info_seg
  clear hA hb hk hS hg
  have b0 := HA0.out.blk.cell 0
  simp only [List.getElem?_toArray, List.getElem?_cons_zero] at b0
  go_enter Tryz.func72, Tryz.ntmps72
  go_wp2_with fail
  go_region_held3 (fun w' => w'.cell? ⟨g, 0, none⟩ = some (.pointer (some ⟨q, 0, none⟩))) (first | exact HA0.out.blk.cell 0 | exact HA1.out.blk.cell 0 | exact HA2.out.blk.cell 0)
    (first
    | (go_at_call 105; refine (rfile_one _ g _ name HA0.out.blk rfl hn).mono ?_; rintro e w1 ⟨rfl, hb1⟩; have HA1 := Lib.hid (HA0.out.later hb1); clear hb1)
    | (go_at_call 104; refine (HA1.out.create hn).mono ?_; rintro e w2 ⟨rfl, h2⟩; have HA2 := Lib.hid h2; clear h2))
  have HA3 := Lib.hid (HA2.out.later (below_drewN (Below.refl _ w2) 1))
  have b3 := HA3.out.blk.cell 0
  simp only [List.getElem?_toArray, List.getElem?_cons_zero] at b3
  go_wp2_with fail
  go_region_held3 (fun w' => w'.cell? ⟨g, 0, none⟩ = some (.pointer (some ⟨q, 0, none⟩))) (first | exact HA3.out.blk.cell 0 | exact HA4.out.blk.cell 0 | exact HA5.out.blk.cell 0 | exact HA6.out.blk.cell 0)
    (first
    | (go_at_call 105; refine (rfile_one _ g _ name HA3.out.blk rfl hn).mono ?_; rintro e w4 ⟨rfl, hb4⟩; have HA4 := Lib.hid (HA3.out.later hb4); clear hb4)
    | (go_at_call 107; refine (rhead_one _).mono ?_; rintro e w5 ⟨A5, c5, rfl, ho5, hb5⟩; have HA5 := Lib.hid (HA4.out.later hb5); have HO5 := Lib.hid ho5; clear hb5 ho5)
    | (go_at_call 106; refine (HA5.out.append hr (Sl.of_own (X := fun _ => False) HO5.out (fun _ _ _ h => h))).mono ?_; rintro e w6 ⟨rfl, h6⟩; have HA6 := Lib.hid h6; clear h6))
  have HA7 := Lib.hid (HA6.out.later (below_drewN (Below.refl _ w6) 1))
  have b7 := HA7.out.blk.cell 0
  simp only [List.getElem?_toArray, List.getElem?_cons_zero] at b7
  go_wp2_with fail
  go_region_held3 (fun w' => w'.cell? ⟨g, 0, none⟩ = some (.pointer (some ⟨q, 0, none⟩))) (first | exact HA7.out.blk.cell 0 | exact HA8.out.blk.cell 0 | exact HA9.out.blk.cell 0)
    (first
    | (go_at_call 105; refine (rfile_one _ g _ name HA7.out.blk rfl hn).mono ?_; rintro e w8 ⟨rfl, hb8⟩; have HA8 := Lib.hid (HA7.out.later hb8); clear hb8)
    | (go_at_call 109; refine (HA8.out.sync).mono ?_; rintro e w9 ⟨rfl, h9⟩; have HA9 := Lib.hid h9; clear h9))
  have k3 := HA9.out.blk.cell 3
  simp only [List.getElem?_toArray, List.getElem?_cons_zero, List.getElem?_cons_succ] at k3
  have hgl9 := HA9.out.blk.lt
  go_wp2_with (first
    | (at_builtin; refine wpList_append_new _ rfl (.const (.slice none 0 0)) (.tmp 57) _ rfl 147 i0 _ 3 40 Tryz.underlying115 hi0 hz0 hz1 hz2 rfl (by omega) rfl (fun _ => False) _ 0 [] rfl (Sl.nil _ _ _) (fun u hu => nomatch hu) (by simp only [maxLen]; omega) (by omega) ?_; intro A10 c10 w10 ho10 hb10; have HO10 := Lib.hid ho10; have HB10 := Lib.hid hb10; clear ho10 hb10)
    | (at_builtin; refine wpList_append_sh _ rfl (.tmp 58) (.tmp 62) _ rfl w9.heap.size 147 i0 _ 3 40 Tryz.underlying115 hi0 hz0 hz1 hz2 rfl (by omega) _ 0 _ rfl (HO10.out.alloc _) (fun _ => False) _ 1 SG rfl (seg_lit w10) seg_one (by simp only [maxLen]; omega) (by omega) (by have := HB10.out.size; simp; omega) ?_; intro A11 c11 w11 happ; have HB11 := Lib.hid (below_of_app (HB10.out.alloc HB10.out.size _) (HO10.out.alloc _) happ); have k11 := HA9.out.blk.below HB11.out hgl9; have j3 := k11.cell 3; have f3 := k11.frozen 3; have k12 := k11.set_ 3 (.slice A11 1 c11); have j4 := k12.cell 4; have f4 := k12.frozen 4; simp only [List.getElem?_toArray, List.getElem?_cons_zero, List.getElem?_cons_succ] at j3; clear happ k11 k12))
  go_ret
  obtain ⟨_, T, h1, h2, h3, h4, h5⟩ := HA9.out
  have c : Ch (fun k => k = g) w9 ((w11.setCell ⟨g, 3, none⟩ (.slice A11 1 c11)).setCell ⟨g, 4, none⟩ (.int .i64 0)) := ((Ch.of_below (S := fun k => k = g) HB11.out (Nat.le_refl _)).setCell (p := ⟨g, 3, none⟩) (fun _ => rfl) _).setCell (p := ⟨g, 4, none⟩) (fun _ => rfl) _
  exact ⟨rfl, ⟨T, h1.ch c (fun k hk e => h3 (e ▸ hk))⟩, (h4.mono (fun k _ h => .inl h)).trans c (fun k _ h => .inr h)⟩

end Go.Proofs.YtdkjimfehipeaaaGreatDoor.Hd

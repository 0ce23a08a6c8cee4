/-
  Contract of layer 4's parse: the segment that stands in a file's bytes.
-/
import Derived.Test.YtjjfhbbaabakmaaGreatDoorWS09
namespace Go.Proofs.YtjjfhbbaabakmaaGreatDoor.Wj
set_option linter.unusedSimpArgs false
open Go Go.RowKit Go.Shelf Ck Kw Ga Dm Dw Da Db Dc Dd De Df Dg Wc Wf Wa Wb Wd Wn We Kx Wg Wh Kr Wi Wl
attribute [local go_sem ↓] Go.wp_at_zero Go.wp_at_succ
attribute [local go_sem] Oper.semAt_some
set_option linter.unusedVariables false

/-- A segment: its number, its first record's, its bytes that are whole, its records. -/
structure Sg where
  num : Nat
  first : Nat
  size : Nat
  recs : List Tx
/-- The segment that so many frames make. -/
def segOf (num : Nat) : List Tx → Sg
  | [] => ⟨num, 0, 0, []⟩
  | h :: t => if fstOf h = 0 then ⟨num, 0, 0, []⟩ else ⟨num, fstOf h, (frames (h :: t)).length, t⟩
def SgV (s : Sg) (v : Value) : Array Value := #[.int .i64 (s.num : Int), .int .i64 (s.first : Int), .int .i64 (s.size : Int), v]

theorem info_recs : (Tryz.prog.info? 32).map (fun i => (i.zero, i.size, i.bytes)) = some (some (.slice none 0 0), 1, 24) := by kernel_rfl

theorem results_row1 {P : Program} {fn : Func} {p : Tmp} {ty : TypeId} (h : fn.results = #[.cell p ty]) (tmps : Array Value) (w : World) (g : Nat) (t : TypeId) (cs : Array Value) (fr : Nat × Nat) (d : TypeDesc)
    (hp : tmps.getD p undef = .pointer (some ⟨g, 0, none⟩)) (hg : w.heap[g]? = some (.cells cs t fr))
    (hu : P.underlying ty = some d) (hd : (match d with | .struct _ | .array _ _ => true | _ => false) = true) (hi : (P.info? ty).map (·.size) = some cs.size) :
    (results fn tmps).run P w = .ok (.agg cs) w := by
  have hp' : tmps[p]?.getD undef = .pointer (some ⟨g, 0, none⟩) := by simpa using hp
  simp [results, h, hp', asAddr, run_loadVar_row w g t ty cs fr d hg hu hd hi]
theorem info_seg : (Tryz.prog.info? 76).map (·.size) = some 4 := by kernel_rfl
theorem frames_ret (w : World) (A : Option Addr) (n c : Nat) : Calls Tryz.prog 70 #[.slice A n c] w fun e w' => e = .returned (.func (.func 87) #[] #[.pointer (some ⟨w.heap.size, 0, none⟩)]) ∧ w' = w.alloc (.cells #[.slice A n c] 32) := by
  go_enter Tryz.func70, Tryz.ntmps70
  go_wp2
  go_ret
  exact ⟨rfl, rfl⟩

theorem segOf_one (num : Nat) (h : Tx) : segOf num [h] = if fstOf h = 0 then ⟨num, 0, 0, []⟩ else ⟨num, fstOf h, (frame h).length, []⟩ := by
  simp [segOf, frames]
/-- What stands in the segment behind so many frames. -/
def Ip (num g B : Nat) (xs : List Tx) (k : Nat) (W : World) : Prop :=
  ∃ v, Blk W g 76 (SgV (segOf num (xs.take k)) v) ∧ Rcs W (fun j => B ≤ j) v (segOf num (xs.take k)).recs ∧ (0 < k → ∀ h t, xs = h :: t → fstOf h ≠ 0)
def Jp (num g B : Nat) (xs : List Tx) (c : Code) (W : World) : Prop :=
  c = .exit 0 ∧ ∃ v, Blk W g 76 (SgV (segOf num xs) v) ∧ Rcs W (fun j => B ≤ j) v (segOf num xs).recs
theorem Ip.ch {num g B D : Nat} {xs : List Tx} {k : Nat} {W W' : World} (h : Ip num g B xs k W) (c : Ch (Bk D) W W') (hg : g < D) (hB : D + 2 ≤ B) : Ip num g B xs k W' := by
  obtain ⟨v, h1, h2, h3⟩ := h
  exact ⟨v, h1.ch c (fun h => by rcases h with h | h <;> omega), h2.ch c (fun j h1 h => by rcases h with h | h <;> omega), h3⟩
theorem Jp.ch {num g B D : Nat} {xs : List Tx} {c : Code} {W W' : World} (h : Jp num g B xs c W) (cc : Ch (Bk D) W W') (hg : g < D) (hB : D + 2 ≤ B) : Jp num g B xs c W' := by
  obtain ⟨hc, v, h1, h2⟩ := h
  exact ⟨hc, v, h1.ch cc (fun h => by rcases h with h | h <;> omega), h2.ch cc (fun j h1 h => by rcases h with h | h <;> omega)⟩
theorem Rf.ch {D : Nat} {p : Nat × Tx} {args : Array Value} {W W' : World} (h : Rf (D + 2) p args W) (c : Ch (Bk D) W W') : Rf (D + 2) p args W' := by
  obtain ⟨A, cc, h1, h2⟩ := h
  exact ⟨A, cc, h1, own_ch h2 c (fun g hg h => by have := (h2.lt g hg).1; rcases h with h | h <;> omega)⟩
theorem two_of {args : Array Value} (h : args.size = 2) : ∃ x y, args = #[x, y] := by
  obtain ⟨l⟩ := args
  match l, h with
  | [x, y], _ => exact ⟨x, y, rfl⟩
/-- The frame of parse, with the loop's variables. -/
def actP (num n : Nat) (A : Option Addr) (c g : Nat) (args : Array Value) : Act :=
  match args with
  | ⟨[x, y]⟩ => { tmps := #[.int .i64 (num : Int), .slice A n c, undef, undef, .pointer (some ⟨g, 0, none⟩), .pointer (some ⟨g + 1, 0, none⟩), x, y, .int .i64 (num : Int), .agg #[.int .i64 (num : Int), .int .i64 0, .int .i64 0, .slice none 0 0], .slice A n c, .func (.func 87) #[] #[.pointer (some ⟨g + 2, 0, none⟩)], x, y, undef, undef, undef, undef, undef, undef, undef, undef, undef, undef, undef, undef, undef, undef, undef, undef, undef, undef], defers := [] }
  | _ => { tmps := #[], defers := [] }

set_option maxRecDepth 100000 in
set_option maxHeartbeats 8000000 in
theorem parse_any (w : World) (X : Nat → Prop) (num : Nat) (hnum : num < 1000000000000000) (A : Option Addr) (c : Nat) (b r : Tx) (xs : List Tx) (h : Sl w X 1 (.slice A b.length c) b.length (BVs b)) (hb : b.length ≤ 549755813888) (hF : Frs b xs r) :
    Calls Tryz.prog 54 #[.int .i64 (num : Int), .slice A b.length c] w fun e w' => ∃ v, e = .returned (.agg (SgV (segOf num xs) v)) ∧ Rcs w' (New w w') v (segOf num xs).recs ∧ Below w.heap.size w w' := by
  refine (callsIn_wide (n := 6)).1 ?_
  refine callsIn_of_wp_marks Tryz.func54 rfl trivial ?_ rfl
  simp only [Tryz.ntmps54, List.size_toArray, List.length_cons, List.length_nil, Nat.reduceAdd, Nat.reduceSub, Array.replicate_succ, Array.replicate_zero, List.push_toArray, List.append_toArray, List.nil_append, List.cons_append]
  gi_wp2_with fail
  refine ⟨trivial, callsIn_wide.2 ((frames_ret _ A b.length c).mono ?_)⟩
  rintro e w3 ⟨rfl, rfl⟩
  have hk5 : Blk (((w.alloc (.cells #[.int .i64 0, .int .i64 0, .int .i64 0, .slice none 0 0] 76)).alloc (.cells #[.int .i64 (num : Int), .int .i64 0, .int .i64 0, .slice none 0 0] 76)).alloc (.cells #[.slice A b.length c] 32)) (w.heap.size + 1) 76 #[.int .i64 (num : Int), .int .i64 0, .int .i64 0, .slice none 0 0] := (Blk.new_at (by simp) rfl).alloc _
  have hk4 : Blk (((w.alloc (.cells #[.int .i64 0, .int .i64 0, .int .i64 0, .slice none 0 0] 76)).alloc (.cells #[.int .i64 (num : Int), .int .i64 0, .int .i64 0, .slice none 0 0] 76)).alloc (.cells #[.slice A b.length c] 32)) w.heap.size 76 #[.int .i64 0, .int .i64 0, .int .i64 0, .slice none 0 0] := ((Blk.new_at rfl rfl).alloc _).alloc _
  have hkB : Blk (((w.alloc (.cells #[.int .i64 0, .int .i64 0, .int .i64 0, .slice none 0 0] 76)).alloc (.cells #[.int .i64 (num : Int), .int .i64 0, .int .i64 0, .slice none 0 0] 76)).alloc (.cells #[.slice A b.length c] 32)) (w.heap.size + 2) 32 #[.slice A b.length c] := Blk.new_at (by simp) rfl
  have hsz : (((w.alloc (.cells #[.int .i64 0, .int .i64 0, .int .i64 0, .slice none 0 0] 76)).alloc (.cells #[.int .i64 (num : Int), .int .i64 0, .int .i64 0, .slice none 0 0] 76)).alloc (.cells #[.slice A b.length c] 32)).heap.size = w.heap.size + 3 := by simp
  have hbw : Below w.heap.size w (((w.alloc (.cells #[.int .i64 0, .int .i64 0, .int .i64 0, .slice none 0 0] 76)).alloc (.cells #[.int .i64 (num : Int), .int .i64 0, .int .i64 0, .slice none 0 0] 76)).alloc (.cells #[.slice A b.length c] 32)) := (((Below.refl _ w).alloc (Nat.le_refl _) _).alloc (by simp) _).alloc (by simp; omega) _
  rw [show (((w.alloc (.cells #[.int .i64 0, .int .i64 0, .int .i64 0, .slice none 0 0] 76)).alloc (.cells #[.int .i64 (num : Int), .int .i64 0, .int .i64 0, .slice none 0 0] 76)).heap.size) = w.heap.size + 2 by simp]
  generalize (((w.alloc (.cells #[.int .i64 0, .int .i64 0, .int .i64 0, .slice none 0 0] 76)).alloc (.cells #[.int .i64 (num : Int), .int .i64 0, .int .i64 0, .slice none 0 0] 76)).alloc (.cells #[.slice A b.length c] 32)) = w3 at hk5 hk4 hkB hsz hbw ⊢
  have hS : Sl w3 (fun k => k = w.heap.size + 1 ∨ w3.heap.size ≤ k) 1 (.slice A b.length c) b.length (BVs b) := ((h.old' (Nat.le_refl _)).after hbw).weaken (fun k hk hh => by rcases hh with hh | hh <;> omega)
  have hseq := frames_seq 5 (by omega) (fun k => k = w.heap.size + 1 ∨ w3.heap.size ≤ k) w3 (w.heap.size + 2) A c b r xs hkB (fun hh => by rcases hh with hh | hh <;> omega) hS hb hF (fun k hk => .inr hk)
  have HSEQ := Lib.hid hseq
  have HFA := Lib.hid (fun k hk => frs_at hF k hk)
  have HFL := Lib.hid hF.2.1
  have HK5 := Lib.hid hk5
  have HK4 := Lib.hid hk4
  have HBW := Lib.hid hbw
  clear hseq hS hkB hk5 hk4 hbw h hF
  gi_wp2_with fail
  refine wpIn_rangeR rfl (by omega) (gf := 87) (lb := #[.pointer (some ⟨w.heap.size + 2, 0, none⟩)]) rfl trivial (enters_of Tryz.func87 (by kernel_rfl) rfl) HSEQ.out (fun k hk => .inr hk)
    (fun B p args W ⟨_, _, hh, _⟩ => by rw [hh]; rfl) (fun p args W W' hh c => Rf.ch hh c)
    (Ip num (w.heap.size + 1) (w3.heap.size + 2) xs) (fun c _ => Jp num (w.heap.size + 1) (w3.heap.size + 2) xs c)
    (fun k W W' hh _ c => hh.ch c (by omega) (Nat.le_refl _)) (fun cc k W W' hh _ c => hh.ch c (by omega) (Nat.le_refl _)) ⟨_, HK5.out, Rcs.nil _ _, fun h0 => absurd h0 (by omega)⟩ (actP num b.length A c w.heap.size) ?assign ?body ?done ?stop
  case assign =>
    intro l args W K hsz hK
    obtain ⟨x, y, rfl⟩ := two_of hsz
    gi_wp2_with fail
    exact hK
  case body =>
    intro l k hk args W hlt hcw hi hr
    rw [ends_len] at hk
    rw [ends_get 0 xs k hk, Nat.zero_add] at hr
    obtain ⟨A4, c4, rfl, ho⟩ := hr
    obtain ⟨v, hb5, hrc, hfst⟩ := hi
    have hle := (HFA.out (k + 1) (by omega)).2
    obtain ⟨e, he⟩ : ∃ e, e = (frames (xs.take (k + 1))).length := ⟨_, rfl⟩
    simp only [← he] at hle ho ⊢
    have hxl := HFL.out _ (List.getElem_mem hk)
    have hfl : (frame xs[k]).length ≤ e := by rw [he, ← frames_snoc_len hk]; omega
    have HE := Lib.hid he
    have HB5 := Lib.hid hb5
    have HRC := Lib.hid hrc
    have HFS := Lib.hid hfst
    have HO := Lib.hid ho
    have HCW := Lib.hid hcw
    have hf0 := hb5.frozen 0
    have hf1 := hb5.frozen 1
    have hf2 := hb5.frozen 2
    have hf3 := hb5.frozen 3
    have hbs := hb5.lt
    dsimp only [actP]
    by_cases hk0 : k = 0
    · subst hk0
      obtain ⟨h, t, hxs⟩ : ∃ h t, xs = h :: t := by cases xs with | nil => simp at hk | cons h t => exact ⟨h, t, rfl⟩
      subst hxs
      simp only [List.take_zero, List.getElem_cons_zero, Nat.zero_add, List.take_succ_cons] at *
      have c1 : W.cell? ⟨w.heap.size + 1, 1, none⟩ = some (.int .i64 0) := HB5.out.cell 1
      have HF1 := Lib.hid (first_any W (fun _ => False) A4 c4 h (Sl.of_own HO.out (fun _ _ _ h => h)) (by omega))
      clear hb5 hrc hfst ho hcw he
      gi_wp2_with fail
      refine ⟨trivial, CallsIn.inRound l (callsIn_wide.2 (HF1.out.mono ?_))⟩
      rintro e1 w4 ⟨rfl, hb4⟩
      have HB4 := Lib.hid hb4
      have hk5 := HB5.out.below hb4 HB5.out.lt
      have HK := Lib.hid hk5
      have c1 : w4.cell? ⟨w.heap.size + 1, 1, none⟩ = some (.int .i64 0) := hk5.cell 1
      have c2 : w4.cell? ⟨w.heap.size + 1, 2, none⟩ = some (.int .i64 0) := hk5.cell 2
      have hf1 := hk5.frozen 1
      have hf2 := hk5.frozen 2
      have hch : ∀ (j : Nat) (u : Value), Ch (fun j => (j = w.heap.size + 1 ∨ w3.heap.size ≤ j) ∧ ¬ Bk w3.heap.size j) W (w4.setCell ⟨w.heap.size + 1, j, none⟩ u) := fun j u =>
        (Ch.of_below hb4 (Nat.le_refl _)).setCell (p := ⟨w.heap.size + 1, j, none⟩) (fun _ => ⟨.inl rfl, fun h => by rcases h with h | h <;> (simp only at h; omega)⟩) u
      have HCH := Lib.hid hch
      clear hb4 hk5 hch
      by_cases hf : fstOf h = 0
      · have HF0 := Lib.hid hf
        clear HF1
        rw [hf]
        clear hf
        gi_wp2_with fail
        refine ⟨HCH.out 1 _, rfl, v, ?_, ?_⟩
        · have := HK.out.set_ 1 (.int .i64 0)
          simpa [SgV, segOf, HF0.out] using this
        · simp only [segOf, HF0.out, if_true]
          exact (HRC.out.after HB4.out).ch ((Ch.refl (fun j => j = w.heap.size + 1) w4).setCell (p := ⟨w.heap.size + 1, 1, none⟩) (fun _ => rfl) _) (fun j h1 h2 => by omega)
      · have HF0 := Lib.hid hf
        have hne : ((fstOf h : Int) == 0) = false := by rw [beq_eq_false_iff_ne]; omega
        have hne2 : ¬ (fstOf h : Int) = 0 := by omega
        clear hf HF1
        generalize hfv : fstOf h = fv at *
        have HFV := Lib.hid hfv
        clear hfv
        gi_wp2_with fail
        refine ⟨(HCH.out 1 _).setCell (p := ⟨w.heap.size + 1, 2, none⟩) (fun _ => ⟨.inl rfl, fun h => by rcases h with h | h <;> (simp only at h; omega)⟩) _, v, ?_, ?_, fun _ h' t' e' => by injection e' with e1 _; rw [← e1, HFV.out]; exact HF0.out⟩
        · have := (HK.out.set_ 1 (.int .i64 (fv : Int))).set_ 2 (.int .i64 (e : Int))
          rw [List.take_succ_cons, List.take_zero, segOf_one, HFV.out, if_neg HF0.out]
          have he : (frame h).length = e := by rw [HE.out]; simp [frames]
          rw [he]
          simpa [SgV, segOf] using this
        · rw [List.take_succ_cons, List.take_zero, segOf_one, HFV.out, if_neg HF0.out]
          exact (HRC.out.after HB4.out).ch (((Ch.refl (fun j => j = w.heap.size + 1) w4).setCell (p := ⟨w.heap.size + 1, 1, none⟩) (fun _ => rfl) _).setCell (p := ⟨w.heap.size + 1, 2, none⟩) (fun _ => rfl) _) (fun j h1 h2 => by omega)
    · obtain ⟨h, t, hxs⟩ : ∃ h t, xs = h :: t := by cases xs with | nil => simp at hk | cons h t => exact ⟨h, t, rfl⟩
      have hf := HFS.out (by omega) h t hxs
      subst hxs
      obtain ⟨j, rfl⟩ : ∃ j, k = j + 1 := ⟨k - 1, by omega⟩
      have hjt : j < t.length := by simpa using hk
      have hseg : segOf num ((h :: t).take (j + 1)) = ⟨num, fstOf h, (frames (h :: t.take j)).length, t.take j⟩ := by rw [List.take_succ_cons, segOf, if_neg hf]
      have hseg2 : segOf num ((h :: t).take (j + 1 + 1)) = ⟨num, fstOf h, e, t.take j ++ [t[j]]⟩ := by
        rw [he, List.take_succ_cons, segOf, if_neg hf, List.take_succ_eq_append_getElem hjt]
      rw [hseg] at hb5 hrc
      simp only [List.getElem_cons_succ] at ho
      obtain ⟨A5, c5, rfl⟩ := hrc.shape
      have htl : (t.take j).length = j := by rw [List.length_take]; omega
      have hrc0 := hrc
      obtain ⟨vals, hvo, hvS, _⟩ := hrc0
      rw [htl] at hb5 hvo hvS hrc
      have c1 : W.cell? ⟨w.heap.size + 1, 1, none⟩ = some (.int .i64 (fstOf h : Int)) := hb5.cell 1
      have c2 : W.cell? ⟨w.heap.size + 1, 2, none⟩ = some (.int .i64 ((frames (h :: t.take j)).length : Int)) := hb5.cell 2
      have c3 : W.cell? ⟨w.heap.size + 1, 3, none⟩ = some (.slice A5 j c5) := hb5.cell 3
      have hne : ((fstOf h : Int) == 0) = false := by rw [beq_eq_false_iff_ne]; omega
      have hne2 : ¬ (fstOf h : Int) = 0 := by omega
      have HF := Lib.hid hf
      have HS2 := Lib.hid hseg2
      have HB6 := Lib.hid hb5
      have HRC6 := Lib.hid hrc
      have HO6 := Lib.hid ho
      clear hb5 hrc ho hfst hcw he hseg hseg2 hf HB5 HRC HO HFS
      have HVO := Lib.hid hvo
      have HVS := Lib.hid hvS
      have hjl : j ≤ 549755813888 := by have := frames_len (h :: t.take j); rw [List.length_cons, htl] at this; have := (HFA.out (j + 1) (by simp; omega)).2; rw [List.take_succ_cons] at this; omega
      obtain ⟨i0, hi0, hz0, hz1, hz2⟩ := info_parts info_recs
      have HTL := Lib.hid htl
      have HSZ := Lib.hid hsz
      clear hvo hvS htl hsz
      gi_wp2_with (gi_at_builtin; refine wpListIn_append_own_at _ rfl (.tmp 21) (.tmp 23) _ rfl 0 32 i0 _ 1 24 Tryz.underlying47 hi0 hz0 hz1 hz2 rfl (by omega) _ j vals rfl (HVO.out.alloc _) ⟨W.heap.size, 0, none⟩ 1 1 [.slice A4 t[j].length c4] rfl rfl (cell_one_new _ _ _) (by simp [Value.oneCell']) (by simp only [maxLen]; omega) (by omega) (by omega) ?_; intro v' w5 ho5 hg5 _ hb5; obtain ⟨A6, c6, rfl⟩ := own_shape ho5; have k5 := Lib.hid ((HB6.out.alloc (.cells #[.slice A4 t[j].length c4] 32)).grown hg5 (fun e1 => own_far HVO.out HB6.out (by decide) e1.symm)); have HO5 := Lib.hid ho5; have HG5 := Lib.hid hg5; have HBB5 := Lib.hid hb5; clear ho5 hg5 hb5 c1 c2 c3 hf0 hf1 hf2 hf3; have c1 : w5.cell? ⟨w.heap.size + 1, 1, none⟩ = some (.int .i64 (fstOf h : Int)) := k5.out.cell 1; have hf2 := k5.out.frozen 2; have hf3 := k5.out.frozen 3; have c2 : w5.cell? ⟨w.heap.size + 1, 2, none⟩ = some (.int .i64 ((frames (h :: t.take j)).length : Int)) := k5.out.cell 2; have c3 : w5.cell? ⟨w.heap.size + 1, 3, none⟩ = some (.slice A5 j c5) := k5.out.cell 3)
      have hsz := HSZ.out
      have hba : Below W.heap.size W (W.alloc (.cells #[.slice A4 t[j].length c4] 32)) := (Below.refl _ W).alloc (Nat.le_refl _) _
      have hrow : ∀ g, (Value.slice A5 j c5).ownBlock = some g → w3.heap.size + 2 ≤ g := fun g hg => HVS.out g hg
      have hc5 : Ch (fun k => (k = w.heap.size + 1 ∨ w3.heap.size ≤ k) ∧ ¬ Bk w3.heap.size k) W w5 := ((Ch.refl _ W).alloc _).trans (Ch.of_grown (S := fun k => (k = w.heap.size + 1 ∨ w3.heap.size ≤ k) ∧ ¬ Bk w3.heap.size k) HG5.out (fun g hg _ => ⟨.inr (by have := hrow g hg; omega), fun h => by have := hrow g hg; rcases h with h | h <;> omega⟩)) (fun _ _ h => h)
      have hnb : ¬ Bk w3.heap.size (w.heap.size + 1) := fun h => by rcases h with h | h <;> omega
      have hrc5 : Rcs w5 (Up (fun k => w3.heap.size + 2 ≤ k) (W.alloc (.cells #[.slice A4 t[j].length c4] 32)) w5) (.slice A6 (j + 1) c6) (t.take j ++ [t[j]]) := by
        refine Rcs.push (vals := vals) (HRC6.out.after hba) (fun vs hvs => ?_) (own_base (own_below HO6.out hba) (Nat.zero_le _)) (fun k hk => (HO6.out.lt k hk).1) ?_ HG5.out HBB5.out (fun h => (HO5.out.lt _ h).2)
        · rw [HTL.out] at hvs
          exact row_vals hvs (own_below HVO.out hba)
        · rw [HTL.out]; exact HO5.out
      refine ⟨(hc5.setCell (p := ⟨w.heap.size + 1, 3, none⟩) (fun _ => ⟨.inl rfl, hnb⟩) _).setCell (p := ⟨w.heap.size + 1, 2, none⟩) (fun _ => ⟨.inl rfl, hnb⟩) _, .slice A6 (j + 1) c6, ?_, ?_, fun _ h' t' e' => by injection e' with e1 _; rw [← e1]; exact HF.out⟩
      · have := (k5.out.set_ 3 (.slice A6 (j + 1) c6)).set_ 2 (.int .i64 (e : Int))
        rw [HS2.out]
        simpa [SgV] using this
      · rw [HS2.out]
        refine (hrc5.weaken (fun k hk => ?_)).ch (((Ch.refl (fun j => j = w.heap.size + 1) w5).setCell (p := ⟨w.heap.size + 1, 3, none⟩) (fun _ => rfl) _).setCell (p := ⟨w.heap.size + 1, 2, none⟩) (fun _ => rfl) _) (fun j h1 h2 => by omega)
        rcases hk with hk | ⟨hk, _⟩
        · exact hk
        · simp at hk; omega
  case done =>
    intro W hcw hi hd
    rw [ends_len] at hi
    obtain ⟨v, hb5, hrc, _⟩ := hi
    rw [List.take_length] at hb5 hrc
    obtain ⟨Av, cv, rfl⟩ := hrc.shape
    have hk4 := HK4.out.ch hcw (fun h => by rcases h with h | h <;> omega)
    have c0 := hb5.cell 0
    have c1 := hb5.cell 1
    have c2 := hb5.cell 2
    have c3 := hb5.cell 3
    simp only [SgV, List.getElem?_toArray, List.getElem?_cons_zero, List.getElem?_cons_succ] at c0 c1 c2 c3
    have d0 := hk4.cell 0
    have d1 := hk4.cell 1
    have d2 := hk4.cell 2
    have d3 := hk4.cell 3
    simp only [List.getElem?_toArray, List.getElem?_cons_zero, List.getElem?_cons_succ] at d0 d1 d2 d3
    have e0 := hk4.frozen 0
    have e1 := hk4.frozen 1
    have e2 := hk4.frozen 2
    have e3 := hk4.frozen 3
    have HK4' := Lib.hid hk4
    have HRC := Lib.hid hrc
    have HCW := Lib.hid hcw
    have HD := Lib.hid hd
    clear hk4 hrc hcw hb5 hd
    gi_wp2_with fail
    have hlt : w3.heap.size < W.heap.size := (Array.getElem?_eq_some_iff.1 HD.out).1
    refine ⟨by simp, .inl ⟨_, _, rfl, run_takeDeferred (((((((Ch.refl (fun k => k = w.heap.size) W).setCell (p := ⟨w.heap.size, 0, none⟩) (fun _ => rfl) _).setCell (p := ⟨w.heap.size, 1, none⟩) (fun _ => rfl) _).setCell (p := ⟨w.heap.size, 2, none⟩) (fun _ => rfl) _).setCell (p := ⟨w.heap.size, 3, none⟩) (fun _ => rfl) _).block w3.heap.size hlt (by omega)).trans HD.out), ?_⟩⟩
    have hk5 := (((HK4'.out.set_ 0 (.int .i64 ((segOf num xs).num : Int))).set_ 1 (.int .i64 ((segOf num xs).first : Int))).set_ 2 (.int .i64 ((segOf num xs).size : Int))).set_ 3 (.slice Av (segOf num xs).recs.length cv)
    have hk6 := hk5.ch (ch_putObj _ w3.heap.size (.deferred none)) (by omega)
    refine ⟨_, results_row1 rfl _ _ w.heap.size 76 (SgV (segOf num xs) (.slice Av (segOf num xs).recs.length cv)) (0, 0) _ rfl (by have h := hk6; unfold Blk at h; simpa [SgV] using h) Tryz.underlying76 rfl info_seg, _, rfl, ?_, ?_⟩
    · have cf := (((((Ch.refl (fun k => k = w.heap.size) W).setCell (p := ⟨w.heap.size, 0, none⟩) (fun _ => rfl) (.int .i64 ((segOf num xs).num : Int))).setCell (p := ⟨w.heap.size, 1, none⟩) (fun _ => rfl) (.int .i64 ((segOf num xs).first : Int))).setCell (p := ⟨w.heap.size, 2, none⟩) (fun _ => rfl) (.int .i64 ((segOf num xs).size : Int))).setCell (p := ⟨w.heap.size, 3, none⟩) (fun _ => rfl) (.slice Av (segOf num xs).recs.length cv))
      refine (((HRC.out.ch cf (fun k h1 h2 => by omega)).ch (ch_putObj _ w3.heap.size (.deferred none)) (fun k h1 h2 => by omega)).bound).weaken (fun k hk => ⟨by have := hk.1; omega, hk.2⟩)
    · have cf := (((((Ch.refl (fun k => k = w.heap.size) W).setCell (p := ⟨w.heap.size, 0, none⟩) (fun _ => rfl) (.int .i64 ((segOf num xs).num : Int))).setCell (p := ⟨w.heap.size, 1, none⟩) (fun _ => rfl) (.int .i64 ((segOf num xs).first : Int))).setCell (p := ⟨w.heap.size, 2, none⟩) (fun _ => rfl) (.int .i64 ((segOf num xs).size : Int))).setCell (p := ⟨w.heap.size, 3, none⟩) (fun _ => rfl) (.slice Av (segOf num xs).recs.length cv))
      have c1 := (HCW.out.mono (T := fun k => w.heap.size ≤ k) (fun k _ h => by rcases h with h | h <;> omega)).trans (cf.mono (T := fun k => w.heap.size ≤ k) (fun k _ h => by omega)) (fun _ _ h => h)
      have c2 := c1.trans ((ch_putObj _ w3.heap.size (.deferred none)).mono (T := fun k => w.heap.size ≤ k) (fun k _ h => by omega)) (fun _ _ h => h)
      exact HBW.out.trans (c2.below (B := w.heap.size) (fun k hk h => by omega) (by omega))
  case stop =>
    rintro cc k W hk hcw ⟨rfl, v, hb5, hrc⟩ hd
    obtain ⟨Av, cv, rfl⟩ := hrc.shape
    have hk4 := HK4.out.ch hcw (fun h => by rcases h with h | h <;> omega)
    have c0 := hb5.cell 0
    have c1 := hb5.cell 1
    have c2 := hb5.cell 2
    have c3 := hb5.cell 3
    simp only [SgV, List.getElem?_toArray, List.getElem?_cons_zero, List.getElem?_cons_succ] at c0 c1 c2 c3
    have d0 := hk4.cell 0
    have d1 := hk4.cell 1
    have d2 := hk4.cell 2
    have d3 := hk4.cell 3
    simp only [List.getElem?_toArray, List.getElem?_cons_zero, List.getElem?_cons_succ] at d0 d1 d2 d3
    have e0 := hk4.frozen 0
    have e1 := hk4.frozen 1
    have e2 := hk4.frozen 2
    have e3 := hk4.frozen 3
    have HK4' := Lib.hid hk4
    have HRC := Lib.hid hrc
    have HCW := Lib.hid hcw
    have HD := Lib.hid hd
    clear hk4 hrc hcw hb5 hd
    gi_wp2_with fail
    have hlt : w3.heap.size < W.heap.size := (Array.getElem?_eq_some_iff.1 HD.out).1
    refine ⟨by simp, .inl ⟨_, _, rfl, run_takeDeferred (((((((Ch.refl (fun k => k = w.heap.size) W).setCell (p := ⟨w.heap.size, 0, none⟩) (fun _ => rfl) _).setCell (p := ⟨w.heap.size, 1, none⟩) (fun _ => rfl) _).setCell (p := ⟨w.heap.size, 2, none⟩) (fun _ => rfl) _).setCell (p := ⟨w.heap.size, 3, none⟩) (fun _ => rfl) _).block w3.heap.size hlt (by omega)).trans HD.out), ?_⟩⟩
    have hk5 := (((HK4'.out.set_ 0 (.int .i64 ((segOf num xs).num : Int))).set_ 1 (.int .i64 ((segOf num xs).first : Int))).set_ 2 (.int .i64 ((segOf num xs).size : Int))).set_ 3 (.slice Av (segOf num xs).recs.length cv)
    have hk6 := hk5.ch (ch_putObj _ w3.heap.size (.deferred none)) (by omega)
    refine ⟨_, results_row1 rfl _ _ w.heap.size 76 (SgV (segOf num xs) (.slice Av (segOf num xs).recs.length cv)) (0, 0) _ rfl (by have h := hk6; unfold Blk at h; simpa [SgV] using h) Tryz.underlying76 rfl info_seg, _, rfl, ?_, ?_⟩
    · have cf := (((((Ch.refl (fun k => k = w.heap.size) W).setCell (p := ⟨w.heap.size, 0, none⟩) (fun _ => rfl) (.int .i64 ((segOf num xs).num : Int))).setCell (p := ⟨w.heap.size, 1, none⟩) (fun _ => rfl) (.int .i64 ((segOf num xs).first : Int))).setCell (p := ⟨w.heap.size, 2, none⟩) (fun _ => rfl) (.int .i64 ((segOf num xs).size : Int))).setCell (p := ⟨w.heap.size, 3, none⟩) (fun _ => rfl) (.slice Av (segOf num xs).recs.length cv))
      refine (((HRC.out.ch cf (fun k h1 h2 => by omega)).ch (ch_putObj _ w3.heap.size (.deferred none)) (fun k h1 h2 => by omega)).bound).weaken (fun k hk => ⟨by have := hk.1; omega, hk.2⟩)
    · have cf := (((((Ch.refl (fun k => k = w.heap.size) W).setCell (p := ⟨w.heap.size, 0, none⟩) (fun _ => rfl) (.int .i64 ((segOf num xs).num : Int))).setCell (p := ⟨w.heap.size, 1, none⟩) (fun _ => rfl) (.int .i64 ((segOf num xs).first : Int))).setCell (p := ⟨w.heap.size, 2, none⟩) (fun _ => rfl) (.int .i64 ((segOf num xs).size : Int))).setCell (p := ⟨w.heap.size, 3, none⟩) (fun _ => rfl) (.slice Av (segOf num xs).recs.length cv))
      have c1 := (HCW.out.mono (T := fun k => w.heap.size ≤ k) (fun k _ h => by rcases h with h | h <;> omega)).trans (cf.mono (T := fun k => w.heap.size ≤ k) (fun k _ h => by omega)) (fun _ _ h => h)
      have c2 := c1.trans ((ch_putObj _ w3.heap.size (.deferred none)).mono (T := fun k => w.heap.size ≤ k) (fun k _ h => by omega)) (fun _ _ h => h)
      exact HBW.out.trans (c2.below (B := w.heap.size) (fun k hk h => by omega) (by omega))

end Go.Proofs.YtjjfhbbaabakmaaGreatDoor.Wj

/-
  Words for memory, for layer 4 (wal): a log's segments in a row, a log, a log beside its disk.
-/
namespace Go.Proofs.YtjjfhbbaabakmaaGreatDoor.Wk
set_option linter.unusedSimpArgs false
set_option linter.unusedVariables false
open Go Go.RowKit Ck Kw Ga Dm Dw Da Db Dc Dd De Df Dg Wc Wf Wa Wb Wd Wn We Kx Wg Wh Wl Wj

/-- The cells of a row of segments. -/
def cellsS : List Sg → List Value → List Value
  | s :: l, v :: r => .int .i64 (s.num : Int) :: .int .i64 (s.first : Int) :: .int .i64 (s.size : Int) :: v :: cellsS l r
  | _, _ => []
/-- Numbers of a segment that may be. -/
structure GoodS (s : Sg) : Prop where
  num : s.num < 1000000000000000
  first : s.first ≤ 9007199254740992
  size : s.size ≤ 4194304
  few : 5 * s.recs.length ≤ s.size
theorem cellsS_len : ∀ {l : List Sg} {r : List Value}, r.length = l.length → (cellsS l r).length = l.length * 4
  | [], [], _ => rfl
  | s :: l, v :: r, h => by
    have := cellsS_len (l := l) (r := r) (by simpa using h)
    simp only [cellsS, List.length_cons, this]
    omega
  | [], _ :: _, h => by simp at h
  | _ :: _, [], h => by simp at h
theorem cellsS_at : ∀ {l : List Sg} {r : List Value} (i : Nat) (h : i < l.length) (u : Value), r[i]? = some u →
    (cellsS l r)[i * 4]? = some (.int .i64 (l[i].num : Int)) ∧ (cellsS l r)[i * 4 + 1]? = some (.int .i64 (l[i].first : Int)) ∧ (cellsS l r)[i * 4 + 2]? = some (.int .i64 (l[i].size : Int)) ∧ (cellsS l r)[i * 4 + 3]? = some u
  | s :: l, v :: r, 0, h, u, hu => by
    have hu : v = u := by simpa using hu
    subst hu
    exact ⟨rfl, rfl, rfl, rfl⟩
  | s :: l, v :: r, i + 1, h, u, hu => by
    have := cellsS_at (l := l) (r := r) i (by simpa using h) u (by simpa using hu)
    rw [Nat.succ_mul, show i * 4 + 4 + 1 = i * 4 + 1 + 4 by omega, show i * 4 + 4 + 2 = i * 4 + 2 + 4 by omega, show i * 4 + 4 + 3 = i * 4 + 3 + 4 by omega]
    simpa only [cellsS, List.getElem?_cons_succ, List.getElem_cons_succ] using this
  | _ :: _, [], i, _, u, hu => by simp at hu
  | [], _, i, h, _, _ => by simp at h
theorem cellsS_app : ∀ {l m : List Sg} {r q : List Value}, r.length = l.length → cellsS (l ++ m) (r ++ q) = cellsS l r ++ cellsS m q
  | [], m, [], q, _ => rfl
  | s :: l, m, v :: r, q, h => by simp only [List.cons_append, cellsS, cellsS_app (l := l) (m := m) (r := r) (q := q) (by simpa using h)]
  | [], _, _ :: _, _, h => by simp at h
  | _ :: _, _, [], _, h => by simp at h

/-- A row of segments in memory, in blocks of S. -/
structure Segs (w : World) (S : Nat → Prop) (v : Value) (segs : List Sg) (rv : List Value) : Prop where
  len : rv.length = segs.length
  row : w.ownsRow 0 76 4 v segs.length (cellsS segs rv)
  own : ∀ k, v.ownBlock = some k → S k
  rcs : ∀ i (h : i < segs.length), ∃ u, rv[i]? = some u ∧ Rcs w S u segs[i].recs
  apart : ∀ (i j : Nat) (u1 u2 : Value) (k : Nat), i ≠ j → rv[i]? = some u1 → rv[j]? = some u2 → u1.ownBlock = some k → u2.ownBlock ≠ some k
  good : ∀ s ∈ segs, GoodS s
section
variable {w w' : World} {S T : Nat → Prop} {v : Value} {segs : List Sg} {rv : List Value}
theorem Segs.ch (h : Segs w S v segs rv) (c : Ch T w w') (hd : ∀ k, S k → T k → False) : Segs w' S v segs rv :=
  ⟨h.len, own_ch h.row c (fun g hg ht => hd _ (h.own g hg) ht), h.own, fun i hi => by obtain ⟨u, h1, h2⟩ := h.rcs i hi; exact ⟨u, h1, h2.ch c hd⟩, h.apart, h.good⟩
theorem Segs.weaken (h : Segs w S v segs rv) (hd : ∀ k, S k → T k) : Segs w T v segs rv :=
  ⟨h.len, h.row, fun k hk => hd _ (h.own k hk), fun i hi => by obtain ⟨u, h1, h2⟩ := h.rcs i hi; exact ⟨u, h1, h2.weaken hd⟩, h.apart, h.good⟩
theorem Segs.bound (h : Segs w S v segs rv) : Segs w (fun k => S k ∧ k < w.heap.size) v segs rv :=
  ⟨h.len, h.row, fun k hk => ⟨h.own k hk, (h.row.lt k hk).2⟩, fun i hi => by obtain ⟨u, h1, h2⟩ := h.rcs i hi; exact ⟨u, h1, h2.bound⟩, h.apart, h.good⟩
theorem Segs.nil (w : World) (S : Nat → Prop) : Segs w S (.slice none 0 0) [] [] :=
  ⟨rfl, World.ownsRow_nil _ _ _ _, by simp [Value.ownBlock], fun i h => absurd h (by simp), fun i j u1 u2 k _ (h : ([] : List Value)[i]? = some u1) => by simp at h, fun s h => by simp at h⟩
/-- Where it lies. -/
theorem Segs.at_ (h : Segs w S v segs rv) (hne : 0 < segs.length) : ∃ gb cap, v = .slice (some ⟨gb, 0, none⟩) segs.length cap ∧ S gb ∧ gb < w.heap.size ∧ segs.length ≤ cap ∧
    ∀ i (hi : i < segs.length), ∃ u, rv[i]? = some u ∧ w.cell? ⟨gb, i * 4, none⟩ = some (.int .i64 (segs[i].num : Int)) ∧ w.cell? ⟨gb, i * 4 + 1, none⟩ = some (.int .i64 (segs[i].first : Int)) ∧
      w.cell? ⟨gb, i * 4 + 2, none⟩ = some (.int .i64 (segs[i].size : Int)) ∧ w.cell? ⟨gb, i * 4 + 3, none⟩ = some u ∧ (∀ j, w.frozen? ⟨gb, j, none⟩ = false) ∧ Rcs w S u segs[i].recs := by
  rcases h.row.2 with ⟨_, h0⟩ | ⟨g, cap, cur, rfl, hb, hg, hnc, hcm, hsz, ht⟩
  · omega
  · refine ⟨g, cap, rfl, h.own g rfl, (Array.getElem?_eq_some_iff.1 hg).1, hnc, fun i hi => ?_⟩
    obtain ⟨u, hu, hr⟩ := h.rcs i hi
    obtain ⟨c0, c1, c2, c3⟩ := cellsS_at i hi u hu
    have cell : ∀ (j : Nat) (x : Value), (cellsS segs rv)[j]? = some x → w.cell? ⟨g, j, none⟩ = some x := fun j x hx => by
      have hj : j < segs.length * 4 := by have := (List.getElem?_eq_some_iff.1 hx).1; rw [cellsS_len h.len] at this; exact this
      rw [← ht, List.getElem?_take, if_pos hj] at hx
      rw [cell_of_row w g j cur _ (0, 0) hg]
      simpa using hx
    refine ⟨u, hu, cell _ _ c0, cell _ _ c1, cell _ _ c2, cell _ _ c3, fun j => ?_, hr⟩
    simp [World.frozen?, hg]
end

/-- Block g is a log on the disk at p. -/
def Lg (w : World) (S : Nat → Prop) (g p : Nat) (name : Tx) (most : Nat) (segs : List Sg) (synced : Nat) : Prop :=
  ∃ v rv, Blk w g 64 #[.pointer (some ⟨p, 0, none⟩), .string ⟨name.toArray⟩, .int .i64 (most : Int), v, .int .i64 (synced : Int)] ∧ S g ∧ Segs w (fun k => S k ∧ k ≠ g) v segs rv ∧ name.length ≤ 16 ∧ most ≤ 4194304
section
variable {w w' : World} {S T : Nat → Prop} {g p most synced : Nat} {name : Tx} {segs : List Sg}
theorem Lg.ch (h : Lg w S g p name most segs synced) (c : Ch T w w') (hd : ∀ k, S k → T k → False) : Lg w' S g p name most segs synced := by
  obtain ⟨v, rv, h1, h2, h3, h4⟩ := h
  exact ⟨v, rv, h1.ch c (fun ht => hd _ h2 ht), h2, h3.ch c (fun k hk ht => hd _ hk.1 ht), h4⟩
theorem Lg.weaken (h : Lg w S g p name most segs synced) (hd : ∀ k, S k → T k) : Lg w T g p name most segs synced := by
  obtain ⟨v, rv, h1, h2, h3, h4⟩ := h
  exact ⟨v, rv, h1, hd _ h2, h3.weaken (fun k hk => ⟨hd _ hk.1, hk.2⟩), h4⟩
theorem Lg.after (h : Lg w S g p name most segs synced) (b : Below w.heap.size w w') : Lg w' S g p name most segs synced :=
  h.ch (Ch.of_below (S := fun _ => False) b (Nat.le_refl _)) (fun _ _ h => h)
theorem Lg.drewN (h : Lg w S g p name most segs synced) (n : Nat) : Lg (w.drewN n) S g p name most segs synced := h.after (below_drewN (Below.refl _ w) n)
end
end Go.Proofs.YtjjfhbbaabakmaaGreatDoor.Wk

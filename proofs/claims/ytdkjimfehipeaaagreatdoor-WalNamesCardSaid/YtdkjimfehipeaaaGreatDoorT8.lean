import Derived.Test.YtdkjimfehipeaaaGreatDoorT7
import Derived.Maps.OwnIn
/-
  Words for memory, for layer 4 (wal): records, segments, a log.
-/
namespace Go.Proofs.YtdkjimfehipeaaaGreatDoor.Wl
open Go Go.RowKit Ck Kw Ga Dm Dw Da Db Dc Dd De Df Dg Wc Wf Wa Wb Wd Wn We Kx Wg Wh

section
variable {w w' : World} {S T : Nat → Prop}
/-- Rows of unlike kinds lie in unlike blocks. -/
theorem row_far {b1 b2 : Nat} {e1 e2 : TypeId} {s1 s2 n1 n2 : Nat} {v1 v2 : Value} {x1 x2 : List Value} (h1 : w.ownsRow b1 e1 s1 v1 n1 x1) (h2 : w.ownsRow b2 e2 s2 v2 n2 x2) (he : e1 ≠ e2) {k : Nat} (hk : v1.ownBlock = some k) : v2.ownBlock ≠ some k := by
  rcases h1.2 with ⟨rfl, _⟩ | ⟨g1, c1, cu1, rfl, _, hr1, _⟩
  · simp [Value.ownBlock] at hk
  · have hk : g1 = k := by simpa [Value.ownBlock] using hk
    subst hk
    rcases h2.2 with ⟨rfl, _⟩ | ⟨g2, c2, cu2, rfl, _, hr2, _⟩
    · simp [Value.ownBlock]
    · intro h
      have h : g2 = g1 := by simpa [Value.ownBlock] using h
      subst h
      rw [hr1] at hr2
      injection hr2 with hr2
      injection hr2 with _ h3
      exact he h3
/-- Records in memory, in blocks of S. -/
def Rcs (w : World) (S : Nat → Prop) (v : Value) (recs : List Tx) : Prop :=
  ∃ vals, w.ownsRow 0 22 1 v recs.length vals ∧ (∀ k, v.ownBlock = some k → S k) ∧ ∀ i (h : i < recs.length), ∃ A c, vals[i]? = some (.slice A recs[i].length c) ∧ w.ownsRow 0 5 1 (.slice A recs[i].length c) recs[i].length (BVs recs[i]) ∧ ∀ k, (Value.slice A recs[i].length c).ownBlock = some k → S k
theorem Rcs.nil (w : World) (S : Nat → Prop) : Rcs w S (.slice none 0 0) [] := ⟨[], World.ownsRow_nil _ _ _ _, by simp [Value.ownBlock], fun i h => absurd h (by simp)⟩
theorem Rcs.ch {v : Value} {recs : List Tx} (h : Rcs w S v recs) (c : Ch T w w') (hd : ∀ k, S k → T k → False) : Rcs w' S v recs := by
  obtain ⟨vals, h1, h2, h3⟩ := h
  exact ⟨vals, own_ch h1 c (fun g hg ht => hd _ (h2 g hg) ht), h2, fun i hi => by
    obtain ⟨A, cc, k1, k2, k3⟩ := h3 i hi
    exact ⟨A, cc, k1, own_ch k2 c (fun g hg ht => hd _ (k3 g hg) ht), k3⟩⟩
theorem Rcs.weaken {v : Value} {recs : List Tx} (h : Rcs w S v recs) (hd : ∀ k, S k → T k) : Rcs w T v recs := by
  obtain ⟨vals, h1, h2, h3⟩ := h
  exact ⟨vals, h1, fun k hk => hd _ (h2 k hk), fun i hi => by
    obtain ⟨A, cc, k1, k2, k3⟩ := h3 i hi
    exact ⟨A, cc, k1, k2, fun k hk => hd _ (k3 k hk)⟩⟩
theorem Rcs.after {v : Value} {recs : List Tx} (h : Rcs w S v recs) (b : Below w.heap.size w w') : Rcs w' S v recs := h.ch (Ch.of_below (S := fun _ => False) b (Nat.le_refl _)) (fun _ _ h => h)
theorem Rcs.bound {v : Value} {recs : List Tx} (h : Rcs w S v recs) : Rcs w (fun k => S k ∧ k < w.heap.size) v recs := by
  obtain ⟨vals, h1, h2, h3⟩ := h
  exact ⟨vals, h1, fun k hk => ⟨h2 k hk, (h1.lt k hk).2⟩, fun i hi => by
    obtain ⟨A, cc, k1, k2, k3⟩ := h3 i hi
    exact ⟨A, cc, k1, k2, fun k hk => ⟨k3 k hk, (k2.lt k hk).2⟩⟩⟩
theorem Rcs.shape {v : Value} {recs : List Tx} (h : Rcs w S v recs) : ∃ A c, v = .slice A recs.length c := by
  obtain ⟨vals, h1, _⟩ := h
  exact own_shape h1
theorem Rcs.in_ {v : Value} {recs : List Tx} (h : Rcs w S v recs) : ∀ k, v.ownBlock = some k → S k ∧ k < w.heap.size := by
  obtain ⟨vals, h1, h2, _⟩ := h
  exact fun k hk => ⟨h2 k hk, (h1.lt k hk).2⟩
/-- A write to a row of records, or to something that is neither a row of records nor of bytes, leaves other records. -/
theorem Rcs.keep {v : Value} {recs : List Tx} (h : Rcs w S v recs) (c : Ch T w w') (hv : ∀ k, v.ownBlock = some k → ¬ T k) (ht : ∀ k b n x A cc, w.ownsRow b 5 1 (.slice A n cc) n x → (Value.slice A n cc).ownBlock = some k → ¬ T k) : Rcs w' S v recs := by
  obtain ⟨vals, h1, h2, h3⟩ := h
  exact ⟨vals, own_ch h1 c hv, h2, fun i hi => by
    obtain ⟨A, cc, k1, k2, k3⟩ := h3 i hi
    exact ⟨A, cc, k1, own_ch k2 c (fun g hg => ht g _ _ _ _ _ k2 hg), k3⟩⟩
/-- A record more. -/
theorem Rcs.push {v v' : Value} {recs : List Tx} {x : Tx} {A : Option Addr} {c : Nat} {vals : List Value} (h : Rcs w S v recs) (hvals : ∀ vs, w.ownsRow 0 22 1 v recs.length vs → vs = vals) (hx : w.ownsRow 0 5 1 (.slice A x.length c) x.length (BVs x)) (hxS : ∀ k, (Value.slice A x.length c).ownBlock = some k → S k)
    (ho : w'.ownsRow 0 22 1 v' (recs.length + 1) (vals ++ [.slice A x.length c])) (hg : w.grownBy w' v.ownBlock) (hb : v'.ownBlock = v.ownBlock ∨ v'.ownBlock = some w.heap.size) (hlt : v'.ownBlock = some w.heap.size → w.heap.size < w'.heap.size) : Rcs w' (Up S w w') v' (recs ++ [x]) := by
  obtain ⟨vs, h1, h2, h3⟩ := h
  obtain rfl := hvals vs h1
  have cg : Ch (fun k => v.ownBlock = some k) w w' := Ch.of_grown hg (fun g hg _ => hg)
  have hl : vs.length = recs.length := by simpa using h1.1
  refine ⟨vs ++ [.slice A x.length c], by rw [List.length_append]; exact ho, fun k hk => ?_, fun i hi => ?_⟩
  · rcases hb with hb | hb
    · rw [hb] at hk; exact .inl (h2 k hk)
    · rw [hb] at hk; injection hk with hk; exact .inr ⟨by omega, by have := hlt hb; omega⟩
  · by_cases hlt : i < recs.length
    · obtain ⟨A1, c1, k1, k2, k3⟩ := h3 i hlt
      rw [List.getElem_append_left hlt]
      exact ⟨A1, c1, by rw [List.getElem?_append_left (by omega)]; exact k1, own_ch k2 cg (fun g hg hv => row_far k2 h1 (by decide) hg hv), fun k hk => .inl (k3 k hk)⟩
    · have hi' : i = recs.length := by rw [List.length_append] at hi; simp at hi; omega
      subst hi'
      rw [List.getElem_append_right (Nat.le_refl _)]
      simp only [Nat.sub_self, List.getElem_cons_zero]
      exact ⟨A, c, by rw [List.getElem?_append_right (by omega), hl]; simp, own_ch hx cg (fun g hg hv => row_far hx h1 (by decide) hg hv), fun k hk => .inl (hxS k hk)⟩
theorem row_vals {b : Nat} {e : TypeId} {s n : Nat} {v : Value} {xs ys : List Value} (h : w.ownsRow b e s v n xs) (k : w.ownsRow b e s v n ys) : xs = ys := by
  rcases h.2 with ⟨hv, h1⟩ | ⟨g, cap, cur, hv, _, hr, _, _, _, ht⟩
  · rcases k.2 with ⟨_, k1⟩ | ⟨g', cap', cur', hv', _⟩
    · have h2 := h.1
      have k2 := k.1
      rw [h1, Nat.zero_mul] at h2 k2
      rw [List.eq_nil_of_length_eq_zero h2, List.eq_nil_of_length_eq_zero k2]
    · rw [hv] at hv'; cases hv'
  · rcases k.2 with ⟨hv', k1⟩ | ⟨g', cap', cur', hv', _, hr', _, _, _, ht'⟩
    · rw [hv] at hv'; cases hv'
    · rw [hv] at hv'
      injection hv' with e1 _ _
      injection e1 with e1
      injection e1 with e1 _ _
      subst e1
      rw [hr] at hr'
      injection hr' with hr'
      injection hr' with hr' _
      subst hr'
      rw [← ht, ← ht']
end

end Go.Proofs.YtdkjimfehipeaaaGreatDoor.Wl

/-
  Contract of layer 4's parse: the segment that stands in a file's bytes.
-/
namespace Go.Proofs.YtdkjimfehipeaaaGreatDoor.Wj
open Go Go.RowKit Go.Shelf Ck Kw Ga Dm Dw Da Db Dc Dd De Df Dg Wc Wf Wa Wb Wd Wn We Kx Wg Wh Kr Wi Wl
attribute [local go_sem ↓] Go.wp_at_zero Go.wp_at_succ
attribute [local go_sem] Oper.semAt_some
set_option linter.unusedVariables false

/-- A segment: its number, its first record's, its bytes that are whole, its records. -/
structure Sg where
  num : Nat
  first : Nat
  size : Nat
  recs : List Tx
/-- The segment that so many frames make. -/
def segOf (num : Nat) : List Tx → Sg
  | [] => ⟨num, 0, 0, []⟩
  | h :: t => if fstOf h = 0 then ⟨num, 0, 0, []⟩ else ⟨num, fstOf h, (frames (h :: t)).length, t⟩
def SgV (s : Sg) (v : Value) : Array Value := #[.int .i64 (s.num : Int), .int .i64 (s.first : Int), .int .i64 (s.size : Int), v]

theorem info_recs : (Tryz.prog.info? 22).map (fun i => (i.zero, i.size, i.bytes)) = some (some (.slice none 0 0), 1, 24) := by kernel_rfl

theorem results_row1 {P : Program} {fn : Func} {p : Tmp} {ty : TypeId} (h : fn.results = #[.cell p ty]) (tmps : Array Value) (w : World) (g : Nat) (t : TypeId) (cs : Array Value) (fr : Nat × Nat) (d : TypeDesc)
    (hp : tmps.getD p undef = .pointer (some ⟨g, 0, none⟩)) (hg : w.heap[g]? = some (.cells cs t fr))
    (hu : P.underlying ty = some d) (hd : (match d with | .struct _ | .array _ _ => true | _ => false) = true) (hi : (P.info? ty).map (·.size) = some cs.size) :
    (results fn tmps).run P w = .ok (.agg cs) w := by
  have hp' : tmps[p]?.getD undef = .pointer (some ⟨g, 0, none⟩) := by simpa using hp
  simp [results, h, hp', asAddr, run_loadVar_row w g t ty cs fr d hg hu hd hi]
theorem info_seg : (Tryz.prog.info? 97).map (·.size) = some 4 := by kernel_rfl
theorem frames_ret (w : World) (A : Option Addr) (n c : Nat) : Calls Tryz.prog 121 #[.slice A n c] w fun e w' => e = .returned (.func (.func 138) #[] #[.pointer (some ⟨w.heap.size, 0, none⟩)]) ∧ w' = w.alloc (.cells #[.slice A n c] 22) := by
  go_enter Tryz.func121, Tryz.ntmps121
  go_wp2
  go_ret
  exact ⟨rfl, rfl⟩

theorem segOf_one (num : Nat) (h : Tx) : segOf num [h] = if fstOf h = 0 then ⟨num, 0, 0, []⟩ else ⟨num, fstOf h, (frame h).length, []⟩ := by
  simp [segOf, frames]
/-- What stands in the segment behind so many frames. -/
def Ip (num g B : Nat) (xs : List Tx) (k : Nat) (W : World) : Prop :=
  ∃ v, Blk W g 97 (SgV (segOf num (xs.take k)) v) ∧ Rcs W (fun j => B ≤ j) v (segOf num (xs.take k)).recs ∧ (0 < k → ∀ h t, xs = h :: t → fstOf h ≠ 0)
def Jp (num g B : Nat) (xs : List Tx) (c : Code) (W : World) : Prop :=
  c = .exit 0 ∧ ∃ v, Blk W g 97 (SgV (segOf num xs) v) ∧ Rcs W (fun j => B ≤ j) v (segOf num xs).recs
theorem Ip.ch {num g B D : Nat} {xs : List Tx} {k : Nat} {W W' : World} (h : Ip num g B xs k W) (c : Ch (Bk D) W W') (hg : g < D) (hB : D + 2 ≤ B) : Ip num g B xs k W' := by
  obtain ⟨v, h1, h2, h3⟩ := h
  exact ⟨v, h1.ch c (fun h => by rcases h with h | h <;> omega), h2.ch c (fun j h1 h => by rcases h with h | h <;> omega), h3⟩
theorem Jp.ch {num g B D : Nat} {xs : List Tx} {c : Code} {W W' : World} (h : Jp num g B xs c W) (cc : Ch (Bk D) W W') (hg : g < D) (hB : D + 2 ≤ B) : Jp num g B xs c W' := by
  obtain ⟨hc, v, h1, h2⟩ := h
  exact ⟨hc, v, h1.ch cc (fun h => by rcases h with h | h <;> omega), h2.ch cc (fun j h1 h => by rcases h with h | h <;> omega)⟩
theorem Rf.ch {D : Nat} {p : Nat × Tx} {args : Array Value} {W W' : World} (h : Rf (D + 2) p args W) (c : Ch (Bk D) W W') : Rf (D + 2) p args W' := by
  obtain ⟨A, cc, h1, h2⟩ := h
  exact ⟨A, cc, h1, own_ch h2 c (fun g hg h => by have := (h2.lt g hg).1; rcases h with h | h <;> omega)⟩
theorem two_of {args : Array Value} (h : args.size = 2) : ∃ x y, args = #[x, y] := by
  obtain ⟨l⟩ := args
  match l, h with
  | [x, y], _ => exact ⟨x, y, rfl⟩
/-- The frame of parse, with the loop's variables. -/
def actP (num n : Nat) (A : Option Addr) (c g : Nat) (args : Array Value) : Act :=
  match args with
  | ⟨[x, y]⟩ => { tmps := #[.int .i64 (num : Int), .slice A n c, undef, undef, .pointer (some ⟨g, 0, none⟩), .pointer (some ⟨g + 1, 0, none⟩), x, y, .int .i64 (num : Int), .agg #[.int .i64 (num : Int), .int .i64 0, .int .i64 0, .slice none 0 0], .slice A n c, .func (.func 138) #[] #[.pointer (some ⟨g + 2, 0, none⟩)], x, y, undef, undef, undef, undef, undef, undef, undef, undef, undef, undef, undef, undef, undef, undef, undef, undef, undef, undef], defers := [] }
  | _ => { tmps := #[], defers := [] }

set_option maxRecDepth 100000 in
set_option maxHeartbeats 16000000 in
theorem parse_any (w : World) (X : Nat → Prop) (num : Nat) (hnum : num < 1000000000000000) (A : Option Addr) (c : Nat) (b r : Tx) (xs : List Tx) (h : Sl w X 1 (.slice A b.length c) b.length (BVs b)) (hb : b.length ≤ 549755813888) (hF : Frs b xs r) :
    Calls Tryz.prog 90 #[.int .i64 (num : Int), .slice A b.length c] w fun e w' => ∃ v, e = .returned (.agg (SgV (segOf num xs) v)) ∧ Rcs w' (New w w') v (segOf num xs).recs ∧ Below w.heap.size w w' := by
  refine (callsIn_wide (n := 6)).1 ?_
  refine callsIn_of_wp_marks Tryz.func90 rfl trivial ?_ rfl
  simp only [Tryz.ntmps90, List.size_toArray, List.length_cons, List.length_nil, Nat.reduceAdd, Nat.reduceSub, Array.replicate_succ, Array.replicate_zero, List.push_toArray, List.append_toArray, List.nil_append, List.cons_append]
  gi_wp2_with fail
  refine ⟨trivial, callsIn_wide.2 ((frames_ret _ A b.length c).mono ?_)⟩
  rintro e w3 ⟨rfl, rfl⟩
  have hk5 : Blk (((w.alloc (.cells #[.int .i64 0, .int .i64 0, .int .i64 0, .slice none 0 0] 97)).alloc (.cells #[.int .i64 (num : Int), .int .i64 0, .int .i64 0, .slice none 0 0] 97)).alloc (.cells #[.slice A b.length c] 22)) (w.heap.size + 1) 97 #[.int .i64 (num : Int), .int .i64 0, .int .i64 0, .slice none 0 0] := (Blk.new_at (by simp) rfl).alloc _
  have hk4 : Blk (((w.alloc (.cells #[.int .i64 0, .int .i64 0, .int .i64 0, .slice none 0 0] 97)).alloc (.cells #[.int .i64 (num : Int), .int .i64 0, .int .i64 0, .slice none 0 0] 97)).alloc (.cells #[.slice A b.length c] 22)) w.heap.size 97 #[.int .i64 0, .int .i64 0, .int .i64 0, .slice none 0 0] := ((Blk.new_at rfl rfl).alloc _).alloc _
  have hkB : Blk (((w.alloc (.cells #[.int .i64 0, .int .i64 0, .int .i64 0, .slice none 0 0] 97)).alloc (.cells #[.int .i64 (num : Int), .int .i64 0, .int .i64 0, .slice none 0 0] 97)).alloc (.cells #[.slice A b.length c] 22)) (w.heap.size + 2) 22 #[.slice A b.length c] := Blk.new_at (by simp) rfl
  have hsz : (((w.alloc (.cells #[.int .i64 0, .int .i64 0, .int .i64 0, .slice none 0 0] 97)).alloc (.cells #[.int .i64 (num : Int), .int .i64 0, .int .i64 0, .slice none 0 0] 97)).alloc (.cells #[.slice A b.length c] 22)).heap.size = w.heap.size + 3 := by simp
  have hbw : Below w.heap.size w (((w.alloc (.cells #[.int .i64 0, .int .i64 0, .int .i64 0, .slice none 0 0] 97)).alloc (.cells #[.int .i64 (num : Int), .int .i64 0, .int .i64 0, .slice none 0 0] 97)).alloc (.cells #[.slice A b.length c] 22)) := (((Below.refl _ w).alloc (Nat.le_refl _) _).alloc (by simp) _).alloc (by simp; omega) _
  rw [show (((w.alloc (.cells #[.int .i64 0, .int .i64 0, .int .i64 0, .slice none 0 0] 97)).alloc (.cells #[.int .i64 (num : Int), .int .i64 0, .int .i64 0, .slice none 0 0] 97)).heap.size) = w.heap.size + 2 by simp]
  generalize (((w.alloc (.cells #[.int .i64 0, .int .i64 0, .int .i64 0, .slice none 0 0] 97)).alloc (.cells #[.int .i64 (num : Int), .int .i64 0, .int .i64 0, .slice none 0 0] 97)).alloc (.cells #[.slice A b.length c] 22)) = w3 at hk5 hk4 hkB hsz hbw ⊢
  have hS : Sl w3 (fun k => k = w.heap.size + 1 ∨ w3.heap.size ≤ k) 1 (.slice A b.length c) b.length (BVs b) := ((h.old' (Nat.le_refl _)).after hbw).weaken (fun k hk hh => by rcases hh with hh | hh <;> omega)
  have hseq := frames_seq 5 (by omega) (fun k => k = w.heap.size + 1 ∨ w3.heap.size ≤ k) w3 (w.heap.size + 2) A c b r xs hkB (fun hh => by rcases hh with hh | hh <;> omega) hS hb hF (fun k hk => .inr hk)
  have HSEQ := Lib.hid hseq
  have HFA := Lib.hid (fun k hk => frs_at hF k hk)
  have HFL := Lib.hid hF.2.1
  have HK5 := Lib.hid hk5
  have HK4 := Lib.hid hk4
  have HBW := Lib.hid hbw
  clear hseq hS hkB hk5 hk4 hbw h hF
  gi_wp2_with fail
  refine wpIn_rangeR rfl (by omega) (gf := 138) (lb := #[.pointer (some ⟨w.heap.size + 2, 0, none⟩)]) rfl trivial (enters_of Tryz.func138 (by kernel_rfl) rfl) HSEQ.out (fun k hk => .inr hk)
    (fun B p args W ⟨_, _, hh, _⟩ => by rw [hh]; rfl) (fun p args W W' hh c => Rf.ch hh c)
    (Ip num (w.heap.size + 1) (w3.heap.size + 2) xs) (fun c _ => Jp num (w.heap.size + 1) (w3.heap.size + 2) xs c)
    (fun k W W' hh _ c => hh.ch c (by omega) (Nat.le_refl _)) (fun cc k W W' hh _ c => hh.ch c (by omega) (Nat.le_refl _)) ⟨_, HK5.out, Rcs.nil _ _, fun h0 => absurd h0 (by omega)⟩ (actP num b.length A c w.heap.size) ?assign ?body ?done ?stop
  case assign =>
    intro l args W K hsz hK
    obtain ⟨x, y, rfl⟩ := two_of hsz
    gi_wp2_with fail
    exact hK
  case body =>
    intro l k hk args W hlt hcw hi hr
    rw [ends_len] at hk
    rw [ends_get 0 xs k hk, Nat.zero_add] at hr
    obtain ⟨A4, c4, rfl, ho⟩ := hr
    obtain ⟨v, hb5, hrc, hfst⟩ := hi
    have hle := (HFA.out (k + 1) (by omega)).2
    obtain ⟨e, he⟩ : ∃ e, e = (frames (xs.take (k + 1))).length := ⟨_, rfl⟩
    simp only [← he] at hle ho ⊢
    have hxl := HFL.out _ (List.getElem_mem hk)
    have hfl : (frame xs[k]).length ≤ e := by rw [he, ← frames_snoc_len hk]; omega
    have HE := Lib.hid he
    have HB5 := Lib.hid hb5
    have HRC := Lib.hid hrc
    have HFS := Lib.hid hfst
    have HO := Lib.hid ho
    have HCW := Lib.hid hcw
    have hf0 := hb5.frozen 0
    have hf1 := hb5.frozen 1
    have hf2 := hb5.frozen 2
    have hf3 := hb5.frozen 3
    have hbs := hb5.lt
    dsimp only [actP]
    by_cases hk0 : k = 0
    · subst hk0
      obtain ⟨h, t, hxs⟩ : ∃ h t, xs = h :: t := by cases xs with | nil => simp at hk | cons h t => exact ⟨h, t, rfl⟩
      subst hxs
      simp only [List.take_zero, List.getElem_cons_zero, Nat.zero_add, List.take_succ_cons] at *
      have c1 : W.cell? ⟨w.heap.size + 1, 1, none⟩ = some (.int .i64 0) := HB5.out.cell 1
      have HF1 := Lib.hid (first_any W (fun _ => False) A4 c4 h (Sl.of_own HO.out (fun _ _ _ h => h)) (by omega))
      clear hb5 hrc hfst ho hcw he
      gi_wp2_with fail
      refine ⟨trivial, CallsIn.inRound l (callsIn_wide.2 (HF1.out.mono ?_))⟩
      rintro e1 w4 ⟨rfl, hb4⟩
      have HB4 := Lib.hid hb4
      have hk5 := HB5.out.below hb4 HB5.out.lt
      have HK := Lib.hid hk5
      have c1 : w4.cell? ⟨w.heap.size + 1, 1, none⟩ = some (.int .i64 0) := hk5.cell 1
      have c2 : w4.cell? ⟨w.heap.size + 1, 2, none⟩ = some (.int .i64 0) := hk5.cell 2
      have hf1 := hk5.frozen 1
      have hf2 := hk5.frozen 2
      have hch : ∀ (j : Nat) (u : Value), Ch (fun j => (j = w.heap.size + 1 ∨ w3.heap.size ≤ j) ∧ ¬ Bk w3.heap.size j) W (w4.setCell ⟨w.heap.size + 1, j, none⟩ u) := fun j u =>
        (Ch.of_below hb4 (Nat.le_refl _)).setCell (p := ⟨w.heap.size + 1, j, none⟩) (fun _ => ⟨.inl rfl, fun h => by rcases h with h | h <;> (simp only at h; omega)⟩) u
      have HCH := Lib.hid hch
      clear hb4 hk5 hch
      by_cases hf : fstOf h = 0
      · have HF0 := Lib.hid hf
        clear HF1
        rw [hf]
        clear hf
        gi_wp2_with fail
        refine ⟨HCH.out 1 _, rfl, v, ?_, ?_⟩
        · have := HK.out.set_ 1 (.int .i64 0)
          simpa [SgV, segOf, HF0.out] using this
        · simp only [segOf, HF0.out, if_true]
          exact (HRC.out.after HB4.out).ch ((Ch.refl (fun j => j = w.heap.size + 1) w4).setCell (p := ⟨w.heap.size + 1, 1, none⟩) (fun _ => rfl) _) (fun j h1 h2 => by omega)
      · have HF0 := Lib.hid hf
        have hne : ((fstOf h : Int) == 0) = false := by rw [beq_eq_false_iff_ne]; omega
        have hne2 : ¬ (fstOf h : Int) = 0 := by omega
        clear hf HF1
        generalize hfv : fstOf h = fv at *
        have HFV := Lib.hid hfv
        clear hfv
        gi_wp2_with fail
        refine ⟨(HCH.out 1 _).setCell (p := ⟨w.heap.size + 1, 2, none⟩) (fun _ => ⟨.inl rfl, fun h => by rcases h with h | h <;> (simp only at h; omega)⟩) _, v, ?_, ?_, fun _ h' t' e' => by injection e' with e1 _; rw [← e1, HFV.out]; exact HF0.out⟩
        · have := (HK.out.set_ 1 (.int .i64 (fv : Int))).set_ 2 (.int .i64 (e : Int))
          rw [List.take_succ_cons, List.take_zero, segOf_one, HFV.out, if_neg HF0.out]
          have he : (frame h).length = e := by rw [HE.out]; simp [frames]
          rw [he]
          simpa [SgV, segOf] using this
        · rw [List.take_succ_cons, List.take_zero, segOf_one, HFV.out, if_neg HF0.out]
          exact (HRC.out.after HB4.out).ch (((Ch.refl (fun j => j = w.heap.size + 1) w4).setCell (p := ⟨w.heap.size + 1, 1, none⟩) (fun _ => rfl) _).setCell (p := ⟨w.heap.size + 1, 2, none⟩) (fun _ => rfl) _) (fun j h1 h2 => by omega)
    · obtain ⟨h, t, hxs⟩ : ∃ h t, xs = h :: t := by cases xs with | nil => simp at hk | cons h t => exact ⟨h, t, rfl⟩
      have hf := HFS.out (by omega) h t hxs
      subst hxs
      obtain ⟨j, rfl⟩ : ∃ j, k = j + 1 := ⟨k - 1, by omega⟩
      have hjt : j < t.length := by simpa using hk
      have hseg : segOf num ((h :: t).take (j + 1)) = ⟨num, fstOf h, (frames (h :: t.take j)).length, t.take j⟩ := by rw [List.take_succ_cons, segOf, if_neg hf]
      have hseg2 : segOf num ((h :: t).take (j + 1 + 1)) = ⟨num, fstOf h, e, t.take j ++ [t[j]]⟩ := by
        rw [he, List.take_succ_cons, segOf, if_neg hf, List.take_succ_eq_append_getElem hjt]
      rw [hseg] at hb5 hrc
      simp only [List.getElem_cons_succ] at ho
      obtain ⟨A5, c5, rfl⟩ := hrc.shape
      have htl : (t.take j).length = j := by rw [List.length_take]; omega
      have hrc0 := hrc
      obtain ⟨vals, hvo, hvS, _⟩ := hrc0
      rw [htl] at hb5 hvo hvS hrc
      have c1 : W.cell? ⟨w.heap.size + 1, 1, none⟩ = some (.int .i64 (fstOf h : Int)) := hb5.cell 1
      have c2 : W.cell? ⟨w.heap.size + 1, 2, none⟩ = some (.int .i64 ((frames (h :: t.take j)).length : Int)) := hb5.cell 2
      have c3 : W.cell? ⟨w.heap.size + 1, 3, none⟩ = some (.slice A5 j c5) := hb5.cell 3
      have hne : ((fstOf h : Int) == 0) = false := by rw [beq_eq_false_iff_ne]; omega
      have hne2 : ¬ (fstOf h : Int) = 0 := by omega
      have HF := Lib.hid hf
      have HS2 := Lib.hid hseg2
      have HB6 := Lib.hid hb5
      have HRC6 := Lib.hid hrc
      have HO6 := Lib.hid ho
      clear hb5 hrc ho hfst hcw he hseg hseg2 hf HB5 HRC HO HFS
      have HVO := Lib.hid hvo
      have HVS := Lib.hid hvS
      have hjl : j ≤ 549755813888 := by have := frames_len (h :: t.take j); rw [List.length_cons, htl] at this; have := (HFA.out (j + 1) (by simp; omega)).2; rw [List.take_succ_cons] at this; omega
      obtain ⟨i0, hi0, hz0, hz1, hz2⟩ := info_parts info_recs
      have HTL := Lib.hid htl
      have HSZ := Lib.hid hsz
      clear hvo hvS htl hsz
      gi_wp2_with (gi_at_builtin; refine wpListIn_append_own_at _ rfl (.tmp 21) (.tmp 23) _ rfl 0 22 i0 _ 1 24 Tryz.underlying54 hi0 hz0 hz1 hz2 rfl (by omega) _ j vals rfl (HVO.out.alloc _) ⟨W.heap.size, 0, none⟩ 1 1 [.slice A4 t[j].length c4] rfl rfl (cell_one_new _ _ _) (by simp [Value.oneCell']) (by simp only [maxLen]; omega) (by omega) (by omega) ?_; intro v' w5 ho5 hg5 _ hb5; obtain ⟨A6, c6, rfl⟩ := own_shape ho5; have k5 := Lib.hid ((HB6.out.alloc (.cells #[.slice A4 t[j].length c4] 22)).grown hg5 (fun e1 => own_far HVO.out HB6.out (by decide) e1.symm)); have HO5 := Lib.hid ho5; have HG5 := Lib.hid hg5; have HBB5 := Lib.hid hb5; clear ho5 hg5 hb5 c1 c2 c3 hf0 hf1 hf2 hf3; have c1 : w5.cell? ⟨w.heap.size + 1, 1, none⟩ = some (.int .i64 (fstOf h : Int)) := k5.out.cell 1; have hf2 := k5.out.frozen 2; have hf3 := k5.out.frozen 3; have c2 : w5.cell? ⟨w.heap.size + 1, 2, none⟩ = some (.int .i64 ((frames (h :: t.take j)).length : Int)) := k5.out.cell 2; have c3 : w5.cell? ⟨w.heap.size + 1, 3, none⟩ = some (.slice A5 j c5) := k5.out.cell 3)
      have hsz := HSZ.out
      have hba : Below W.heap.size W (W.alloc (.cells #[.slice A4 t[j].length c4] 22)) := (Below.refl _ W).alloc (Nat.le_refl _) _
      have hrow : ∀ g, (Value.slice A5 j c5).ownBlock = some g → w3.heap.size + 2 ≤ g := fun g hg => HVS.out g hg
      have hc5 : Ch (fun k => (k = w.heap.size + 1 ∨ w3.heap.size ≤ k) ∧ ¬ Bk w3.heap.size k) W w5 := ((Ch.refl _ W).alloc _).trans (Ch.of_grown (S := fun k => (k = w.heap.size + 1 ∨ w3.heap.size ≤ k) ∧ ¬ Bk w3.heap.size k) HG5.out (fun g hg _ => ⟨.inr (by have := hrow g hg; omega), fun h => by have := hrow g hg; rcases h with h | h <;> omega⟩)) (fun _ _ h => h)
      have hnb : ¬ Bk w3.heap.size (w.heap.size + 1) := fun h => by rcases h with h | h <;> omega
      have hrc5 : Rcs w5 (Up (fun k => w3.heap.size + 2 ≤ k) (W.alloc (.cells #[.slice A4 t[j].length c4] 22)) w5) (.slice A6 (j + 1) c6) (t.take j ++ [t[j]]) := by
        refine Rcs.push (vals := vals) (HRC6.out.after hba) (fun vs hvs => ?_) (own_base (own_below HO6.out hba) (Nat.zero_le _)) (fun k hk => (HO6.out.lt k hk).1) ?_ HG5.out HBB5.out (fun h => (HO5.out.lt _ h).2)
        · rw [HTL.out] at hvs
          exact row_vals hvs (own_below HVO.out hba)
        · rw [HTL.out]; exact HO5.out
      refine ⟨(hc5.setCell (p := ⟨w.heap.size + 1, 3, none⟩) (fun _ => ⟨.inl rfl, hnb⟩) _).setCell (p := ⟨w.heap.size + 1, 2, none⟩) (fun _ => ⟨.inl rfl, hnb⟩) _, .slice A6 (j + 1) c6, ?_, ?_, fun _ h' t' e' => by injection e' with e1 _; rw [← e1]; exact HF.out⟩
      · have := (k5.out.set_ 3 (.slice A6 (j + 1) c6)).set_ 2 (.int .i64 (e : Int))
        rw [HS2.out]
        simpa [SgV] using this
      · rw [HS2.out]
        refine (hrc5.weaken (fun k hk => ?_)).ch (((Ch.refl (fun j => j = w.heap.size + 1) w5).setCell (p := ⟨w.heap.size + 1, 3, none⟩) (fun _ => rfl) _).setCell (p := ⟨w.heap.size + 1, 2, none⟩) (fun _ => rfl) _) (fun j h1 h2 => by omega)
        rcases hk with hk | ⟨hk, _⟩
        · exact hk
        · simp at hk; omega
  case done =>
    intro W hcw hi hd
    rw [ends_len] at hi
    obtain ⟨v, hb5, hrc, _⟩ := hi
    rw [List.take_length] at hb5 hrc
    obtain ⟨Av, cv, rfl⟩ := hrc.shape
    have hk4 := HK4.out.ch hcw (fun h => by rcases h with h | h <;> omega)
    have c0 := hb5.cell 0
    have c1 := hb5.cell 1
    have c2 := hb5.cell 2
    have c3 := hb5.cell 3
    simp only [SgV, List.getElem?_toArray, List.getElem?_cons_zero, List.getElem?_cons_succ] at c0 c1 c2 c3
    have d0 := hk4.cell 0
    have d1 := hk4.cell 1
    have d2 := hk4.cell 2
    have d3 := hk4.cell 3
    simp only [List.getElem?_toArray, List.getElem?_cons_zero, List.getElem?_cons_succ] at d0 d1 d2 d3
    have e0 := hk4.frozen 0
    have e1 := hk4.frozen 1
    have e2 := hk4.frozen 2
    have e3 := hk4.frozen 3
    have HK4' := Lib.hid hk4
    have HRC := Lib.hid hrc
    have HCW := Lib.hid hcw
    have HD := Lib.hid hd
    clear hk4 hrc hcw hb5 hd
    gi_wp2_with fail
    have hlt : w3.heap.size < W.heap.size := (Array.getElem?_eq_some_iff.1 HD.out).1
    refine ⟨by simp, .inl ⟨_, _, rfl, run_takeDeferred (((((((Ch.refl (fun k => k = w.heap.size) W).setCell (p := ⟨w.heap.size, 0, none⟩) (fun _ => rfl) _).setCell (p := ⟨w.heap.size, 1, none⟩) (fun _ => rfl) _).setCell (p := ⟨w.heap.size, 2, none⟩) (fun _ => rfl) _).setCell (p := ⟨w.heap.size, 3, none⟩) (fun _ => rfl) _).block w3.heap.size hlt (by omega)).trans HD.out), ?_⟩⟩
    have hk5 := (((HK4'.out.set_ 0 (.int .i64 ((segOf num xs).num : Int))).set_ 1 (.int .i64 ((segOf num xs).first : Int))).set_ 2 (.int .i64 ((segOf num xs).size : Int))).set_ 3 (.slice Av (segOf num xs).recs.length cv)
    have hk6 := hk5.ch (ch_putObj _ w3.heap.size (.deferred none)) (by omega)
    refine ⟨_, results_row1 rfl _ _ w.heap.size 97 (SgV (segOf num xs) (.slice Av (segOf num xs).recs.length cv)) (0, 0) _ rfl (by have h := hk6; unfold Blk at h; simpa [SgV] using h) Tryz.underlying97 rfl info_seg, _, rfl, ?_, ?_⟩
    · have cf := (((((Ch.refl (fun k => k = w.heap.size) W).setCell (p := ⟨w.heap.size, 0, none⟩) (fun _ => rfl) (.int .i64 ((segOf num xs).num : Int))).setCell (p := ⟨w.heap.size, 1, none⟩) (fun _ => rfl) (.int .i64 ((segOf num xs).first : Int))).setCell (p := ⟨w.heap.size, 2, none⟩) (fun _ => rfl) (.int .i64 ((segOf num xs).size : Int))).setCell (p := ⟨w.heap.size, 3, none⟩) (fun _ => rfl) (.slice Av (segOf num xs).recs.length cv))
      refine (((HRC.out.ch cf (fun k h1 h2 => by omega)).ch (ch_putObj _ w3.heap.size (.deferred none)) (fun k h1 h2 => by omega)).bound).weaken (fun k hk => ⟨by have := hk.1; omega, hk.2⟩)
    · have cf := (((((Ch.refl (fun k => k = w.heap.size) W).setCell (p := ⟨w.heap.size, 0, none⟩) (fun _ => rfl) (.int .i64 ((segOf num xs).num : Int))).setCell (p := ⟨w.heap.size, 1, none⟩) (fun _ => rfl) (.int .i64 ((segOf num xs).first : Int))).setCell (p := ⟨w.heap.size, 2, none⟩) (fun _ => rfl) (.int .i64 ((segOf num xs).size : Int))).setCell (p := ⟨w.heap.size, 3, none⟩) (fun _ => rfl) (.slice Av (segOf num xs).recs.length cv))
      have c1 := (HCW.out.mono (T := fun k => w.heap.size ≤ k) (fun k _ h => by rcases h with h | h <;> omega)).trans (cf.mono (T := fun k => w.heap.size ≤ k) (fun k _ h => by omega)) (fun _ _ h => h)
      have c2 := c1.trans ((ch_putObj _ w3.heap.size (.deferred none)).mono (T := fun k => w.heap.size ≤ k) (fun k _ h => by omega)) (fun _ _ h => h)
      exact HBW.out.trans (c2.below (B := w.heap.size) (fun k hk h => by omega) (by omega))
  case stop =>
    rintro cc k W hk hcw ⟨rfl, v, hb5, hrc⟩ hd
    obtain ⟨Av, cv, rfl⟩ := hrc.shape
    have hk4 := HK4.out.ch hcw (fun h => by rcases h with h | h <;> omega)
    have c0 := hb5.cell 0
    have c1 := hb5.cell 1
    have c2 := hb5.cell 2
    have c3 := hb5.cell 3
    simp only [SgV, List.getElem?_toArray, List.getElem?_cons_zero, List.getElem?_cons_succ] at c0 c1 c2 c3
    have d0 := hk4.cell 0
    have d1 := hk4.cell 1
    have d2 := hk4.cell 2
    have d3 := hk4.cell 3
    simp only [List.getElem?_toArray, List.getElem?_cons_zero, List.getElem?_cons_succ] at d0 d1 d2 d3
    have e0 := hk4.frozen 0
    have e1 := hk4.frozen 1
    have e2 := hk4.frozen 2
    have e3 := hk4.frozen 3
    have HK4' := Lib.hid hk4
    have HRC := Lib.hid hrc
    have HCW := Lib.hid hcw
    have HD := Lib.hid hd
    clear hk4 hrc hcw hb5 hd
    gi_wp2_with fail
    have hlt : w3.heap.size < W.heap.size := (Array.getElem?_eq_some_iff.1 HD.out).1
    refine ⟨by simp, .inl ⟨_, _, rfl, run_takeDeferred (((((((Ch.refl (fun k => k = w.heap.size) W).setCell (p := ⟨w.heap.size, 0, none⟩) (fun _ => rfl) _).setCell (p := ⟨w.heap.size, 1, none⟩) (fun _ => rfl) _).setCell (p := ⟨w.heap.size, 2, none⟩) (fun _ => rfl) _).setCell (p := ⟨w.heap.size, 3, none⟩) (fun _ => rfl) _).block w3.heap.size hlt (by omega)).trans HD.out), ?_⟩⟩
    have hk5 := (((HK4'.out.set_ 0 (.int .i64 ((segOf num xs).num : Int))).set_ 1 (.int .i64 ((segOf num xs).first : Int))).set_ 2 (.int .i64 ((segOf num xs).size : Int))).set_ 3 (.slice Av (segOf num xs).recs.length cv)
    have hk6 := hk5.ch (ch_putObj _ w3.heap.size (.deferred none)) (by omega)
    refine ⟨_, results_row1 rfl _ _ w.heap.size 97 (SgV (segOf num xs) (.slice Av (segOf num xs).recs.length cv)) (0, 0) _ rfl (by have h := hk6; unfold Blk at h; simpa [SgV] using h) Tryz.underlying97 rfl info_seg, _, rfl, ?_, ?_⟩
    · have cf := (((((Ch.refl (fun k => k = w.heap.size) W).setCell (p := ⟨w.heap.size, 0, none⟩) (fun _ => rfl) (.int .i64 ((segOf num xs).num : Int))).setCell (p := ⟨w.heap.size, 1, none⟩) (fun _ => rfl) (.int .i64 ((segOf num xs).first : Int))).setCell (p := ⟨w.heap.size, 2, none⟩) (fun _ => rfl) (.int .i64 ((segOf num xs).size : Int))).setCell (p := ⟨w.heap.size, 3, none⟩) (fun _ => rfl) (.slice Av (segOf num xs).recs.length cv))
      refine (((HRC.out.ch cf (fun k h1 h2 => by omega)).ch (ch_putObj _ w3.heap.size (.deferred none)) (fun k h1 h2 => by omega)).bound).weaken (fun k hk => ⟨by have := hk.1; omega, hk.2⟩)
    · have cf := (((((Ch.refl (fun k => k = w.heap.size) W).setCell (p := ⟨w.heap.size, 0, none⟩) (fun _ => rfl) (.int .i64 ((segOf num xs).num : Int))).setCell (p := ⟨w.heap.size, 1, none⟩) (fun _ => rfl) (.int .i64 ((segOf num xs).first : Int))).setCell (p := ⟨w.heap.size, 2, none⟩) (fun _ => rfl) (.int .i64 ((segOf num xs).size : Int))).setCell (p := ⟨w.heap.size, 3, none⟩) (fun _ => rfl) (.slice Av (segOf num xs).recs.length cv))
      have c1 := (HCW.out.mono (T := fun k => w.heap.size ≤ k) (fun k _ h => by rcases h with h | h <;> omega)).trans (cf.mono (T := fun k => w.heap.size ≤ k) (fun k _ h => by omega)) (fun _ _ h => h)
      have c2 := c1.trans ((ch_putObj _ w3.heap.size (.deferred none)).mono (T := fun k => w.heap.size ≤ k) (fun k _ h => by omega)) (fun _ _ h => h)
      exact HBW.out.trans (c2.below (B := w.heap.size) (fun k hk h => by omega) (by omega))

end Go.Proofs.YtdkjimfehipeaaaGreatDoor.Wj

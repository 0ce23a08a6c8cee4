/-
  Layer 4: All of a log, and the law's kept.
-/
import Derived.Test.YtjjfhbbaabakmaaGreatDoorWD17
import Derived.Test.YtjjfhbbaabakmaaGreatDoorWD11
import Derived.Test.YtjjfhbbaabakmaaGreatDoorWD02
import Derived.Test.YtjjfhbbaabakmaaGreatDoorWD16
import Derived.Maps.RangeWalk
namespace Go.Proofs.YtjjfhbbaabakmaaGreatDoor.Uh
set_option linter.unusedSimpArgs false
open Go Go.RowKit Go.Shelf Ck Kw Ga Dm Kr Ue Wl Wj Wk Wr Wo Uf Ug
attribute [local go_sem ↓] Go.wp_at_zero Go.wp_at_succ
attribute [local go_sem] Oper.semAt_some
set_option linter.unusedVariables false
set_option maxRecDepth 100000

theorem results_bool1 {fn : Func} {p : Tmp} (h : fn.results = #[.cell p 4]) (tmps : Array Value) (w : World) (g : Nat) (b : Bool)
    (hp : tmps.getD p undef = .pointer (some ⟨g, 0, none⟩)) (hc : w.cell? ⟨g, 0, none⟩ = some (.bool b)) :
    (results fn tmps).run Tryz.prog w = .ok (.bool b) w := by
  have hp' : tmps[p]?.getD undef = .pointer (some ⟨g, 0, none⟩) := by simpa using hp
  have ha : (isAgg 4).run Tryz.prog w = .ok false w := by kernel_rfl
  simp [results, h, hp', asAddr, loadVar]
  go_simp
theorem cellsS_one {w : World} {T : Nat → Prop} : ∀ (l : List Sg) (r : List Value), r.length = l.length → (∀ u ∈ r, u.oneCell' = true) → ∀ x ∈ cellsS l r, x.oneCell' = true
  | [], [], _, _, x, hx => nomatch hx
  | s :: l, v :: r, h, hr, x, hx => by
    simp only [cellsS, List.mem_cons] at hx
    rcases hx with rfl | rfl | rfl | rfl | hx
    · rfl
    · rfl
    · rfl
    · exact hr _ (List.mem_cons_self ..)
    · exact cellsS_one (w := w) (T := T) l r (by simpa using h) (fun u hu => hr u (List.mem_cons_of_mem _ hu)) x hx
  | [], _ :: _, h, _, _, _ => by simp at h
  | _ :: _, [], h, _, _, _ => by simp at h
set_option maxHeartbeats 400000 in
theorem segsclone_any (X : Nat → Prop) (v : Value) (n : Nat) (xs : List Value) (w : World) (hv : Sl w X 4 v n xs) (h1 : ∀ u ∈ xs, u.oneCell' = true) (hn : n * 48 ≤ 140737488355328) :
    Calls Tryz.prog 46 #[v] w fun e w' => ∃ A c, e = .returned (.slice A n c) ∧ w'.ownsRow w.heap.size 76 4 (.slice A n c) n xs ∧ Below w.heap.size w w' := by
  obtain ⟨i0, hi0, hz0, hz1, hz2⟩ := info_parts info_segs
  have hv' := hv
  obtain ⟨A, c, rfl, hxl, -⟩ := hv'
  have heq := fun (W : World) => Lib.run_eql_slice_nil (P := Tryz.prog) W 62 76 A n c 0 0 Tryz.underlying62
  rcases A with _ | ad
  · obtain ⟨h0, rfl⟩ := hv.none_
    subst h0
    clear hv h1 hxl
    go_enter Tryz.func46, Tryz.ntmps46
    go_wp2
    go_ret
    exact ⟨_, _, rfl, World.ownsRow_nil _ _ _ _, Below.refl _ _⟩
  · have HX := Lib.hid hxl
    clear hxl
    go_enter Tryz.func46, Tryz.ntmps46
    go_wp2_with (at_builtin; refine wpList_append_sh _ rfl (.tmp 5) (.tmp 6) _ rfl w.heap.size 76 i0 _ 4 48 Tryz.underlying62 hi0 hz0 hz1 hz2 rfl (by omega) (.slice (some ⟨w.heap.size, 0, none⟩) 0 0) 0 [] rfl (World.ownsRow_made w #[] 0 (Nat.le_refl _) (by simp only [maxLen]; omega) rfl) X _ n xs rfl (hv.alloc _) h1 (by simp only [maxLen]; omega) (by omega) (by simp) ?_; intro A2 c2 w2 happ)
    go_ret
    obtain ⟨ho, hg, hr⟩ := happ
    rw [Nat.zero_add] at hr
    refine ⟨A2, c2, by simp, by simpa using ho, ?_⟩
    exact ((Below.refl _ _).alloc (Nat.le_refl _) _).grown hg (by simp) (by simp [Value.ownBlock])
theorem segs_cloned {w w' : World} {S : Nat → Prop} {v v' : Value} {segs : List Sg} {rv : List Value} (h : Segs w S v segs rv) (hb : Below w.heap.size w w') (ho : w'.ownsRow w.heap.size 76 4 v' segs.length (cellsS segs rv)) : Segs w' (Up S w w') v' segs rv :=
  ⟨h.len, own_base ho (Nat.zero_le _), fun k hk => .inr (ho.lt k hk), fun i hi => by obtain ⟨u, h1, h2⟩ := h.rcs i hi; exact ⟨u, h1, (h2.after hb).weaken (fun k hk => .inl hk)⟩, h.apart, h.good⟩
/-- What All leaves. -/
def AllL (w : World) (S : Nat → Prop) (segs : List Sg) (e : Ending) (w' : World) : Prop :=
  ∃ Bn A c rv, e = .returned (.func (.func 47) #[] #[.pointer (some ⟨Bn, 0, none⟩)]) ∧ Blk w' Bn 62 #[.slice A segs.length c] ∧ Segs w' (Up S w w') (.slice A segs.length c) segs rv ∧ w.heap.size ≤ Bn ∧ Below w.heap.size w w'
set_option maxHeartbeats 2000000 in
theorem all_log (w : World) (S : Nat → Prop) (g p : Nat) (name : Tx) (most : Nat) (segs : List Sg) (synced : Nat) (h : Lg w S g p name most segs synced) (hne : 0 < segs.length) (hlen : segs.length ≤ 549755813888) :
    Calls Tryz.prog 19 #[.pointer (some ⟨g, 0, none⟩)] w (AllL w S segs) := by
  have hb1 := op_below w (.cells #[.slice none 0 0] 62)
  have hk1 : Blk (w.alloc (.cells #[.slice none 0 0] 62)) w.heap.size 62 #[.slice none 0 0] := Blk.new w _ _
  have hs1 : (w.alloc (.cells #[.slice none 0 0] 62)).heap.size ≤ w.heap.size + 1 ∧ w.heap.size + 1 ≤ (w.alloc (.cells #[.slice none 0 0] 62)).heap.size := by simp
  have h1 := h.after hb1
  obtain ⟨gb, cap, hC, -, -⟩ := h1.cells hne
  have HM := Lib.hid (made_log _ g p gb cap name most segs synced hC)
  clear h1
  obtain ⟨v, rv, hg, hgS, hsg, -, -⟩ := h
  have hg := hg.below hb1 hg.lt
  have hsg := hsg.bound.ch (Ch.of_below (S := fun _ => False) hb1 (Nat.le_refl _)) (fun _ _ h => h)
  obtain ⟨A, c, rfl⟩ := own_shape hsg.row
  have d3 := hg.cell 3
  simp only [List.getElem?_toArray, List.getElem?_cons_zero, List.getElem?_cons_succ] at d3
  have hone := cellsS_one (w := w) (T := S) segs rv hsg.len (fun u hu => by
    obtain ⟨i, hi, rfl⟩ := List.getElem_of_mem hu
    obtain ⟨u', hu', hr⟩ := hsg.rcs i (by have := hsg.len; omega)
    obtain ⟨A', c', rfl⟩ := hr.shape
    rw [List.getElem?_eq_getElem hi] at hu'
    rw [Option.some.inj hu']
    rfl)
  have HCL := Lib.hid (segsclone_any (fun _ => False) (.slice A segs.length c) segs.length (cellsS segs rv) _ (Sl.of_own hsg.row (fun _ _ _ h => h)) hone (by omega))
  have HK1 := Lib.hid (And.intro hb1 (And.intro hk1 (And.intro hsg hs1)))
  have f0 := hk1.frozen 0
  clear hC hg hgS hsg hone hb1 hk1 hs1
  go_enter Tryz.func19, Tryz.ntmps19
  go_wp2_with fail
  generalize w.alloc (.cells #[.slice none 0 0] 62) = w1 at *
  refine HM.out.mono ?_
  rintro e w2 ⟨rfl, rfl⟩
  go_wp2_with fail
  refine HCL.out.mono ?_
  rintro e w3 ⟨A3, c3, rfl, ho3, hb3⟩
  have hs3 := hb3.size
  have hk3 := HK1.out.2.1.below hb3 HK1.out.2.1.lt
  have hsg3 := segs_cloned HK1.out.2.2.1 hb3 ho3
  have f3 := hk3.frozen 0
  have k3 := hk3.cell 0
  simp only [List.getElem?_toArray, List.getElem?_cons_zero] at k3
  have cs := (Ch.refl (fun k => k = w.heap.size) w3).setCell (p := ⟨w.heap.size, 0, none⟩) (fun _ => rfl) (.slice A3 segs.length c3)
  have hk4 := hk3.set_ 0 (.slice A3 segs.length c3)
  have hsg4 := hsg3.bound.ch cs (fun k hk e => by
    rcases hk.1 with h | h
    · have := h.2; omega
    · have := HK1.out.2.2.2; omega)
  have HF := Lib.hid (And.intro hk4 (And.intro hsg4 (And.intro cs (HK1.out.1.trans (hb3.mono HK1.out.1.size)))))
  clear hk3 hsg3 cs hk4 hsg4 ho3 hb3
  go_wp2_with fail
  go_ret
  have s4 := HF.out.2.2.1.size
  have s13 := HF.out.2.2.2.size
  refine ⟨_, A3, c3, rv, rfl, by have := HF.out.1; simpa using this, HF.out.2.1.weaken (fun k hk => ?_), Nat.le_refl _, HF.out.2.2.2.trans (HF.out.2.2.1.below (fun k hk h => by omega) s13)⟩
  rcases hk.1 with h | h
  · exact .inl h.1.1
  · exact .inr ⟨by have := HK1.out.2.2.2; omega, by omega⟩
set_option maxHeartbeats 8000000 in
/-- Each record is as it was had. -/
theorem kept_any (w : World) (T : Nat → Prop) (Bn : Nat) (A : Option Addr) (cap : Nat) (segs : List Sg) (rv : List Value) (m : Nat) (hB : Blk w Bn 62 #[.slice A segs.length cap]) (h : Segs w T (.slice A segs.length cap) segs rv)
    (hlen : segs.length ≤ 549755813888) (hfew : ∀ s ∈ segs, s.recs.length ≤ 4194304) (hxl : ∀ s ∈ segs, ∀ x ∈ s.recs, x.length ≤ 549755813888)
    (hH : ∀ W, Below w.heap.size w W → ∀ p ∈ allOf segs, ∃ V, (Instr.lookup 31 (.map (some m)) (.int .i64 (p.1 : Int)) false).run Tryz.prog W = .ok V W ∧ Sl W (fun _ => False) 1 V p.2.length (BVs p.2)) :
    Calls Tryz.prog 18 #[.func (.func 47) #[] #[.pointer (some ⟨Bn, 0, none⟩)], .map (some m)] w fun e w' => e = .returned (.bool true) ∧ Below w.heap.size w w' := by
  refine (callsIn_wide (n := 8)).1 ?_
  refine callsIn_of_wp_marks Tryz.func18 rfl trivial ?_ rfl
  simp only [Tryz.ntmps18, List.size_toArray, List.length_cons, List.length_nil, Nat.reduceAdd, Nat.reduceSub, Array.replicate_succ, Array.replicate_zero, List.push_toArray, List.append_toArray, List.nil_append, List.cons_append]
  have k0 : Blk ((w.alloc (.cells #[.map (some m)] 31)).alloc (.cells #[.bool false] 4)) w.heap.size 31 #[.map (some m)] := (Blk.new w _ _).alloc _
  have k1 : Blk ((w.alloc (.cells #[.map (some m)] 31)).alloc (.cells #[.bool false] 4)) (w.heap.size + 1) 4 #[.bool false] := Blk.new_at (by simp) rfl
  have hal : Below w.heap.size w ((w.alloc (.cells #[.map (some m)] 31)).alloc (.cells #[.bool false] 4)) := ((Below.refl _ w).alloc (Nat.le_refl _) _).alloc (by simp) _
  have hsz : ((w.alloc (.cells #[.map (some m)] 31)).alloc (.cells #[.bool false] 4)).heap.size ≤ w.heap.size + 2 ∧ w.heap.size + 2 ≤ ((w.alloc (.cells #[.map (some m)] 31)).alloc (.cells #[.bool false] 4)).heap.size := by simp
  have hB3 := hB.below hal hB.lt
  have hBn := hB.lt
  have h3 := h.bound.ch (Ch.of_below (S := fun _ => False) hal (Nat.le_refl _)) (fun _ _ h => h)
  refine wpIn_wide.2 ?_
  go_wp2_with fail
  generalize ((w.alloc (.cells #[.map (some m)] 31)).alloc (.cells #[.bool false] 4)) = w3 at k0 k1 hal hsz hB3 h3 ⊢
  have HSEQ := Lib.hid (lall_seq 7 (by omega) (fun q => False ∨ Bk w3.heap.size q) (fun k => T k ∧ k < w.heap.size) w3 Bn A cap segs rv hB3 (fun h => by rcases h with h | h; exact h; rcases h with h | h <;> omega) h3 (fun k hk h => by rcases h with h | h; exact h; have := hk.2; rcases h with h | h <;> omega) (fun k h => by rcases h with h | h; exact h.elim; rcases h with h | h <;> omega) hlen hfew hxl)
  have HK := Lib.hid (And.intro k0 k1)
  have HAL := Lib.hid hal
  have HH := Lib.hid hH
  clear k0 k1 hal hB3 hB h h3 hH
  refine (wpIn_wide (n := 8)).1 ?_
  refine wpIn_rangeB rfl (by omega) (gf := 47) (lb := #[.pointer (some ⟨Bn, 0, none⟩)]) rfl trivial (enters_of Tryz.func47 (by kernel_rfl) rfl) (X := fun _ => False) HSEQ.out (fun _ h => h.elim)
    (fun B p args W ⟨_, _, hh, _⟩ => by rw [hh]; rfl) (fun p args Wa Wb hh c => by
      obtain ⟨A', cc, h1, h2⟩ := hh
      exact ⟨A', cc, h1, own_ch h2 c (fun q hq hb => by have := (h2.lt q hq).1; rcases hb with hb | hb <;> omega)⟩)
    (fun _ _ => True) (fun _ _ _ => False) (fun k W W' hh _ c => trivial) (fun cc k W W' hh _ c => hh) trivial (fun args => match args with | ⟨[x, y]⟩ => { tmps := #[.func (.func 47) #[] #[.pointer (some ⟨Bn, 0, none⟩)], .map (some m), undef, .pointer (some ⟨w.heap.size, 0, none⟩), .pointer (some ⟨w.heap.size + 1, 0, none⟩), x, y, .func (.func 47) #[] #[.pointer (some ⟨Bn, 0, none⟩)], x, y, undef, undef, undef, undef, undef, undef], defers := [] } | _ => { tmps := #[], defers := [] }) ?assign ?body ?done ?stop
  case assign =>
    intro l args W K hsz hK
    obtain ⟨x, y, rfl⟩ := Ug.two_of hsz
    gi_wp2_with fail
    exact hK
  case body =>
    intro l' j hj args Wk hlt' hcw _ hr
    have hb : Below w.heap.size w Wk := HAL.out.trans (hcw.below (B := w.heap.size) (fun k hk h => by rcases h with h | h; exact h; omega) HAL.out.size)
    obtain ⟨V, hlook, hV⟩ := HH.out Wk hb _ (List.getElem_mem hj)
    obtain ⟨Ay, cy, rfl, hy⟩ := hr
    have HEQ := Lib.hid (Ga.equal_any Wk (fun _ => False) (fun _ => False) _ V _ _ (allOf segs)[j].2 (allOf segs)[j].2 (Sl.of_own hy (fun _ _ _ h => h)) hV)
    rw [beq_self_eq_true] at HEQ
    generalize (allOf segs)[j] = x at *
    obtain ⟨x0, x1⟩ := x
    simp only at HEQ hlook ⊢
    have hk0 := (HK.out.1.ch hcw (fun h => by rcases h with h | h; exact h; omega)).cell 0
    simp only [List.getElem?_toArray, List.getElem?_cons_zero] at hk0
    have HCW := Lib.hid hcw
    clear hcw hb hy hV
    gi_wp2_with fail
    refine ⟨trivial, CallsIn.inRound l' (callsIn_wide.2 (HEQ.out.mono ?_))⟩
    rintro e W4 ⟨rfl, rfl⟩
    gi_wp2_with fail
    exact ⟨Ch.refl _ _, trivial⟩
  case done =>
    intro W hcw _ hd
    have hk := HK.out.2.ch hcw (fun h => by rcases h with h | h; exact h; omega)
    have e0 := hk.frozen 0
    have c0 := hk.cell 0
    simp only [List.getElem?_toArray, List.getElem?_cons_zero] at c0
    have HK4 := Lib.hid hk
    have HCW := Lib.hid hcw
    have HD := Lib.hid hd
    clear hk hcw hd
    dsimp only
    go_wp2_with fail
    have hlt : w3.heap.size < W.heap.size := (Array.getElem?_eq_some_iff.1 HD.out).1
    have cs := (Ch.refl (fun k => k = w.heap.size + 1) W).setCell (p := ⟨w.heap.size + 1, 0, none⟩) (fun _ => rfl) (.bool true)
    refine ⟨by simp, .inl ⟨_, _, rfl, run_takeDeferred ((cs.block w3.heap.size hlt (by omega)).trans HD.out), ?_⟩⟩
    have hk5 := HK4.out.set_ 0 (.bool true)
    have hk6 := hk5.ch (ch_putObj _ w3.heap.size (.deferred none)) (by omega)
    have d0 := hk6.cell 0
    simp at d0
    refine ⟨_, results_bool1 rfl _ _ (w.heap.size + 1) true rfl d0, rfl, ?_⟩
    have c2 := ((HCW.out.mono (T := fun k => w.heap.size ≤ k) (fun k _ h => by rcases h with h | h; exact h.elim; omega)).trans (cs.mono (T := fun k => w.heap.size ≤ k) (fun k _ h => by omega)) (fun _ _ h => h)).trans ((ch_putObj _ w3.heap.size (.deferred none)).mono (T := fun k => w.heap.size ≤ k) (fun k _ h => by omega)) (fun _ _ h => h)
    exact HAL.out.trans (c2.below (fun k hk h => by omega) (by omega))
  case stop => intro cc k W hk hcw hf; exact hf.elim
end Go.Proofs.YtjjfhbbaabakmaaGreatDoor.Uh

/-
  Layer 4: words for WalDamage: a map of slices by numbers; a log in one file, with what was had.
-/
namespace Go.Proofs.YtjjfhbbaabakmaaGreatDoor.Uk
set_option linter.unusedSimpArgs false
open Go Go.RowKit Cm Ck Kw Ga Dm Dw Da Db Dc Dd De Df Dg Dh Wc Wf Wa Wb Wd Wn We Kx Wg Wh Wl Wj Wk Wo Wq Wr Ws Wt Wu Wv Ww Wx Wy Wz Va Vb Vc Vd Ui Uj
attribute [local go_sem ↓] Go.wp_at_zero Go.wp_at_succ
set_option linter.unusedVariables false
set_option maxRecDepth 100000

/-- How a slice reads: its place, its length and its capacity. -/
def slA (v : Value) : Option (DataW Unit × List MemPlace) :=
  match v with
  | .slice none n c => some (.agg [.lit (.int .i64 (n : Int)), .lit (.int .i64 (c : Int))], [])
  | .slice (some ⟨g, o, none⟩) n c => some (.agg [.lit (.int .i64 (g : Int)), .lit (.int .i64 (o : Int)), .lit (.int .i64 (n : Int)), .lit (.int .i64 (c : Int))], [])
  | .slice (some ⟨g, o, some k⟩) n c => some (.agg [.lit (.int .i64 (g : Int)), .lit (.int .i64 (o : Int)), .lit (.int .i64 (k : Int)), .lit (.int .i64 (n : Int)), .lit (.int .i64 (c : Int))], [])
  | _ => none
theorem slA_inj {v v' : Value} {z : DataW Unit} {ps ps' : List MemPlace} (h : slA v = some (z, ps)) (h' : slA v' = some (z, ps')) : v = v' := by
  unfold slA at h h'
  split at h <;> split at h' <;> simp only [Option.some.injEq, Prod.mk.injEq, reduceCtorEq] at h h' <;> (try (obtain ⟨h1, -⟩ := h; obtain ⟨h2, -⟩ := h'; rw [← h1] at h2; simp at h2))
  · obtain ⟨a, b⟩ := h2
    congr 1 <;> omega
  · obtain ⟨a, b, c, d⟩ := h2
    congr 1 <;> first | omega | (congr 2 <;> omega)
  · obtain ⟨a, b, e, c, d⟩ := h2
    congr 1
    · congr 2 <;> first | omega | (congr 1; omega)
    · omega
    · omega
theorem slA_some (A : Option Addr) (n c : Nat) : ∃ z, slA (.slice A n c) = some (z, []) := by
  rcases A with _ | ⟨g, o, _ | k⟩
  · exact ⟨_, rfl⟩
  · exact ⟨_, rfl⟩
  · exact ⟨_, rfl⟩
theorem law_i64 : Maps.Keyed Tryz.prog 2 := Maps.int_keyed Tryz.underlying2
theorem key_i64 {n : Nat} (h : n ≤ 4611686018427387904) : keyOf Tryz.prog 2 (.int .i64 (n : Int)) = some (.int .i64 (n : Int)) := by
  refine Maps.keyOf_int_mk Tryz.underlying2 ?_
  simp only [Lit.wf]
  rw [Bool.and_eq_true, decide_eq_true_eq, decide_eq_true_eq]
  have h1 : IntKind.i64.min = -9223372036854775808 := by decide
  have h2 : IntKind.i64.max = 9223372036854775807 := by decide
  omega
theorem zero_sl (w : World) : (zeroValue 32).run Tryz.prog w = .ok (.slice none 0 0) w := by kernel_rfl
theorem slA_nil : slA (.slice none 0 0) = some (.agg [.lit (.int .i64 0), .lit (.int .i64 0)], []) := rfl
/-- What was had, by its number: number j + 1 is vals[j]. -/
structure HadM (w : World) (m : Nat) (vals : List Value) (D : DataW Unit) : Prop where
  own : w.ownsMap Tryz.prog 2 slA m vals.length D
  at_ : ∀ j v, vals[j]? = some v → ∃ z, slA v = some (z, []) ∧ ∀ zd, D.atKey (.int .i64 ((j + 1 : Nat) : Int)) zd = z
section
variable {w w' : World} {m : Nat} {vals : List Value} {D : DataW Unit} {X : Nat → Prop}
theorem HadM.ch (h : HadM w m vals D) (c : Ch X w w') (hx : ¬ X m) : HadM w' m vals D := ⟨map_ch h.own c hx, h.at_⟩
theorem HadM.look (h : HadM w m vals D) {j : Nat} {v : Value} (hj : vals[j]? = some v) (hl : vals.length ≤ 4611686018427387903) : (Instr.lookup 31 (.map (some m)) (.int .i64 ((j + 1 : Nat) : Int)) false).run Tryz.prog w = .ok v w := by
  have hjl := (List.getElem?_eq_some_iff.1 hj).1
  obtain ⟨v', ps, hrun, hv'⟩ := h.own.lookup law_i64 Tryz.underlying31 (zero_sl w) slA_nil (key_i64 (n := j + 1) (by omega))
  obtain ⟨z, hz, hat⟩ := h.at_ j v hj
  rw [hat] at hv'
  rw [hrun, slA_inj hv' hz]
theorem HadM.put (h : HadM w m vals D) (A : Option Addr) (n c : Nat) (hl : vals.length ≤ 4611686018427387903) : ∃ w' D', (Instr.mapUpdate 31 (.map (some m)) (.int .i64 ((vals.length + 1 : Nat) : Int)) (.slice A n c)).run Tryz.prog w = .ok () w' ∧ HadM w' m (vals ++ [.slice A n c]) D' ∧ Ch (fun k => k = m) w w' := by
  obtain ⟨z, hz⟩ := slA_some A n c
  obtain ⟨w', hrun, hown, hturn⟩ := h.own.store law_i64 Tryz.underlying31 (by simp only [maxLen]; omega) (key_i64 (n := vals.length + 1) (by omega)) hz
  refine ⟨w', _, hrun, ⟨by rw [List.length_append]; exact hown, fun j v hj => ?_⟩, Ch.of_grown hturn.grown (fun g hg _ => (Option.some.inj hg).symm)⟩
  by_cases hlt : j < vals.length
  · rw [List.getElem?_append_left hlt] at hj
    obtain ⟨z', hz', hat⟩ := h.at_ j v hj
    refine ⟨z', hz', fun zd => ?_⟩
    rw [Maps.atKey_put_other (fun e => by injection e with _ e; omega)]
    exact hat zd
  · have hj1 := (List.getElem?_eq_some_iff.1 hj).1
    have : j = vals.length := by simp at hj1; omega
    subst this
    rw [List.getElem?_append_right (Nat.le_refl _), Nat.sub_self] at hj
    obtain rfl := Option.some.inj hj
    exact ⟨z, hz, fun zd => Maps.atKey_put_same (k := .int .i64 ((vals.length + 1 : Nat) : Int)) h.own.isMap trivial _ _⟩
end
theorem append_long (w : World) (g p gb cap : Nat) (name : Tx) (most : Nat) (segs : List Sg) (synced : Nat) (h : LgC w g p gb cap name most segs synced) (A : Option Addr) (n c : Nat) (hn : 524288 < n) :
    Calls Tryz.prog 8 #[.pointer (some ⟨g, 0, none⟩), .slice A n c] w fun e w' => e = .returned (.tuple #[.int .i64 0, .int .i64 3]) ∧ w = w' := by
  have HM := Lib.hid (made_log w g p gb cap name most segs synced h)
  have HF := Lib.hid (frame_long w A n c hn)
  clear h hn
  go_enter Tryz.func8, Tryz.ntmps8
  go_wp2_with fail
  refine HM.out.mono ?_
  rintro e w1 ⟨rfl, rfl⟩
  go_wp2_with fail
  refine HF.out.mono ?_
  rintro e w1 ⟨rfl, rfl⟩
  go_wp2_with fail
  go_ret2
  exact ⟨rfl, rfl⟩
/-- The ends of the records in the file. -/
def EV (recs : List Bs) : List Value := (List.range recs.length).map fun i => .int .i64 ((bt (recs.take (i + 1))).length : Int)
theorem EV_snoc (recs : List Bs) (x : Bs) : EV (recs ++ [x]) = EV recs ++ [.int .i64 ((bt (recs ++ [x])).length : Int)] := by
  unfold EV
  rw [List.length_append, List.length_singleton, List.range_succ, List.map_append, List.map_singleton]
  congr 1
  · refine List.map_congr_left (fun i hi => ?_)
    rw [List.mem_range] at hi
    rw [List.take_append_of_le_length (by omega)]
  · rw [List.take_of_length_le (by simp)]
theorem EV_get {recs : List Bs} {k : Nat} (hk : k < recs.length) : (EV recs)[k]? = some (.int .i64 ((bt (recs.take (k + 1))).length : Int)) := by
  unfold EV
  rw [List.getElem?_map, List.getElem?_range hk]
  rfl
/-- Where the loop over the records stands: a log at g on a disk at p, its records recs; vals what was had; re the records whose ends are noted in ve. -/
structure DA (w : World) (p g m : Nat) (ve : Value) (recs : List Bs) (vals : List Value) (re : List Bs) (wr : World) : Prop where
  below : Below w.heap.size w wr
  ld : ∃ S1 S2, LDs wr S1 S2 g p [fl1 (bt recs) (head 1).length] 1048576 lg 4194304 ([] ++ [sg1 recs]) 0 ∧ (∀ k, S1 k ∨ S2 k → w.heap.size ≤ k ∧ k ≠ m ∧ ve.ownBlock ≠ some k)
  had : ∃ D, HadM wr m vals D
  hm : w.heap.size ≤ m
  ends : wr.ownsRow w.heap.size 3 1 ve re.length (EV re)
  vl : vals.length ≤ recs.length
  vs : ∀ j (h : j < vals.length), ∃ (h' : j < recs.length) (A : Option Addr) (c : Nat), vals[j] = .slice A recs[j].length c ∧ Sl w (fun k => w.heap.size ≤ k) 1 (.slice A recs[j].length c) recs[j].length (BVs recs[j])
  len : ∀ x ∈ recs, x.length ≤ 524288
  fit : (bt recs).length ≤ 1048576
  g0 : 0 < w.heap.size
section
variable {w wr w' : World} {p g m : Nat} {ve : Value} {recs re : List Bs} {vals : List Value}
theorem DA.em (h : DA w p g m ve recs vals re wr) : ve.ownBlock ≠ some m := by
  obtain ⟨D, hD⟩ := h.had
  exact map_row hD.own h.ends
theorem DA.ml (h : DA w p g m ve recs vals re wr) : m < wr.heap.size := by
  obtain ⟨D, hD⟩ := h.had
  exact hD.own.lt
theorem DA.few (h : DA w p g m ve recs vals re wr) : recs.length ≤ 1048576 := by
  have := bt_len recs
  have := h.fit
  omega
theorem DA.later (h : DA w p g m ve recs vals re wr) (b : Below wr.heap.size wr w') : DA w p g m ve recs vals re w' := by
  obtain ⟨S1, S2, h1, h2⟩ := h.ld
  obtain ⟨D, hD⟩ := h.had
  exact ⟨h.below.trans (b.mono h.below.size), ⟨S1, S2, h1.later b, h2⟩, ⟨D, hD.ch (Ch.of_below (S := fun _ => False) b (Nat.le_refl _)) (fun h => h)⟩, h.hm, own_below h.ends b, h.vl, h.vs, h.len, h.fit, h.g0⟩
/-- The record is put, or not. -/
theorem DA.app (h : DA w p g m ve recs vals re wr) (A : Option Addr) (c : Nat) (x : Bs) (hx : Sl w (fun k => w.heap.size ≤ k) 1 (.slice A x.length c) x.length (BVs x)) :
    Calls Tryz.prog 8 #[.pointer (some ⟨g, 0, none⟩), .slice A x.length c] wr fun e w' =>
      (e = .returned (.tuple #[.int .i64 ((recs.length + 1 : Nat) : Int), .int .i64 0]) ∧ DA w p g m ve (recs ++ [x]) vals re w') ∨
      (∃ z : Nat, z ≠ 0 ∧ e = .returned (.tuple #[.int .i64 0, .int .i64 (z : Int)]) ∧ DA w p g m ve recs vals re w') := by
  have hB := h.below.size
  by_cases hlong : 524288 < x.length
  · obtain ⟨S1, S2, h1, h2⟩ := h.ld
    obtain ⟨gb, cap, hC, -, -⟩ := h1.cells (by simp)
    refine (append_long wr g p gb cap _ _ _ _ hC A x.length c hlong).mono ?_
    rintro e w' ⟨rfl, rfl⟩
    exact .inr ⟨3, by omega, rfl, h⟩
  · obtain ⟨S1, S2, h1, h2⟩ := h.ld
    have hbt := bt_len recs
    have hxw := (hx.below h.below (fun k hk hX => hX)).weaken (Y := fun k => S1 k ∨ S2 k) (fun k hk hS => (h2 k hS).1)
    have hxs := (bt_len recs).1
    refine (append_log wr S1 S2 (fun k => S1 k ∨ S2 k) g p _ 1048576 lg 4194304 [] (sg1 recs) 0 (fl1 (bt recs) (head 1).length) h1 (by simp) (by simp [sg1]) (find_fl1 _ _) rfl A c x hxw (fun k hk => .inl hk) (fun k hk => .inr hk) (by omega)).mono ?_
    intro e w' he
    have hd : (head 1).length ≤ (bt recs).length := by unfold bt; rw [List.length_append]; omega
    have happ := app_one recs x (head 1).length hd
    have hful : full (sg1 recs) 4194304 = false := full_one h.fit
    have hsg : (⟨(sg1 recs).num, (sg1 recs).first, (sg1 recs).size + (frame x).length, (sg1 recs).recs ++ [x]⟩ : Sg) = sg1 (recs ++ [x]) := by
      simp only [sg1, bt_snoc, List.length_append]
    have hdone : ∀ (rs : List Bs) (Wn : Wal S1 S2 g p 1048576 lg 4194304 wr [fl1 (bt rs) (head 1).length] ([] ++ [sg1 rs]) 0 w'), recs.length ≤ rs.length → (∀ j (h' : j < recs.length), ∃ h'' : j < rs.length, rs[j] = recs[j]) → (∀ x ∈ rs, x.length ≤ 524288) → (bt rs).length ≤ 1048576 → DA w p g m ve rs vals re w' := by
      rintro rs ⟨T1, T2, hL, hS⟩ hle hat hlen hfit
      obtain ⟨D, hD⟩ := h.had
      have hml := hD.own.lt
      have hs := hS.ch.size
      refine ⟨h.below.trans (hS.ch.below (fun k hk hX => by have := (h2 k hX).1; omega) hB), ⟨T1, T2, hL, fun k hk => ?_⟩, ⟨D, hD.ch hS.ch (fun hX => (h2 m hX).2.1 rfl)⟩, h.hm, own_ch h.ends hS.ch (fun k hk hX => (h2 k hX).2.2 hk), Nat.le_trans h.vl hle, fun j hj => ?_, hlen, hfit, h.g0⟩
      · have hu : (S1 k ∨ S2 k) ∨ (wr.heap.size ≤ k ∧ k < w'.heap.size) := by
          rcases hk with hk | hk
          · rcases hS.s1 k hk with h | h
            · exact .inl (.inl h)
            · exact .inr h
          · rcases hS.s2 k hk with h | h
            · exact .inl (.inr h)
            · exact .inr h
        rcases hu with hu | hu
        · exact h2 k hu
        · refine ⟨by omega, by omega, fun e => ?_⟩
          have := (h.ends.lt k e).2
          omega
      · obtain ⟨h', A', c', hv, hs'⟩ := h.vs j hj
        obtain ⟨h'', e2⟩ := hat j h'
        refine ⟨h'', A', c', ?_⟩
        rw [e2]
        exact ⟨hv, hs'⟩
    rcases he with ⟨-, he⟩ | ⟨hf, -⟩ | ⟨hf, -⟩
    · have hn : (sg1 recs).num = 1 := rfl
      unfold Apped at he
      rw [hn, happ] at he
      by_cases hfit : (bt (recs ++ [x])).length ≤ 1048576
      · rw [if_pos hfit] at he
        rcases he with ⟨-, rfl, hW⟩ | ⟨hc, -⟩
        · have hsg' : (⟨1, (sg1 recs).first, (sg1 recs).size + (frame x).length, (sg1 recs).recs ++ [x]⟩ : Sg) = sg1 (recs ++ [x]) := hsg
          rw [hsg'] at hW
          refine .inl ⟨by simp [sg1, Int.add_comm], hdone (recs ++ [x]) hW (by simp) (fun j h' => ⟨by simp; omega, List.getElem_append_left h'⟩) (fun y hy => ?_) hfit⟩
          rcases List.mem_append.1 hy with hy | hy
          · exact h.len y hy
          · rw [List.mem_singleton] at hy
            subst hy
            omega
        · exact absurd rfl hc
      · rw [if_neg hfit] at he
        rcases he with ⟨hc, -⟩ | ⟨hc, rfl, hW⟩
        · cases hc
        · exact .inr ⟨30, by omega, rfl, hdone recs hW (Nat.le_refl _) (fun j h' => ⟨h', rfl⟩) h.len h.fit⟩
    · rw [hful] at hf; cases hf
    · rw [hful] at hf; cases hf
/-- What was had, noted. -/
theorem DA.put {wa wb : World} {x : Bs} {A : Option Addr} {c : Nat} {D : DataW Unit} (h : DA w p g m ve (recs ++ [x]) vals re wa) (hv : vals.length = recs.length) (hD : HadM wb m (vals ++ [.slice A x.length c]) D) (hc : Ch (fun k => k = m) wa wb) (hx : Sl w (fun k => w.heap.size ≤ k) 1 (.slice A x.length c) x.length (BVs x)) :
    DA w p g m ve (recs ++ [x]) (vals ++ [.slice A x.length c]) re wb := by
  obtain ⟨S1, S2, h1, h2⟩ := h.ld
  have hem := h.em
  have hz : 0 ≠ m := fun e => by
    have := h.g0; have := h.hm; omega
  refine ⟨h.below.trans (hc.below (fun k hk e => by have := h.hm; omega) h.below.size), ⟨S1, S2, ⟨h1.lg.ch hc (fun k hk e => (h2 k (.inl hk)).2.1 e), h1.dk.ch hc (fun k hk e => (h2 k (.inr hk)).2.1 e), h1.apart, fun k hk => Nat.lt_of_lt_of_le (h1.b1 k hk) hc.size, fun k hk => Nat.lt_of_lt_of_le (h1.b2 k hk) hc.size, h1.tab.ch hc hz, h1.z1, h1.z2⟩, h2⟩, ⟨D, hD⟩, h.hm, own_ch h.ends hc (fun k hk e => hem (by rw [hk, e])), by rw [List.length_append, List.length_append, hv]; exact Nat.le_refl _, fun j hj => ?_, h.len, h.fit, h.g0⟩
  by_cases hlt : j < vals.length
  · obtain ⟨h', A', c', e, hs⟩ := h.vs j hlt
    refine ⟨h', A', c', ?_, hs⟩
    rw [List.getElem_append_left hlt]
    exact e
  · have hj2 : j = recs.length := by rw [List.length_append] at hj; simp at hj; omega
    subst hj2
    refine ⟨by simp, A, c, ?_⟩
    rw [List.getElem_append_right (by omega), List.getElem_append_right (Nat.le_refl _)]
    simp only [Nat.sub_self, List.getElem_cons_zero]
    exact ⟨by simp only [hv, Nat.sub_self, List.getElem_cons_zero], hx⟩
/-- Its end, noted. -/
theorem DA.note {wa wb : World} {x : Bs} {ve' : Value} (h : DA w p g m ve recs vals re wa) (ha : Appended wa w.heap.size 3 1 ve (re.length + 1) (EV re ++ [.int .i64 ((bt (re ++ [x])).length : Int)]) ve' wb) :
    DA w p g m ve' recs vals (re ++ [x]) wb := by
  obtain ⟨ho, hg, hv⟩ := ha
  obtain ⟨S1, S2, h1, h2⟩ := h.ld
  obtain ⟨D, hD⟩ := h.had
  have hem := h.em
  have hc : Ch (fun k => ve.ownBlock = some k) wa wb := Ch.of_grown hg (fun g hg _ => hg)
  have hz : ve.ownBlock ≠ some 0 := fun e => by have := h.g0; have := (h.ends.lt _ e).1; omega
  refine ⟨h.below.trans (hc.below (fun k hk e => by have := (h.ends.lt k e).1; omega) h.below.size), ⟨S1, S2, ⟨h1.lg.ch hc (fun k hk e => (h2 k (.inl hk)).2.2 e), h1.dk.ch hc (fun k hk e => (h2 k (.inr hk)).2.2 e), h1.apart, fun k hk => Nat.lt_of_lt_of_le (h1.b1 k hk) hc.size, fun k hk => Nat.lt_of_lt_of_le (h1.b2 k hk) hc.size, h1.tab.ch hc hz, h1.z1, h1.z2⟩, fun k hk => ⟨(h2 k hk).1, (h2 k hk).2.1, fun e => ?_⟩⟩, ⟨D, hD.ch hc (fun e => hem e)⟩, h.hm, by rw [List.length_append, EV_snoc]; exact ho, h.vl, h.vs, h.len, h.fit, h.g0⟩
  rcases hv with hv | hv
  · rw [hv] at e
    exact (h2 k hk).2.2 e
  · rw [hv] at e
    have := Option.some.inj e
    rcases hk with hk | hk
    · have := h1.b1 k hk; omega
    · have := h1.b2 k hk; omega
/-- The room that is used. -/
theorem DA.used (h : DA w p g m ve recs vals re wr) : Calls Tryz.prog 20 #[.pointer (some ⟨p, 0, none⟩)] wr fun e w' => e = .returned (.int .i64 ((bt recs).length : Int)) ∧ Below wr.heap.size wr w' := by
  obtain ⟨S1, S2, h1, h2⟩ := h.ld
  have := used_on wr S2 p _ _ _ h1.dk
  have hu : Dm.used [fl1 (bt recs) (head 1).length] = (bt recs).length := by simp [Dm.used, fl1]
  rw [hu] at this
  exact this
end
end Go.Proofs.YtjjfhbbaabakmaaGreatDoor.Uk

/-
  Layer 6 (op): the contract of the document's own Take, kind by kind.
-/
import Derived.Test.YtebjjkhiniccgaaGreatQb
import Derived.Test.YtebjjkhiniccgaaGreatW6
import Derived.Deep.RegionLaw
namespace Go.Proofs.YtebjjkhiniccgaaGreat.Qc
set_option linter.unusedSimpArgs false
open Go Go.RowKit Ck Kw Ca Cb Ce Cf Cg Ch Ci Cj Cn Co Pm Pa Pe Pf Pg Ph Ppi Pk Pp Qb
set_option linter.unusedVariables false

section
variable {P : Program}
theorem append_types (w : World) (t t2 ty e e2 : TypeId) (b : Option Addr) (n c : Nat) (x : Value) (ht : P.underlying t = some (.slice e)) (ht2 : P.underlying t2 = some (.slice e2)) :
    (Builtin.append_ #[t, t2] ty #[.slice b n c, x]).run P w = (Builtin.append_ #[t, t] ty #[.slice b n c, x]).run P w := by
  simp [Builtin.append_, run_underlying ht, run_underlying ht2]
/-- append to nothing, of a slice of another type of the same cells, at a step of a region that draws. -/
theorem step_append_new2 {w : World} {ops : Array Oper} {o : Oper} {a : Act} {K : Act → World → Prop} {Q : Exit → Act → World → Prop} {E : Prop} (hgd : o.guard = none) (s x : Operand) (t t2 : TypeId)
    (ho : o.op = .call { callee := .builtin .append, args := #[s, x], argTypes := #[t, t2] })
    (e : TypeId) (i : TypeInfo) (z : Value) (size bytes : Nat) (ht : P.underlying t = some (.slice e)) (ht2 : P.underlying t2 = some (.slice e)) (hi : P.info? e = some i) (hz : i.zero = some z)
    (hsize : i.size = size) (hby : i.bytes = bytes) (hzs : z.cells.size = size) (hsz : 0 < size) (hs : a.eval s = .slice none 0 0)
    (X : Nat → Prop) (src : Value) (m : Nat) (news : List Value) (hx : a.eval x = src) (hr : Sl w X size src m news) (h1 : ∀ u ∈ news, u.oneCell' = true)
    (h63 : m ≤ maxLen) (hbytes : m * bytes ≤ 140737488355328)
    (h : ∀ A c w', w'.ownsRow w.heap.size e size (.slice A m c) m news → Below w.heap.size w w' → K (a.put o.dst (.slice A m c)) w') :
    if Region.wanted o (yielded ops a.tmps) = true then Oper.wp P o a w K Q else E := by
  have hw : Region.wanted o (yielded ops a.tmps) = true := by simp [Region.wanted, hgd]
  rw [if_pos hw]
  obtain ⟨v', w', hrun, h2⟩ := run_append_sl (P := P) w w.heap.size t o.type e i z size bytes ht hi hz hsize hby hzs hsz (.slice none 0 0) 0 [] (World.ownsRow_nil _ _ _ _) X src m news hr h1 (by omega) (by rw [Nat.zero_add]; exact hbytes) (Nat.le_refl _)
  rw [← append_types w t t2 o.type e e _ _ _ _ ht ht2] at hrun
  unfold Oper.wp execOp
  simp only [ho, resolve, invoke, builtin, Sem.run_bind, Sem.run_pure, Result.andThen_ok, List.map_toArray, List.map_cons, List.map_nil, hs, hx, hrun]
  obtain ⟨ho', hg, _⟩ := h2
  obtain ⟨A, c, rfl⟩ := own_shape ho'
  rw [Nat.zero_add] at ho' ⊢
  exact h A c w' (by simpa using ho') (below_of_grown hg (by simp [Value.ownBlock]))
end

/-- Within the call: the result's cells, the operation's, the reader. -/
structure RX (w0 : World) (X : Nat → Prop) (g g1 g2 : Nat) (cs : Array Value) (s : Cm.RS) (W : World) : Prop where
  grown : w0.grownBy W (some g)
  old : g < w0.heap.size
  new1 : w0.heap.size ≤ g1
  new2 : w0.heap.size ≤ g2
  far : g1 ≠ g2
  res : Blk W g1 25 Z5
  op : Blk W g2 25 cs
  rd : RR W (fun k => X k ∨ w0.heap.size ≤ k) g s
section
variable {w0 W W' : World} {X : Nat → Prop} {g g1 g2 : Nat} {cs cs' : Array Value} {s s' : Cm.RS}
theorem RX.next (h : RX w0 X g g1 g2 cs s W) (hg : W.grownBy W' (some g)) (hc : RR W' (fun k => X k ∨ w0.heap.size ≤ k) g s') : RX w0 X g g1 g2 cs s' W' := by
  have o := h.old; have n1 := h.new1; have n2 := h.new2
  exact ⟨h.grown.trans hg, h.old, h.new1, h.new2, h.far, h.res.grown hg (by simp; omega), h.op.grown hg (by simp; omega), hc⟩
theorem RX.later (h : RX w0 X g g1 g2 cs s W) (hb : Below W.heap.size W W') : RX w0 X g g1 g2 cs s W' := h.next (grown_of_below hb _) (h.rd.after hb)
theorem RX.row {row : Option Nat} (h : RX w0 X g g1 g2 cs s W) (hg : W.grownBy W' row) (hr : ∀ q, row = some q → g < q ∧ g1 < q ∧ g2 < q) : RX w0 X g g1 g2 cs s W' := by
  have n1 := h.new1
  refine ⟨grown_step h.grown hg (.inr fun q hq => by have := hr q hq; omega), h.old, h.new1, h.new2, h.far, h.res.grown hg (fun e => by have := hr g1 e.symm; omega), h.op.grown hg (fun e => by have := hr g2 e.symm; omega), h.rd.grown hg (fun e => by have := hr g e.symm; omega) (fun q hq _ => .inr (by have := hr q hq; omega))⟩
theorem RX.put (h : RX w0 X g g1 g2 cs s W) (i : Nat) (u : Value) (hcs : cs.setIfInBounds i u = cs') : RX w0 X g g1 g2 cs' s (W.setCell ⟨g2, i, none⟩ u) := by
  subst hcs
  have o := h.old; have n2 := h.new2; have f1 := h.far
  exact ⟨grown_setCell h.grown (.inr n2) u, h.old, h.new1, h.new2, h.far, h.res.far f1 u, h.op.set_ i u,
    h.rd.grown (row := some g2) (grown_setCell (World.grownBy.refl W (some g2)) (.inl rfl) u) (by simp; omega) (fun q hq _ => by injection hq with hq; exact .inr (by omega))⟩
/-- The reader's error. -/
theorem RX.err (h : RX w0 X g g1 g2 cs s W) : W.cell? ⟨g, 1, none⟩ = some (.int .i64 s.2) := by
  obtain ⟨A, n, c, hb, _⟩ := h.rd
  exact hb.cell 1
end
theorem rx_nil {w0 W : World} {X : Nat → Prop} {g g1 g2 : Nat} {cs : Array Value} {s : Cm.RS} (h : RX w0 X g g1 g2 cs s W) : Ls W (fun k => k < w0.heap.size ∨ k = g1) (.slice none 0 0) [] := ls_nil _ _
theorem rx_first {w w1 : World} {X : Nat → Prop} {g : Nat} {s s' : Cm.RS} {cs : Array Value} (h : RR w X g s) (hg1 : (w.alloc (.cells Z5 25)).grownBy w1 (some g)) (hc1 : RR w1 (fun k => X k ∨ w.heap.size ≤ k) g s') :
    RX w X g w.heap.size w1.heap.size cs s' (w1.alloc (.cells cs 25)) := by
  have hlt := h.lt
  have b0 : Below w.heap.size w (w.alloc (.cells Z5 25)) := (Below.refl _ w).alloc (Nat.le_refl _) _
  have s0 : (w.alloc (.cells Z5 25)).heap.size = w.heap.size + 1 := by simp
  have s1 := hg1.size
  have r0 : Blk (w.alloc (.cells Z5 25)) w.heap.size 25 Z5 := Blk.new _ _ _
  have r1 : Blk w1 w.heap.size 25 Z5 := r0.grown hg1 (by simp; omega)
  have b2 : Below w1.heap.size w1 (w1.alloc (.cells cs 25)) := (Below.refl _ w1).alloc (Nat.le_refl _) _
  have gr : w.grownBy w1 (some g) := (grown_of_below b0 (some g)).trans hg1
  exact ⟨grown_below gr b2, hlt, Nat.le_refl _, by omega, by omega, r1.alloc _, Blk.new _ _ _, hc1.after b2⟩
/-- What a reading of an operation leaves. -/
def RReaded (w : World) (X : Nat → Prop) (g : Nat) (r : O × Cm.RS) (e : Ending) (w' : World) : Prop := ∃ v, e = .returned v ∧ OI w' (fun k => k < w.heap.size) v r.1 ∧ w.grownBy w' (some g) ∧ RR w' X g r.2
theorem rreaded_of {w W : World} {X : Nat → Prop} {g g1 g2 : Nat} {cs : Array Value} {s : Cm.RS} {o : O} {A : Option Addr} {c : Nat} {r : O × Cm.RS} (h : RX w X g g1 g2 cs s W) (x0 x1 x2 x3 x4 : Value) (hv : Value.agg #[x0, x1, x2, x3, x4] = OV o A c)
    (hls : Ls W (fun k => k < w.heap.size ∨ k = g1) (.slice A o.recs.length c) o.recs) (hr : r = (o, s)) :
    RReaded w X g r (.returned (.agg #[x0, x1, x2, x3, x4])) (((((W.setCell ⟨g1, 0, none⟩ x0).setCell ⟨g1, 1, none⟩ x1).setCell ⟨g1, 2, none⟩ x2).setCell ⟨g1, 3, none⟩ x3).setCell ⟨g1, 4, none⟩ x4) := by
  subst hr
  have n1 := h.new1
  have o1 := h.old
  have cg : W.grownBy (((((W.setCell ⟨g1, 0, none⟩ x0).setCell ⟨g1, 1, none⟩ x1).setCell ⟨g1, 2, none⟩ x2).setCell ⟨g1, 3, none⟩ x3).setCell ⟨g1, 4, none⟩ x4) (some g1) :=
    grown_setCell (grown_setCell (grown_setCell (grown_setCell (grown_setCell (World.grownBy.refl W (some g1)) (p := ⟨g1, 0, none⟩) (.inl rfl) x0) (p := ⟨g1, 1, none⟩) (.inl rfl) x1) (p := ⟨g1, 2, none⟩) (.inl rfl) x2) (p := ⟨g1, 3, none⟩) (.inl rfl) x3) (p := ⟨g1, 4, none⟩) (.inl rfl) x4
  refine ⟨_, rfl, ⟨A, c, hv, (hls.grown cg (fun q hq _ => by injection hq with hq; exact .inr hq.symm)).weaken (fun k _ hk => .inl hk)⟩, ?_, ?_⟩
  · exact grown_step h.grown cg (.inr fun q hq => by injection hq with hq; omega)
  · exact (h.rd.grown cg (by simp; omega) (fun q hq _ => by injection hq with hq; exact .inr (by omega))).weaken (fun k _ hk => .inl hk)
theorem take_no {s : Cm.RS} (h : (rd s).2.2 ≠ 0) : take s = (O.zero, (rd s).2) := by
  have : Cm.failS (rd s).2 (check (rd s).1) = (rd s).2 := by rw [Cm.failS, if_pos h]
  rw [take, this, if_pos h]
theorem take_bad {s : Cm.RS} (h : (rd s).2.2 = 0) (hc : check (rd s).1 ≠ 0) : take s = (O.zero, ([], check (rd s).1)) := by
  have : Cm.failS (rd s).2 (check (rd s).1) = ([], check (rd s).1) := by rw [Cm.failS, if_neg (by omega), if_pos hc]
  rw [take, this, if_pos hc]
theorem take_ok {s : Cm.RS} (h : (rd s).2.2 = 0) (hc : check (rd s).1 = 0) : take s = ((rd s).1, (rd s).2) := by
  have : Cm.failS (rd s).2 (check (rd s).1) = (rd s).2 := by rw [Cm.failS, if_neg (by omega), if_neg (by omega)]
  rw [take, this, if_neg (by omega)]
theorem good_zero {s : Cm.RS} (h : s.2 = 0) (hc : s.2 ≠ 0) : False := hc h

theorem bytesS_most (s : Cm.RS) (m : Int) : (Cm.bytesS s m).1.length ≤ m.toNat := by
  have h1 := Cm.numS_le s m.toNat
  unfold Cm.bytesS Cm.takeS
  split
  · simp
  · split
    · simp
    · split
      · simp
      · simp only [List.length_take, Int.toNat_natCast]; omega
theorem own_step {wr w5 w6 : World} {B g n : Nat} {e : TypeId} {v : Value} {vals : List Value} (hown : wr.ownsRow B e 1 v n vals) (hg : g < B) (hg5 : wr.grownBy w5 (some g)) (hb6 : Below w5.heap.size w5 w6) : w6.ownsRow B e 1 v n vals := by
  refine own_below (hown.kept hg5 ?_) hb6
  have := hown.lt
  cases hv : v.ownBlock <;> simp
  rename_i kk
  have := (this kk hv).1
  omega
theorem base_le {wr w5 w6 : World} {B g : Nat} {o : Obj} (hB : B ≤ wr.heap.size) (hg5 : wr.grownBy w5 (some g)) (hb6 : Below w5.heap.size w5 w6) : B ≤ (w6.alloc o).heap.size := by
  have := hg5.size
  have := hb6.size
  simp
  omega
/-- One round of the document's loop: a part was read and put behind the others. -/
theorem dl_round {wr w5 w6 w8 : World} {B g g2 : Nat} {v u v8 : Value} {vals : List Value} {acc : List Tx} {x : Tx} {t e : TypeId} (hB : B ≤ wr.heap.size) (hg : g < B) (hg2 : g2 < B)
    (hown : wr.ownsRow B e 1 v acc.length vals) (hels : Els wr B v vals acc) (hg5 : wr.grownBy w5 (some g)) (hb6 : Below w5.heap.size w5 w6) (hu : w6.ownsRow w5.heap.size t 1 u x.length (BVs x))
    (happ : Appended (w6.alloc (.cells #[u] e)) B e 1 v (acc.length + 1) (vals ++ [u]) v8 w8) :
    (w8.setCell ⟨g2, 4, none⟩ v8).ownsRow B e 1 v8 (acc ++ [x]).length (vals ++ [u]) ∧ Els (w8.setCell ⟨g2, 4, none⟩ v8) B v8 (vals ++ [u]) (acc ++ [x]) := by
  have hlt := hown.lt
  have z5 := hg5.size
  have z6 := hb6.size
  have hels6 : Els w6 B v vals acc := (hels.grown hg5 (fun k hk => .inl (by injection hk with hk; omega))).grown (grown_of_below hb6 none) (by simp)
  have h1 : Els w6 B v (vals ++ [u]) (acc ++ [x]) := by
    refine hels6.push (Sl.of_own hu fun k hk _ hy => ?_)
    rcases hy with hy | hy
    · omega
    · have := (hlt k hy).2; omega
  have h2 := h1.keep (w' := w6.alloc (.cells #[u] e)) (by simp) (fun b hb _ => Below.heap_alloc _ _ _ hb)
  have h3 := h2.grown happ.2.1 (fun k hk => .inr hk)
  have h4 : Els w8 B v8 (vals ++ [u]) (acc ++ [x]) := by
    refine ⟨h3.1, fun i hi => ?_⟩
    obtain ⟨u0, hu0, h5⟩ := h2.2 i hi
    refine ⟨u0, hu0, ?_⟩
    have h6 : Sl w8 (fun k => (k < B ∨ v.ownBlock = some k) ∨ (w6.alloc (.cells #[u] e)).heap.size ≤ k) 1 u0 (acc ++ [x])[i].length (BVs (acc ++ [x])[i]) :=
      (h5.old (Nat.le_refl _)).grown happ.2.1 (fun k hk _ => .inl (.inr hk))
    refine h6.weaken fun b _ hy => ?_
    rcases hy with hy | hy
    · exact .inl (.inl hy)
    · rcases happ.2.2 with hr | hr
      · rw [hr] at hy; exact .inl (.inr hy)
      · rw [hr] at hy; injection hy with hy; exact .inr (by omega)
  have cg : w8.grownBy (w8.setCell ⟨g2, 4, none⟩ v8) (some g2) := grown_setCell (World.grownBy.refl w8 (some g2)) (p := ⟨g2, 4, none⟩) (.inl rfl) v8
  refine ⟨?_, h4.grown cg (fun k hk => .inl (by injection hk with hk; omega))⟩
  rw [List.length_append, List.length_singleton]
  exact ownsRow_setCell_below happ.1 (a := ⟨g2, 4, none⟩) hg2 _
theorem rx_app {w0 w5 w6 w8 : World} {X : Nat → Prop} {g g1 g2 n m B : Nat} {cs : Array Value} {s : Cm.RS} {u v v8 : Value} {vals : List Value} {xs : List Value} {e t : TypeId} {wr : World} (h : RX w0 X g g1 g2 cs s w5) (hb6 : Below w5.heap.size w5 w6) (happ : Appended (w6.alloc (.cells #[u] t)) B e 1 v n xs v8 w8) (hown : wr.ownsRow B e 1 v m vals) (hs : g < B ∧ g1 < B ∧ g2 < B) : RX w0 X g g1 g2 cs s w8 :=
  ((h.later hb6).later ((Below.refl _ w6).alloc (Nat.le_refl _) (.cells #[u] t))).row happ.2.1 (fun q hq => by
    have h1 := (hown.lt q hq).1
    exact ⟨by omega, by omega, by omega⟩)
theorem els_ls {W : World} {B : Nat} {v : Value} {vals : List Value} {acc : List Tx} {t : TypeId} {X : Nat → Prop} (hown : W.ownsRow B t 1 v acc.length vals) (hels : Els W B v vals acc) (hX : ∀ k, X k → k < B) : Ls W X v acc := by
  refine ⟨vals, Sl.of_own hown (fun k hk _ hx => by have := hX k hx; omega), fun i hi => ?_⟩
  obtain ⟨u, hu, hs⟩ := hels.2 i hi
  exact ⟨u, hu, hs.weaken (fun k _ hk => .inl (hX k hk))⟩

set_option maxRecDepth 100000 in
set_option maxHeartbeats 8000000 in
theorem rtake_0 (w : World) (X : Nat → Prop) (g : Nat) (s : Cm.RS) (h : RR w X g s) (hl : s.1.length ≤ 140737488355328) (hk : (Cm.numS s 4).1 = 0) :
    Calls Tryz.prog 31 #[P_ g] w (RReaded w X g (take s)) := by
  have hcr : RR (w.alloc (.cells Z5 25)) (fun k => X k ∨ w.heap.size ≤ k) g s := (h.old (Nat.le_refl _)).after ((Below.refl _ w).alloc (Nat.le_refl _) _)
  have HN := Lib.hid (rnum_any _ _ g s hcr 4)
  have HH := Lib.hid h
  have l1 := Cm.numS_len s 4
  have HRD : Hid (rd s = ((⟨0, [], [], (0 : Int), []⟩ : O), (Cm.numS s 4).2)) := Lib.hid (by
    unfold rd rdT rdG rdO rdR
    simp only [hk]
    rfl)
  have HK := Lib.hid hk
  have HRF := Lib.hid (rfields_any 0)
  clear h hcr hk
  generalize hS1 : Cm.numS s 4 = n1 at *
  clear hS1
  have TN := Lib.hid (@take_no s)
  have TB := Lib.hid (@take_bad s)
  have TO := Lib.hid (@take_ok s)
  have RL := Lib.hid (rd_recs s)
  generalize rd s = D at *
  generalize take s = TK at *
  unfold Z5 at HN
  go_enter Tryz.func31, Tryz.ntmps31
  go_wp2_with fail
  refine HN.out.mono ?_
  rintro e w1 ⟨he, hg1, hc1⟩
  rw [HK.out] at he
  have he : e = .returned (.int .u64 0) := he
  subst he
  have HD3 := Lib.hid (rx_first (cs := #[.int .i64 0, .string ⟨#[]⟩, .string ⟨#[]⟩, .int .i64 0, .slice none 0 0]) HH.out hg1 hc1)
  clear hg1 hc1
  go_wp2_with fail
  refine (HRF.out _).mono ?_
  rintro e w3 ⟨he, rfl⟩
  have he : e = .returned (.tuple #[.bool false, .bool false, .bool false, .bool false]) := he
  subst he
  have n12 : ¬ (w.heap.size = w1.heap.size) := HD3.out.far
  have n21 : ¬ (w1.heap.size = w.heap.size) := fun h => HD3.out.far h.symm
  have n01 : ¬ (g = w.heap.size) := fun h => by have := HD3.out.old; omega
  have n10 : ¬ (w.heap.size = g) := fun h => by have := HD3.out.old; omega
  have n02 : ¬ (g = w1.heap.size) := fun h => by have := HD3.out.old; have := HD3.out.new2; omega
  have n20 : ¬ (w1.heap.size = g) := fun h => by have := HD3.out.old; have := HD3.out.new2; omega
  obtain ⟨⟨a0, a1, a2, a3, a4⟩, ⟨f0, f1, f2, f3, f4⟩⟩ := Blk.cells5 HD3.out.op
  obtain ⟨⟨r0, r1, r2, r3, r4⟩, ⟨q0, q1, q2, q3, q4⟩⟩ := Blk.cells5 HD3.out.res
  have er := HD3.out.err
  by_cases hz : n1.2.2 = 0
  · have HZ := Lib.hid hz
    have e0 : (n1.2.2 == 0) = true := by rw [hz]; rfl
    have HCK := Lib.hid (rcheck_any ⟨0, [], [], (0 : Int), []⟩ (OV ⟨0, [], [], (0 : Int), []⟩ none 0) _ _ ⟨none, 0, rfl, rx_nil HD3.out⟩ (by simp))
    have HD1 := Lib.hid ((fun _ : n1.2.2 = 0 => (show D.1 = ⟨0, [], [], (0 : Int), []⟩ from by rw [HRD.out])) hz)
    have HD2 := Lib.hid (show D.2 = n1.2 from by rw [HRD.out])
    unfold OV at HCK
    simp only at HCK
    have HLS1 := Lib.hid (show Ls _ _ _ _ from rx_nil HD3.out)
    have zo := HD3.out.old
    rw [hz] at er
    clear hz
    go_wp2_with fail
    refine HCK.out.mono ?_
    rintro e y1 ⟨rfl, hb⟩
    have HY1 := Lib.hid (HD3.out.later hb)
    have HLS2 := Lib.hid (HLS1.out.after hb)
    clear hb
    clear a0 a1 a2 a3 a4 f0 f1 f2 f3 f4 r0 r1 r2 r3 r4 q0 q1 q2 q3 q4 er
    obtain ⟨⟨a0, a1, a2, a3, a4⟩, ⟨f0, f1, f2, f3, f4⟩⟩ := Blk.cells5 HY1.out.op
    obtain ⟨⟨r0, r1, r2, r3, r4⟩, ⟨q0, q1, q2, q3, q4⟩⟩ := Blk.cells5 HY1.out.res
    have er := HY1.out.err
    have HFA := Lib.hid (rfail_any _ _ g _ HY1.out.rd (check ⟨0, [], [], (0 : Int), []⟩))
    go_wp2_with fail
    refine HFA.out.mono ?_
    rintro e y2 ⟨rfl, hg, hc⟩
    have HY2 := Lib.hid (HY1.out.next hg hc)
    have HLS3 := Lib.hid (HLS2.out.grown hg (fun q hq _ => by injection hq with hq; exact .inl (by omega)))
    clear hg hc
    by_cases hck : check ⟨0, [], [], (0 : Int), []⟩ = 0
    · have HCZ := Lib.hid hck
      have hfs : Cm.failS n1.2 (check ⟨0, [], [], (0 : Int), []⟩) = n1.2 := by rw [hck, Cm.failS, if_neg (by rw [HZ.out]; decide), if_neg (by decide)]
      rw [hfs] at HY2
      clear a0 a1 a2 a3 a4 f0 f1 f2 f3 f4 r0 r1 r2 r3 r4 q0 q1 q2 q3 q4 er
      obtain ⟨⟨a0, a1, a2, a3, a4⟩, ⟨f0, f1, f2, f3, f4⟩⟩ := Blk.cells5 HY2.out.op
      obtain ⟨⟨r0, r1, r2, r3, r4⟩, ⟨q0, q1, q2, q3, q4⟩⟩ := Blk.cells5 HY2.out.res
      have er := HY2.out.err
      rw [HZ.out] at er
      clear hck hfs
      go_wp2_with fail
      refine bodyPost_ret (results_row1 rfl _ _ w.heap.size 25 #[.int .i64 0, .string ⟨#[]⟩, .string ⟨#[]⟩, .int .i64 0, .slice none 0 0] (0, 0) _ rfl (res_blk HY2.out.res _ _ _ _ _) Tryz.underlying25 rfl size_op) rfl ?_
      exact rreaded_of (o := ⟨0, [], [], (0 : Int), []⟩) HY2.out _ _ _ _ _ rfl HLS3.out (by rw [TO.out (by rw [HD2.out]; exact HZ.out) (by rw [HD1.out]; exact HCZ.out), HD1.out, HD2.out])
    · exact absurd (by decide) hck
  · have HZ := Lib.hid hz
    have HD2 := Lib.hid (show D.2 = n1.2 from by rw [HRD.out])
    have e1 : (n1.2.2 == 0) = false := beq_eq_false_iff_ne.2 hz
    have e2 : (n1.2.2 != 0) = true := by rw [bne, e1]; rfl
    clear hz
    go_wp2_with fail
    refine bodyPost_ret (results_row1 rfl _ _ w.heap.size 25 #[.int .i64 0, .string ⟨#[]⟩, .string ⟨#[]⟩, .int .i64 0, .slice none 0 0] (0, 0) _ rfl (res_blk HD3.out.res _ _ _ _ _) Tryz.underlying25 rfl size_op) rfl ?_
    exact rreaded_of (o := O.zero) HD3.out _ _ _ _ _ rfl (ls_nil _ _) (by rw [TN.out (by rw [HD2.out]; exact HZ.out), HD2.out])


set_option maxRecDepth 100000 in
set_option maxHeartbeats 8000000 in
theorem rtake_1 (w : World) (X : Nat → Prop) (g : Nat) (s : Cm.RS) (h : RR w X g s) (hl : s.1.length ≤ 140737488355328) (hk : (Cm.numS s 4).1 = 1) :
    Calls Tryz.prog 31 #[P_ g] w (RReaded w X g (take s)) := by
  have hcr : RR (w.alloc (.cells Z5 25)) (fun k => X k ∨ w.heap.size ≤ k) g s := (h.old (Nat.le_refl _)).after ((Below.refl _ w).alloc (Nat.le_refl _) _)
  have HN := Lib.hid (rnum_any _ _ g s hcr 4)
  have HH := Lib.hid h
  have l1 := Cm.numS_len s 4
  have HRD : Hid (rd s = ((⟨1, (Cm.bytesS (Cm.numS s 4).2 64).1, [], (0 : Int), []⟩ : O), (Cm.bytesS (Cm.numS s 4).2 64).2)) := Lib.hid (by
    unfold rd rdT rdG rdO rdR
    simp only [hk]
    rfl)
  have HK := Lib.hid hk
  have HRF := Lib.hid (rfields_any 1)
  clear h hcr hk
  generalize hS1 : Cm.numS s 4 = n1 at *
  clear hS1
  have TN := Lib.hid (@take_no s)
  have TB := Lib.hid (@take_bad s)
  have TO := Lib.hid (@take_ok s)
  have RL := Lib.hid (rd_recs s)
  generalize rd s = D at *
  generalize take s = TK at *
  unfold Z5 at HN
  go_enter Tryz.func31, Tryz.ntmps31
  go_wp2_with fail
  refine HN.out.mono ?_
  rintro e w1 ⟨he, hg1, hc1⟩
  rw [HK.out] at he
  have he : e = .returned (.int .u64 1) := he
  subst he
  have HD3 := Lib.hid (rx_first (cs := #[.int .i64 1, .string ⟨#[]⟩, .string ⟨#[]⟩, .int .i64 0, .slice none 0 0]) HH.out hg1 hc1)
  clear hg1 hc1
  go_wp2_with fail
  refine (HRF.out _).mono ?_
  rintro e w3 ⟨he, rfl⟩
  have he : e = .returned (.tuple #[.bool true, .bool false, .bool false, .bool false]) := he
  subst he
  have n12 : ¬ (w.heap.size = w1.heap.size) := HD3.out.far
  have n21 : ¬ (w1.heap.size = w.heap.size) := fun h => HD3.out.far h.symm
  have n01 : ¬ (g = w.heap.size) := fun h => by have := HD3.out.old; omega
  have n10 : ¬ (w.heap.size = g) := fun h => by have := HD3.out.old; omega
  have n02 : ¬ (g = w1.heap.size) := fun h => by have := HD3.out.old; have := HD3.out.new2; omega
  have n20 : ¬ (w1.heap.size = g) := fun h => by have := HD3.out.old; have := HD3.out.new2; omega
  obtain ⟨⟨a0, a1, a2, a3, a4⟩, ⟨f0, f1, f2, f3, f4⟩⟩ := Blk.cells5 HD3.out.op
  obtain ⟨⟨r0, r1, r2, r3, r4⟩, ⟨q0, q1, q2, q3, q4⟩⟩ := Blk.cells5 HD3.out.res
  have er := HD3.out.err
  have lxT := Cm.bytesS_len n1.2 64
  have HC4 := Lib.hid (rbytes_any _ _ g n1.2 HD3.out.rd 64 (by omega) (by omega) (by omega))
  generalize hxT : Cm.bytesS n1.2 64 = xT at *
  clear hxT
  go_wp2_with fail
  refine HC4.out.mono ?_
  rintro e u4 ⟨v4, rfl, hown, hg, hc⟩
  obtain ⟨A4, c4, rfl⟩ := own_shape hown
  have kc4 := run_convert_sl (P := Tryz.prog) u4 (fun _ => False) 22 9 5 A4 c4 xT.1 Tryz.underlying22 Tryz.underlying5 Tryz.underlying9 (Sl.of_own hown (fun _ _ _ h => h))
  have HE4 := Lib.hid (HD3.out.next hg hc)
  clear hown hg hc
  clear a0 a1 a2 a3 a4 f0 f1 f2 f3 f4 r0 r1 r2 r3 r4 q0 q1 q2 q3 q4 er
  obtain ⟨⟨a0, a1, a2, a3, a4⟩, ⟨f0, f1, f2, f3, f4⟩⟩ := Blk.cells5 HE4.out.op
  obtain ⟨⟨r0, r1, r2, r3, r4⟩, ⟨q0, q1, q2, q3, q4⟩⟩ := Blk.cells5 HE4.out.res
  have er := HE4.out.err
  have HD4 := Lib.hid (HE4.out.put 1 (.string ⟨xT.1.toArray⟩) (cs' := #[.int .i64 1, .string ⟨xT.1.toArray⟩, .string ⟨#[]⟩, .int .i64 0, .slice none 0 0]) rfl)
  by_cases hz : xT.2.2 = 0
  · have HZ := Lib.hid hz
    have e0 : (xT.2.2 == 0) = true := by rw [hz]; rfl
    have HCK := Lib.hid (rcheck_any ⟨1, xT.1, [], (0 : Int), []⟩ (OV ⟨1, xT.1, [], (0 : Int), []⟩ none 0) _ _ ⟨none, 0, rfl, rx_nil HD4.out⟩ (by simp))
    have HD1 := Lib.hid ((fun _ : xT.2.2 = 0 => (show D.1 = ⟨1, xT.1, [], (0 : Int), []⟩ from by rw [HRD.out])) hz)
    have HD2 := Lib.hid (show D.2 = xT.2 from by rw [HRD.out])
    unfold OV at HCK
    simp only at HCK
    have HLS1 := Lib.hid (show Ls _ _ _ _ from rx_nil HD4.out)
    have zo := HD4.out.old
    rw [hz] at er
    clear hz
    go_wp2_with fail
    refine HCK.out.mono ?_
    rintro e y1 ⟨rfl, hb⟩
    have HY1 := Lib.hid (HD4.out.later hb)
    have HLS2 := Lib.hid (HLS1.out.after hb)
    clear hb
    clear a0 a1 a2 a3 a4 f0 f1 f2 f3 f4 r0 r1 r2 r3 r4 q0 q1 q2 q3 q4 er
    obtain ⟨⟨a0, a1, a2, a3, a4⟩, ⟨f0, f1, f2, f3, f4⟩⟩ := Blk.cells5 HY1.out.op
    obtain ⟨⟨r0, r1, r2, r3, r4⟩, ⟨q0, q1, q2, q3, q4⟩⟩ := Blk.cells5 HY1.out.res
    have er := HY1.out.err
    have HFA := Lib.hid (rfail_any _ _ g _ HY1.out.rd (check ⟨1, xT.1, [], (0 : Int), []⟩))
    go_wp2_with fail
    refine HFA.out.mono ?_
    rintro e y2 ⟨rfl, hg, hc⟩
    have HY2 := Lib.hid (HY1.out.next hg hc)
    have HLS3 := Lib.hid (HLS2.out.grown hg (fun q hq _ => by injection hq with hq; exact .inl (by omega)))
    clear hg hc
    by_cases hck : check ⟨1, xT.1, [], (0 : Int), []⟩ = 0
    · have HCZ := Lib.hid hck
      have hfs : Cm.failS xT.2 (check ⟨1, xT.1, [], (0 : Int), []⟩) = xT.2 := by rw [hck, Cm.failS, if_neg (by rw [HZ.out]; decide), if_neg (by decide)]
      rw [hfs] at HY2
      clear a0 a1 a2 a3 a4 f0 f1 f2 f3 f4 r0 r1 r2 r3 r4 q0 q1 q2 q3 q4 er
      obtain ⟨⟨a0, a1, a2, a3, a4⟩, ⟨f0, f1, f2, f3, f4⟩⟩ := Blk.cells5 HY2.out.op
      obtain ⟨⟨r0, r1, r2, r3, r4⟩, ⟨q0, q1, q2, q3, q4⟩⟩ := Blk.cells5 HY2.out.res
      have er := HY2.out.err
      rw [HZ.out] at er
      clear hck hfs
      go_wp2_with fail
      refine bodyPost_ret (results_row1 rfl _ _ w.heap.size 25 #[.int .i64 1, .string ⟨xT.1.toArray⟩, .string ⟨#[]⟩, .int .i64 0, .slice none 0 0] (0, 0) _ rfl (res_blk HY2.out.res _ _ _ _ _) Tryz.underlying25 rfl size_op) rfl ?_
      exact rreaded_of (o := ⟨1, xT.1, [], (0 : Int), []⟩) HY2.out _ _ _ _ _ rfl HLS3.out (by rw [TO.out (by rw [HD2.out]; exact HZ.out) (by rw [HD1.out]; exact HCZ.out), HD1.out, HD2.out])
    · have HCZ := Lib.hid hck
      have hfs : Cm.failS xT.2 (check ⟨1, xT.1, [], (0 : Int), []⟩) = ([], check ⟨1, xT.1, [], (0 : Int), []⟩) := by rw [Cm.failS, if_neg (by rw [HZ.out]; decide), if_pos hck]
      rw [hfs] at HY2
      clear a0 a1 a2 a3 a4 f0 f1 f2 f3 f4 r0 r1 r2 r3 r4 q0 q1 q2 q3 q4 er
      obtain ⟨⟨a0, a1, a2, a3, a4⟩, ⟨f0, f1, f2, f3, f4⟩⟩ := Blk.cells5 HY2.out.op
      obtain ⟨⟨r0, r1, r2, r3, r4⟩, ⟨q0, q1, q2, q3, q4⟩⟩ := Blk.cells5 HY2.out.res
      have er := HY2.out.err
      simp only at er
      have e1 : (check ⟨1, xT.1, [], (0 : Int), []⟩ == 0) = false := beq_eq_false_iff_ne.2 hck
      have e2 : (check ⟨1, xT.1, [], (0 : Int), []⟩ != 0) = true := by rw [bne, e1]; rfl
      clear hck hfs
      go_wp2_with fail
      refine bodyPost_ret (results_row1 rfl _ _ w.heap.size 25 #[.int .i64 0, .string ⟨#[]⟩, .string ⟨#[]⟩, .int .i64 0, .slice none 0 0] (0, 0) _ rfl (res_blk HY2.out.res _ _ _ _ _) Tryz.underlying25 rfl size_op) rfl ?_
      exact rreaded_of (o := O.zero) HY2.out _ _ _ _ _ rfl (ls_nil _ _) (by rw [TB.out (by rw [HD2.out]; exact HZ.out) (by rw [HD1.out]; exact HCZ.out), HD1.out])
  · have HZ := Lib.hid hz
    have HD2 := Lib.hid (show D.2 = xT.2 from by rw [HRD.out])
    have e1 : (xT.2.2 == 0) = false := beq_eq_false_iff_ne.2 hz
    have e2 : (xT.2.2 != 0) = true := by rw [bne, e1]; rfl
    clear hz
    go_wp2_with fail
    refine bodyPost_ret (results_row1 rfl _ _ w.heap.size 25 #[.int .i64 0, .string ⟨#[]⟩, .string ⟨#[]⟩, .int .i64 0, .slice none 0 0] (0, 0) _ rfl (res_blk HD4.out.res _ _ _ _ _) Tryz.underlying25 rfl size_op) rfl ?_
    exact rreaded_of (o := O.zero) HD4.out _ _ _ _ _ rfl (ls_nil _ _) (by rw [TN.out (by rw [HD2.out]; exact HZ.out), HD2.out])


set_option maxRecDepth 100000 in
set_option maxHeartbeats 8000000 in
theorem rtake_2 (w : World) (X : Nat → Prop) (g : Nat) (s : Cm.RS) (h : RR w X g s) (hl : s.1.length ≤ 140737488355328) (hk : (Cm.numS s 4).1 = 2) :
    Calls Tryz.prog 31 #[P_ g] w (RReaded w X g (take s)) := by
  have hcr : RR (w.alloc (.cells Z5 25)) (fun k => X k ∨ w.heap.size ≤ k) g s := (h.old (Nat.le_refl _)).after ((Below.refl _ w).alloc (Nat.le_refl _) _)
  have HN := Lib.hid (rnum_any _ _ g s hcr 4)
  have HH := Lib.hid h
  have l1 := Cm.numS_len s 4
  have HRD : Hid (rd s = ((⟨2, (Cm.bytesS (Cm.numS s 4).2 64).1, [], (0 : Int), (Cm.listS (Cm.bytesS (Cm.numS s 4).2 64).2 4 64).1⟩ : O), (Cm.listS (Cm.bytesS (Cm.numS s 4).2 64).2 4 64).2)) := Lib.hid (by
    unfold rd rdT rdG rdO rdR
    simp only [hk]
    rfl)
  have HK := Lib.hid hk
  have HRF := Lib.hid (rfields_any 2)
  clear h hcr hk
  generalize hS1 : Cm.numS s 4 = n1 at *
  clear hS1
  have TN := Lib.hid (@take_no s)
  have TB := Lib.hid (@take_bad s)
  have TO := Lib.hid (@take_ok s)
  have RL := Lib.hid (rd_recs s)
  generalize rd s = D at *
  generalize take s = TK at *
  unfold Z5 at HN
  go_enter Tryz.func31, Tryz.ntmps31
  go_wp2_with fail
  refine HN.out.mono ?_
  rintro e w1 ⟨he, hg1, hc1⟩
  rw [HK.out] at he
  have he : e = .returned (.int .u64 2) := he
  subst he
  have HD3 := Lib.hid (rx_first (cs := #[.int .i64 2, .string ⟨#[]⟩, .string ⟨#[]⟩, .int .i64 0, .slice none 0 0]) HH.out hg1 hc1)
  clear hg1 hc1
  go_wp2_with fail
  refine (HRF.out _).mono ?_
  rintro e w3 ⟨he, rfl⟩
  have he : e = .returned (.tuple #[.bool true, .bool false, .bool false, .bool true]) := he
  subst he
  have n12 : ¬ (w.heap.size = w1.heap.size) := HD3.out.far
  have n21 : ¬ (w1.heap.size = w.heap.size) := fun h => HD3.out.far h.symm
  have n01 : ¬ (g = w.heap.size) := fun h => by have := HD3.out.old; omega
  have n10 : ¬ (w.heap.size = g) := fun h => by have := HD3.out.old; omega
  have n02 : ¬ (g = w1.heap.size) := fun h => by have := HD3.out.old; have := HD3.out.new2; omega
  have n20 : ¬ (w1.heap.size = g) := fun h => by have := HD3.out.old; have := HD3.out.new2; omega
  obtain ⟨⟨a0, a1, a2, a3, a4⟩, ⟨f0, f1, f2, f3, f4⟩⟩ := Blk.cells5 HD3.out.op
  obtain ⟨⟨r0, r1, r2, r3, r4⟩, ⟨q0, q1, q2, q3, q4⟩⟩ := Blk.cells5 HD3.out.res
  have er := HD3.out.err
  have lxT := Cm.bytesS_len n1.2 64
  have HC4 := Lib.hid (rbytes_any _ _ g n1.2 HD3.out.rd 64 (by omega) (by omega) (by omega))
  generalize hxT : Cm.bytesS n1.2 64 = xT at *
  clear hxT
  go_wp2_with fail
  refine HC4.out.mono ?_
  rintro e u4 ⟨v4, rfl, hown, hg, hc⟩
  obtain ⟨A4, c4, rfl⟩ := own_shape hown
  have kc4 := run_convert_sl (P := Tryz.prog) u4 (fun _ => False) 22 9 5 A4 c4 xT.1 Tryz.underlying22 Tryz.underlying5 Tryz.underlying9 (Sl.of_own hown (fun _ _ _ h => h))
  have HE4 := Lib.hid (HD3.out.next hg hc)
  clear hown hg hc
  clear a0 a1 a2 a3 a4 f0 f1 f2 f3 f4 r0 r1 r2 r3 r4 q0 q1 q2 q3 q4 er
  obtain ⟨⟨a0, a1, a2, a3, a4⟩, ⟨f0, f1, f2, f3, f4⟩⟩ := Blk.cells5 HE4.out.op
  obtain ⟨⟨r0, r1, r2, r3, r4⟩, ⟨q0, q1, q2, q3, q4⟩⟩ := Blk.cells5 HE4.out.res
  have er := HE4.out.err
  have HD4 := Lib.hid (HE4.out.put 1 (.string ⟨xT.1.toArray⟩) (cs' := #[.int .i64 2, .string ⟨xT.1.toArray⟩, .string ⟨#[]⟩, .int .i64 0, .slice none 0 0]) rfl)
  have lm := Cm.numS_len xT.2 4
  have ml := Cm.numS_le xT.2 4
  have HC5 := Lib.hid (rnum_any _ _ g xT.2 HD4.out.rd 4)
  have HLD : Hid ((dl (Cm.numS xT.2 4).1 (Cm.numS xT.2 4).2 []).2 = D.2 ∧ ((dl (Cm.numS xT.2 4).1 (Cm.numS xT.2 4).2 []).2.2 = 0 → D.1 = ⟨2, xT.1, [], (0 : Int), (dl (Cm.numS xT.2 4).1 (Cm.numS xT.2 4).2 []).1⟩)) := Lib.hid (by
    have hdl := dl_list (Cm.numS xT.2 4).1 (Cm.numS xT.2 4).2 []
    rw [HRD.out]
    exact ⟨hdl.1, fun hz => by rw [hdl.2 hz]; rfl⟩)
  generalize hxm : Cm.numS xT.2 4 = m at *
  clear hxm
  have hw5 := wrap_i64n m.1 (by omega)
  go_wp2_with fail
  refine HC5.out.mono ?_
  rintro e u5 ⟨rfl, hg, hc⟩
  have HE5 := Lib.hid (HD4.out.next hg hc)
  have HSZ : Hid (g < u5.heap.size ∧ w.heap.size < u5.heap.size ∧ w1.heap.size < u5.heap.size) := Lib.hid ⟨HE5.out.rd.lt, HE5.out.res.lt, HE5.out.op.lt⟩
  clear hg hc
  clear a0 a1 a2 a3 a4 f0 f1 f2 f3 f4 r0 r1 r2 r3 r4 q0 q1 q2 q3 q4 er
  obtain ⟨⟨a0, a1, a2, a3, a4⟩, ⟨f0, f1, f2, f3, f4⟩⟩ := Blk.cells5 HE5.out.op
  obtain ⟨⟨r0, r1, r2, r3, r4⟩, ⟨q0, q1, q2, q3, q4⟩⟩ := Blk.cells5 HE5.out.res
  have er := HE5.out.err
  go_wp2_with fail
  go_loopw [9] (fun i wr => ∃ (j : Nat) (sj : Cm.RS) (acc : List Tx) (vals : List Value) (v : Value), j ≤ m.1 ∧ i = .int .i64 j ∧ RX w X g w.heap.size w1.heap.size #[.int .i64 2, .string ⟨xT.1.toArray⟩, .string ⟨#[]⟩, .int .i64 0, v] sj wr ∧ wr.ownsRow u5.heap.size 112 1 v acc.length vals ∧ Els wr u5.heap.size v vals acc ∧ dl m.1 m.2 [] = dl (m.1 - j) sj acc ∧ sj.1.length ≤ 140737488355328 ∧ u5.heap.size ≤ wr.heap.size ∧ acc.length = j) (fun i _ => m.1 - (intOf i).toNat)
  case atStart => exact ⟨0, m.2, [], [], .slice none 0 0, Nat.zero_le _, rfl, HE5.out, World.ownsRow_nil _ _ _ _, Els.nil _ _ _, rfl, by omega, Nat.le_refl _, rfl⟩
  case round =>
    obtain ⟨j, sj, acc, vals, v, hj, rfl, hrx, hown, hels, hdl, hsl, hsz, hacc⟩ := hrel
    obtain ⟨Av, cv, rfl⟩ := own_shape hown
    have HRX := Lib.hid hrx
    have HO := Lib.hid hown
    have HEL := Lib.hid hels
    have HDL := Lib.hid hdl
    have HACC := Lib.hid hacc
    have hal : acc.length ≤ 4 := by omega
    have HSZR := Lib.hid hsz
    clear hrx hown hels hdl hacc hsz
    clear a0 a1 a2 a3 a4 f0 f1 f2 f3 f4 r0 r1 r2 r3 r4 q0 q1 q2 q3 q4 er
    obtain ⟨⟨a0, a1, a2, a3, a4⟩, ⟨f0, f1, f2, f3, f4⟩⟩ := Blk.cells5 HRX.out.op
    obtain ⟨⟨r0, r1, r2, r3, r4⟩, ⟨q0, q1, q2, q3, q4⟩⟩ := Blk.cells5 HRX.out.res
    have er := HRX.out.err
    by_cases hlt : j < m.1
    · have HC6 := Lib.hid (rbytes_any wr.drew _ g sj (show RR wr.drew (fun k => X k ∨ w.heap.size ≤ k) g sj from HRX.out.rd) 64 (by omega) (by omega) hsl)
      have lb := Cm.bytesS_len sj 64
      have HST : Hid (dl (m.1 - j) sj acc = dl (m.1 - (j + 1)) (Cm.bytesS sj 64).2 (acc ++ [(Cm.bytesS sj 64).1])) := Lib.hid (by
        rw [show m.1 - j = (m.1 - (j + 1)) + 1 from by omega]
        rfl)
      have HXL := Lib.hid (bytesS_most sj 64)
      generalize hx : Cm.bytesS sj 64 = x at *
      clear hx
      obtain ⟨i0, hi0, hz0, hz1, hz2⟩ := info_parts info_u8
      obtain ⟨j0, hj0, jz0, jz1, jz2⟩ := info_parts info_rec
      have hgt : w1.heap.size < wr.heap.size := HRX.out.op.lt
      have hxl : x.1.length ≤ 64 := HXL.out
      go_wp2_with fail
      go_region_law (first
        | (go_simp; go_at_call 39; refine HC6.out.mono ?_; rintro e w5 ⟨y5, rfl, hown5, hg5, hc5⟩; obtain ⟨A5, c5, rfl⟩ := own_shape hown5; have HO5 := Lib.hid hown5; have HG5 : Hid (wr.grownBy w5 (some g)) := Lib.hid ⟨hg5.os, hg5.tape, hg5.output, hg5.size, hg5.block⟩; have HX5 := Lib.hid (HRX.out.next HG5.out hc5); have c54 := (Blk.cells5 HX5.out.op).1.2.2.2.2; clear hown5 hg5 hc5)
        | (refine step_append_new2 (by rfl) (.const (.slice none 0 0)) (.tmp 49) _ _ (by rfl) 5 i0 _ 1 1 Tryz.underlying112 Tryz.underlying22 hi0 hz0 hz1 hz2 rfl (by omega) (by rfl) (fun _ => False) _ x.1.length (BVs x.1) (by rfl) (Sl.of_own HO5.out (fun _ _ _ h => h)) (BVs_one _) (by simp only [maxLen]; omega) (by omega) ?_; intro A6 c6 w6 hown6 hb6; have HO6 := Lib.hid hown6; have HB6 := Lib.hid hb6; have c64 := (Blk.cells5 (HX5.out.later HB6.out).op).1.2.2.2.2; have c74 := (Blk.cells5 ((HX5.out.later HB6.out).later ((Below.refl _ w6).alloc (Nat.le_refl _) (.cells #[.slice A6 x.1.length c6] 112))).op).1.2.2.2.2; clear hown6 hb6)
        | (refine step_append_sh (by rfl) (.tmp 47) (.tmp 51) _ (by rfl) u5.heap.size 112 j0 _ 1 24 Tryz.underlying23 hj0 jz0 jz1 jz2 rfl (by omega) (.slice Av acc.length cv) acc.length vals (by rfl) (show (w6.alloc (.cells #[.slice A6 x.1.length c6] 112)).ownsRow u5.heap.size 112 1 (.slice Av acc.length cv) acc.length vals from (own_step HO.out HSZ.out.1 HG5.out HB6.out).alloc _) (fun _ => False) _ 1 [.slice A6 x.1.length c6] (by rfl) (show Sl (w6.alloc (.cells #[.slice A6 x.1.length c6] 112)) (fun _ => False) _ _ _ _ from one_newv w6 (fun _ => False) _ _ (fun h => h)) (by simp [Value.oneCell']) (by simp only [maxLen]; omega) (by omega) (base_le HSZR.out HG5.out HB6.out) ?_; intro A8 c8 w8 happ; have HAP := Lib.hid happ; have HX8 := Lib.hid (rx_app HX5.out HB6.out HAP.out HO.out HSZ.out); have c84 := (Blk.cells5 HX8.out.op).1.2.2.2.2; have c8f := (Blk.cells5 HX8.out.op).2.2.2.2.2; clear happ))
      all_goals
        go_wp2_with fail
        go_roundw
        case rel =>
          have R := dl_round (g2 := w1.heap.size) HSZR.out HSZ.out.1 HSZ.out.2.2 HO.out HEL.out HG5.out HB6.out HO6.out HAP.out
          refine ⟨j + 1, x.2, acc ++ [x.1], vals ++ [.slice A6 x.1.length c6], .slice A8 (acc.length + 1) c8, by omega, by go_num, HX8.out.put 4 (.slice A8 (acc.length + 1) c8) rfl, R.1, R.2, by rw [HDL.out, HST.out], by omega, ?_, by rw [List.length_append, HACC.out]; rfl⟩
          have z1 := HSZR.out
          have z2 := HG5.out.size
          have z3 := HB6.out.size
          have z4 := HAP.out.2.1.size
          simp [World.setCell] at z4 ⊢
          omega
        case measure => simp [intOf]; omega
    · have hje : j = m.1 := by omega
      have HDE : Hid (dl m.1 m.2 [] = (acc, sj)) := Lib.hid (by
        rw [HDL.out, hje, Nat.sub_self]
        rfl)
      have HL2 := HLD
      rw [HDE.out] at HL2
      clear hje
      by_cases hz : sj.2 = 0
      · have HZ := Lib.hid hz
        have e0 : (sj.2 == 0) = true := by rw [hz]; rfl
        have HCK := Lib.hid (rcheck_any ⟨2, xT.1, [], (0 : Int), acc⟩ (OV ⟨2, xT.1, [], (0 : Int), acc⟩ Av cv) _ _ ⟨Av, cv, rfl, (els_ls (X := fun k => k < w.heap.size ∨ k = w.heap.size) HO.out HEL.out (fun k hk => by have := HSZ.out; omega))⟩ (by simp only; omega))
        have HD1 := Lib.hid ((fun hz : sj.2 = 0 => (show D.1 = ⟨2, xT.1, [], (0 : Int), acc⟩ from HL2.out.2 hz)) hz)
        have HD2 := Lib.hid (show D.2 = sj from HL2.out.1.symm)
        unfold OV at HCK
        simp only at HCK
        have HLS1 := Lib.hid (show Ls _ _ _ _ from (els_ls (X := fun k => k < w.heap.size ∨ k = w.heap.size) HO.out HEL.out (fun k hk => by have := HSZ.out; omega)))
        have zo := HRX.out.old
        rw [hz] at er
        clear hz
        go_wp2_with fail
        refine HCK.out.mono ?_
        rintro e y1 ⟨rfl, hb⟩
        have HY1 := Lib.hid (HRX.out.later hb)
        have HLS2 := Lib.hid (HLS1.out.after hb)
        clear hb
        clear a0 a1 a2 a3 a4 f0 f1 f2 f3 f4 r0 r1 r2 r3 r4 q0 q1 q2 q3 q4 er
        obtain ⟨⟨a0, a1, a2, a3, a4⟩, ⟨f0, f1, f2, f3, f4⟩⟩ := Blk.cells5 HY1.out.op
        obtain ⟨⟨r0, r1, r2, r3, r4⟩, ⟨q0, q1, q2, q3, q4⟩⟩ := Blk.cells5 HY1.out.res
        have er := HY1.out.err
        have HFA := Lib.hid (rfail_any _ _ g _ HY1.out.rd (check ⟨2, xT.1, [], (0 : Int), acc⟩))
        go_wp2_with fail
        refine HFA.out.mono ?_
        rintro e y2 ⟨rfl, hg, hc⟩
        have HY2 := Lib.hid (HY1.out.next hg hc)
        have HLS3 := Lib.hid (HLS2.out.grown hg (fun q hq _ => by injection hq with hq; exact .inl (by omega)))
        clear hg hc
        by_cases hck : check ⟨2, xT.1, [], (0 : Int), acc⟩ = 0
        · have HCZ := Lib.hid hck
          have hfs : Cm.failS sj (check ⟨2, xT.1, [], (0 : Int), acc⟩) = sj := by rw [hck, Cm.failS, if_neg (by rw [HZ.out]; decide), if_neg (by decide)]
          rw [hfs] at HY2
          clear a0 a1 a2 a3 a4 f0 f1 f2 f3 f4 r0 r1 r2 r3 r4 q0 q1 q2 q3 q4 er
          obtain ⟨⟨a0, a1, a2, a3, a4⟩, ⟨f0, f1, f2, f3, f4⟩⟩ := Blk.cells5 HY2.out.op
          obtain ⟨⟨r0, r1, r2, r3, r4⟩, ⟨q0, q1, q2, q3, q4⟩⟩ := Blk.cells5 HY2.out.res
          have er := HY2.out.err
          rw [HZ.out] at er
          clear hck hfs
          go_wp2_with fail
          refine bodyPost_ret (results_row1 rfl _ _ w.heap.size 25 #[.int .i64 2, .string ⟨xT.1.toArray⟩, .string ⟨#[]⟩, .int .i64 0, .slice Av acc.length cv] (0, 0) _ rfl (res_blk HY2.out.res _ _ _ _ _) Tryz.underlying25 rfl size_op) rfl ?_
          exact rreaded_of (o := ⟨2, xT.1, [], (0 : Int), acc⟩) HY2.out _ _ _ _ _ rfl HLS3.out (by rw [TO.out (by rw [HD2.out]; exact HZ.out) (by rw [HD1.out]; exact HCZ.out), HD1.out, HD2.out])
        · have HCZ := Lib.hid hck
          have hfs : Cm.failS sj (check ⟨2, xT.1, [], (0 : Int), acc⟩) = ([], check ⟨2, xT.1, [], (0 : Int), acc⟩) := by rw [Cm.failS, if_neg (by rw [HZ.out]; decide), if_pos hck]
          rw [hfs] at HY2
          clear a0 a1 a2 a3 a4 f0 f1 f2 f3 f4 r0 r1 r2 r3 r4 q0 q1 q2 q3 q4 er
          obtain ⟨⟨a0, a1, a2, a3, a4⟩, ⟨f0, f1, f2, f3, f4⟩⟩ := Blk.cells5 HY2.out.op
          obtain ⟨⟨r0, r1, r2, r3, r4⟩, ⟨q0, q1, q2, q3, q4⟩⟩ := Blk.cells5 HY2.out.res
          have er := HY2.out.err
          simp only at er
          have e1 : (check ⟨2, xT.1, [], (0 : Int), acc⟩ == 0) = false := beq_eq_false_iff_ne.2 hck
          have e2 : (check ⟨2, xT.1, [], (0 : Int), acc⟩ != 0) = true := by rw [bne, e1]; rfl
          clear hck hfs
          go_wp2_with fail
          refine bodyPost_ret (results_row1 rfl _ _ w.heap.size 25 #[.int .i64 0, .string ⟨#[]⟩, .string ⟨#[]⟩, .int .i64 0, .slice none 0 0] (0, 0) _ rfl (res_blk HY2.out.res _ _ _ _ _) Tryz.underlying25 rfl size_op) rfl ?_
          exact rreaded_of (o := O.zero) HY2.out _ _ _ _ _ rfl (ls_nil _ _) (by rw [TB.out (by rw [HD2.out]; exact HZ.out) (by rw [HD1.out]; exact HCZ.out), HD1.out])
      · have HZ := Lib.hid hz
        have HD2 := Lib.hid (show D.2 = sj from HL2.out.1.symm)
        have e1 : (sj.2 == 0) = false := beq_eq_false_iff_ne.2 hz
        have e2 : (sj.2 != 0) = true := by rw [bne, e1]; rfl
        clear hz
        go_wp2_with fail
        refine bodyPost_ret (results_row1 rfl _ _ w.heap.size 25 #[.int .i64 0, .string ⟨#[]⟩, .string ⟨#[]⟩, .int .i64 0, .slice none 0 0] (0, 0) _ rfl (res_blk HRX.out.res _ _ _ _ _) Tryz.underlying25 rfl size_op) rfl ?_
        exact rreaded_of (o := O.zero) HRX.out _ _ _ _ _ rfl (ls_nil _ _) (by rw [TN.out (by rw [HD2.out]; exact HZ.out), HD2.out])


set_option maxRecDepth 100000 in
set_option maxHeartbeats 8000000 in
theorem rtake_3 (w : World) (X : Nat → Prop) (g : Nat) (s : Cm.RS) (h : RR w X g s) (hl : s.1.length ≤ 140737488355328) (hk : (Cm.numS s 4).1 = 3) :
    Calls Tryz.prog 31 #[P_ g] w (RReaded w X g (take s)) := by
  have hcr : RR (w.alloc (.cells Z5 25)) (fun k => X k ∨ w.heap.size ≤ k) g s := (h.old (Nat.le_refl _)).after ((Below.refl _ w).alloc (Nat.le_refl _) _)
  have HN := Lib.hid (rnum_any _ _ g s hcr 4)
  have HH := Lib.hid h
  have l1 := Cm.numS_len s 4
  have HRD : Hid (rd s = ((⟨3, (Cm.bytesS (Cm.numS s 4).2 64).1, (Cm.bytesS (Cm.bytesS (Cm.numS s 4).2 64).2 64).1, ((Cm.numS (Cm.bytesS (Cm.bytesS (Cm.numS s 4).2 64).2 64).2 9007199254740992).1 : Nat), []⟩ : O), (Cm.numS (Cm.bytesS (Cm.bytesS (Cm.numS s 4).2 64).2 64).2 9007199254740992).2)) := Lib.hid (by
    unfold rd rdT rdG rdO rdR
    simp only [hk]
    rfl)
  have HK := Lib.hid hk
  have HRF := Lib.hid (rfields_any 3)
  clear h hcr hk
  generalize hS1 : Cm.numS s 4 = n1 at *
  clear hS1
  have TN := Lib.hid (@take_no s)
  have TB := Lib.hid (@take_bad s)
  have TO := Lib.hid (@take_ok s)
  have RL := Lib.hid (rd_recs s)
  generalize rd s = D at *
  generalize take s = TK at *
  unfold Z5 at HN
  go_enter Tryz.func31, Tryz.ntmps31
  go_wp2_with fail
  refine HN.out.mono ?_
  rintro e w1 ⟨he, hg1, hc1⟩
  rw [HK.out] at he
  have he : e = .returned (.int .u64 3) := he
  subst he
  have HD3 := Lib.hid (rx_first (cs := #[.int .i64 3, .string ⟨#[]⟩, .string ⟨#[]⟩, .int .i64 0, .slice none 0 0]) HH.out hg1 hc1)
  clear hg1 hc1
  go_wp2_with fail
  refine (HRF.out _).mono ?_
  rintro e w3 ⟨he, rfl⟩
  have he : e = .returned (.tuple #[.bool true, .bool true, .bool true, .bool false]) := he
  subst he
  have n12 : ¬ (w.heap.size = w1.heap.size) := HD3.out.far
  have n21 : ¬ (w1.heap.size = w.heap.size) := fun h => HD3.out.far h.symm
  have n01 : ¬ (g = w.heap.size) := fun h => by have := HD3.out.old; omega
  have n10 : ¬ (w.heap.size = g) := fun h => by have := HD3.out.old; omega
  have n02 : ¬ (g = w1.heap.size) := fun h => by have := HD3.out.old; have := HD3.out.new2; omega
  have n20 : ¬ (w1.heap.size = g) := fun h => by have := HD3.out.old; have := HD3.out.new2; omega
  obtain ⟨⟨a0, a1, a2, a3, a4⟩, ⟨f0, f1, f2, f3, f4⟩⟩ := Blk.cells5 HD3.out.op
  obtain ⟨⟨r0, r1, r2, r3, r4⟩, ⟨q0, q1, q2, q3, q4⟩⟩ := Blk.cells5 HD3.out.res
  have er := HD3.out.err
  have lxT := Cm.bytesS_len n1.2 64
  have HC4 := Lib.hid (rbytes_any _ _ g n1.2 HD3.out.rd 64 (by omega) (by omega) (by omega))
  generalize hxT : Cm.bytesS n1.2 64 = xT at *
  clear hxT
  go_wp2_with fail
  refine HC4.out.mono ?_
  rintro e u4 ⟨v4, rfl, hown, hg, hc⟩
  obtain ⟨A4, c4, rfl⟩ := own_shape hown
  have kc4 := run_convert_sl (P := Tryz.prog) u4 (fun _ => False) 22 9 5 A4 c4 xT.1 Tryz.underlying22 Tryz.underlying5 Tryz.underlying9 (Sl.of_own hown (fun _ _ _ h => h))
  have HE4 := Lib.hid (HD3.out.next hg hc)
  clear hown hg hc
  clear a0 a1 a2 a3 a4 f0 f1 f2 f3 f4 r0 r1 r2 r3 r4 q0 q1 q2 q3 q4 er
  obtain ⟨⟨a0, a1, a2, a3, a4⟩, ⟨f0, f1, f2, f3, f4⟩⟩ := Blk.cells5 HE4.out.op
  obtain ⟨⟨r0, r1, r2, r3, r4⟩, ⟨q0, q1, q2, q3, q4⟩⟩ := Blk.cells5 HE4.out.res
  have er := HE4.out.err
  have HD4 := Lib.hid (HE4.out.put 1 (.string ⟨xT.1.toArray⟩) (cs' := #[.int .i64 3, .string ⟨xT.1.toArray⟩, .string ⟨#[]⟩, .int .i64 0, .slice none 0 0]) rfl)
  have lxG := Cm.bytesS_len xT.2 64
  have HC5 := Lib.hid (rbytes_any _ _ g xT.2 HD4.out.rd 64 (by omega) (by omega) (by omega))
  generalize hxG : Cm.bytesS xT.2 64 = xG at *
  clear hxG
  go_wp2_with fail
  refine HC5.out.mono ?_
  rintro e u5 ⟨v5, rfl, hown, hg, hc⟩
  obtain ⟨A5, c5, rfl⟩ := own_shape hown
  have kc5 := run_convert_sl (P := Tryz.prog) u5 (fun _ => False) 22 9 5 A5 c5 xG.1 Tryz.underlying22 Tryz.underlying5 Tryz.underlying9 (Sl.of_own hown (fun _ _ _ h => h))
  have HE5 := Lib.hid (HD4.out.next hg hc)
  clear hown hg hc
  clear a0 a1 a2 a3 a4 f0 f1 f2 f3 f4 r0 r1 r2 r3 r4 q0 q1 q2 q3 q4 er
  obtain ⟨⟨a0, a1, a2, a3, a4⟩, ⟨f0, f1, f2, f3, f4⟩⟩ := Blk.cells5 HE5.out.op
  obtain ⟨⟨r0, r1, r2, r3, r4⟩, ⟨q0, q1, q2, q3, q4⟩⟩ := Blk.cells5 HE5.out.res
  have er := HE5.out.err
  have HD5 := Lib.hid (HE5.out.put 2 (.string ⟨xG.1.toArray⟩) (cs' := #[.int .i64 3, .string ⟨xT.1.toArray⟩, .string ⟨xG.1.toArray⟩, .int .i64 0, .slice none 0 0]) rfl)
  have lxF := Cm.numS_len xG.2 9007199254740992
  have mxF := Cm.numS_le xG.2 9007199254740992
  have HC6 := Lib.hid (rnum_any _ _ g xG.2 HD5.out.rd 9007199254740992)
  generalize hxF : Cm.numS xG.2 9007199254740992 = xF at *
  clear hxF
  have hw6 := wrap_i64n xF.1 (by omega)
  have HM6 := Lib.hid mxF
  clear mxF
  go_wp2_with fail
  refine HC6.out.mono ?_
  rintro e u6 ⟨rfl, hg, hc⟩
  have HE6 := Lib.hid (HD5.out.next hg hc)
  clear hg hc
  clear a0 a1 a2 a3 a4 f0 f1 f2 f3 f4 r0 r1 r2 r3 r4 q0 q1 q2 q3 q4 er
  obtain ⟨⟨a0, a1, a2, a3, a4⟩, ⟨f0, f1, f2, f3, f4⟩⟩ := Blk.cells5 HE6.out.op
  obtain ⟨⟨r0, r1, r2, r3, r4⟩, ⟨q0, q1, q2, q3, q4⟩⟩ := Blk.cells5 HE6.out.res
  have er := HE6.out.err
  have HD6 := Lib.hid (HE6.out.put 3 (.int .i64 (xF.1 : Nat)) (cs' := #[.int .i64 3, .string ⟨xT.1.toArray⟩, .string ⟨xG.1.toArray⟩, .int .i64 (xF.1 : Nat), .slice none 0 0]) rfl)
  by_cases hz : xF.2.2 = 0
  · have HZ := Lib.hid hz
    have e0 : (xF.2.2 == 0) = true := by rw [hz]; rfl
    have HCK := Lib.hid (rcheck_any ⟨3, xT.1, xG.1, (xF.1 : Nat), []⟩ (OV ⟨3, xT.1, xG.1, (xF.1 : Nat), []⟩ none 0) _ _ ⟨none, 0, rfl, rx_nil HD6.out⟩ (by simp))
    have HD1 := Lib.hid ((fun _ : xF.2.2 = 0 => (show D.1 = ⟨3, xT.1, xG.1, (xF.1 : Nat), []⟩ from by rw [HRD.out])) hz)
    have HD2 := Lib.hid (show D.2 = xF.2 from by rw [HRD.out])
    unfold OV at HCK
    simp only at HCK
    have HLS1 := Lib.hid (show Ls _ _ _ _ from rx_nil HD6.out)
    have zo := HD6.out.old
    rw [hz] at er
    clear hz
    go_wp2_with fail
    refine HCK.out.mono ?_
    rintro e y1 ⟨rfl, hb⟩
    have HY1 := Lib.hid (HD6.out.later hb)
    have HLS2 := Lib.hid (HLS1.out.after hb)
    clear hb
    clear a0 a1 a2 a3 a4 f0 f1 f2 f3 f4 r0 r1 r2 r3 r4 q0 q1 q2 q3 q4 er
    obtain ⟨⟨a0, a1, a2, a3, a4⟩, ⟨f0, f1, f2, f3, f4⟩⟩ := Blk.cells5 HY1.out.op
    obtain ⟨⟨r0, r1, r2, r3, r4⟩, ⟨q0, q1, q2, q3, q4⟩⟩ := Blk.cells5 HY1.out.res
    have er := HY1.out.err
    have HFA := Lib.hid (rfail_any _ _ g _ HY1.out.rd (check ⟨3, xT.1, xG.1, (xF.1 : Nat), []⟩))
    go_wp2_with fail
    refine HFA.out.mono ?_
    rintro e y2 ⟨rfl, hg, hc⟩
    have HY2 := Lib.hid (HY1.out.next hg hc)
    have HLS3 := Lib.hid (HLS2.out.grown hg (fun q hq _ => by injection hq with hq; exact .inl (by omega)))
    clear hg hc
    by_cases hck : check ⟨3, xT.1, xG.1, (xF.1 : Nat), []⟩ = 0
    · have HCZ := Lib.hid hck
      have hfs : Cm.failS xF.2 (check ⟨3, xT.1, xG.1, (xF.1 : Nat), []⟩) = xF.2 := by rw [hck, Cm.failS, if_neg (by rw [HZ.out]; decide), if_neg (by decide)]
      rw [hfs] at HY2
      clear a0 a1 a2 a3 a4 f0 f1 f2 f3 f4 r0 r1 r2 r3 r4 q0 q1 q2 q3 q4 er
      obtain ⟨⟨a0, a1, a2, a3, a4⟩, ⟨f0, f1, f2, f3, f4⟩⟩ := Blk.cells5 HY2.out.op
      obtain ⟨⟨r0, r1, r2, r3, r4⟩, ⟨q0, q1, q2, q3, q4⟩⟩ := Blk.cells5 HY2.out.res
      have er := HY2.out.err
      rw [HZ.out] at er
      clear hck hfs
      go_wp2_with fail
      refine bodyPost_ret (results_row1 rfl _ _ w.heap.size 25 #[.int .i64 3, .string ⟨xT.1.toArray⟩, .string ⟨xG.1.toArray⟩, .int .i64 (xF.1 : Nat), .slice none 0 0] (0, 0) _ rfl (res_blk HY2.out.res _ _ _ _ _) Tryz.underlying25 rfl size_op) rfl ?_
      exact rreaded_of (o := ⟨3, xT.1, xG.1, (xF.1 : Nat), []⟩) HY2.out _ _ _ _ _ rfl HLS3.out (by rw [TO.out (by rw [HD2.out]; exact HZ.out) (by rw [HD1.out]; exact HCZ.out), HD1.out, HD2.out])
    · have HCZ := Lib.hid hck
      have hfs : Cm.failS xF.2 (check ⟨3, xT.1, xG.1, (xF.1 : Nat), []⟩) = ([], check ⟨3, xT.1, xG.1, (xF.1 : Nat), []⟩) := by rw [Cm.failS, if_neg (by rw [HZ.out]; decide), if_pos hck]
      rw [hfs] at HY2
      clear a0 a1 a2 a3 a4 f0 f1 f2 f3 f4 r0 r1 r2 r3 r4 q0 q1 q2 q3 q4 er
      obtain ⟨⟨a0, a1, a2, a3, a4⟩, ⟨f0, f1, f2, f3, f4⟩⟩ := Blk.cells5 HY2.out.op
      obtain ⟨⟨r0, r1, r2, r3, r4⟩, ⟨q0, q1, q2, q3, q4⟩⟩ := Blk.cells5 HY2.out.res
      have er := HY2.out.err
      simp only at er
      have e1 : (check ⟨3, xT.1, xG.1, (xF.1 : Nat), []⟩ == 0) = false := beq_eq_false_iff_ne.2 hck
      have e2 : (check ⟨3, xT.1, xG.1, (xF.1 : Nat), []⟩ != 0) = true := by rw [bne, e1]; rfl
      clear hck hfs
      go_wp2_with fail
      refine bodyPost_ret (results_row1 rfl _ _ w.heap.size 25 #[.int .i64 0, .string ⟨#[]⟩, .string ⟨#[]⟩, .int .i64 0, .slice none 0 0] (0, 0) _ rfl (res_blk HY2.out.res _ _ _ _ _) Tryz.underlying25 rfl size_op) rfl ?_
      exact rreaded_of (o := O.zero) HY2.out _ _ _ _ _ rfl (ls_nil _ _) (by rw [TB.out (by rw [HD2.out]; exact HZ.out) (by rw [HD1.out]; exact HCZ.out), HD1.out])
  · have HZ := Lib.hid hz
    have HD2 := Lib.hid (show D.2 = xF.2 from by rw [HRD.out])
    have e1 : (xF.2.2 == 0) = false := beq_eq_false_iff_ne.2 hz
    have e2 : (xF.2.2 != 0) = true := by rw [bne, e1]; rfl
    clear hz
    go_wp2_with fail
    refine bodyPost_ret (results_row1 rfl _ _ w.heap.size 25 #[.int .i64 0, .string ⟨#[]⟩, .string ⟨#[]⟩, .int .i64 0, .slice none 0 0] (0, 0) _ rfl (res_blk HD6.out.res _ _ _ _ _) Tryz.underlying25 rfl size_op) rfl ?_
    exact rreaded_of (o := O.zero) HD6.out _ _ _ _ _ rfl (ls_nil _ _) (by rw [TN.out (by rw [HD2.out]; exact HZ.out), HD2.out])


set_option maxRecDepth 100000 in
set_option maxHeartbeats 8000000 in
theorem rtake_4 (w : World) (X : Nat → Prop) (g : Nat) (s : Cm.RS) (h : RR w X g s) (hl : s.1.length ≤ 140737488355328) (hk : (Cm.numS s 4).1 = 4) :
    Calls Tryz.prog 31 #[P_ g] w (RReaded w X g (take s)) := by
  have hcr : RR (w.alloc (.cells Z5 25)) (fun k => X k ∨ w.heap.size ≤ k) g s := (h.old (Nat.le_refl _)).after ((Below.refl _ w).alloc (Nat.le_refl _) _)
  have HN := Lib.hid (rnum_any _ _ g s hcr 4)
  have HH := Lib.hid h
  have l1 := Cm.numS_len s 4
  have HRD : Hid (rd s = ((⟨4, (Cm.bytesS (Cm.numS s 4).2 64).1, [], ((Cm.numS (Cm.bytesS (Cm.numS s 4).2 64).2 9007199254740992).1 : Nat), []⟩ : O), (Cm.numS (Cm.bytesS (Cm.numS s 4).2 64).2 9007199254740992).2)) := Lib.hid (by
    unfold rd rdT rdG rdO rdR
    simp only [hk]
    rfl)
  have HK := Lib.hid hk
  have HRF := Lib.hid (rfields_any 4)
  clear h hcr hk
  generalize hS1 : Cm.numS s 4 = n1 at *
  clear hS1
  have TN := Lib.hid (@take_no s)
  have TB := Lib.hid (@take_bad s)
  have TO := Lib.hid (@take_ok s)
  have RL := Lib.hid (rd_recs s)
  generalize rd s = D at *
  generalize take s = TK at *
  unfold Z5 at HN
  go_enter Tryz.func31, Tryz.ntmps31
  go_wp2_with fail
  refine HN.out.mono ?_
  rintro e w1 ⟨he, hg1, hc1⟩
  rw [HK.out] at he
  have he : e = .returned (.int .u64 4) := he
  subst he
  have HD3 := Lib.hid (rx_first (cs := #[.int .i64 4, .string ⟨#[]⟩, .string ⟨#[]⟩, .int .i64 0, .slice none 0 0]) HH.out hg1 hc1)
  clear hg1 hc1
  go_wp2_with fail
  refine (HRF.out _).mono ?_
  rintro e w3 ⟨he, rfl⟩
  have he : e = .returned (.tuple #[.bool true, .bool false, .bool true, .bool false]) := he
  subst he
  have n12 : ¬ (w.heap.size = w1.heap.size) := HD3.out.far
  have n21 : ¬ (w1.heap.size = w.heap.size) := fun h => HD3.out.far h.symm
  have n01 : ¬ (g = w.heap.size) := fun h => by have := HD3.out.old; omega
  have n10 : ¬ (w.heap.size = g) := fun h => by have := HD3.out.old; omega
  have n02 : ¬ (g = w1.heap.size) := fun h => by have := HD3.out.old; have := HD3.out.new2; omega
  have n20 : ¬ (w1.heap.size = g) := fun h => by have := HD3.out.old; have := HD3.out.new2; omega
  obtain ⟨⟨a0, a1, a2, a3, a4⟩, ⟨f0, f1, f2, f3, f4⟩⟩ := Blk.cells5 HD3.out.op
  obtain ⟨⟨r0, r1, r2, r3, r4⟩, ⟨q0, q1, q2, q3, q4⟩⟩ := Blk.cells5 HD3.out.res
  have er := HD3.out.err
  have lxT := Cm.bytesS_len n1.2 64
  have HC4 := Lib.hid (rbytes_any _ _ g n1.2 HD3.out.rd 64 (by omega) (by omega) (by omega))
  generalize hxT : Cm.bytesS n1.2 64 = xT at *
  clear hxT
  go_wp2_with fail
  refine HC4.out.mono ?_
  rintro e u4 ⟨v4, rfl, hown, hg, hc⟩
  obtain ⟨A4, c4, rfl⟩ := own_shape hown
  have kc4 := run_convert_sl (P := Tryz.prog) u4 (fun _ => False) 22 9 5 A4 c4 xT.1 Tryz.underlying22 Tryz.underlying5 Tryz.underlying9 (Sl.of_own hown (fun _ _ _ h => h))
  have HE4 := Lib.hid (HD3.out.next hg hc)
  clear hown hg hc
  clear a0 a1 a2 a3 a4 f0 f1 f2 f3 f4 r0 r1 r2 r3 r4 q0 q1 q2 q3 q4 er
  obtain ⟨⟨a0, a1, a2, a3, a4⟩, ⟨f0, f1, f2, f3, f4⟩⟩ := Blk.cells5 HE4.out.op
  obtain ⟨⟨r0, r1, r2, r3, r4⟩, ⟨q0, q1, q2, q3, q4⟩⟩ := Blk.cells5 HE4.out.res
  have er := HE4.out.err
  have HD4 := Lib.hid (HE4.out.put 1 (.string ⟨xT.1.toArray⟩) (cs' := #[.int .i64 4, .string ⟨xT.1.toArray⟩, .string ⟨#[]⟩, .int .i64 0, .slice none 0 0]) rfl)
  have lxF := Cm.numS_len xT.2 9007199254740992
  have mxF := Cm.numS_le xT.2 9007199254740992
  have HC5 := Lib.hid (rnum_any _ _ g xT.2 HD4.out.rd 9007199254740992)
  generalize hxF : Cm.numS xT.2 9007199254740992 = xF at *
  clear hxF
  have hw5 := wrap_i64n xF.1 (by omega)
  have HM5 := Lib.hid mxF
  clear mxF
  go_wp2_with fail
  refine HC5.out.mono ?_
  rintro e u5 ⟨rfl, hg, hc⟩
  have HE5 := Lib.hid (HD4.out.next hg hc)
  clear hg hc
  clear a0 a1 a2 a3 a4 f0 f1 f2 f3 f4 r0 r1 r2 r3 r4 q0 q1 q2 q3 q4 er
  obtain ⟨⟨a0, a1, a2, a3, a4⟩, ⟨f0, f1, f2, f3, f4⟩⟩ := Blk.cells5 HE5.out.op
  obtain ⟨⟨r0, r1, r2, r3, r4⟩, ⟨q0, q1, q2, q3, q4⟩⟩ := Blk.cells5 HE5.out.res
  have er := HE5.out.err
  have HD5 := Lib.hid (HE5.out.put 3 (.int .i64 (xF.1 : Nat)) (cs' := #[.int .i64 4, .string ⟨xT.1.toArray⟩, .string ⟨#[]⟩, .int .i64 (xF.1 : Nat), .slice none 0 0]) rfl)
  by_cases hz : xF.2.2 = 0
  · have HZ := Lib.hid hz
    have e0 : (xF.2.2 == 0) = true := by rw [hz]; rfl
    have HCK := Lib.hid (rcheck_any ⟨4, xT.1, [], (xF.1 : Nat), []⟩ (OV ⟨4, xT.1, [], (xF.1 : Nat), []⟩ none 0) _ _ ⟨none, 0, rfl, rx_nil HD5.out⟩ (by simp))
    have HD1 := Lib.hid ((fun _ : xF.2.2 = 0 => (show D.1 = ⟨4, xT.1, [], (xF.1 : Nat), []⟩ from by rw [HRD.out])) hz)
    have HD2 := Lib.hid (show D.2 = xF.2 from by rw [HRD.out])
    unfold OV at HCK
    simp only at HCK
    have HLS1 := Lib.hid (show Ls _ _ _ _ from rx_nil HD5.out)
    have zo := HD5.out.old
    rw [hz] at er
    clear hz
    go_wp2_with fail
    refine HCK.out.mono ?_
    rintro e y1 ⟨rfl, hb⟩
    have HY1 := Lib.hid (HD5.out.later hb)
    have HLS2 := Lib.hid (HLS1.out.after hb)
    clear hb
    clear a0 a1 a2 a3 a4 f0 f1 f2 f3 f4 r0 r1 r2 r3 r4 q0 q1 q2 q3 q4 er
    obtain ⟨⟨a0, a1, a2, a3, a4⟩, ⟨f0, f1, f2, f3, f4⟩⟩ := Blk.cells5 HY1.out.op
    obtain ⟨⟨r0, r1, r2, r3, r4⟩, ⟨q0, q1, q2, q3, q4⟩⟩ := Blk.cells5 HY1.out.res
    have er := HY1.out.err
    have HFA := Lib.hid (rfail_any _ _ g _ HY1.out.rd (check ⟨4, xT.1, [], (xF.1 : Nat), []⟩))
    go_wp2_with fail
    refine HFA.out.mono ?_
    rintro e y2 ⟨rfl, hg, hc⟩
    have HY2 := Lib.hid (HY1.out.next hg hc)
    have HLS3 := Lib.hid (HLS2.out.grown hg (fun q hq _ => by injection hq with hq; exact .inl (by omega)))
    clear hg hc
    by_cases hck : check ⟨4, xT.1, [], (xF.1 : Nat), []⟩ = 0
    · have HCZ := Lib.hid hck
      have hfs : Cm.failS xF.2 (check ⟨4, xT.1, [], (xF.1 : Nat), []⟩) = xF.2 := by rw [hck, Cm.failS, if_neg (by rw [HZ.out]; decide), if_neg (by decide)]
      rw [hfs] at HY2
      clear a0 a1 a2 a3 a4 f0 f1 f2 f3 f4 r0 r1 r2 r3 r4 q0 q1 q2 q3 q4 er
      obtain ⟨⟨a0, a1, a2, a3, a4⟩, ⟨f0, f1, f2, f3, f4⟩⟩ := Blk.cells5 HY2.out.op
      obtain ⟨⟨r0, r1, r2, r3, r4⟩, ⟨q0, q1, q2, q3, q4⟩⟩ := Blk.cells5 HY2.out.res
      have er := HY2.out.err
      rw [HZ.out] at er
      clear hck hfs
      go_wp2_with fail
      refine bodyPost_ret (results_row1 rfl _ _ w.heap.size 25 #[.int .i64 4, .string ⟨xT.1.toArray⟩, .string ⟨#[]⟩, .int .i64 (xF.1 : Nat), .slice none 0 0] (0, 0) _ rfl (res_blk HY2.out.res _ _ _ _ _) Tryz.underlying25 rfl size_op) rfl ?_
      exact rreaded_of (o := ⟨4, xT.1, [], (xF.1 : Nat), []⟩) HY2.out _ _ _ _ _ rfl HLS3.out (by rw [TO.out (by rw [HD2.out]; exact HZ.out) (by rw [HD1.out]; exact HCZ.out), HD1.out, HD2.out])
    · have HCZ := Lib.hid hck
      have hfs : Cm.failS xF.2 (check ⟨4, xT.1, [], (xF.1 : Nat), []⟩) = ([], check ⟨4, xT.1, [], (xF.1 : Nat), []⟩) := by rw [Cm.failS, if_neg (by rw [HZ.out]; decide), if_pos hck]
      rw [hfs] at HY2
      clear a0 a1 a2 a3 a4 f0 f1 f2 f3 f4 r0 r1 r2 r3 r4 q0 q1 q2 q3 q4 er
      obtain ⟨⟨a0, a1, a2, a3, a4⟩, ⟨f0, f1, f2, f3, f4⟩⟩ := Blk.cells5 HY2.out.op
      obtain ⟨⟨r0, r1, r2, r3, r4⟩, ⟨q0, q1, q2, q3, q4⟩⟩ := Blk.cells5 HY2.out.res
      have er := HY2.out.err
      simp only at er
      have e1 : (check ⟨4, xT.1, [], (xF.1 : Nat), []⟩ == 0) = false := beq_eq_false_iff_ne.2 hck
      have e2 : (check ⟨4, xT.1, [], (xF.1 : Nat), []⟩ != 0) = true := by rw [bne, e1]; rfl
      clear hck hfs
      go_wp2_with fail
      refine bodyPost_ret (results_row1 rfl _ _ w.heap.size 25 #[.int .i64 0, .string ⟨#[]⟩, .string ⟨#[]⟩, .int .i64 0, .slice none 0 0] (0, 0) _ rfl (res_blk HY2.out.res _ _ _ _ _) Tryz.underlying25 rfl size_op) rfl ?_
      exact rreaded_of (o := O.zero) HY2.out _ _ _ _ _ rfl (ls_nil _ _) (by rw [TB.out (by rw [HD2.out]; exact HZ.out) (by rw [HD1.out]; exact HCZ.out), HD1.out])
  · have HZ := Lib.hid hz
    have HD2 := Lib.hid (show D.2 = xF.2 from by rw [HRD.out])
    have e1 : (xF.2.2 == 0) = false := beq_eq_false_iff_ne.2 hz
    have e2 : (xF.2.2 != 0) = true := by rw [bne, e1]; rfl
    clear hz
    go_wp2_with fail
    refine bodyPost_ret (results_row1 rfl _ _ w.heap.size 25 #[.int .i64 0, .string ⟨#[]⟩, .string ⟨#[]⟩, .int .i64 0, .slice none 0 0] (0, 0) _ rfl (res_blk HD5.out.res _ _ _ _ _) Tryz.underlying25 rfl size_op) rfl ?_
    exact rreaded_of (o := O.zero) HD5.out _ _ _ _ _ rfl (ls_nil _ _) (by rw [TN.out (by rw [HD2.out]; exact HZ.out), HD2.out])


end Go.Proofs.YtebjjkhiniccgaaGreat.Qc

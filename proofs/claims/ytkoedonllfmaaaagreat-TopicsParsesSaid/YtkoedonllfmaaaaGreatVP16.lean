/-
  Contract of the program's topics: Apply.
-/
import Derived.Test.YtkoedonllfmaaaaGreatVP15
import Derived.Test.YtkoedonllfmaaaaGreatVP04
namespace Go.Proofs.YtkoedonllfmaaaaGreat.Aj
set_option linter.unusedSimpArgs false
open Go Go.RowKit Ck Kw Ga Kf Km Kd Pm Pz Pe Pg Py Qb Qg Tm Tn Tq Aa Ab Ac Ad Ae Af Ag Ah Ai
attribute [local go_sem ↓] Go.wp_at_zero Go.wp_at_succ
set_option linter.unusedVariables false

/-- A request as a value. -/
def RC (client time : Int) (o : O) (A : Option Addr) (c : Nat) : Array Value := #[.int .i64 client, .int .i64 time, .int .i64 o.kind, .string ⟨o.topic.toArray⟩, .string ⟨o.group.toArray⟩, .int .i64 o.off, .slice A o.recs.length c]
def RV (client time : Int) (o : O) (A : Option Addr) (c : Nat) : Value := .agg (RC client time o A c)
theorem acs_set (l : List An) (i : Nat) (hi : i < l.length) (a : An) : (((ACs l).set (i * 3) (.int .i64 a.time)).set (i * 3 + 1) (.int .i64 a.err)).set (i * 3 + 2) (.int .i64 a.off) = ACs (l.set i a) := by
  unfold ACs
  have e1 := flat_set AC_len l i hi (⟨a.time, l[i].err, l[i].off⟩ : An) 0 (by omega) (.int .i64 a.time) rfl
  rw [Nat.add_zero] at e1
  rw [e1]
  have e2 := flat_set AC_len (l.set i (⟨a.time, l[i].err, l[i].off⟩ : An)) i (by simpa using hi) (⟨a.time, a.err, l[i].off⟩ : An) 1 (by omega) (.int .i64 a.err) (by simp [AC])
  rw [e2]
  have e3 := flat_set AC_len ((l.set i (⟨a.time, l[i].err, l[i].off⟩ : An)).set i (⟨a.time, a.err, l[i].off⟩ : An)) i (by simpa using hi) a 2 (by omega) (.int .i64 a.off) (by simp [AC])
  rw [e3]
  simp
theorem tz_last {w : World} {S R : Nat → Prop} {p : Nat} {s : St} (h : Tz w S R p s) {i : Nat} (hi : i < 8) (a : An) (hg : GoodS ⟨s.L, s.last.set i a⟩) :
    Tz (((w.setCell ⟨p, 1 + i * 3, none⟩ (.int .i64 a.time)).setCell ⟨p, 1 + i * 3 + 1, none⟩ (.int .i64 a.err)).setCell ⟨p, 1 + i * 3 + 2, none⟩ (.int .i64 a.off)) S R p ⟨s.L, s.last.set i a⟩ := by
  obtain ⟨m, D, G, V, M, F, h⟩ := h
  have h8 := h.good.eight
  have c : Ch (fun k => k = p) w (((w.setCell ⟨p, 1 + i * 3, none⟩ (.int .i64 a.time)).setCell ⟨p, 1 + i * 3 + 1, none⟩ (.int .i64 a.err)).setCell ⟨p, 1 + i * 3 + 2, none⟩ (.int .i64 a.off)) :=
    (((Ch.refl (fun k => k = p) w).setCell (p := ⟨p, 1 + i * 3, none⟩) (fun _ => rfl) _).setCell (p := ⟨p, 1 + i * 3 + 1, none⟩) (fun _ => rfl) _).setCell (p := ⟨p, 1 + i * 3 + 2, none⟩) (fun _ => rfl) _
  have hb := ((h.blk.set_ (1 + i * 3) (.int .i64 a.time)).set_ (1 + i * 3 + 1) (.int .i64 a.err)).set_ (1 + i * 3 + 2) (.int .i64 a.off)
  have e : ((((Value.map (some m) :: ACs s.last).toArray.setIfInBounds (1 + i * 3) (.int .i64 a.time)).setIfInBounds (1 + i * 3 + 1) (.int .i64 a.err)).setIfInBounds (1 + i * 3 + 2) (.int .i64 a.off)) = (Value.map (some m) :: ACs (s.last.set i a)).toArray := by
    rw [← acs_set s.last i (by omega) a]
    simp only [List.setIfInBounds_toArray]
    rw [show 1 + i * 3 + 2 = (i * 3 + 2) + 1 by omega, show 1 + i * 3 + 1 = (i * 3 + 1) + 1 by omega, show 1 + i * 3 = i * 3 + 1 by omega]
    simp only [List.set_cons_succ]
  rw [e] at hb
  exact ⟨m, D, G, V, M, F, hb, h.sp, map_ch h.own c h.sm.2, h.tells, h.sm, fun t ht => (h.top t ht).ch c (fun k hk e => (h.sub t ht k hk).2.1 e) (fun k hk e => (h.rs k hk).1 (by rw [e]; exact h.sp)), fun t ht k hk => ⟨(h.sub t ht k hk).1, (h.sub t ht k hk).2.1, (h.sub t ht k hk).2.2.1, Nat.lt_of_lt_of_le (h.sub t ht k hk).2.2.2 c.size⟩, h.apart, fun k hk => ⟨(h.rs k hk).1, Nat.lt_of_lt_of_le (h.rs k hk).2 c.size⟩, hg⟩
/-- Three results, the first a struct in a cell of its own. -/
theorem results_row_tmp2 {P : Program} {fn : Func} {p q r : Tmp} {ty : TypeId} (h : fn.results = #[.cell p ty, .tmp q, .tmp r]) (tmps : Array Value) (w : World) (g : Nat) (t : TypeId) (cs : Array Value) (fr : Nat × Nat) (d : TypeDesc)
    (hp : tmps.getD p undef = .pointer (some ⟨g, 0, none⟩)) (hg : w.heap[g]? = some (.cells cs t fr))
    (hu : P.underlying ty = some d) (hd : (match d with | .struct _ | .array _ _ => true | _ => false) = true) (hi : (P.info? ty).map (·.size) = some cs.size) :
    (results fn tmps).run P w = .ok (.tuple #[.agg cs, tmps.getD q undef, tmps.getD r undef]) w := by
  have hp' : tmps[p]?.getD undef = .pointer (some ⟨g, 0, none⟩) := by simpa using hp
  simp [results, h, hp', asAddr, run_loadVar_row w g t ty cs fr d hg hu hd hi]
/-- What Apply leaves. -/
def Asked (S R : Nat → Prop) (p : Nat) (s : St) (client time : Int) (o : O) (w : World) (e : Ending) (w' : World) : Prop :=
  ∃ v B, e = .returned (.tuple #[.agg #[.int .i64 (appS s client time o).1.1, .int .i64 (appS s client time o).1.2], v, .bool (appS s client time o).2.2.1]) ∧ w.heap.size ≤ B ∧ Ps w' B v (appS s client time o).2.1 ∧ Applied S R p (appS s client time o).2.2.2 B w w'
theorem asked_of {w w' : World} {S R : Nat → Prop} {p : Nat} {s s' : St} {client time : Int} {o : O} {k off : Int} {b : Bool} {v : Value} {pl : List (Tx × Int × Tx)} (h : appS s client time o = ((k, off), pl, b, s')) {B : Nat} (hB : w.heap.size ≤ B) (h4 : Ps w' B v pl) (h5 : Applied S R p s' B w w') :
    Asked S R p s client time o w (.returned (.tuple #[.agg #[.int .i64 k, .int .i64 off], v, .bool b])) w' := by
  unfold Asked
  rw [h]
  exact ⟨v, B, rfl, hB, h4, h5⟩
/-- Apply's own blocks. -/
structure AK (w : World) (client time : Int) (o : O) (A : Option Addr) (c : Nat) (W : World) : Prop where
  below : Below w.heap.size w W
  req : Blk W w.heap.size 40 (RC client time o A c)
  res : Blk W (w.heap.size + 1) 30 #[.int .i64 0, .int .i64 0]
theorem AK.later {w W W' : World} {client time : Int} {o : O} {A : Option Addr} {c : Nat} (h : AK w client time o A c W) (b : Below W.heap.size W W') : AK w client time o A c W' := ⟨h.below.trans (b.mono h.below.size), h.req.below b h.req.lt, h.res.below b h.res.lt⟩
theorem ak_new (w : World) (client time : Int) (o : O) (A : Option Addr) (c : Nat) : AK w client time o A c ((w.alloc (.cells (RC client time o A c) 40)).alloc (.cells #[.int .i64 0, .int .i64 0] 30)) := by
  have hz : (w.alloc (.cells (RC client time o A c) 40)).heap.size = w.heap.size + 1 := by simp
  have h1 : Blk (w.alloc (.cells (RC client time o A c) 40)) w.heap.size 40 (RC client time o A c) := Blk.new _ _ _
  exact ⟨(op_below w _).trans ((op_below _ _).mono (by omega)), h1.below (op_below _ _) (by omega), by rw [← hz]; exact Blk.new _ _ _⟩
theorem AK.cells {w W : World} {client time : Int} {o : O} {A : Option Addr} {c : Nat} (h : AK w client time o A c W) : W.cell? ⟨w.heap.size, 0, none⟩ = some (.int .i64 client) ∧ W.cell? ⟨w.heap.size, 1, none⟩ = some (.int .i64 time) ∧ W.cell? ⟨w.heap.size, 2, none⟩ = some (.int .i64 o.kind) ∧ W.cell? ⟨w.heap.size, 3, none⟩ = some (.string ⟨o.topic.toArray⟩) ∧ W.cell? ⟨w.heap.size, 4, none⟩ = some (.string ⟨o.group.toArray⟩) ∧ W.cell? ⟨w.heap.size, 5, none⟩ = some (.int .i64 o.off) ∧ W.cell? ⟨w.heap.size, 6, none⟩ = some (.slice A o.recs.length c) :=
  ⟨h.req.cell 0, h.req.cell 1, h.req.cell 2, h.req.cell 3, h.req.cell 4, h.req.cell 5, h.req.cell 6⟩
theorem AK.rcells {w W : World} {client time : Int} {o : O} {A : Option Addr} {c : Nat} (h : AK w client time o A c W) : W.cell? ⟨w.heap.size + 1, 0, none⟩ = some (.int .i64 0) ∧ W.cell? ⟨w.heap.size + 1, 1, none⟩ = some (.int .i64 0) ∧ W.frozen? ⟨w.heap.size + 1, 0, none⟩ = false ∧ W.frozen? ⟨w.heap.size + 1, 1, none⟩ = false :=
  ⟨h.res.cell 0, h.res.cell 1, h.res.frozen 0, h.res.frozen 1⟩
theorem two_below (w : World) (x y : Obj) : Below w.heap.size w ((w.alloc x).alloc y) := (op_below w x).trans ((op_below _ y).mono (by simp))
set_option maxRecDepth 100000 in
set_option maxHeartbeats 1000000 in
theorem apply_bad (w : World) (S R : Nat → Prop) (p : Nat) (s : St) (client time : Int) (o : O) (A : Option Addr) (c : Nat) (hb : badArg client time = true) (h : Tz w S R p s) :
    Calls Tryz.prog 7 #[.pointer (some ⟨p, 0, none⟩), RV client time o A c] w (Asked S R p s client time o w) := by
  have hak := ak_new w client time o A c
  have HAK := Lib.hid hak
  have HZ := Lib.hid h
  have HM := Lib.hid (made_on _ S R p s (h.later (HAK.out.below.mono (Nat.le_refl _))))
  have HAP : Hid (appS s client time o = ((1, 0), [], false, s)) := Lib.hid (by rw [appS, if_pos hb])
  obtain ⟨a0, a1, a2, a3, a4, a5, a6⟩ := hak.cells
  obtain ⟨r0, r1, fr0, fr1⟩ := hak.rcells
  clear hak h
  simp only [badArg, Bool.or_eq_true, decide_eq_true_eq] at hb
  unfold RV
  unfold RC at HAK HM a0 a1 a2 a3 a4 a5 a6 r0 r1 fr0 fr1 ⊢
  by_cases hcl : (decide (0 ≤ client) && decide (client < 8)) = true
  · simp only [Bool.and_eq_true, decide_eq_true_eq] at hcl
    by_cases ht : time < 1
    · clear hb
      go_enter Tryz.func7, Tryz.ntmps7
      go_wp2_with fail
      refine HM.out.mono ?_
      rintro e w1 ⟨rfl, rfl⟩
      go_wp2_with fail
      refine (client_any _ client).mono ?_
      rintro e w1 ⟨rfl, rfl⟩
      go_wp2_with fail
      refine bodyPost_ret (results_row_tmp2 rfl _ _ (w.heap.size + 1) 30 #[.int .i64 1, .int .i64 0] (0, 0) _ rfl (Blk.new_at (by simp) rfl) Tryz.underlying30 rfl Ai.size_res) rfl ?_
      exact asked_of HAP.out (Nat.le_refl _) (Ps.nil _ _) (applied_refl HZ.out (two_below _ _ _))
    · have ht2 : 9007199254740992 < time := by simp only [maxNum] at hb; omega
      clear hb ht
      have ht3 : 1 ≤ time := by omega
      go_enter Tryz.func7, Tryz.ntmps7
      go_wp2_with fail
      refine HM.out.mono ?_
      rintro e w1 ⟨rfl, rfl⟩
      go_wp2_with fail
      refine (client_any _ client).mono ?_
      rintro e w1 ⟨rfl, rfl⟩
      go_wp2_with fail
      refine bodyPost_ret (results_row_tmp2 rfl _ _ (w.heap.size + 1) 30 #[.int .i64 1, .int .i64 0] (0, 0) _ rfl (Blk.new_at (by simp) rfl) Tryz.underlying30 rfl Ai.size_res) rfl ?_
      exact asked_of HAP.out (Nat.le_refl _) (Ps.nil _ _) (applied_refl HZ.out (two_below _ _ _))
  · have hcl' : (decide (0 ≤ client) && decide (client < 8)) = false := Bool.eq_false_iff.2 hcl
    have HCN : ∀ W : World, Hid (Calls Tryz.prog 18 #[.int .i64 client] W fun e w' => e = .returned (.bool false) ∧ W = w') := fun W => Lib.hid (by rw [← hcl']; exact client_any W client)
    clear hcl hcl' hb
    go_enter Tryz.func7, Tryz.ntmps7
    go_wp2_with fail
    refine HM.out.mono ?_
    rintro e w1 ⟨rfl, rfl⟩
    go_wp2_with fail
    refine (HCN _).out.mono ?_
    rintro e w1 ⟨rfl, rfl⟩
    go_wp2_with fail
    refine bodyPost_ret (results_row_tmp2 rfl _ _ (w.heap.size + 1) 30 #[.int .i64 1, .int .i64 0] (0, 0) _ rfl (Blk.new_at (by simp) rfl) Tryz.underlying30 rfl Ai.size_res) rfl ?_
    exact asked_of HAP.out (Nat.le_refl _) (Ps.nil _ _) (applied_refl HZ.out (two_below _ _ _))

set_option maxRecDepth 100000 in
set_option maxHeartbeats 1000000 in
theorem apply_old (w : World) (S R : Nat → Prop) (p : Nat) (s : St) (client time : Int) (o : O) (A : Option Addr) (c : Nat) (hb : badArg client time = false) (hle : time ≤ (s.last.getD client.toNat An.zero).time) (h : Tz w S R p s) :
    Calls Tryz.prog 7 #[.pointer (some ⟨p, 0, none⟩), RV client time o A c] w (Asked S R p s client time o w) := by
  have hak := ak_new w client time o A c
  have HAK := Lib.hid hak
  have HZ := Lib.hid h
  have hz1 := h.later (HAK.out.below.mono (Nat.le_refl _))
  have HM := Lib.hid (made_on _ S R p s hz1)
  obtain ⟨c0, c1, t0, t1⟩ := badArg_no (by rw [hb]; simp)
  obtain ⟨m, D, G, V, M, F, hP⟩ := hz1
  have hlen := hP.len8
  obtain ⟨i, rfl⟩ : ∃ i : Nat, client = (i : Int) := ⟨client.toNat, by omega⟩
  have hi : i < s.last.length := by omega
  obtain ⟨q0, q1, q2⟩ := hP.cellA hi
  have hg : s.last.getD (Int.toNat (i : Int)) An.zero = s.last[i] := by rw [Int.toNat_natCast, List.getD_eq_getElem?_getD, List.getElem?_eq_getElem hi]; rfl
  rw [hg] at hle
  have HAP : Hid (appS s i time o = if time = s.last[i].time then ((s.last[i].err, s.last[i].off), [], false, s) else ((7, 0), [], false, s)) := Lib.hid (by
    rw [appS, if_neg (by rw [hb]; simp)]
    simp only [hg]
    split
    · rfl
    · rw [if_pos (by omega)])
  obtain ⟨a0, a1, a2, a3, a4, a5, a6⟩ := hak.cells
  obtain ⟨r0, r1, fr0, fr1⟩ := hak.rcells
  simp only [maxNum] at t1
  have hcl : (decide (0 ≤ (i : Int)) && decide ((i : Int) < 8)) = true := by simp; omega
  have HCN : ∀ W : World, Hid (Calls Tryz.prog 18 #[.int .i64 (i : Int)] W fun e w' => e = .returned (.bool true) ∧ W = w') := fun W => Lib.hid (by rw [← hcl]; exact client_any W i)
  have hi8 : i < 8 := by omega
  clear hak h hP hb hg hcl hlen
  generalize s.last[i] = a at *
  obtain ⟨at', ae, ao⟩ := a
  simp only at q0 q1 q2 hle HAP
  unfold RV
  unfold RC at HAK HM a0 a1 a2 a3 a4 a5 a6 r0 r1 fr0 fr1 q0 q1 q2 ⊢
  by_cases he : time = at'
  · subst he
    rw [if_pos rfl] at HAP
    go_enter Tryz.func7, Tryz.ntmps7
    go_wp2_with fail
    refine HM.out.mono ?_
    rintro e w1 ⟨rfl, rfl⟩
    go_wp2_with fail
    refine (HCN _).out.mono ?_
    rintro e w1 ⟨rfl, rfl⟩
    go_wp2_with fail
    generalize (w.alloc (.cells #[.int .i64 (i : Int), .int .i64 time, .int .i64 o.kind, .string ⟨o.topic.toArray⟩, .string ⟨o.group.toArray⟩, .int .i64 o.off, .slice A o.recs.length c] 40)).alloc (.cells #[.int .i64 0, .int .i64 0] 30) = W0 at *
    go_region_held3 (fun w' => w'.cell? ⟨w.heap.size, 0, none⟩ = some (.int .i64 (i : Int)) ∧ w'.cell? ⟨p, 1 + i * 3, none⟩ = some (.int .i64 time) ∧ w'.cell? ⟨p, 1 + i * 3 + 1, none⟩ = some (.int .i64 ae) ∧ w'.cell? ⟨p, 1 + i * 3 + 2, none⟩ = some (.int .i64 ao)) (first | exact ⟨a0, q0, q1, q2⟩ | go_keep) (fail)
    have hb1 : Below W0.heap.size W0 (W0.alloc (.cells #[.int .i64 time, .int .i64 ae, .int .i64 ao] 63)).drew := below_drewN (op_below _ _) 1
    have hl1 : Blk (W0.alloc (.cells #[.int .i64 time, .int .i64 ae, .int .i64 ao] 63)).drew W0.heap.size 63 #[.int .i64 time, .int .i64 ae, .int .i64 ao] := Blk.new _ _ _
    have HAK1 := Lib.hid (HAK.out.later hb1)
    generalize (W0.alloc (.cells #[.int .i64 time, .int .i64 ae, .int .i64 ao] 63)).drew = W1 at *
    clear a0 a1 a2 a3 a4 a5 a6 r0 r1 fr0 fr1 q0 q1 q2
    obtain ⟨a0, a1, a2, a3, a4, a5, a6⟩ := AK.cells HAK1.out
    obtain ⟨r0, r1, fr0, fr1⟩ := AK.rcells HAK1.out
    have l0 := hl1.cell 0
    have l1 := hl1.cell 1
    have l2 := hl1.cell 2
    simp only [List.getElem?_toArray, List.getElem?_cons_zero, List.getElem?_cons_succ] at l0 l1 l2
    have HB1 := Lib.hid (And.intro hb1 hl1)
    clear hb1 hl1
    go_wp2_with fail
    refine bodyPost_ret (results_row_tmp2 rfl _ _ (w.heap.size + 1) 30 #[.int .i64 ae, .int .i64 ao] (0, 0) _ rfl (blk2 HAK1.out.res _ _) Tryz.underlying30 rfl Ai.size_res) rfl ?_
    exact asked_of HAP.out (Nat.le_refl _) (Ps.nil _ _) (applied_refl HZ.out (below2 HAK1.out.below (by omega) _ _))
  · rw [if_neg he] at HAP
    have hlt : time < at' := by omega
    have heb : (time == at') = false := beq_eq_false_iff_ne.2 he
    clear hle he
    go_enter Tryz.func7, Tryz.ntmps7
    go_wp2_with fail
    refine HM.out.mono ?_
    rintro e w1 ⟨rfl, rfl⟩
    go_wp2_with fail
    refine (HCN _).out.mono ?_
    rintro e w1 ⟨rfl, rfl⟩
    go_wp2_with fail
    generalize (w.alloc (.cells #[.int .i64 (i : Int), .int .i64 time, .int .i64 o.kind, .string ⟨o.topic.toArray⟩, .string ⟨o.group.toArray⟩, .int .i64 o.off, .slice A o.recs.length c] 40)).alloc (.cells #[.int .i64 0, .int .i64 0] 30) = W0 at *
    go_region_held3 (fun w' => w'.cell? ⟨w.heap.size, 0, none⟩ = some (.int .i64 (i : Int)) ∧ w'.cell? ⟨p, 1 + i * 3, none⟩ = some (.int .i64 at') ∧ w'.cell? ⟨p, 1 + i * 3 + 1, none⟩ = some (.int .i64 ae) ∧ w'.cell? ⟨p, 1 + i * 3 + 2, none⟩ = some (.int .i64 ao)) (first | exact ⟨a0, q0, q1, q2⟩ | go_keep) (fail)
    have hb1 : Below W0.heap.size W0 (W0.alloc (.cells #[.int .i64 at', .int .i64 ae, .int .i64 ao] 63)).drew := below_drewN (op_below _ _) 1
    have hl1 : Blk (W0.alloc (.cells #[.int .i64 at', .int .i64 ae, .int .i64 ao] 63)).drew W0.heap.size 63 #[.int .i64 at', .int .i64 ae, .int .i64 ao] := Blk.new _ _ _
    have HAK1 := Lib.hid (HAK.out.later hb1)
    generalize (W0.alloc (.cells #[.int .i64 at', .int .i64 ae, .int .i64 ao] 63)).drew = W1 at *
    clear a0 a1 a2 a3 a4 a5 a6 r0 r1 fr0 fr1 q0 q1 q2
    obtain ⟨a0, a1, a2, a3, a4, a5, a6⟩ := AK.cells HAK1.out
    obtain ⟨r0, r1, fr0, fr1⟩ := AK.rcells HAK1.out
    have l0 := hl1.cell 0
    have l1 := hl1.cell 1
    have l2 := hl1.cell 2
    simp only [List.getElem?_toArray, List.getElem?_cons_zero, List.getElem?_cons_succ] at l0 l1 l2
    have HB1 := Lib.hid (And.intro hb1 hl1)
    clear hb1 hl1
    go_wp2_with fail
    refine bodyPost_ret (results_row_tmp2 rfl _ _ (w.heap.size + 1) 30 #[.int .i64 7, .int .i64 0] (0, 0) _ rfl (blk2 HAK1.out.res _ _) Tryz.underlying30 rfl Ai.size_res) rfl ?_
    exact asked_of HAP.out (Nat.le_refl _) (Ps.nil _ _) (applied_refl HZ.out (below2 HAK1.out.below (by omega) _ _))
end Go.Proofs.YtkoedonllfmaaaaGreat.Aj

/-
  Contract of the program's topics: Apply, where a request is done.
-/
namespace Go.Proofs.YtkoedonllfmaaaaGreat.Al
set_option linter.unusedSimpArgs false
open Go Go.RowKit Ck Kw Ga Kf Km Kd Pm Pz Pe Pg Py Qb Qg Tm Tn Tq Aa Ab Ac Ad Ae Af Ag Ah Ai Aj
attribute [local go_sem ↓] Go.wp_at_zero Go.wp_at_succ
set_option linter.unusedVariables false

theorem three_ch (W : World) (p i j k : Nat) (x y z : Value) : Ch (fun q => q = p) W (((W.setCell ⟨p, i, none⟩ x).setCell ⟨p, j, none⟩ y).setCell ⟨p, k, none⟩ z) :=
  (((Ch.refl (fun q => q = p) W).setCell (p := ⟨p, i, none⟩) (fun _ => rfl) _).setCell (p := ⟨p, j, none⟩) (fun _ => rfl) _).setCell (p := ⟨p, k, none⟩) (fun _ => rfl) _
theorem two_ch (W : World) (g : Nat) (x y : Value) : Ch (fun q => q = g) W ((W.setCell ⟨g, 0, none⟩ x).setCell ⟨g, 1, none⟩ y) :=
  ((Ch.refl (fun q => q = g) W).setCell (p := ⟨g, 0, none⟩) (fun _ => rfl) _).setCell (p := ⟨g, 1, none⟩) (fun _ => rfl) _
theorem ch_drew {S : Nat → Prop} {a b : World} (h : Ch S a b) : Ch S a b.drew := ⟨h.os, h.tape, h.output, h.size, h.block⟩
section
variable {w W1 w2 W3 W4 : World} {S R S2 R2 : Nat → Prop} {p : Nat} {s s' : St} {client time : Int} {o : O} {A : Option Addr} {c : Nat} {u v : Value} {pl : List (Tx × Int × Tx)} {B : Nat}
theorem apply_ps (hp : p < w.heap.size) (hk : AK w client time o A c W1) (hB : W1.heap.size ≤ B) (h : Ps w2 B v pl) (c2 : Ch (fun k => S k ∧ k < w.heap.size) W1 w2) (b3 : Below w2.heap.size w2 W3) (c4 : Ch (fun q => q = p) W3 W4) {x y : Value} :
    Ps ((W4.setCell ⟨w.heap.size + 1, 0, none⟩ x).setCell ⟨w.heap.size + 1, 1, none⟩ y) B v pl := by
  have hs := hk.below.size
  have hr := hk.res.lt
  exact (((h.later b3).ch c4 (fun k hk => by omega)).ch (two_ch W4 (w.heap.size + 1) x y) (fun k hk => by omega))
theorem apply_fin (hz : Tz w S R p s) (hp : p < w.heap.size) (hk : AK w client time o A c W1) (h1 : ∀ k, S2 k → Up (fun k => S k ∧ k < w.heap.size) W1 w2 k ∧ k < B) (h2 : ∀ k, R2 k → Up R W1 w2 k ∧ k < B) (c2 : Ch (fun k => S k ∧ k < w.heap.size) W1 w2) (b3 : Below w2.heap.size w2 W3) (c4 : Ch (fun q => q = p) W3 W4) (h : Tz W4 S2 R2 p s') {x y : Value} :
    Applied S R p s' B w ((W4.setCell ⟨w.heap.size + 1, 0, none⟩ x).setCell ⟨w.heap.size + 1, 1, none⟩ y) := by
  have hs := hk.below.size
  have hr := hk.res.lt
  have s2 := c2.size
  have s3 := b3.size
  have s4 := c4.size
  have hSp : S p := by
    obtain ⟨m', D', G', V', M', F', h'⟩ := hz
    exact h'.sp
  have c5 := two_ch W4 (w.heap.size + 1) x y
  have s5 := c5.size
  refine ⟨S2, R2, h.ch c5 (fun k hk e => ?_) (fun k hk e => ?_), fun k hk => ?_, fun k hk => ?_, ?_⟩
  · rcases (h1 k hk).1 with h | h
    · have := h.2; omega
    · have := h.1; omega
  · rcases (h2 k hk).1 with h | h
    · have := (Tz.rlt hz k h).2; omega
    · have := h.1; omega
  · refine ⟨?_, (h1 k hk).2⟩
    rcases (h1 k hk).1 with h | h
    · exact .inl h.1
    · exact .inr ⟨by omega, by omega⟩
  · refine ⟨?_, (h2 k hk).2⟩
    rcases (h2 k hk).1 with h | h
    · exact .inl h
    · exact .inr ⟨by omega, by omega⟩
  · have k1 : Ch S w W1 := Ch.of_below hk.below (Nat.le_refl _)
    have k2 : Ch S w w2 := k1.trans (c2.mono (T := S) (fun k _ h => h.1)) (fun _ _ h => h)
    have k3 : Ch S w W3 := k2.trans (Ch.of_below (S := S) b3 (Nat.le_refl _)) (fun _ _ h => h)
    have k4 : Ch S w W4 := k3.trans (c4.mono (T := S) (fun k _ h => by rw [h]; exact hSp)) (fun _ _ h => h)
    exact k4.trans c5 (fun k h1 h2 => by omega)
end
set_option maxRecDepth 100000 in
set_option maxHeartbeats 2000000 in
theorem apply_new (w : World) (S R : Nat → Prop) (p : Nat) (s : St) (client time : Int) (o : O) (X : Nat → Prop) (A : Option Addr) (c : Nat) (hb : badArg client time = false) (hlt : (s.last.getD client.toNat An.zero).time < time) (h : Tz w S R p s) (hls : Ls w X (.slice A o.recs.length c) o.recs) (hl : o.recs.length ≤ 140737488355328) :
    Calls Tryz.prog 7 #[.pointer (some ⟨p, 0, none⟩), RV client time o A c] w (Asked S R p s client time o w) := by
  have hak := ak_new w client time o A c
  have HAK := Lib.hid hak
  have HZ := Lib.hid h
  have hz1 := h.later (HAK.out.below.mono (Nat.le_refl _))
  have HM := Lib.hid (made_on _ S R p s hz1)
  obtain ⟨c0, c1, t0, t1⟩ := badArg_no (by rw [hb]; simp)
  obtain ⟨m, D, G, V, M, F, hP⟩ := hz1
  have hlen := hP.len8
  obtain ⟨i, rfl⟩ : ∃ i : Nat, client = (i : Int) := ⟨client.toNat, by omega⟩
  have hi : i < s.last.length := by omega
  obtain ⟨q0, q1, q2⟩ := hP.cellA hi
  have hg : s.last.getD (Int.toNat (i : Int)) An.zero = s.last[i] := by rw [Int.toNat_natCast, List.getD_eq_getElem?_getD, List.getElem?_eq_getElem hi]; rfl
  rw [hg] at hlt
  have hg2 : s.last.getD i An.zero = s.last[i] := by rw [← hg, Int.toNat_natCast]
  have HAP : Hid (appS s i time o = ((doesS s.L o).1, (doesS s.L o).2.1, true, ⟨(doesS s.L o).2.2, s.last.set i ⟨time, (doesS s.L o).1.1, (doesS s.L o).1.2⟩⟩)) := Lib.hid (by
    rw [appS, if_neg (by rw [hb]; simp)]
    simp only [Int.toNat_natCast, hg2]
    rw [if_neg (by omega), if_neg (by omega)])
  have hgs : GoodS (appS s i time o).2.2.2 := appS_good HZ.out.good i time o
  rw [HAP.out] at hgs
  have HGS := Lib.hid hgs
  have HLS := Lib.hid hls
  obtain ⟨a0, a1, a2, a3, a4, a5, a6⟩ := hak.cells
  obtain ⟨r0, r1, fr0, fr1⟩ := hak.rcells
  simp only [maxNum] at t1
  have hcl : (decide (0 ≤ (i : Int)) && decide ((i : Int) < 8)) = true := by simp; omega
  have HCN : ∀ W : World, Hid (Calls Tryz.prog 18 #[.int .i64 (i : Int)] W fun e w' => e = .returned (.bool true) ∧ W = w') := fun W => Lib.hid (by rw [← hcl]; exact client_any W i)
  have hi8 : i < 8 := by omega
  clear hak h hP hb hg hg2 hcl hlen hgs hls
  generalize s.last[i] = a at *
  obtain ⟨at', ae, ao⟩ := a
  simp only at q0 q1 q2 hlt
  unfold RV
  unfold RC at HAK HM a0 a1 a2 a3 a4 a5 a6 r0 r1 fr0 fr1 q0 q1 q2 ⊢
  have heb : (time == at') = false := beq_eq_false_iff_ne.2 (by omega)
  go_enter Tryz.func7, Tryz.ntmps7
  go_wp2_with fail
  refine HM.out.mono ?_
  rintro e w1 ⟨rfl, rfl⟩
  go_wp2_with fail
  refine (HCN _).out.mono ?_
  rintro e w1 ⟨rfl, rfl⟩
  go_wp2_with fail
  generalize (w.alloc (.cells #[.int .i64 (i : Int), .int .i64 time, .int .i64 o.kind, .string ⟨o.topic.toArray⟩, .string ⟨o.group.toArray⟩, .int .i64 o.off, .slice A o.recs.length c] 40)).alloc (.cells #[.int .i64 0, .int .i64 0] 30) = W0 at *
  go_region_held3 (fun w' => w'.cell? ⟨w.heap.size, 0, none⟩ = some (.int .i64 (i : Int)) ∧ w'.cell? ⟨p, 1 + i * 3, none⟩ = some (.int .i64 at') ∧ w'.cell? ⟨p, 1 + i * 3 + 1, none⟩ = some (.int .i64 ae) ∧ w'.cell? ⟨p, 1 + i * 3 + 2, none⟩ = some (.int .i64 ao)) (first | exact ⟨a0, q0, q1, q2⟩ | go_keep) (fail)
  have hb1 : Below W0.heap.size W0 (W0.alloc (.cells #[.int .i64 at', .int .i64 ae, .int .i64 ao] 63)).drew := below_drewN (op_below _ _) 1
  have hl1 : Blk (W0.alloc (.cells #[.int .i64 at', .int .i64 ae, .int .i64 ao] 63)).drew W0.heap.size 63 #[.int .i64 at', .int .i64 ae, .int .i64 ao] := Blk.new _ _ _
  have HAK1 := Lib.hid (HAK.out.later hb1)
  generalize (W0.alloc (.cells #[.int .i64 at', .int .i64 ae, .int .i64 ao] 63)).drew = W1 at *
  clear a0 a1 a2 a3 a4 a5 a6 r0 r1 fr0 fr1 q0 q1 q2
  obtain ⟨a0, a1, a2, a3, a4, a5, a6⟩ := AK.cells HAK1.out
  obtain ⟨r0, r1, fr0, fr1⟩ := AK.rcells HAK1.out
  have l0 := hl1.cell 0
  have l1 := hl1.cell 1
  have l2 := hl1.cell 2
  simp only [List.getElem?_toArray, List.getElem?_cons_zero, List.getElem?_cons_succ] at l0 l1 l2
  have HB1 := Lib.hid (And.intro hb1 hl1)
  clear hb1 hl1
  go_wp2_with fail
  have hzb := (Tz.bound HZ.out).later HAK1.out.below
  have HDO := Lib.hid (do_any W1 _ R p s o X A c hzb (HLS.out.after HAK1.out.below) hl)
  unfold OV at HDO
  refine HDO.out.mono ?_
  rintro e w2 ⟨v2, B2, rfl, hBB, hps, S2, R2, hz2, hS2, hR2, hc2⟩
  have hreq2 := HAK1.out.req.ch hc2 (fun h => by have := h.2; omega)
  have hres2 := HAK1.out.res.ch hc2 (fun h => by have := h.2; omega)
  have HD2 := Lib.hid (And.intro hz2 (And.intro hS2 (And.intro hR2 (And.intro hc2 (And.intro hBB hps)))))
  clear a0 a1 a2 a3 a4 a5 a6 r0 r1 fr0 fr1 l0 l1 l2 hps hz2 hS2 hR2 hc2 hBB
  have a0 := hreq2.cell 0
  have a1 := hreq2.cell 1
  have r0 := hres2.cell 0
  have r1 := hres2.cell 1
  have fr0 := hres2.frozen 0
  have fr1 := hres2.frozen 1
  unfold RC at a0 a1
  simp only [List.getElem?_toArray, List.getElem?_cons_zero, List.getElem?_cons_succ] at r0 r1 a0 a1
  have HB2 := Lib.hid (And.intro hreq2 hres2)
  clear hreq2 hres2
  generalize he1 : (doesS s.L o).1.1 = ke at *
  generalize he2 : (doesS s.L o).1.2 = ko at *
  have HE12 := Lib.hid (And.intro he1 he2)
  clear he1 he2
  go_wp2_with fail
  have hb3 := op_below w2 (.cells #[.int .i64 ke, .int .i64 ko] 30)
  have hv3 : Blk (w2.alloc (.cells #[.int .i64 ke, .int .i64 ko] 30)) w2.heap.size 30 #[.int .i64 ke, .int .i64 ko] := Blk.new _ _ _
  generalize w2.alloc (.cells #[.int .i64 ke, .int .i64 ko] 30) = W3 at hb3 hv3 ⊢
  have hreq3 := HB2.out.1.below hb3 HB2.out.1.lt
  have hres3 := HB2.out.2.below hb3 HB2.out.2.lt
  have hz3 := HD2.out.1.later hb3
  obtain ⟨m3, D3, G3, V3, M3, F3, hP3⟩ := hz3
  have hi3 : i < (⟨(doesS s.L o).2.2, s.last⟩ : St).last.length := hi
  obtain ⟨u0, u1, u2, q0, q1, q2⟩ : ∃ u0 u1 u2, W3.cell? ⟨p, 1 + i * 3, none⟩ = some (.int .i64 u0) ∧ W3.cell? ⟨p, 1 + i * 3 + 1, none⟩ = some (.int .i64 u1) ∧ W3.cell? ⟨p, 1 + i * 3 + 2, none⟩ = some (.int .i64 u2) := ⟨_, _, _, hP3.cellA hi3⟩
  have fq0 := hP3.blk.frozen (1 + i * 3)
  have fq1 := hP3.blk.frozen (1 + i * 3 + 1)
  have fq2 := hP3.blk.frozen (1 + i * 3 + 2)
  clear a0 a1 r0 r1 fr0 fr1
  have a0 := hreq3.cell 0
  have a1 := hreq3.cell 1
  have m0 := hv3.cell 0
  have m1 := hv3.cell 1
  unfold RC at a0 a1
  simp only [List.getElem?_toArray, List.getElem?_cons_zero, List.getElem?_cons_succ] at a0 a1 m0 m1
  have HB3 := Lib.hid (And.intro hreq3 (And.intro hres3 (And.intro hb3 hv3)))
  have HP3 := Lib.hid hP3
  clear hreq3 hres3 hb3 hv3 hP3 hi3
  go_region_law (fail)
  all_goals
    have hpw : p < w.heap.size := by
      obtain ⟨m', D', G', V', M', F', h'⟩ := HZ.out
      exact h'.blk.lt
    have hz4 := tz_last HP3.out.shut hi8 ⟨time, ke, ko⟩ HGS.out
    have c4 := three_ch W3 p (1 + i * 3) (1 + i * 3 + 1) (1 + i * 3 + 2) (.int .i64 time) (.int .i64 ke) (.int .i64 ko)
    generalize ((W3.setCell ⟨p, 1 + i * 3, none⟩ (.int .i64 time)).setCell ⟨p, 1 + i * 3 + 1, none⟩ (.int .i64 ke)).setCell ⟨p, 1 + i * 3 + 2, none⟩ (.int .i64 ko) = W4 at hz4 c4 ⊢
    have hw2 := HAK1.out.below.size
    have hw3 := HD2.out.2.2.2.1.size
    have hv4 := HB3.out.2.2.2.ch c4 (by omega)
    have hres4 := HB3.out.2.1.ch c4 (by omega)
    clear a0 a1 m0 m1 q0 q1 q2 fq0 fq1 fq2
    have hz4' : Tz W4.drew S2 R2 p _ := hz4.ch (ch_drew (Ch.refl (fun _ => False) W4)) (fun _ _ h => h) (fun _ _ h => h)
    have c4' := ch_drew c4
    have hv4' : Blk W4.drew _ _ _ := hv4
    have hres4' : Blk W4.drew _ _ _ := hres4
    clear hz4 c4 hv4 hres4
    generalize W4.drew = W5 at hz4' c4' hv4' hres4' ⊢
    have m0 := hv4'.cell 0
    have m1 := hv4'.cell 1
    have r0 := hres4'.cell 0
    have r1 := hres4'.cell 1
    have fr0 := hres4'.frozen 0
    have fr1 := hres4'.frozen 1
    simp only [List.getElem?_toArray, List.getElem?_cons_zero, List.getElem?_cons_succ] at m0 m1 r0 r1
    have H4 := Lib.hid (And.intro hz4' (And.intro c4' hres4'))
    have HPW := Lib.hid (And.intro hpw (And.intro hw2 hw3))
    clear hz4' c4' hv4' hres4' hpw hw2 hw3
    go_wp2_with fail
    refine bodyPost_ret (results_row_tmp2 rfl _ _ (w.heap.size + 1) 30 #[.int .i64 ke, .int .i64 ko] (0, 0) _ rfl (blk2 H4.out.2.2 _ _) Tryz.underlying30 rfl Ai.size_res) rfl ?_
    exact asked_of (by rw [HAP.out, ← HE12.out.1, ← HE12.out.2]) (Nat.le_trans HPW.out.2.1 HD2.out.2.2.2.2.1) (apply_ps HPW.out.1 HAK1.out HD2.out.2.2.2.2.1 HD2.out.2.2.2.2.2 HD2.out.2.2.2.1 HB3.out.2.2.1 H4.out.2.1) (apply_fin HZ.out HPW.out.1 HAK1.out HD2.out.2.1 HD2.out.2.2.1 HD2.out.2.2.2.1 HB3.out.2.2.1 H4.out.2.1 H4.out.1)
theorem apply_any (w : World) (S R : Nat → Prop) (p : Nat) (s : St) (client time : Int) (o : O) (X : Nat → Prop) (A : Option Addr) (c : Nat) (h : Tz w S R p s) (hls : Ls w X (.slice A o.recs.length c) o.recs) (hl : o.recs.length ≤ 140737488355328) :
    Calls Tryz.prog 7 #[.pointer (some ⟨p, 0, none⟩), RV client time o A c] w (Asked S R p s client time o w) := by
  by_cases hb : badArg client time = true
  · exact apply_bad w S R p s client time o A c hb h
  · have hb := Bool.eq_false_iff.2 hb
    by_cases hle : time ≤ (s.last.getD client.toNat An.zero).time
    · exact apply_old w S R p s client time o A c hb hle h
    · exact apply_new w S R p s client time o X A c hb (by omega) h hls hl
end Go.Proofs.YtkoedonllfmaaaaGreat.Al

/-
  The plain mathematics of layer 7 (topics): what is asked of topics.
-/
namespace Go.Proofs.YtkoedonllfmaaaaGreat.To
set_option linter.unusedSimpArgs false
set_option linter.unusedVariables false
open Cm Pm Pz Tm Tn Tq
/-- What Bounds answers. -/
def boundsT (L : List Tp) (s : Tx) : Int × Int × Int := match findT L s with
  | none => (0, 0, 4)
  | some t => (t.base, t.next, 0)
/-- What Get answers. -/
def getT (L : List Tp) (s : Tx) (k : Int) : Tx × Int := match findT L s with
  | none => ([], 4)
  | some t => if k < t.base ∨ t.next ≤ k then ([], 72) else (t.recs.getD (k - t.base).toNat [], 0)
/-- What Committed answers. -/
def commT (L : List Tp) (s g : Tx) : Int × Int := match findT L s with
  | none => (0, 4)
  | some t => match pos t.gs g with
    | none => (0, 4)
    | some k => (k, 0)
end Go.Proofs.YtkoedonllfmaaaaGreat.To

/-
  Contract of the program's topics: Apply.
-/
import Derived.Test.YtcmknopgoiabbaaAi
namespace Go.Proofs.Ytcmknopgoiabbaa.Aj
set_option linter.unusedSimpArgs false
open Go Go.RowKit Ck Kw Ga Kf Km Kd Pm Pz Pe Pg Py Qb Qg Tm Tn Tq Aa Ab Ac Ad Ae Af Ag Ah Ai
attribute [local go_sem ↓] Go.wp_at_zero Go.wp_at_succ
set_option linter.unusedVariables false

/-- A request as a value. -/
def RC (client time : Int) (o : O) (A : Option Addr) (c : Nat) : Array Value := #[.int .i64 client, .int .i64 time, .int .i64 o.kind, .string ⟨o.topic.toArray⟩, .string ⟨o.group.toArray⟩, .int .i64 o.off, .slice A o.recs.length c]
def RV (client time : Int) (o : O) (A : Option Addr) (c : Nat) : Value := .agg (RC client time o A c)
theorem acs_set (l : List An) (i : Nat) (hi : i < l.length) (a : An) : (((ACs l).set (i * 3) (.int .i64 a.time)).set (i * 3 + 1) (.int .i64 a.err)).set (i * 3 + 2) (.int .i64 a.off) = ACs (l.set i a) := by
  unfold ACs
  have e1 := flat_set AC_len l i hi (⟨a.time, l[i].err, l[i].off⟩ : An) 0 (by omega) (.int .i64 a.time) rfl
  rw [Nat.add_zero] at e1
  rw [e1]
  have e2 := flat_set AC_len (l.set i (⟨a.time, l[i].err, l[i].off⟩ : An)) i (by simpa using hi) (⟨a.time, a.err, l[i].off⟩ : An) 1 (by omega) (.int .i64 a.err) (by simp [AC])
  rw [e2]
  have e3 := flat_set AC_len ((l.set i (⟨a.time, l[i].err, l[i].off⟩ : An)).set i (⟨a.time, a.err, l[i].off⟩ : An)) i (by simpa using hi) a 2 (by omega) (.int .i64 a.off) (by simp [AC])
  rw [e3]
  simp
theorem tz_last {w : World} {S R : Nat → Prop} {p : Nat} {s : St} (h : Tz w S R p s) {i : Nat} (hi : i < 8) (a : An) (hg : GoodS ⟨s.L, s.last.set i a⟩) :
    Tz (((w.setCell ⟨p, 1 + i * 3, none⟩ (.int .i64 a.time)).setCell ⟨p, 1 + i * 3 + 1, none⟩ (.int .i64 a.err)).setCell ⟨p, 1 + i * 3 + 2, none⟩ (.int .i64 a.off)) S R p ⟨s.L, s.last.set i a⟩ := by
  obtain ⟨m, D, G, V, M, F, h⟩ := h
  have h8 := h.good.eight
  have c : Ch (fun k => k = p) w (((w.setCell ⟨p, 1 + i * 3, none⟩ (.int .i64 a.time)).setCell ⟨p, 1 + i * 3 + 1, none⟩ (.int .i64 a.err)).setCell ⟨p, 1 + i * 3 + 2, none⟩ (.int .i64 a.off)) :=
    (((Ch.refl (fun k => k = p) w).setCell (p := ⟨p, 1 + i * 3, none⟩) (fun _ => rfl) _).setCell (p := ⟨p, 1 + i * 3 + 1, none⟩) (fun _ => rfl) _).setCell (p := ⟨p, 1 + i * 3 + 2, none⟩) (fun _ => rfl) _
  have hb := ((h.blk.set_ (1 + i * 3) (.int .i64 a.time)).set_ (1 + i * 3 + 1) (.int .i64 a.err)).set_ (1 + i * 3 + 2) (.int .i64 a.off)
  have e : ((((Value.map (some m) :: ACs s.last).toArray.setIfInBounds (1 + i * 3) (.int .i64 a.time)).setIfInBounds (1 + i * 3 + 1) (.int .i64 a.err)).setIfInBounds (1 + i * 3 + 2) (.int .i64 a.off)) = (Value.map (some m) :: ACs (s.last.set i a)).toArray := by
    rw [← acs_set s.last i (by omega) a]
    simp only [List.setIfInBounds_toArray]
    rw [show 1 + i * 3 + 2 = (i * 3 + 2) + 1 by omega, show 1 + i * 3 + 1 = (i * 3 + 1) + 1 by omega, show 1 + i * 3 = i * 3 + 1 by omega]
    simp only [List.set_cons_succ]
  rw [e] at hb
  exact ⟨m, D, G, V, M, F, hb, h.sp, map_ch h.own c h.sm.2, h.tells, h.sm, fun t ht => (h.top t ht).ch c (fun k hk e => (h.sub t ht k hk).2.1 e) (fun k hk e => (h.rs k hk).1 (by rw [e]; exact h.sp)), fun t ht k hk => ⟨(h.sub t ht k hk).1, (h.sub t ht k hk).2.1, (h.sub t ht k hk).2.2.1, Nat.lt_of_lt_of_le (h.sub t ht k hk).2.2.2 c.size⟩, h.apart, fun k hk => ⟨(h.rs k hk).1, Nat.lt_of_lt_of_le (h.rs k hk).2 c.size⟩, hg⟩
/-- Three results, the first a struct in a cell of its own. -/
theorem results_row_tmp2 {P : Program} {fn : Func} {p q r : Tmp} {ty : TypeId} (h : fn.results = #[.cell p ty, .tmp q, .tmp r]) (tmps : Array Value) (w : World) (g : Nat) (t : TypeId) (cs : Array Value) (fr : Nat × Nat) (d : TypeDesc)
    (hp : tmps.getD p undef = .pointer (some ⟨g, 0, none⟩)) (hg : w.heap[g]? = some (.cells cs t fr))
    (hu : P.underlying ty = some d) (hd : (match d with | .struct _ | .array _ _ => true | _ => false) = true) (hi : (P.info? ty).map (·.size) = some cs.size) :
    (results fn tmps).run P w = .ok (.tuple #[.agg cs, tmps.getD q undef, tmps.getD r undef]) w := by
  have hp' : tmps[p]?.getD undef = .pointer (some ⟨g, 0, none⟩) := by simpa using hp
  simp [results, h, hp', asAddr, run_loadVar_row w g t ty cs fr d hg hu hd hi]
/-- What Apply leaves. -/
def Asked (S R : Nat → Prop) (p : Nat) (s : St) (client time : Int) (o : O) (w : World) (e : Ending) (w' : World) : Prop :=
  ∃ v B, e = .returned (.tuple #[.agg #[.int .i64 (appS s client time o).1.1, .int .i64 (appS s client time o).1.2], v, .bool (appS s client time o).2.2.1]) ∧ w.heap.size ≤ B ∧ Ps w' B v (appS s client time o).2.1 ∧ Applied S R p (appS s client time o).2.2.2 B w w'
theorem asked_of {w w' : World} {S R : Nat → Prop} {p : Nat} {s s' : St} {client time : Int} {o : O} {k off : Int} {b : Bool} {v : Value} {pl : List (Tx × Int × Tx)} (h : appS s client time o = ((k, off), pl, b, s')) {B : Nat} (hB : w.heap.size ≤ B) (h4 : Ps w' B v pl) (h5 : Applied S R p s' B w w') :
    Asked S R p s client time o w (.returned (.tuple #[.agg #[.int .i64 k, .int .i64 off], v, .bool b])) w' := by
  unfold Asked
  rw [h]
  exact ⟨v, B, rfl, hB, h4, h5⟩
/-- Apply's own blocks. -/
structure AK (w : World) (client time : Int) (o : O) (A : Option Addr) (c : Nat) (W : World) : Prop where
  below : Below w.heap.size w W
  req : Blk W w.heap.size 31 (RC client time o A c)
  res : Blk W (w.heap.size + 1) 34 #[.int .i64 0, .int .i64 0]
theorem AK.later {w W W' : World} {client time : Int} {o : O} {A : Option Addr} {c : Nat} (h : AK w client time o A c W) (b : Below W.heap.size W W') : AK w client time o A c W' := ⟨h.below.trans (b.mono h.below.size), h.req.below b h.req.lt, h.res.below b h.res.lt⟩
theorem ak_new (w : World) (client time : Int) (o : O) (A : Option Addr) (c : Nat) : AK w client time o A c ((w.alloc (.cells (RC client time o A c) 31)).alloc (.cells #[.int .i64 0, .int .i64 0] 34)) := by
  have hz : (w.alloc (.cells (RC client time o A c) 31)).heap.size = w.heap.size + 1 := by simp
  have h1 : Blk (w.alloc (.cells (RC client time o A c) 31)) w.heap.size 31 (RC client time o A c) := Blk.new _ _ _
  exact ⟨(op_below w _).trans ((op_below _ _).mono (by omega)), h1.below (op_below _ _) (by omega), by rw [← hz]; exact Blk.new _ _ _⟩
theorem AK.cells {w W : World} {client time : Int} {o : O} {A : Option Addr} {c : Nat} (h : AK w client time o A c W) : W.cell? ⟨w.heap.size, 0, none⟩ = some (.int .i64 client) ∧ W.cell? ⟨w.heap.size, 1, none⟩ = some (.int .i64 time) ∧ W.cell? ⟨w.heap.size, 2, none⟩ = some (.int .i64 o.kind) ∧ W.cell? ⟨w.heap.size, 3, none⟩ = some (.string ⟨o.topic.toArray⟩) ∧ W.cell? ⟨w.heap.size, 4, none⟩ = some (.string ⟨o.group.toArray⟩) ∧ W.cell? ⟨w.heap.size, 5, none⟩ = some (.int .i64 o.off) ∧ W.cell? ⟨w.heap.size, 6, none⟩ = some (.slice A o.recs.length c) :=
  ⟨h.req.cell 0, h.req.cell 1, h.req.cell 2, h.req.cell 3, h.req.cell 4, h.req.cell 5, h.req.cell 6⟩
theorem AK.rcells {w W : World} {client time : Int} {o : O} {A : Option Addr} {c : Nat} (h : AK w client time o A c W) : W.cell? ⟨w.heap.size + 1, 0, none⟩ = some (.int .i64 0) ∧ W.cell? ⟨w.heap.size + 1, 1, none⟩ = some (.int .i64 0) ∧ W.frozen? ⟨w.heap.size + 1, 0, none⟩ = false ∧ W.frozen? ⟨w.heap.size + 1, 1, none⟩ = false :=
  ⟨h.res.cell 0, h.res.cell 1, h.res.frozen 0, h.res.frozen 1⟩
theorem two_below (w : World) (x y : Obj) : Below w.heap.size w ((w.alloc x).alloc y) := (op_below w x).trans ((op_below _ y).mono (by simp))
set_option maxRecDepth 100000 in
set_option maxHeartbeats 1000000 in
theorem apply_bad (w : World) (S R : Nat → Prop) (p : Nat) (s : St) (client time : Int) (o : O) (A : Option Addr) (c : Nat) (hb : badArg client time = true) (h : Tz w S R p s) :
    Calls Try.prog 7 #[.pointer (some ⟨p, 0, none⟩), RV client time o A c] w (Asked S R p s client time o w) := by
  have hak := ak_new w client time o A c
  have HAK := Lib.hid hak
  have HZ := Lib.hid h
  have HM := Lib.hid (made_on _ S R p s (h.later (HAK.out.below.mono (Nat.le_refl _))))
  have HAP : Hid (appS s client time o = ((1, 0), [], false, s)) := Lib.hid (by rw [appS, if_pos hb])
  obtain ⟨a0, a1, a2, a3, a4, a5, a6⟩ := hak.cells
  obtain ⟨r0, r1, fr0, fr1⟩ := hak.rcells
  clear hak h
  simp only [badArg, Bool.or_eq_true, decide_eq_true_eq] at hb
  unfold RV
  unfold RC at HAK HM a0 a1 a2 a3 a4 a5 a6 r0 r1 fr0 fr1 ⊢
  by_cases hcl : (decide (0 ≤ client) && decide (client < 8)) = true
  · simp only [Bool.and_eq_true, decide_eq_true_eq] at hcl
    by_cases ht : time < 1
    · clear hb
      go_enter Try.func7, Try.ntmps7
      go_wp2_with fail
      refine HM.out.mono ?_
      rintro e w1 ⟨rfl, rfl⟩
      go_wp2_with fail
      refine (client_any _ client).mono ?_
      rintro e w1 ⟨rfl, rfl⟩
      go_wp2_with fail
      refine bodyPost_ret (results_row_tmp2 rfl _ _ (w.heap.size + 1) 34 #[.int .i64 1, .int .i64 0] (0, 0) _ rfl (Blk.new_at (by simp) rfl) Try.underlying34 rfl Ai.size_res) rfl ?_
      exact asked_of HAP.out (Nat.le_refl _) (Ps.nil _ _) (applied_refl HZ.out (two_below _ _ _))
    · have ht2 : 9007199254740992 < time := by simp only [maxNum] at hb; omega
      clear hb ht
      have ht3 : 1 ≤ time := by omega
      go_enter Try.func7, Try.ntmps7
      go_wp2_with fail
      refine HM.out.mono ?_
      rintro e w1 ⟨rfl, rfl⟩
      go_wp2_with fail
      refine (client_any _ client).mono ?_
      rintro e w1 ⟨rfl, rfl⟩
      go_wp2_with fail
      refine bodyPost_ret (results_row_tmp2 rfl _ _ (w.heap.size + 1) 34 #[.int .i64 1, .int .i64 0] (0, 0) _ rfl (Blk.new_at (by simp) rfl) Try.underlying34 rfl Ai.size_res) rfl ?_
      exact asked_of HAP.out (Nat.le_refl _) (Ps.nil _ _) (applied_refl HZ.out (two_below _ _ _))
  · have hcl' : (decide (0 ≤ client) && decide (client < 8)) = false := Bool.eq_false_iff.2 hcl
    have HCN : ∀ W : World, Hid (Calls Try.prog 14 #[.int .i64 client] W fun e w' => e = .returned (.bool false) ∧ W = w') := fun W => Lib.hid (by rw [← hcl']; exact client_any W client)
    clear hcl hcl' hb
    go_enter Try.func7, Try.ntmps7
    go_wp2_with fail
    refine HM.out.mono ?_
    rintro e w1 ⟨rfl, rfl⟩
    go_wp2_with fail
    refine (HCN _).out.mono ?_
    rintro e w1 ⟨rfl, rfl⟩
    go_wp2_with fail
    refine bodyPost_ret (results_row_tmp2 rfl _ _ (w.heap.size + 1) 34 #[.int .i64 1, .int .i64 0] (0, 0) _ rfl (Blk.new_at (by simp) rfl) Try.underlying34 rfl Ai.size_res) rfl ?_
    exact asked_of HAP.out (Nat.le_refl _) (Ps.nil _ _) (applied_refl HZ.out (two_below _ _ _))

set_option maxRecDepth 100000 in
set_option maxHeartbeats 1000000 in
theorem apply_old (w : World) (S R : Nat → Prop) (p : Nat) (s : St) (client time : Int) (o : O) (A : Option Addr) (c : Nat) (hb : badArg client time = false) (hle : time ≤ (s.last.getD client.toNat An.zero).time) (h : Tz w S R p s) :
    Calls Try.prog 7 #[.pointer (some ⟨p, 0, none⟩), RV client time o A c] w (Asked S R p s client time o w) := by
  have hak := ak_new w client time o A c
  have HAK := Lib.hid hak
  have HZ := Lib.hid h
  have hz1 := h.later (HAK.out.below.mono (Nat.le_refl _))
  have HM := Lib.hid (made_on _ S R p s hz1)
  obtain ⟨c0, c1, t0, t1⟩ := badArg_no (by rw [hb]; simp)
  obtain ⟨m, D, G, V, M, F, hP⟩ := hz1
  have hlen := hP.len8
  obtain ⟨i, rfl⟩ : ∃ i : Nat, client = (i : Int) := ⟨client.toNat, by omega⟩
  have hi : i < s.last.length := by omega
  obtain ⟨q0, q1, q2⟩ := hP.cellA hi
  have hg : s.last.getD (Int.toNat (i : Int)) An.zero = s.last[i] := by rw [Int.toNat_natCast, List.getD_eq_getElem?_getD, List.getElem?_eq_getElem hi]; rfl
  rw [hg] at hle
  have HAP : Hid (appS s i time o = if time = s.last[i].time then ((s.last[i].err, s.last[i].off), [], false, s) else ((7, 0), [], false, s)) := Lib.hid (by
    rw [appS, if_neg (by rw [hb]; simp)]
    simp only [hg]
    split
    · rfl
    · rw [if_pos (by omega)])
  obtain ⟨a0, a1, a2, a3, a4, a5, a6⟩ := hak.cells
  obtain ⟨r0, r1, fr0, fr1⟩ := hak.rcells
  simp only [maxNum] at t1
  have hcl : (decide (0 ≤ (i : Int)) && decide ((i : Int) < 8)) = true := by simp; omega
  have HCN : ∀ W : World, Hid (Calls Try.prog 14 #[.int .i64 (i : Int)] W fun e w' => e = .returned (.bool true) ∧ W = w') := fun W => Lib.hid (by rw [← hcl]; exact client_any W i)
  have hi8 : i < 8 := by omega
  clear hak h hP hb hg hcl hlen
  generalize s.last[i] = a at *
  obtain ⟨at', ae, ao⟩ := a
  simp only at q0 q1 q2 hle HAP
  unfold RV
  unfold RC at HAK HM a0 a1 a2 a3 a4 a5 a6 r0 r1 fr0 fr1 q0 q1 q2 ⊢
  by_cases he : time = at'
  · subst he
    rw [if_pos rfl] at HAP
    go_enter Try.func7, Try.ntmps7
    go_wp2_with fail
    refine HM.out.mono ?_
    rintro e w1 ⟨rfl, rfl⟩
    go_wp2_with fail
    refine (HCN _).out.mono ?_
    rintro e w1 ⟨rfl, rfl⟩
    go_wp2_with fail
    generalize (w.alloc (.cells #[.int .i64 (i : Int), .int .i64 time, .int .i64 o.kind, .string ⟨o.topic.toArray⟩, .string ⟨o.group.toArray⟩, .int .i64 o.off, .slice A o.recs.length c] 31)).alloc (.cells #[.int .i64 0, .int .i64 0] 34) = W0 at *
    go_region_held3 (fun w' => w'.cell? ⟨w.heap.size, 0, none⟩ = some (.int .i64 (i : Int)) ∧ w'.cell? ⟨p, 1 + i * 3, none⟩ = some (.int .i64 time) ∧ w'.cell? ⟨p, 1 + i * 3 + 1, none⟩ = some (.int .i64 ae) ∧ w'.cell? ⟨p, 1 + i * 3 + 2, none⟩ = some (.int .i64 ao)) (first | exact ⟨a0, q0, q1, q2⟩ | go_keep) (fail)
    have hb1 : Below W0.heap.size W0 (W0.alloc (.cells #[.int .i64 time, .int .i64 ae, .int .i64 ao] 54)).drew := below_drewN (op_below _ _) 1
    have hl1 : Blk (W0.alloc (.cells #[.int .i64 time, .int .i64 ae, .int .i64 ao] 54)).drew W0.heap.size 54 #[.int .i64 time, .int .i64 ae, .int .i64 ao] := Blk.new _ _ _
    have HAK1 := Lib.hid (HAK.out.later hb1)
    generalize (W0.alloc (.cells #[.int .i64 time, .int .i64 ae, .int .i64 ao] 54)).drew = W1 at *
    clear a0 a1 a2 a3 a4 a5 a6 r0 r1 fr0 fr1 q0 q1 q2
    obtain ⟨a0, a1, a2, a3, a4, a5, a6⟩ := AK.cells HAK1.out
    obtain ⟨r0, r1, fr0, fr1⟩ := AK.rcells HAK1.out
    have l0 := hl1.cell 0
    have l1 := hl1.cell 1
    have l2 := hl1.cell 2
    simp only [List.getElem?_toArray, List.getElem?_cons_zero, List.getElem?_cons_succ] at l0 l1 l2
    have HB1 := Lib.hid (And.intro hb1 hl1)
    clear hb1 hl1
    go_wp2_with fail
    refine bodyPost_ret (results_row_tmp2 rfl _ _ (w.heap.size + 1) 34 #[.int .i64 ae, .int .i64 ao] (0, 0) _ rfl (blk2 HAK1.out.res _ _) Try.underlying34 rfl Ai.size_res) rfl ?_
    exact asked_of HAP.out (Nat.le_refl _) (Ps.nil _ _) (applied_refl HZ.out (below2 HAK1.out.below (by omega) _ _))
  · rw [if_neg he] at HAP
    have hlt : time < at' := by omega
    have heb : (time == at') = false := beq_eq_false_iff_ne.2 he
    clear hle he
    go_enter Try.func7, Try.ntmps7
    go_wp2_with fail
    refine HM.out.mono ?_
    rintro e w1 ⟨rfl, rfl⟩
    go_wp2_with fail
    refine (HCN _).out.mono ?_
    rintro e w1 ⟨rfl, rfl⟩
    go_wp2_with fail
    generalize (w.alloc (.cells #[.int .i64 (i : Int), .int .i64 time, .int .i64 o.kind, .string ⟨o.topic.toArray⟩, .string ⟨o.group.toArray⟩, .int .i64 o.off, .slice A o.recs.length c] 31)).alloc (.cells #[.int .i64 0, .int .i64 0] 34) = W0 at *
    go_region_held3 (fun w' => w'.cell? ⟨w.heap.size, 0, none⟩ = some (.int .i64 (i : Int)) ∧ w'.cell? ⟨p, 1 + i * 3, none⟩ = some (.int .i64 at') ∧ w'.cell? ⟨p, 1 + i * 3 + 1, none⟩ = some (.int .i64 ae) ∧ w'.cell? ⟨p, 1 + i * 3 + 2, none⟩ = some (.int .i64 ao)) (first | exact ⟨a0, q0, q1, q2⟩ | go_keep) (fail)
    have hb1 : Below W0.heap.size W0 (W0.alloc (.cells #[.int .i64 at', .int .i64 ae, .int .i64 ao] 54)).drew := below_drewN (op_below _ _) 1
    have hl1 : Blk (W0.alloc (.cells #[.int .i64 at', .int .i64 ae, .int .i64 ao] 54)).drew W0.heap.size 54 #[.int .i64 at', .int .i64 ae, .int .i64 ao] := Blk.new _ _ _
    have HAK1 := Lib.hid (HAK.out.later hb1)
    generalize (W0.alloc (.cells #[.int .i64 at', .int .i64 ae, .int .i64 ao] 54)).drew = W1 at *
    clear a0 a1 a2 a3 a4 a5 a6 r0 r1 fr0 fr1 q0 q1 q2
    obtain ⟨a0, a1, a2, a3, a4, a5, a6⟩ := AK.cells HAK1.out
    obtain ⟨r0, r1, fr0, fr1⟩ := AK.rcells HAK1.out
    have l0 := hl1.cell 0
    have l1 := hl1.cell 1
    have l2 := hl1.cell 2
    simp only [List.getElem?_toArray, List.getElem?_cons_zero, List.getElem?_cons_succ] at l0 l1 l2
    have HB1 := Lib.hid (And.intro hb1 hl1)
    clear hb1 hl1
    go_wp2_with fail
    refine bodyPost_ret (results_row_tmp2 rfl _ _ (w.heap.size + 1) 34 #[.int .i64 7, .int .i64 0] (0, 0) _ rfl (blk2 HAK1.out.res _ _) Try.underlying34 rfl Ai.size_res) rfl ?_
    exact asked_of HAP.out (Nat.le_refl _) (Ps.nil _ _) (applied_refl HZ.out (below2 HAK1.out.below (by omega) _ _))
end Go.Proofs.Ytcmknopgoiabbaa.Aj

/-
  Contract of the program's topics: Apply.
-/
import Derived.Test.YtobphijbhghgmaaGreatO09
import Derived.Test.YtobphijbhghgmaaGreatO07
import Derived.Test.YtobphijbhghgmaaGreatO08
import Derived.Test.YtobphijbhghgmaaGreatO04
import Derived.Deep.QuietTactic
import Derived.BigQuiet
import Derived.RegionTactic
import Derived.Lib.ConvBytes
import Derived.BigRegion
import Derived.Shelf.SlMaps.Clone
namespace Go.Proofs.YtobphijbhghgmaaGreat.Aj
set_option linter.unusedSimpArgs false
open Go Go.RowKit Ck Kw Ga Kf Km Kd Pm Pz Pe Pg Py Qb Qg Tm Tn Tq Aa Ab Ac Ad Ae Af Ag Ah Ai
attribute [local go_sem ↓] Go.wp_at_zero Go.wp_at_succ
set_option linter.unusedVariables false

/-- A request as a value. -/
def RC (client time : Int) (o : O) (A : Option Addr) (c : Nat) : Array Value := #[.int .i64 client, .int .i64 time, .int .i64 o.kind, .string ⟨o.topic.toArray⟩, .string ⟨o.group.toArray⟩, .int .i64 o.off, .slice A o.recs.length c]
def RV (client time : Int) (o : O) (A : Option Addr) (c : Nat) : Value := .agg (RC client time o A c)
theorem acs_set (l : List An) (i : Nat) (hi : i < l.length) (a : An) : (((ACs l).set (i * 3) (.int .i64 a.time)).set (i * 3 + 1) (.int .i64 a.err)).set (i * 3 + 2) (.int .i64 a.off) = ACs (l.set i a) := by
  unfold ACs
  have e1 := flat_set AC_len l i hi (⟨a.time, l[i].err, l[i].off⟩ : An) 0 (by omega) (.int .i64 a.time) rfl
  rw [Nat.add_zero] at e1
  rw [e1]
  have e2 := flat_set AC_len (l.set i (⟨a.time, l[i].err, l[i].off⟩ : An)) i (by simpa using hi) (⟨a.time, a.err, l[i].off⟩ : An) 1 (by omega) (.int .i64 a.err) (by simp [AC])
  rw [e2]
  have e3 := flat_set AC_len ((l.set i (⟨a.time, l[i].err, l[i].off⟩ : An)).set i (⟨a.time, a.err, l[i].off⟩ : An)) i (by simpa using hi) a 2 (by omega) (.int .i64 a.off) (by simp [AC])
  rw [e3]
  simp
theorem tz_last {w : World} {S R : Nat → Prop} {p : Nat} {s : St} (h : Tz w S R p s) {i : Nat} (hi : i < 8) (a : An) (hg : GoodS ⟨s.L, s.last.set i a⟩) :
    Tz (((w.setCell ⟨p, 1 + i * 3, none⟩ (.int .i64 a.time)).setCell ⟨p, 1 + i * 3 + 1, none⟩ (.int .i64 a.err)).setCell ⟨p, 1 + i * 3 + 2, none⟩ (.int .i64 a.off)) S R p ⟨s.L, s.last.set i a⟩ := by
  obtain ⟨m, D, G, V, M, F, h⟩ := h
  have h8 := h.good.eight
  have c : Ch (fun k => k = p) w (((w.setCell ⟨p, 1 + i * 3, none⟩ (.int .i64 a.time)).setCell ⟨p, 1 + i * 3 + 1, none⟩ (.int .i64 a.err)).setCell ⟨p, 1 + i * 3 + 2, none⟩ (.int .i64 a.off)) :=
    (((Ch.refl (fun k => k = p) w).setCell (p := ⟨p, 1 + i * 3, none⟩) (fun _ => rfl) _).setCell (p := ⟨p, 1 + i * 3 + 1, none⟩) (fun _ => rfl) _).setCell (p := ⟨p, 1 + i * 3 + 2, none⟩) (fun _ => rfl) _
  have hb := ((h.blk.set_ (1 + i * 3) (.int .i64 a.time)).set_ (1 + i * 3 + 1) (.int .i64 a.err)).set_ (1 + i * 3 + 2) (.int .i64 a.off)
  have e : ((((Value.map (some m) :: ACs s.last).toArray.setIfInBounds (1 + i * 3) (.int .i64 a.time)).setIfInBounds (1 + i * 3 + 1) (.int .i64 a.err)).setIfInBounds (1 + i * 3 + 2) (.int .i64 a.off)) = (Value.map (some m) :: ACs (s.last.set i a)).toArray := by
    rw [← acs_set s.last i (by omega) a]
    simp only [List.setIfInBounds_toArray]
    rw [show 1 + i * 3 + 2 = (i * 3 + 2) + 1 by omega, show 1 + i * 3 + 1 = (i * 3 + 1) + 1 by omega, show 1 + i * 3 = i * 3 + 1 by omega]
    simp only [List.set_cons_succ]
  rw [e] at hb
  exact ⟨m, D, G, V, M, F, hb, h.sp, map_ch h.own c h.sm.2, h.tells, h.sm, fun t ht => (h.top t ht).ch c (fun k hk e => (h.sub t ht k hk).2.1 e) (fun k hk e => (h.rs k hk).1 (by rw [e]; exact h.sp)), fun t ht k hk => ⟨(h.sub t ht k hk).1, (h.sub t ht k hk).2.1, (h.sub t ht k hk).2.2.1, Nat.lt_of_lt_of_le (h.sub t ht k hk).2.2.2 c.size⟩, h.apart, fun k hk => ⟨(h.rs k hk).1, Nat.lt_of_lt_of_le (h.rs k hk).2 c.size⟩, hg⟩
/-- Three results, the first a struct in a cell of its own. -/
theorem results_row_tmp2 {P : Program} {fn : Func} {p q r : Tmp} {ty : TypeId} (h : fn.results = #[.cell p ty, .tmp q, .tmp r]) (tmps : Array Value) (w : World) (g : Nat) (t : TypeId) (cs : Array Value) (fr : Nat × Nat) (d : TypeDesc)
    (hp : tmps.getD p undef = .pointer (some ⟨g, 0, none⟩)) (hg : w.heap[g]? = some (.cells cs t fr))
    (hu : P.underlying ty = some d) (hd : (match d with | .struct _ | .array _ _ => true | _ => false) = true) (hi : (P.info? ty).map (·.size) = some cs.size) :
    (results fn tmps).run P w = .ok (.tuple #[.agg cs, tmps.getD q undef, tmps.getD r undef]) w := by
  have hp' : tmps[p]?.getD undef = .pointer (some ⟨g, 0, none⟩) := by simpa using hp
  simp [results, h, hp', asAddr, run_loadVar_row w g t ty cs fr d hg hu hd hi]
/-- What Apply leaves. -/
def Asked (S R : Nat → Prop) (p : Nat) (s : St) (client time : Int) (o : O) (w : World) (e : Ending) (w' : World) : Prop :=
  ∃ v B, e = .returned (.tuple #[.agg #[.int .i64 (appS s client time o).1.1, .int .i64 (appS s client time o).1.2], v, .bool (appS s client time o).2.2.1]) ∧ w.heap.size ≤ B ∧ Ps w' B v (appS s client time o).2.1 ∧ Applied S R p (appS s client time o).2.2.2 B w w'
theorem asked_of {w w' : World} {S R : Nat → Prop} {p : Nat} {s s' : St} {client time : Int} {o : O} {k off : Int} {b : Bool} {v : Value} {pl : List (Tx × Int × Tx)} (h : appS s client time o = ((k, off), pl, b, s')) {B : Nat} (hB : w.heap.size ≤ B) (h4 : Ps w' B v pl) (h5 : Applied S R p s' B w w') :
    Asked S R p s client time o w (.returned (.tuple #[.agg #[.int .i64 k, .int .i64 off], v, .bool b])) w' := by
  unfold Asked
  rw [h]
  exact ⟨v, B, rfl, hB, h4, h5⟩
/-- Apply's own blocks. -/
structure AK (w : World) (client time : Int) (o : O) (A : Option Addr) (c : Nat) (W : World) : Prop where
  below : Below w.heap.size w W
  req : Blk W w.heap.size 100 (RC client time o A c)
  res : Blk W (w.heap.size + 1) 69 #[.int .i64 0, .int .i64 0]
theorem AK.later {w W W' : World} {client time : Int} {o : O} {A : Option Addr} {c : Nat} (h : AK w client time o A c W) (b : Below W.heap.size W W') : AK w client time o A c W' := ⟨h.below.trans (b.mono h.below.size), h.req.below b h.req.lt, h.res.below b h.res.lt⟩
theorem ak_new (w : World) (client time : Int) (o : O) (A : Option Addr) (c : Nat) : AK w client time o A c ((w.alloc (.cells (RC client time o A c) 100)).alloc (.cells #[.int .i64 0, .int .i64 0] 69)) := by
  have hz : (w.alloc (.cells (RC client time o A c) 100)).heap.size = w.heap.size + 1 := by simp
  have h1 : Blk (w.alloc (.cells (RC client time o A c) 100)) w.heap.size 100 (RC client time o A c) := Blk.new _ _ _
  exact ⟨(op_below w _).trans ((op_below _ _).mono (by omega)), h1.below (op_below _ _) (by omega), by rw [← hz]; exact Blk.new _ _ _⟩
theorem AK.cells {w W : World} {client time : Int} {o : O} {A : Option Addr} {c : Nat} (h : AK w client time o A c W) : W.cell? ⟨w.heap.size, 0, none⟩ = some (.int .i64 client) ∧ W.cell? ⟨w.heap.size, 1, none⟩ = some (.int .i64 time) ∧ W.cell? ⟨w.heap.size, 2, none⟩ = some (.int .i64 o.kind) ∧ W.cell? ⟨w.heap.size, 3, none⟩ = some (.string ⟨o.topic.toArray⟩) ∧ W.cell? ⟨w.heap.size, 4, none⟩ = some (.string ⟨o.group.toArray⟩) ∧ W.cell? ⟨w.heap.size, 5, none⟩ = some (.int .i64 o.off) ∧ W.cell? ⟨w.heap.size, 6, none⟩ = some (.slice A o.recs.length c) :=
  ⟨h.req.cell 0, h.req.cell 1, h.req.cell 2, h.req.cell 3, h.req.cell 4, h.req.cell 5, h.req.cell 6⟩
theorem AK.rcells {w W : World} {client time : Int} {o : O} {A : Option Addr} {c : Nat} (h : AK w client time o A c W) : W.cell? ⟨w.heap.size + 1, 0, none⟩ = some (.int .i64 0) ∧ W.cell? ⟨w.heap.size + 1, 1, none⟩ = some (.int .i64 0) ∧ W.frozen? ⟨w.heap.size + 1, 0, none⟩ = false ∧ W.frozen? ⟨w.heap.size + 1, 1, none⟩ = false :=
  ⟨h.res.cell 0, h.res.cell 1, h.res.frozen 0, h.res.frozen 1⟩
theorem two_below (w : World) (x y : Obj) : Below w.heap.size w ((w.alloc x).alloc y) := (op_below w x).trans ((op_below _ y).mono (by simp))
set_option maxRecDepth 100000 in
set_option maxHeartbeats 1000000 in
theorem apply_bad (w : World) (S R : Nat → Prop) (p : Nat) (s : St) (client time : Int) (o : O) (A : Option Addr) (c : Nat) (hb : badArg client time = true) (h : Tz w S R p s) :
    Calls Tryz.prog 70 #[.pointer (some ⟨p, 0, none⟩), RV client time o A c] w (Asked S R p s client time o w) := by
  have hak := ak_new w client time o A c
  have HAK := Lib.hid hak
  have HZ := Lib.hid h
  have HM := Lib.hid (made_on _ S R p s (h.later (HAK.out.below.mono (Nat.le_refl _))))
  have HAP : Hid (appS s client time o = ((1, 0), [], false, s)) := Lib.hid (by rw [appS, if_pos hb])
  obtain ⟨a0, a1, a2, a3, a4, a5, a6⟩ := hak.cells
  obtain ⟨r0, r1, fr0, fr1⟩ := hak.rcells
  clear hak h
  simp only [badArg, Bool.or_eq_true, decide_eq_true_eq] at hb
  unfold RV
  unfold RC at HAK HM a0 a1 a2 a3 a4 a5 a6 r0 r1 fr0 fr1 ⊢
  by_cases hcl : (decide (0 ≤ client) && decide (client < 8)) = true
  · simp only [Bool.and_eq_true, decide_eq_true_eq] at hcl
    by_cases ht : time < 1
    · clear hb
      go_enter Tryz.func70, Tryz.ntmps70
      go_wp2_with fail
      refine HM.out.mono ?_
      rintro e w1 ⟨rfl, rfl⟩
      go_wp2_with fail
      refine (client_any _ client).mono ?_
      rintro e w1 ⟨rfl, rfl⟩
      go_wp2_with fail
      refine bodyPost_ret (results_row_tmp2 rfl _ _ (w.heap.size + 1) 69 #[.int .i64 1, .int .i64 0] (0, 0) _ rfl (Blk.new_at (by simp) rfl) Tryz.underlying69 rfl Ai.size_res) rfl ?_
      exact asked_of HAP.out (Nat.le_refl _) (Ps.nil _ _) (applied_refl HZ.out (two_below _ _ _))
    · have ht2 : 9007199254740992 < time := by simp only [maxNum] at hb; omega
      clear hb ht
      have ht3 : 1 ≤ time := by omega
      go_enter Tryz.func70, Tryz.ntmps70
      go_wp2_with fail
      refine HM.out.mono ?_
      rintro e w1 ⟨rfl, rfl⟩
      go_wp2_with fail
      refine (client_any _ client).mono ?_
      rintro e w1 ⟨rfl, rfl⟩
      go_wp2_with fail
      refine bodyPost_ret (results_row_tmp2 rfl _ _ (w.heap.size + 1) 69 #[.int .i64 1, .int .i64 0] (0, 0) _ rfl (Blk.new_at (by simp) rfl) Tryz.underlying69 rfl Ai.size_res) rfl ?_
      exact asked_of HAP.out (Nat.le_refl _) (Ps.nil _ _) (applied_refl HZ.out (two_below _ _ _))
  · have hcl' : (decide (0 ≤ client) && decide (client < 8)) = false := Bool.eq_false_iff.2 hcl
    have HCN : ∀ W : World, Hid (Calls Tryz.prog 91 #[.int .i64 client] W fun e w' => e = .returned (.bool false) ∧ W = w') := fun W => Lib.hid (by rw [← hcl']; exact client_any W client)
    clear hcl hcl' hb
    go_enter Tryz.func70, Tryz.ntmps70
    go_wp2_with fail
    refine HM.out.mono ?_
    rintro e w1 ⟨rfl, rfl⟩
    go_wp2_with fail
    refine (HCN _).out.mono ?_
    rintro e w1 ⟨rfl, rfl⟩
    go_wp2_with fail
    refine bodyPost_ret (results_row_tmp2 rfl _ _ (w.heap.size + 1) 69 #[.int .i64 1, .int .i64 0] (0, 0) _ rfl (Blk.new_at (by simp) rfl) Tryz.underlying69 rfl Ai.size_res) rfl ?_
    exact asked_of HAP.out (Nat.le_refl _) (Ps.nil _ _) (applied_refl HZ.out (two_below _ _ _))

set_option maxRecDepth 100000 in
set_option maxHeartbeats 1000000 in
theorem apply_old (w : World) (S R : Nat → Prop) (p : Nat) (s : St) (client time : Int) (o : O) (A : Option Addr) (c : Nat) (hb : badArg client time = false) (hle : time ≤ (s.last.getD client.toNat An.zero).time) (h : Tz w S R p s) :
    Calls Tryz.prog 70 #[.pointer (some ⟨p, 0, none⟩), RV client time o A c] w (Asked S R p s client time o w) := by
  have hak := ak_new w client time o A c
  have HAK := Lib.hid hak
  have HZ := Lib.hid h
  have hz1 := h.later (HAK.out.below.mono (Nat.le_refl _))
  have HM := Lib.hid (made_on _ S R p s hz1)
  obtain ⟨c0, c1, t0, t1⟩ := badArg_no (by rw [hb]; simp)
  obtain ⟨m, D, G, V, M, F, hP⟩ := hz1
  have hlen := hP.len8
  obtain ⟨i, rfl⟩ : ∃ i : Nat, client = (i : Int) := ⟨client.toNat, by omega⟩
  have hi : i < s.last.length := by omega
  obtain ⟨q0, q1, q2⟩ := hP.cellA hi
  have hg : s.last.getD (Int.toNat (i : Int)) An.zero = s.last[i] := by rw [Int.toNat_natCast, List.getD_eq_getElem?_getD, List.getElem?_eq_getElem hi]; rfl
  rw [hg] at hle
  have HAP : Hid (appS s i time o = if time = s.last[i].time then ((s.last[i].err, s.last[i].off), [], false, s) else ((7, 0), [], false, s)) := Lib.hid (by
    rw [appS, if_neg (by rw [hb]; simp)]
    simp only [hg]
    split
    · rfl
    · rw [if_pos (by omega)])
  obtain ⟨a0, a1, a2, a3, a4, a5, a6⟩ := hak.cells
  obtain ⟨r0, r1, fr0, fr1⟩ := hak.rcells
  simp only [maxNum] at t1
  have hcl : (decide (0 ≤ (i : Int)) && decide ((i : Int) < 8)) = true := by simp; omega
  have HCN : ∀ W : World, Hid (Calls Tryz.prog 91 #[.int .i64 (i : Int)] W fun e w' => e = .returned (.bool true) ∧ W = w') := fun W => Lib.hid (by rw [← hcl]; exact client_any W i)
  have hi8 : i < 8 := by omega
  clear hak h hP hb hg hcl hlen
  generalize s.last[i] = a at *
  obtain ⟨at', ae, ao⟩ := a
  simp only at q0 q1 q2 hle HAP
  unfold RV
  unfold RC at HAK HM a0 a1 a2 a3 a4 a5 a6 r0 r1 fr0 fr1 q0 q1 q2 ⊢
  by_cases he : time = at'
  · subst he
    rw [if_pos rfl] at HAP
    go_enter Tryz.func70, Tryz.ntmps70
    go_wp2_with fail
    refine HM.out.mono ?_
    rintro e w1 ⟨rfl, rfl⟩
    go_wp2_with fail
    refine (HCN _).out.mono ?_
    rintro e w1 ⟨rfl, rfl⟩
    go_wp2_with fail
    generalize (w.alloc (.cells #[.int .i64 (i : Int), .int .i64 time, .int .i64 o.kind, .string ⟨o.topic.toArray⟩, .string ⟨o.group.toArray⟩, .int .i64 o.off, .slice A o.recs.length c] 100)).alloc (.cells #[.int .i64 0, .int .i64 0] 69) = W0 at *
    go_region_held3 (fun w' => w'.cell? ⟨w.heap.size, 0, none⟩ = some (.int .i64 (i : Int)) ∧ w'.cell? ⟨p, 1 + i * 3, none⟩ = some (.int .i64 time) ∧ w'.cell? ⟨p, 1 + i * 3 + 1, none⟩ = some (.int .i64 ae) ∧ w'.cell? ⟨p, 1 + i * 3 + 2, none⟩ = some (.int .i64 ao)) (first | exact ⟨a0, q0, q1, q2⟩ | go_keep) (fail)
    have hb1 : Below W0.heap.size W0 (W0.alloc (.cells #[.int .i64 time, .int .i64 ae, .int .i64 ao] 71)).drew := below_drewN (op_below _ _) 1
    have hl1 : Blk (W0.alloc (.cells #[.int .i64 time, .int .i64 ae, .int .i64 ao] 71)).drew W0.heap.size 71 #[.int .i64 time, .int .i64 ae, .int .i64 ao] := Blk.new _ _ _
    have HAK1 := Lib.hid (HAK.out.later hb1)
    generalize (W0.alloc (.cells #[.int .i64 time, .int .i64 ae, .int .i64 ao] 71)).drew = W1 at *
    clear a0 a1 a2 a3 a4 a5 a6 r0 r1 fr0 fr1 q0 q1 q2
    obtain ⟨a0, a1, a2, a3, a4, a5, a6⟩ := AK.cells HAK1.out
    obtain ⟨r0, r1, fr0, fr1⟩ := AK.rcells HAK1.out
    have l0 := hl1.cell 0
    have l1 := hl1.cell 1
    have l2 := hl1.cell 2
    simp only [List.getElem?_toArray, List.getElem?_cons_zero, List.getElem?_cons_succ] at l0 l1 l2
    have HB1 := Lib.hid (And.intro hb1 hl1)
    clear hb1 hl1
    go_wp2_with fail
    refine bodyPost_ret (results_row_tmp2 rfl _ _ (w.heap.size + 1) 69 #[.int .i64 ae, .int .i64 ao] (0, 0) _ rfl (blk2 HAK1.out.res _ _) Tryz.underlying69 rfl Ai.size_res) rfl ?_
    exact asked_of HAP.out (Nat.le_refl _) (Ps.nil _ _) (applied_refl HZ.out (below2 HAK1.out.below (by omega) _ _))
  · rw [if_neg he] at HAP
    have hlt : time < at' := by omega
    have heb : (time == at') = false := beq_eq_false_iff_ne.2 he
    clear hle he
    go_enter Tryz.func70, Tryz.ntmps70
    go_wp2_with fail
    refine HM.out.mono ?_
    rintro e w1 ⟨rfl, rfl⟩
    go_wp2_with fail
    refine (HCN _).out.mono ?_
    rintro e w1 ⟨rfl, rfl⟩
    go_wp2_with fail
    generalize (w.alloc (.cells #[.int .i64 (i : Int), .int .i64 time, .int .i64 o.kind, .string ⟨o.topic.toArray⟩, .string ⟨o.group.toArray⟩, .int .i64 o.off, .slice A o.recs.length c] 100)).alloc (.cells #[.int .i64 0, .int .i64 0] 69) = W0 at *
    go_region_held3 (fun w' => w'.cell? ⟨w.heap.size, 0, none⟩ = some (.int .i64 (i : Int)) ∧ w'.cell? ⟨p, 1 + i * 3, none⟩ = some (.int .i64 at') ∧ w'.cell? ⟨p, 1 + i * 3 + 1, none⟩ = some (.int .i64 ae) ∧ w'.cell? ⟨p, 1 + i * 3 + 2, none⟩ = some (.int .i64 ao)) (first | exact ⟨a0, q0, q1, q2⟩ | go_keep) (fail)
    have hb1 : Below W0.heap.size W0 (W0.alloc (.cells #[.int .i64 at', .int .i64 ae, .int .i64 ao] 71)).drew := below_drewN (op_below _ _) 1
    have hl1 : Blk (W0.alloc (.cells #[.int .i64 at', .int .i64 ae, .int .i64 ao] 71)).drew W0.heap.size 71 #[.int .i64 at', .int .i64 ae, .int .i64 ao] := Blk.new _ _ _
    have HAK1 := Lib.hid (HAK.out.later hb1)
    generalize (W0.alloc (.cells #[.int .i64 at', .int .i64 ae, .int .i64 ao] 71)).drew = W1 at *
    clear a0 a1 a2 a3 a4 a5 a6 r0 r1 fr0 fr1 q0 q1 q2
    obtain ⟨a0, a1, a2, a3, a4, a5, a6⟩ := AK.cells HAK1.out
    obtain ⟨r0, r1, fr0, fr1⟩ := AK.rcells HAK1.out
    have l0 := hl1.cell 0
    have l1 := hl1.cell 1
    have l2 := hl1.cell 2
    simp only [List.getElem?_toArray, List.getElem?_cons_zero, List.getElem?_cons_succ] at l0 l1 l2
    have HB1 := Lib.hid (And.intro hb1 hl1)
    clear hb1 hl1
    go_wp2_with fail
    refine bodyPost_ret (results_row_tmp2 rfl _ _ (w.heap.size + 1) 69 #[.int .i64 7, .int .i64 0] (0, 0) _ rfl (blk2 HAK1.out.res _ _) Tryz.underlying69 rfl Ai.size_res) rfl ?_
    exact asked_of HAP.out (Nat.le_refl _) (Ps.nil _ _) (applied_refl HZ.out (below2 HAK1.out.below (by omega) _ _))
end Go.Proofs.YtobphijbhghgmaaGreat.Aj

/-
  Contract of the program's topics: Apply, where a request is done.
-/
namespace Go.Proofs.YtobphijbhghgmaaGreat.Al
set_option linter.unusedSimpArgs false
open Go Go.RowKit Ck Kw Ga Kf Km Kd Pm Pz Pe Pg Py Qb Qg Tm Tn Tq Aa Ab Ac Ad Ae Af Ag Ah Ai Aj
attribute [local go_sem ↓] Go.wp_at_zero Go.wp_at_succ
set_option linter.unusedVariables false

theorem three_ch (W : World) (p i j k : Nat) (x y z : Value) : Ch (fun q => q = p) W (((W.setCell ⟨p, i, none⟩ x).setCell ⟨p, j, none⟩ y).setCell ⟨p, k, none⟩ z) :=
  (((Ch.refl (fun q => q = p) W).setCell (p := ⟨p, i, none⟩) (fun _ => rfl) _).setCell (p := ⟨p, j, none⟩) (fun _ => rfl) _).setCell (p := ⟨p, k, none⟩) (fun _ => rfl) _
theorem two_ch (W : World) (g : Nat) (x y : Value) : Ch (fun q => q = g) W ((W.setCell ⟨g, 0, none⟩ x).setCell ⟨g, 1, none⟩ y) :=
  ((Ch.refl (fun q => q = g) W).setCell (p := ⟨g, 0, none⟩) (fun _ => rfl) _).setCell (p := ⟨g, 1, none⟩) (fun _ => rfl) _
theorem ch_drew {S : Nat → Prop} {a b : World} (h : Ch S a b) : Ch S a b.drew := ⟨h.os, h.tape, h.output, h.size, h.block⟩
section
variable {w W1 w2 W3 W4 : World} {S R S2 R2 : Nat → Prop} {p : Nat} {s s' : St} {client time : Int} {o : O} {A : Option Addr} {c : Nat} {u v : Value} {pl : List (Tx × Int × Tx)} {B : Nat}
theorem apply_ps (hp : p < w.heap.size) (hk : AK w client time o A c W1) (hB : W1.heap.size ≤ B) (h : Ps w2 B v pl) (c2 : Ch (fun k => S k ∧ k < w.heap.size) W1 w2) (b3 : Below w2.heap.size w2 W3) (c4 : Ch (fun q => q = p) W3 W4) {x y : Value} :
    Ps ((W4.setCell ⟨w.heap.size + 1, 0, none⟩ x).setCell ⟨w.heap.size + 1, 1, none⟩ y) B v pl := by
  have hs := hk.below.size
  have hr := hk.res.lt
  exact (((h.later b3).ch c4 (fun k hk => by omega)).ch (two_ch W4 (w.heap.size + 1) x y) (fun k hk => by omega))
theorem apply_fin (hz : Tz w S R p s) (hp : p < w.heap.size) (hk : AK w client time o A c W1) (h1 : ∀ k, S2 k → Up (fun k => S k ∧ k < w.heap.size) W1 w2 k ∧ k < B) (h2 : ∀ k, R2 k → Up R W1 w2 k ∧ k < B) (c2 : Ch (fun k => S k ∧ k < w.heap.size) W1 w2) (b3 : Below w2.heap.size w2 W3) (c4 : Ch (fun q => q = p) W3 W4) (h : Tz W4 S2 R2 p s') {x y : Value} :
    Applied S R p s' B w ((W4.setCell ⟨w.heap.size + 1, 0, none⟩ x).setCell ⟨w.heap.size + 1, 1, none⟩ y) := by
  have hs := hk.below.size
  have hr := hk.res.lt
  have s2 := c2.size
  have s3 := b3.size
  have s4 := c4.size
  have hSp : S p := by
    obtain ⟨m', D', G', V', M', F', h'⟩ := hz
    exact h'.sp
  have c5 := two_ch W4 (w.heap.size + 1) x y
  have s5 := c5.size
  refine ⟨S2, R2, h.ch c5 (fun k hk e => ?_) (fun k hk e => ?_), fun k hk => ?_, fun k hk => ?_, ?_⟩
  · rcases (h1 k hk).1 with h | h
    · have := h.2; omega
    · have := h.1; omega
  · rcases (h2 k hk).1 with h | h
    · have := (Tz.rlt hz k h).2; omega
    · have := h.1; omega
  · refine ⟨?_, (h1 k hk).2⟩
    rcases (h1 k hk).1 with h | h
    · exact .inl h.1
    · exact .inr ⟨by omega, by omega⟩
  · refine ⟨?_, (h2 k hk).2⟩
    rcases (h2 k hk).1 with h | h
    · exact .inl h
    · exact .inr ⟨by omega, by omega⟩
  · have k1 : Ch S w W1 := Ch.of_below hk.below (Nat.le_refl _)
    have k2 : Ch S w w2 := k1.trans (c2.mono (T := S) (fun k _ h => h.1)) (fun _ _ h => h)
    have k3 : Ch S w W3 := k2.trans (Ch.of_below (S := S) b3 (Nat.le_refl _)) (fun _ _ h => h)
    have k4 : Ch S w W4 := k3.trans (c4.mono (T := S) (fun k _ h => by rw [h]; exact hSp)) (fun _ _ h => h)
    exact k4.trans c5 (fun k h1 h2 => by omega)
end
set_option maxRecDepth 100000 in
set_option maxHeartbeats 2000000 in
theorem apply_new (w : World) (S R : Nat → Prop) (p : Nat) (s : St) (client time : Int) (o : O) (X : Nat → Prop) (A : Option Addr) (c : Nat) (hb : badArg client time = false) (hlt : (s.last.getD client.toNat An.zero).time < time) (h : Tz w S R p s) (hls : Ls w X (.slice A o.recs.length c) o.recs) (hl : o.recs.length ≤ 140737488355328) :
    Calls Tryz.prog 70 #[.pointer (some ⟨p, 0, none⟩), RV client time o A c] w (Asked S R p s client time o w) := by
  have hak := ak_new w client time o A c
  have HAK := Lib.hid hak
  have HZ := Lib.hid h
  have hz1 := h.later (HAK.out.below.mono (Nat.le_refl _))
  have HM := Lib.hid (made_on _ S R p s hz1)
  obtain ⟨c0, c1, t0, t1⟩ := badArg_no (by rw [hb]; simp)
  obtain ⟨m, D, G, V, M, F, hP⟩ := hz1
  have hlen := hP.len8
  obtain ⟨i, rfl⟩ : ∃ i : Nat, client = (i : Int) := ⟨client.toNat, by omega⟩
  have hi : i < s.last.length := by omega
  obtain ⟨q0, q1, q2⟩ := hP.cellA hi
  have hg : s.last.getD (Int.toNat (i : Int)) An.zero = s.last[i] := by rw [Int.toNat_natCast, List.getD_eq_getElem?_getD, List.getElem?_eq_getElem hi]; rfl
  rw [hg] at hlt
  have hg2 : s.last.getD i An.zero = s.last[i] := by rw [← hg, Int.toNat_natCast]
  have HAP : Hid (appS s i time o = ((doesS s.L o).1, (doesS s.L o).2.1, true, ⟨(doesS s.L o).2.2, s.last.set i ⟨time, (doesS s.L o).1.1, (doesS s.L o).1.2⟩⟩)) := Lib.hid (by
    rw [appS, if_neg (by rw [hb]; simp)]
    simp only [Int.toNat_natCast, hg2]
    rw [if_neg (by omega), if_neg (by omega)])
  have hgs : GoodS (appS s i time o).2.2.2 := appS_good HZ.out.good i time o
  rw [HAP.out] at hgs
  have HGS := Lib.hid hgs
  have HLS := Lib.hid hls
  obtain ⟨a0, a1, a2, a3, a4, a5, a6⟩ := hak.cells
  obtain ⟨r0, r1, fr0, fr1⟩ := hak.rcells
  simp only [maxNum] at t1
  have hcl : (decide (0 ≤ (i : Int)) && decide ((i : Int) < 8)) = true := by simp; omega
  have HCN : ∀ W : World, Hid (Calls Tryz.prog 91 #[.int .i64 (i : Int)] W fun e w' => e = .returned (.bool true) ∧ W = w') := fun W => Lib.hid (by rw [← hcl]; exact client_any W i)
  have hi8 : i < 8 := by omega
  clear hak h hP hb hg hg2 hcl hlen hgs hls
  generalize s.last[i] = a at *
  obtain ⟨at', ae, ao⟩ := a
  simp only at q0 q1 q2 hlt
  unfold RV
  unfold RC at HAK HM a0 a1 a2 a3 a4 a5 a6 r0 r1 fr0 fr1 q0 q1 q2 ⊢
  have heb : (time == at') = false := beq_eq_false_iff_ne.2 (by omega)
  go_enter Tryz.func70, Tryz.ntmps70
  go_wp2_with fail
  refine HM.out.mono ?_
  rintro e w1 ⟨rfl, rfl⟩
  go_wp2_with fail
  refine (HCN _).out.mono ?_
  rintro e w1 ⟨rfl, rfl⟩
  go_wp2_with fail
  generalize (w.alloc (.cells #[.int .i64 (i : Int), .int .i64 time, .int .i64 o.kind, .string ⟨o.topic.toArray⟩, .string ⟨o.group.toArray⟩, .int .i64 o.off, .slice A o.recs.length c] 100)).alloc (.cells #[.int .i64 0, .int .i64 0] 69) = W0 at *
  go_region_held3 (fun w' => w'.cell? ⟨w.heap.size, 0, none⟩ = some (.int .i64 (i : Int)) ∧ w'.cell? ⟨p, 1 + i * 3, none⟩ = some (.int .i64 at') ∧ w'.cell? ⟨p, 1 + i * 3 + 1, none⟩ = some (.int .i64 ae) ∧ w'.cell? ⟨p, 1 + i * 3 + 2, none⟩ = some (.int .i64 ao)) (first | exact ⟨a0, q0, q1, q2⟩ | go_keep) (fail)
  have hb1 : Below W0.heap.size W0 (W0.alloc (.cells #[.int .i64 at', .int .i64 ae, .int .i64 ao] 71)).drew := below_drewN (op_below _ _) 1
  have hl1 : Blk (W0.alloc (.cells #[.int .i64 at', .int .i64 ae, .int .i64 ao] 71)).drew W0.heap.size 71 #[.int .i64 at', .int .i64 ae, .int .i64 ao] := Blk.new _ _ _
  have HAK1 := Lib.hid (HAK.out.later hb1)
  generalize (W0.alloc (.cells #[.int .i64 at', .int .i64 ae, .int .i64 ao] 71)).drew = W1 at *
  clear a0 a1 a2 a3 a4 a5 a6 r0 r1 fr0 fr1 q0 q1 q2
  obtain ⟨a0, a1, a2, a3, a4, a5, a6⟩ := AK.cells HAK1.out
  obtain ⟨r0, r1, fr0, fr1⟩ := AK.rcells HAK1.out
  have l0 := hl1.cell 0
  have l1 := hl1.cell 1
  have l2 := hl1.cell 2
  simp only [List.getElem?_toArray, List.getElem?_cons_zero, List.getElem?_cons_succ] at l0 l1 l2
  have HB1 := Lib.hid (And.intro hb1 hl1)
  clear hb1 hl1
  go_wp2_with fail
  have hzb := (Tz.bound HZ.out).later HAK1.out.below
  have HDO := Lib.hid (do_any W1 _ R p s o X A c hzb (HLS.out.after HAK1.out.below) hl)
  unfold OV at HDO
  refine HDO.out.mono ?_
  rintro e w2 ⟨v2, B2, rfl, hBB, hps, S2, R2, hz2, hS2, hR2, hc2⟩
  have hreq2 := HAK1.out.req.ch hc2 (fun h => by have := h.2; omega)
  have hres2 := HAK1.out.res.ch hc2 (fun h => by have := h.2; omega)
  have HD2 := Lib.hid (And.intro hz2 (And.intro hS2 (And.intro hR2 (And.intro hc2 (And.intro hBB hps)))))
  clear a0 a1 a2 a3 a4 a5 a6 r0 r1 fr0 fr1 l0 l1 l2 hps hz2 hS2 hR2 hc2 hBB
  have a0 := hreq2.cell 0
  have a1 := hreq2.cell 1
  have r0 := hres2.cell 0
  have r1 := hres2.cell 1
  have fr0 := hres2.frozen 0
  have fr1 := hres2.frozen 1
  unfold RC at a0 a1
  simp only [List.getElem?_toArray, List.getElem?_cons_zero, List.getElem?_cons_succ] at r0 r1 a0 a1
  have HB2 := Lib.hid (And.intro hreq2 hres2)
  clear hreq2 hres2
  generalize he1 : (doesS s.L o).1.1 = ke at *
  generalize he2 : (doesS s.L o).1.2 = ko at *
  have HE12 := Lib.hid (And.intro he1 he2)
  clear he1 he2
  go_wp2_with fail
  have hb3 := op_below w2 (.cells #[.int .i64 ke, .int .i64 ko] 69)
  have hv3 : Blk (w2.alloc (.cells #[.int .i64 ke, .int .i64 ko] 69)) w2.heap.size 69 #[.int .i64 ke, .int .i64 ko] := Blk.new _ _ _
  generalize w2.alloc (.cells #[.int .i64 ke, .int .i64 ko] 69) = W3 at hb3 hv3 ⊢
  have hreq3 := HB2.out.1.below hb3 HB2.out.1.lt
  have hres3 := HB2.out.2.below hb3 HB2.out.2.lt
  have hz3 := HD2.out.1.later hb3
  obtain ⟨m3, D3, G3, V3, M3, F3, hP3⟩ := hz3
  have hi3 : i < (⟨(doesS s.L o).2.2, s.last⟩ : St).last.length := hi
  obtain ⟨u0, u1, u2, q0, q1, q2⟩ : ∃ u0 u1 u2, W3.cell? ⟨p, 1 + i * 3, none⟩ = some (.int .i64 u0) ∧ W3.cell? ⟨p, 1 + i * 3 + 1, none⟩ = some (.int .i64 u1) ∧ W3.cell? ⟨p, 1 + i * 3 + 2, none⟩ = some (.int .i64 u2) := ⟨_, _, _, hP3.cellA hi3⟩
  have fq0 := hP3.blk.frozen (1 + i * 3)
  have fq1 := hP3.blk.frozen (1 + i * 3 + 1)
  have fq2 := hP3.blk.frozen (1 + i * 3 + 2)
  clear a0 a1 r0 r1 fr0 fr1
  have a0 := hreq3.cell 0
  have a1 := hreq3.cell 1
  have m0 := hv3.cell 0
  have m1 := hv3.cell 1
  unfold RC at a0 a1
  simp only [List.getElem?_toArray, List.getElem?_cons_zero, List.getElem?_cons_succ] at a0 a1 m0 m1
  have HB3 := Lib.hid (And.intro hreq3 (And.intro hres3 (And.intro hb3 hv3)))
  have HP3 := Lib.hid hP3
  clear hreq3 hres3 hb3 hv3 hP3 hi3
  go_region_law (fail)
  all_goals
    have hpw : p < w.heap.size := by
      obtain ⟨m', D', G', V', M', F', h'⟩ := HZ.out
      exact h'.blk.lt
    have hz4 := tz_last HP3.out.shut hi8 ⟨time, ke, ko⟩ HGS.out
    have c4 := three_ch W3 p (1 + i * 3) (1 + i * 3 + 1) (1 + i * 3 + 2) (.int .i64 time) (.int .i64 ke) (.int .i64 ko)
    generalize ((W3.setCell ⟨p, 1 + i * 3, none⟩ (.int .i64 time)).setCell ⟨p, 1 + i * 3 + 1, none⟩ (.int .i64 ke)).setCell ⟨p, 1 + i * 3 + 2, none⟩ (.int .i64 ko) = W4 at hz4 c4 ⊢
    have hw2 := HAK1.out.below.size
    have hw3 := HD2.out.2.2.2.1.size
    have hv4 := HB3.out.2.2.2.ch c4 (by omega)
    have hres4 := HB3.out.2.1.ch c4 (by omega)
    clear a0 a1 m0 m1 q0 q1 q2 fq0 fq1 fq2
    have hz4' : Tz W4.drew S2 R2 p _ := hz4.ch (ch_drew (Ch.refl (fun _ => False) W4)) (fun _ _ h => h) (fun _ _ h => h)
    have c4' := ch_drew c4
    have hv4' : Blk W4.drew _ _ _ := hv4
    have hres4' : Blk W4.drew _ _ _ := hres4
    clear hz4 c4 hv4 hres4
    generalize W4.drew = W5 at hz4' c4' hv4' hres4' ⊢
    have m0 := hv4'.cell 0
    have m1 := hv4'.cell 1
    have r0 := hres4'.cell 0
    have r1 := hres4'.cell 1
    have fr0 := hres4'.frozen 0
    have fr1 := hres4'.frozen 1
    simp only [List.getElem?_toArray, List.getElem?_cons_zero, List.getElem?_cons_succ] at m0 m1 r0 r1
    have H4 := Lib.hid (And.intro hz4' (And.intro c4' hres4'))
    have HPW := Lib.hid (And.intro hpw (And.intro hw2 hw3))
    clear hz4' c4' hv4' hres4' hpw hw2 hw3
    go_wp2_with fail
    refine bodyPost_ret (results_row_tmp2 rfl _ _ (w.heap.size + 1) 69 #[.int .i64 ke, .int .i64 ko] (0, 0) _ rfl (blk2 H4.out.2.2 _ _) Tryz.underlying69 rfl Ai.size_res) rfl ?_
    exact asked_of (by rw [HAP.out, ← HE12.out.1, ← HE12.out.2]) (Nat.le_trans HPW.out.2.1 HD2.out.2.2.2.2.1) (apply_ps HPW.out.1 HAK1.out HD2.out.2.2.2.2.1 HD2.out.2.2.2.2.2 HD2.out.2.2.2.1 HB3.out.2.2.1 H4.out.2.1) (apply_fin HZ.out HPW.out.1 HAK1.out HD2.out.2.1 HD2.out.2.2.1 HD2.out.2.2.2.1 HB3.out.2.2.1 H4.out.2.1 H4.out.1)
theorem apply_any (w : World) (S R : Nat → Prop) (p : Nat) (s : St) (client time : Int) (o : O) (X : Nat → Prop) (A : Option Addr) (c : Nat) (h : Tz w S R p s) (hls : Ls w X (.slice A o.recs.length c) o.recs) (hl : o.recs.length ≤ 140737488355328) :
    Calls Tryz.prog 70 #[.pointer (some ⟨p, 0, none⟩), RV client time o A c] w (Asked S R p s client time o w) := by
  by_cases hb : badArg client time = true
  · exact apply_bad w S R p s client time o A c hb h
  · have hb := Bool.eq_false_iff.2 hb
    by_cases hle : time ≤ (s.last.getD client.toNat An.zero).time
    · exact apply_old w S R p s client time o A c hb hle h
    · exact apply_new w S R p s client time o X A c hb (by omega) h hls hl
end Go.Proofs.YtobphijbhghgmaaGreat.Al

/-
  The plain mathematics of layer 7 (topics): what is asked of topics.
-/
namespace Go.Proofs.YtobphijbhghgmaaGreat.To
set_option linter.unusedSimpArgs false
set_option linter.unusedVariables false
open Cm Pm Pz Tm Tn Tq
/-- What Bounds answers. -/
def boundsT (L : List Tp) (s : Tx) : Int × Int × Int := match findT L s with
  | none => (0, 0, 4)
  | some t => (t.base, t.next, 0)
end Go.Proofs.YtobphijbhghgmaaGreat.To

/-
  Contracts of the program's topics: Bounds, Get.
-/
namespace Go.Proofs.YtobphijbhghgmaaGreat.Am
set_option linter.unusedSimpArgs false
open Go Go.RowKit Ck Kw Ga Kf Km Pm Pz Tm Tn Tq To Aa Ab Ac
attribute [local go_sem ↓] Go.wp_at_zero Go.wp_at_succ
set_option linter.unusedVariables false

set_option maxRecDepth 100000 in
set_option maxHeartbeats 1000000 in
theorem bounds_any (w : World) (S R : Nat → Prop) (p : Nat) (s : St) (x : Tx) (hx : x.length ≤ 140737488355328) (h : Tz w S R p s) :
    Calls Tryz.prog 68 #[.pointer (some ⟨p, 0, none⟩), .string ⟨x.toArray⟩] w fun e w' => e = .returned (.tuple #[.int .i64 (boundsT s.L x).1, .int .i64 (boundsT s.L x).2.1, .int .i64 (boundsT s.L x).2.2]) ∧ Below w.heap.size w w' := by
  obtain ⟨m, D, G, V, M, F, hP⟩ := h
  have HF := Lib.hid (find_on w S R p m s D G V M F x hx hP)
  cases hf : findT s.L x with
  | none =>
    have e : boundsT s.L x = (0, 0, 4) := by rw [boundsT, hf]
    rw [e]
    rw [hf] at HF
    unfold PV at HF
    simp only [Option.map_none, Option.isSome_none] at HF
    clear hP hf e hx
    go_enter Tryz.func68, Tryz.ntmps68
    go_wp2_with fail
    refine HF.out.mono ?_
    rintro e w2 ⟨rfl, rfl⟩
    go_wp2_with fail
    go_ret3
    exact ⟨rfl, Below.refl _ _⟩
  | some t =>
    have e : boundsT s.L x = (t.base, t.next, 0) := by rw [boundsT, hf]
    rw [e]
    obtain ⟨ht, hn⟩ := findT_some hf
    have hT := hP.top t ht
    have hfit := hP.good.L.fit t ht
    have HN := Lib.hid (next_any w.drew _ R _ t _ _ (Tg.later hT (below_drewN (Below.refl _ w) 1)) hfit.base hfit.next)
    have c0 : w.cell? ⟨G t.n, 0, none⟩ = some (.int .i64 t.base) := hT.blk.cell 0
    have HT := Lib.hid hT
    rw [hf] at HF
    unfold PV at HF
    simp only [Option.map_some, Option.isSome_some] at HF
    clear hP hf e hx hT hfit ht hn
    go_enter Tryz.func68, Tryz.ntmps68
    go_wp2_with fail
    refine HF.out.mono ?_
    rintro e w2 ⟨rfl, rfl⟩
    go_wp2_with fail
    go_region_held3 (fun w' => w'.cell? ⟨G t.n, 0, none⟩ = some (.int .i64 t.base)) (first | exact c0 | exact j0)
      (first
        | (go_at_call 87; refine HN.out.mono ?_; rintro e w3 ⟨rfl, hb3⟩; have hb3' := below_of_drew hb3; have j0 : w3.cell? ⟨G t.n, 0, none⟩ = some (.int .i64 t.base) := (HT.out.blk.below hb3' HT.out.blk.lt).cell 0))
    all_goals
      go_wp2_with fail
      go_ret3
      exact ⟨rfl, hb3'⟩
end Go.Proofs.YtobphijbhghgmaaGreat.Am

/-
  The contract of the laws' live.
-/
namespace Go.Proofs.YtobphijbhghgmaaGreat.An
set_option linter.unusedSimpArgs false
open Go Go.RowKit Ck Kw Ga Kf Km Kd Pm Pz Pe Pg Py Qb Qg Tm Tn Tq To Aa Ab Ac Ad Ae Af Ag Ah Ai Aj Al Am
attribute [local go_sem ↓] Go.wp_at_zero Go.wp_at_succ
set_option linter.unusedVariables false

def o1 : O := ⟨1, [116], [], 0, []⟩
def o2 : O := ⟨2, [116], [], 0, [[1], [2]]⟩
def o3 : O := ⟨0, [], [], 0, []⟩
def s1 : St := (appS St.zero 0 1 o1).2.2.2
def s2 : St := (appS s1 1 1 o2).2.2.2
/-- Topics that are in none of the blocks N. -/
def On (N : Nat → Prop) (w : World) (p : Nat) (s : St) : Prop := ∃ S R, Tz w S R p s ∧ (∀ k, S k → ¬ N k ∧ k < w.heap.size) ∧ ∀ k, R k → ¬ N k
section
variable {N N' : Nat → Prop} {p : Nat} {w w' : World} {s s' : St} {X : Nat → Prop}
theorem On.ch (h : On N w p s) (c : Ch X w w') (hx : ∀ k, X k → N k) : On N w' p s := by
  obtain ⟨S, R, h1, h2, h3⟩ := h
  exact ⟨S, R, h1.ch c (fun k hk hX => (h2 k hk).1 (hx k hX)) (fun k hk hX => h3 k hk (hx k hX)), fun k hk => ⟨(h2 k hk).1, Nat.lt_of_lt_of_le (h2 k hk).2 c.size⟩, h3⟩
theorem On.later (h : On N w p s) (b : Below w.heap.size w w') : On N w' p s := h.ch (Ch.of_below (S := fun _ => False) b (Nat.le_refl _)) (fun _ h => h.elim)
theorem On.weaken (h : On N w p s) (hn : ∀ k, N' k → N k) : On N' w p s := by
  obtain ⟨S, R, h1, h2, h3⟩ := h
  exact ⟨S, R, h1, fun k hk => ⟨fun h => (h2 k hk).1 (hn k h), (h2 k hk).2⟩, fun k hk h => h3 k hk (hn k h)⟩
/-- What is made beside them is none of them. -/
theorem On.skip (h : On N w p s) (b : Below w.heap.size w w') : On (fun k => N k ∨ (w.heap.size ≤ k ∧ k < w'.heap.size)) w' p s := by
  obtain ⟨S, R, h1, h2, h3⟩ := h
  refine ⟨S, R, h1.later b, fun k hk => ⟨fun h => ?_, Nat.lt_of_lt_of_le (h2 k hk).2 b.size⟩, fun k hk h => ?_⟩
  · rcases h with h | h
    · exact (h2 k hk).1 h
    · have := (h2 k hk).2; omega
  · rcases h with h | h
    · exact h3 k hk h
    · have := (Tz.rlt h1 k hk).2; omega
theorem On.good (h : On N w p s) : GoodS s := by
  obtain ⟨S, R, h1, h2, h3⟩ := h
  exact h1.good
end
end Go.Proofs.YtobphijbhghgmaaGreat.An

/-
  Contracts of the program's table that only read: made, Look, Len, Open.
-/
namespace Go.Proofs.YtobphijbhghgmaaGreat.Ia
set_option linter.unusedSimpArgs false
set_option linter.unusedVariables false
set_option maxRecDepth 100000
open Go Go.RowKit Ck Im Kw Ik

theorem made_yes (w : World) (S : Nat → Prop) (p : Nat) (L : List Tx) (h : Tb w S p L) :
    Calls Tryz.prog 60 #[.pointer (some ⟨p, 0, none⟩)] w fun e w' => e = .returned (.bool true) ∧ w = w' := by
  obtain ⟨m, tv, D, h1, -⟩ := h
  have c0 : w.cell? ⟨p, 0, none⟩ = some (.map (some m)) := h1.cell 0
  have hq := fun W => run_neq_map_nil (P := Tryz.prog) W 55 9 22 (some m) Tryz.underlying55
  clear h1
  go_enter Tryz.func60, Tryz.ntmps60
  go_wp2
  go_ret
  exact ⟨rfl, rfl⟩
theorem made_nil (w : World) : Calls Tryz.prog 60 #[.pointer none] w fun e w' => e = .returned (.bool false) ∧ w = w' := by
  go_enter Tryz.func60, Tryz.ntmps60
  go_wp2
  go_ret
  exact ⟨rfl, rfl⟩
theorem made_no (w : World) (p : Nat) (tv : Value) (h : Blk w p 58 #[.map none, tv]) : Calls Tryz.prog 60 #[.pointer (some ⟨p, 0, none⟩)] w fun e w' => e = .returned (.bool false) ∧ w = w' := by
  have c0 : w.cell? ⟨p, 0, none⟩ = some (.map none) := h.cell 0
  have hq := fun W => run_neq_map_nil (P := Tryz.prog) W 55 9 22 none Tryz.underlying55
  clear h
  go_enter Tryz.func60, Tryz.ntmps60
  go_wp2
  go_ret
  exact ⟨rfl, rfl⟩

theorem len_yes (w : World) (S : Nat → Prop) (p : Nat) (L : List Tx) (h : Tb w S p L) :
    Calls Tryz.prog 93 #[.pointer (some ⟨p, 0, none⟩)] w fun e w' => e = .returned (.int .i64 L.length) ∧ w = w' := by
  have hm := made_yes w S p L h
  obtain ⟨m, tv, D, h1, -, -, hown, -⟩ := h
  obtain ⟨A, c, rfl⟩ := own_shape hown
  have c1 : w.cell? ⟨p, 1, none⟩ = some (.slice A L.length c) := h1.cell 1
  have HM := Lib.hid hm
  clear h1 hm hown
  go_enter Tryz.func93, Tryz.ntmps93
  go_wp2_with (go_at_call 60; refine HM.out.mono ?_; rintro e w' ⟨rfl, rfl⟩)
  go_ret
  exact ⟨rfl, rfl⟩
theorem len_nil (w : World) : Calls Tryz.prog 93 #[.pointer none] w fun e w' => e = .returned (.int .i64 0) ∧ w = w' := by
  go_enter Tryz.func93, Tryz.ntmps93
  go_wp2_with (go_at_call 60; refine (made_nil _).mono ?_; rintro e w' ⟨rfl, rfl⟩)
  go_ret
  exact ⟨rfl, rfl⟩
theorem len_no (w : World) (p : Nat) (tv : Value) (h : Blk w p 58 #[.map none, tv]) : Calls Tryz.prog 93 #[.pointer (some ⟨p, 0, none⟩)] w fun e w' => e = .returned (.int .i64 0) ∧ w = w' := by
  have HH := Lib.hid h
  clear h
  go_enter Tryz.func93, Tryz.ntmps93
  go_wp2_with (go_at_call 60; refine (made_no _ _ _ HH.out).mono ?_; rintro e w' ⟨rfl, rfl⟩)
  go_ret
  exact ⟨rfl, rfl⟩

theorem law_str : Maps.Keyed Tryz.prog 9 := Maps.string_keyed Tryz.underlying9
theorem zero_digest (w : World) : (zeroValue 22).run Tryz.prog w = .ok (.int .i64 0) w := by kernel_rfl

/-- The map's look-up, in the document's words. -/
theorem run_look {w : World} {m n : Nat} {D : DataW Unit} {L : List Tx} (h : w.ownsMap Tryz.prog 9 (plainElem Tryz.prog 22) m n D) (hN : Nums D L) (s : Tx) (hs : s.length ≤ maxLen) :
    (Instr.lookup 55 (.map (some m)) (.string ⟨s.toArray⟩) true).run Tryz.prog w = .ok (.tuple #[.int .i64 (num L s : Int), .bool (isIn L s)]) w := by
  obtain ⟨v, ps, hrun, hv⟩ := h.look_ok law_str Tryz.underlying55 (zero_digest w) (zd := .lit (.int .i64 0)) (zp := []) (plainElem_int Tryz.underlying22 (by decide)) (key := .string ⟨s.toArray⟩) (kl := .string s)
    (by have := _root_.Go.WideMaps.keyOf_string_mk (P := Tryz.prog) Tryz.underlying9 (s := ⟨s.toArray⟩) (show s.toArray.size ≤ maxLen by simpa using hs); simpa using this)
  rw [(hN s).2] at hv
  obtain ⟨c, rfl, hc, _⟩ := plainElem_int_inv Tryz.underlying22 hv
  have hc : (DataW.lit (.int .i64 (num L s : Int)) : DataW Unit) = .lit (.int .i64 c) := congrArg Prod.fst hc
  injection hc with hc
  injection hc with _ hc
  rw [hrun, (hN s).1, hc]

set_option maxHeartbeats 400000 in
theorem look_yes (w : World) (S X : Nat → Prop) (p : Nat) (L : List Tx) (A : Option Addr) (c : Nat) (b : Tx) (h : Tb w S p L) (hb : Sl w X 1 (.slice A b.length c) b.length (BVs b)) (hl : b.length ≤ 140737488355328) :
    Calls Tryz.prog 59 #[.pointer (some ⟨p, 0, none⟩), .slice A b.length c] w fun e w' => e = .returned (.tuple #[.int .i64 (num L b : Int), .bool (isIn L b)]) ∧ ∃ n, w' = w.drewN n := by
  have hm := made_yes w S p L h
  obtain ⟨m, tv, D, h1, hown, hN, -⟩ := h
  have c0 : w.cell? ⟨p, 0, none⟩ = some (.map (some m)) := h1.cell 0
  have e1 := fun nq : Nat => run_convert_sl (P := Tryz.prog) (w.drewN nq) X 25 9 5 A c b Tryz.underlying25 Tryz.underlying5 Tryz.underlying9 (hb.drewN nq)
  have e2 := fun nq : Nat => run_look (w := w.drewN nq) (hown : (w.drewN nq).ownsMap _ _ _ _ _ _) hN b (by simp only [maxLen]; omega)
  have HM := Lib.hid hm
  clear h1 hm hown hN
  go_enter Tryz.func59, Tryz.ntmps59
  go_wp2_with (go_at_call 60; refine HM.out.mono ?_; rintro e w' ⟨rfl, rfl⟩)
  go_quiet (fail)
  go_wp2
  go_ret2
  exact ⟨rfl, _, rfl⟩
end Go.Proofs.YtobphijbhghgmaaGreat.Ia

/-
  Contracts of the program's table that make memory: Open, roomyTable, NewTable, Sum.
-/
namespace Go.Proofs.YtobphijbhghgmaaGreat.Ib
set_option linter.unusedSimpArgs false
set_option linter.unusedVariables false
set_option maxRecDepth 100000
open Go Go.RowKit Ck Im Kw Ik Ia

theorem info_u8 : (Tryz.prog.info? 5).map (fun i => (i.zero, i.size, i.bytes)) = some (some (.int .u8 0), 1, 1) := by kernel_rfl
theorem info_str : (Tryz.prog.info? 9).map (fun i => (i.zero, i.size, i.bytes)) = some (some (.string ⟨#[]⟩), 1, 16) := by kernel_rfl
theorem info_sl : (Tryz.prog.info? 25).map (fun i => (i.zero, i.size, i.bytes)) = some (some (.slice none 0 0), 1, 24) := by kernel_rfl

/-- v is new bytes, made out of a text. -/
def Out (w : World) (base : Nat) (v : Value) (l : Tx) : Prop :=
  ∃ (g cap : Nat) (cs : Array Value) (z : Nat), v = .slice (some ⟨g, 0, none⟩) l.length cap ∧ base ≤ g ∧ w.heap[g]? = some (.cells cs 5 (z, z + 1)) ∧ l.length ≤ z ∧ l.length ≤ cap ∧ cap ≤ maxLen ∧ ∀ (j : Nat) (u : Value), (BVs l)[j]? = some u → cs[j]? = some u
theorem Out.sl {w : World} {base : Nat} {v : Value} {l : Tx} {X : Nat → Prop} (h : Out w base v l) (hX : ∀ k, base ≤ k → k < w.heap.size → ¬ X k) : Sl w X 1 v l.length (BVs l) := by
  obtain ⟨g, cap, cs, z, rfl, hb, hg, hz, hc, hm, hx⟩ := h
  have hlt := (Array.getElem?_eq_some_iff.1 hg).1
  refine ⟨_, _, rfl, by simp [BVs_len], hc, hm, fun _ => ⟨_, rfl, hlt, hX g hb hlt, fun j u hu => ?_⟩⟩
  have ha : (⟨g, 0, none⟩ : Addr).add j = ⟨g, j, none⟩ := by unfold Addr.add; split <;> simp_all
  rw [ha]
  simp only [World.cell?, hg]
  exact hx j u hu
theorem Out.ch {w w' : World} {base : Nat} {v : Value} {l : Tx} {S : Nat → Prop} (h : Out w base v l) (c : Ch S w w') (hS : ∀ k, base ≤ k → k < w.heap.size → ¬ S k) : Out w' base v l := by
  obtain ⟨g, cap, cs, z, rfl, hb, hg, r⟩ := h
  exact ⟨g, cap, cs, z, rfl, hb, (c.block g (Array.getElem?_eq_some_iff.1 hg).1 (hS g hb (Array.getElem?_eq_some_iff.1 hg).1)).trans hg, r⟩
theorem Out.base {w : World} {base b' : Nat} {v : Value} {l : Tx} (h : Out w base v l) (hb : b' ≤ base) : Out w b' v l := by
  obtain ⟨g, cap, cs, z, hv, h1, r⟩ := h
  exact ⟨g, cap, cs, z, hv, Nat.le_trans hb h1, r⟩
theorem bytesWorld_below (w : World) (e : TypeId) (s : ByteArray) : Below w.heap.size w (Lib.bytesWorld w e s) := by
  refine ⟨?_, ?_, ?_, by rw [Lib.bytesWorld_size]; omega, fun k hk => Lib.bytesWorld_at_old w e s k hk⟩ <;>
    (unfold Lib.bytesWorld World.freeze; split <;> rfl)
theorem bytesWorld_out (w : World) (l : Tx) (hl : l.length ≤ 140737488355328) : Out (Lib.bytesWorld w 5 ⟨l.toArray⟩) w.heap.size (.slice (some ⟨w.heap.size, 0, none⟩) l.length (grownCap w l.length 0 5)) l := by
  have hge := grownCap_ge w l.length 0 5
  refine ⟨w.heap.size, _, _, _, rfl, Nat.le_refl _, Lib.bytesWorld_at_new w 5 ⟨l.toArray⟩, ?_, hge, grownCap_le_maxLen w _ _ _ (by simp only [maxLen]; omega), fun j u hu => ?_⟩
  · show l.length ≤ ((l.toArray.map fun b : UInt8 => Value.int .u8 b.toNat) ++ Array.replicate _ _).size
    simp
  · have hj : j < l.length := by have := (List.getElem?_eq_some_iff.1 hu).1; rwa [BVs_len] at this
    show ((l.toArray.map fun b : UInt8 => Value.int .u8 b.toNat) ++ Array.replicate _ _)[j]? = some u
    rw [Array.getElem?_append_left (by simpa using hj)]
    rw [BVs_get hj] at hu
    simpa [hj] using hu

theorem three (w : World) (a b c : Obj) : (((w.alloc a).alloc b).alloc c).heap[w.heap.size]? = some a ∧ (((w.alloc a).alloc b).alloc c).heap[w.heap.size + 1]? = some b ∧ (((w.alloc a).alloc b).alloc c).heap[w.heap.size + 1 + 1]? = some c := by
  refine ⟨?_, ?_, ?_⟩
  · rw [Below.heap_alloc _ _ _ (by simp; omega), Below.heap_alloc _ _ _ (by simp)]
    exact heap_alloc_new w a
  · rw [Below.heap_alloc _ _ _ (by simp)]
    have := heap_alloc_new (w.alloc a) b
    simpa using this
  · have := heap_alloc_new ((w.alloc a).alloc b) c
    simpa using this
theorem three_below (w : World) (a b c : Obj) : Below w.heap.size w (((w.alloc a).alloc b).alloc c) := (((Below.refl _ w).alloc (Nat.le_refl _) _).alloc (by simp) _).alloc (by simp; omega) _
theorem tb_new {w : World} {S : Nat → Prop} {p m g n : Nat} {cs : Array Value} (h1 : Blk w p 58 #[.map (some m), .slice (some ⟨g, 0, none⟩) 0 n]) (h2 : w.heap[m]? = some (.map #[] 0))
    (h3 : w.heap[g]? = some (.cells cs 9 (0, 0))) (hs : cs.size = n) (hn : n ≤ maxLen) (sp : S p) (sm : S m) (sg : S g) : Tb w S p [] := by
  refine ⟨m, _, .map [], h1, ⟨#[], 0, h2, ⟨by simp, MapKept.stamped_empty 0, by simp⟩, Nat.le_refl _, rfl⟩, Nums.empty, ⟨rfl, .inr ⟨g, n, cs, rfl, Nat.zero_le _, h3, Nat.zero_le _, hn, by omega, by simp⟩⟩, sp, sm, ?_, by simp, by simp⟩
  intro k hk
  have hk : g = k := by simpa [Value.ownBlock] using hk
  subst hk
  exact sg

set_option maxHeartbeats 400000 in
theorem roomy_any (w : World) (n : Nat) (hn : n ≤ 1048576) :
    Calls Tryz.prog 40 #[.int .i64 n] w fun e w' => ∃ p, e = .returned (.pointer (some ⟨p, 0, none⟩)) ∧ Tb w' (New w w') p [] ∧ Below w.heap.size w w' := by
  have hmm : ∀ W : World, (Instr.makeMap 55 (some (.int .i64 (n : Int)))).run Tryz.prog W = .ok (.map (some W.heap.size)) (W.alloc (.map #[] 0)) := fun W => by
    simp [Instr.makeMap, run_underlying Tryz.underlying55, asInt, asIntOf]
  obtain ⟨i0, hi0, hz0, hz1, hz2⟩ := info_parts info_str
  have hms : ∀ W : World, (Instr.makeSlice 56 (.int .i64 0) (.int .i64 (n : Int))).run Tryz.prog W = .ok (.slice (some ⟨W.heap.size, 0, none⟩) 0 n) (W.alloc (.cells (madeCells (Value.string ⟨#[]⟩).cells n) 9)) := fun W => by
    have := run_make (P := Tryz.prog) W 56 9 i0 _ Tryz.underlying56 hi0 hz0 .i64 .i64 0 n (by omega) (by omega) (by rw [hz2]; omega) (by omega)
    rw [hz1] at this
    simpa using this
  clear hi0 hz0 hz1 hz2
  go_enter Tryz.func40, Tryz.ntmps40
  go_wp2
  go_region
  all_goals
    go_wp2
    go_ret
    refine ⟨_, rfl, ?_, below_drewN (three_below w _ _ _) 1⟩
    first
    | exact tb_new (m := w.heap.size) (g := w.heap.size + 1) (three w _ _ _).2.2 (three w _ _ _).1 (three w _ _ _).2.1 (size_madeCells _ _) (by simp only [maxLen]; omega) ⟨by omega, by simp; try omega⟩ ⟨by omega, by simp; try omega⟩ ⟨by omega, by simp; try omega⟩
    | exact tb_new (m := w.heap.size + 1) (g := w.heap.size) (three w _ _ _).2.2 (three w _ _ _).2.1 (three w _ _ _).1 (size_madeCells _ _) (by simp only [maxLen]; omega) ⟨by omega, by simp; try omega⟩ ⟨by omega, by simp; try omega⟩ ⟨by omega, by simp; try omega⟩

theorem newtable_any (w : World) :
    Calls Tryz.prog 13 #[] w fun e w' => ∃ p, e = .returned (.pointer (some ⟨p, 0, none⟩)) ∧ Tb w' (New w w') p [] ∧ Below w.heap.size w w' := by
  go_enter Tryz.func13, Tryz.ntmps13
  go_wp2_with (go_at_call 40; refine (roomy_any _ 0 (by omega)).mono ?_; rintro e w' ⟨p, rfl, h1, h2⟩)
  go_ret
  exact ⟨_, rfl, h1, h2⟩

theorem one_sv (w : World) (X : Nat → Prop) (t : TypeId) (u : Value) (hX : ¬ X w.heap.size) : Sl (w.alloc (.cells #[u] t)) X 1 (.slice (some ⟨w.heap.size, 0, none⟩) 1 1) 1 [u] :=
  ⟨_, _, rfl, rfl, Nat.le_refl _, by simp only [maxLen]; omega, fun _ => ⟨_, rfl, by simp, hX, fun j x hx => by
    have ha : (⟨w.heap.size, 0, none⟩ : Addr).add j = ⟨w.heap.size, j, none⟩ := by unfold Addr.add; split <;> simp_all
    rw [ha, Blk.cell (Blk.new w t _) j]
    simpa using hx⟩⟩
theorem svs_one (l : List Tx) : ∀ u ∈ l.map SV, u.oneCell' = true := by
  intro u hu
  simp only [List.mem_map] at hu
  obtain ⟨c, _, rfl⟩ := hu
  rfl

/-- What Sum leaves of the program's table. -/
def Summed (S : Nat → Prop) (p : Nat) (L : List Tx) (b : Tx) (w : World) (e : Ending) (w' : World) : Prop :=
  e = .returned (.int .i64 (sum L b : Int)) ∧ Tb w' (Up S w w') p (add L b) ∧ Ch S w w'

/-- The table's parts, for the walk. -/
def Parts (w : World) (S : Nat → Prop) (p m : Nat) (tv : Value) (D : DataW Unit) (L : List Tx) : Prop :=
  Blk w p 58 #[.map (some m), tv] ∧ w.ownsMap Tryz.prog 9 (plainElem Tryz.prog 22) m L.length D ∧ Nums D L ∧ w.ownsRow 0 9 1 tv L.length (L.map SV) ∧
    S p ∧ S m ∧ (∀ g, tv.ownBlock = some g → S g) ∧ ∀ l ∈ L, l.length ≤ 140737488355328
theorem tb_snoc {w w1 w2 : World} {S : Nat → Prop} {n p m : Nat} {tv tv1 : Value} {D : DataW Unit} {L : List Tx} {b : Tx} {o : Obj} (h : Parts (w.drewN n) S p m tv D L) (hk : num L b = 0) (hl : (L.length : Int) < 1048576) (hb : b.length ≤ 140737488355328)
    (happ : Appended ((w.drewN n).alloc o) 0 9 1 tv (L.length + 1) (L.map SV ++ [SV b]) tv1 w1)
    (hmap2 : w2.ownsMap Tryz.prog 9 (plainElem Tryz.prog 22) m (L.length + 1) (D.put (.string b) (.lit (.int .i64 ((L.length : Int) + 1)))))
    (hg2 : (w1.setCell ⟨p, 1, none⟩ tv1).grownBy w2 (some m)) : Tb w2 (Up S w w2) p (L ++ [b]) := by
  obtain ⟨h1, hmap, hN, hown, hp, hm, hg, hall⟩ := h
  have k0 := (h1.alloc o).grown happ.2.1 (Ne.symm (own_far hown h1 (by decide)))
  have hpm : m ≠ p := map_far hmap h1
  have hm1 := (hmap.alloc o).kept happ.2.1 (Ne.symm (map_row hmap hown))
  have c2 : Ch (fun k => k = p ∨ k = m) w1 w2 := ((Ch.refl _ w1).setCell (p := ⟨p, 1, none⟩) (fun _ => .inl rfl) tv1).trans (Ch.of_grown hg2 (S := fun k => k = m) (fun g hg _ => by injection hg with hg; exact hg.symm)) (fun _ _ h => .inr h)
  refine ⟨m, tv1, _, ?_, ?_, hN.put hmap.isMap (strKey b) hk, ?_, .inl hp, .inl hm, ?_, ?_, ?_⟩
  · exact (k0.set_ 1 tv1).grown hg2 (by simp; exact fun e => hpm e.symm)
  · rw [List.length_append]; exact hmap2
  · rw [List.length_append, List.map_append]
    refine own_ch happ.1 c2 (fun g hg' => ?_)
    rintro (rfl | rfl)
    · exact own_far happ.1 k0 (by decide) hg'
    · exact map_row hm1 happ.1 hg'
  · intro g hg'
    rcases happ.2.2 with h2 | h2
    · exact .inl (hg g (by rw [← h2]; exact hg'))
    · refine .inr ⟨?_, Nat.lt_of_lt_of_le (happ.1.lt g hg').2 c2.size⟩
      rw [h2] at hg'
      injection hg' with hg'
      subst hg'
      simp
  · intro l hl2
    rcases List.mem_append.1 hl2 with h2 | h2
    · exact hall l h2
    · simp only [List.mem_cons, List.not_mem_nil, or_false] at h2
      subst h2; exact hb
  · simp only [List.length_append, List.length_cons, List.length_nil]; omega
theorem ch_snoc {w w1 w2 : World} {S : Nat → Prop} {n p m : Nat} {tv tv1 : Value} {D : DataW Unit} {L : List Tx} {xs : List Value} {o : Obj} {k : Nat} (h : Parts (w.drewN n) S p m tv D L)
    (happ : Appended ((w.drewN n).alloc o) 0 9 1 tv k xs tv1 w1) (hg2 : (w1.setCell ⟨p, 1, none⟩ tv1).grownBy w2 (some m)) : Ch S w w2 := by
  obtain ⟨h1, hmap, hN, hown, hp, hm, hg, hall⟩ := h
  refine ((((Ch.refl S w).drewN n).alloc o).trans (Ch.of_grown happ.2.1 (S := S) (fun g hg' _ => hg g hg')) (fun _ _ h => h)).setCell (p := ⟨p, 1, none⟩) (fun _ => hp) tv1 |>.trans (Ch.of_grown hg2 (S := S) (fun g hg' _ => ?_)) (fun _ _ h => h)
  injection hg' with hg'
  subst hg'
  exact hm
theorem key_str (b : Tx) (hb : b.length ≤ maxLen) : keyOf Tryz.prog 9 (.string ⟨b.toArray⟩) = some (.string b) := by
  have := _root_.Go.WideMaps.keyOf_string_mk (P := Tryz.prog) Tryz.underlying9 (s := ⟨b.toArray⟩) (show b.toArray.size ≤ maxLen by simpa using hb)
  simpa using this

set_option maxRecDepth 100000 in
set_option maxHeartbeats 1000000 in
theorem sum_yes (w : World) (S X : Nat → Prop) (p : Nat) (L : List Tx) (A : Option Addr) (c : Nat) (b : Tx) (h : Tb w S p L) (hb : Sl w X 1 (.slice A b.length c) b.length (BVs b)) (hl : b.length ≤ 140737488355328) :
    Calls Tryz.prog 39 #[.pointer (some ⟨p, 0, none⟩), .slice A b.length c] w (Summed S p L b w) := by
  have HL := Lib.hid (look_yes w S X p L A c b h hb hl)
  have HM := fun n => made_yes (w.drewN n) S p L (h.drewN n)
  have HM := Lib.hid HM
  by_cases hk : num L b = 0
  · have hin := isIn_false hk
    obtain ⟨m, tv, D, h1, hmap, hN, hown, hp, hm, hg, hall, hL⟩ := h
    obtain ⟨A', c', rfl⟩ := own_shape hown
    by_cases hf : 1048576 ≤ L.length
    · obtain ⟨ha, hs⟩ := add_full hk hf
      have c1 : ∀ n, (w.drewN n).cell? ⟨p, 1, none⟩ = some (.slice A' L.length c') := fun _ => h1.cell 1
      have hT : Tb w S p L := ⟨m, _, D, h1, hmap, hN, hown, hp, hm, hg, hall, hL⟩
      have HT := Lib.hid hT
      have HA := Lib.hid ha
      have HS := Lib.hid hs
      have hk0 : (num L b : Int) = 0 := by omega
      have hf' : decide ((1048576 : Int) ≤ (L.length : Int)) = true := by rw [decide_eq_true_eq]; omega
      clear h1 hmap hN hown hp hm hg hall ha hs hT hk hf hL hl hb
      go_enter Tryz.func39, Tryz.ntmps39
      go_wp2_with (first
        | (go_at_call 59; refine HL.out.mono ?_; rintro e w' ⟨rfl, n, rfl⟩)
        | (go_at_call 60; refine (HM.out _).mono ?_; rintro e w' ⟨rfl, rfl⟩))
      go_ret
      refine ⟨by rw [HS.out]; rfl, ?_, (Ch.refl S w).drewN _⟩
      rw [HA.out]
      exact (HT.out.drewN _).weaken (fun k hk => .inl hk)
    · obtain ⟨ha, hs⟩ := add_new hk hf
      have HA := Lib.hid ha
      have HS := Lib.hid hs
      have e1 := fun n : Nat => run_convert_sl (P := Tryz.prog) (w.drewN n) X 25 9 5 A c b Tryz.underlying25 Tryz.underlying5 Tryz.underlying9 (hb.drewN n)
      have HH : Hid (∀ n, Parts (w.drewN n) S p m (.slice A' L.length c') D L) := Lib.hid fun n => ⟨h1, hmap, hN, hown, hp, hm, hg, hall⟩
      have hf' : decide ((1048576 : Int) ≤ (L.length : Int)) = false := by rw [decide_eq_false_iff_not]; omega
      have hlt : L.length ≤ 2000000 := by omega
      have HK := Lib.hid hk
      have HB := Lib.hid hl
      have HK2 : Hid (keyOf Tryz.prog 9 (.string ⟨b.toArray⟩) = some (.string b)) := Lib.hid (key_str b (by simp only [maxLen]; omega))
      have c1 : ∀ n, (w.drewN n).cell? ⟨p, 1, none⟩ = some (.slice A' L.length c') := fun _ => h1.cell 1
      obtain ⟨i0, hi0, hz0, hz1, hz2⟩ := info_parts info_str
      have hk0 : (num L b : Int) = 0 := by omega
      clear ha hs hk hf h1 hmap hN hown hp hm hg hall hL hl hb
      go_enter Tryz.func39, Tryz.ntmps39
      go_wp2_with (first
        | (go_at_call 59; refine HL.out.mono ?_; rintro e w' ⟨rfl, n, rfl⟩)
        | (go_at_call 60; refine (HM.out _).mono ?_; rintro e w' ⟨rfl, rfl⟩)
        | (at_builtin; refine wpList_append_sh _ rfl (.tmp 41) (.tmp 43) _ rfl 0 9 i0 _ 1 16 Tryz.underlying56 hi0 hz0 hz1 hz2 rfl (by omega) (.slice A' L.length c') L.length (L.map SV) rfl ((HH.out n).2.2.2.1.alloc _) (fun _ => False) _ 1 [SV b] rfl (one_sv (w.drewN n) _ _ _ (fun h => h)) (svs_one [b]) (by simp only [maxLen]; omega) (by omega) (Nat.zero_le _) ?_; intro A1 d1 w1 happ; have k0 := ((HH.out n).1.alloc (.cells #[SV b] 9)).grown happ.2.1 (Ne.symm (own_far (HH.out n).2.2.2.1 (HH.out n).1 (by decide))); have k1 := k0.cell 1; have k2 := k0.frozen 1; have k3 := k0.cell 0; simp only [List.getElem?_toArray, List.getElem?_cons_zero, List.getElem?_cons_succ] at k1 k3)
        | (at_mapUpdate; refine wpList_mapUpdate_own (H := Unit) _ rfl _ _ _ 55 rfl 9 22 law_str Tryz.underlying55 (plainElem Tryz.prog 22) m L.length D rfl ((((HH.out n).2.1.alloc _).kept happ.2.1 (Ne.symm (map_row (HH.out n).2.1 (HH.out n).2.2.2.1))).setCell (map_far (HH.out n).2.1 (HH.out n).1) _) (by simp only [maxLen]; omega) _ _ (.string b) rfl rfl HK2.out (.lit (.int .i64 ((L.length : Int) + 1))) [] (plainElem_int Tryz.underlying22 (WalkArith.wf_i64 (by omega))) ?_; intro w2 hmap2 hgrow2))
      go_ret
      refine ⟨by rw [HS.out]; rfl, ?_, ?_⟩
      · rw [HA.out]
        exact tb_snoc (HH.out n) HK.out (by rw [decide_eq_false_iff_not] at hf'; omega) HB.out happ hmap2 hgrow2
      · exact ch_snoc (HH.out n) happ hgrow2
  · have hin := isIn_true hk
    obtain ⟨ha, hs⟩ := add_known hk
    have HT := Lib.hid h
    have HA := Lib.hid ha
    have HS := Lib.hid hs
    clear h ha hs
    go_enter Tryz.func39, Tryz.ntmps39
    go_wp2_with (go_at_call 59; refine HL.out.mono ?_; rintro e w' ⟨rfl, n, rfl⟩)
    go_ret
    refine ⟨by rw [HS.out]; rfl, ?_, (Ch.refl S w).drewN _⟩
    rw [HA.out]
    exact (HT.out.drewN _).weaken (fun k hk => .inl hk)

end Go.Proofs.YtobphijbhghgmaaGreat.Ib

/-
  Contracts of slices.Clone at three types, of maps.Clone at two.
-/
namespace Go.Proofs.YtobphijbhghgmaaGreat.Ic
set_option linter.unusedSimpArgs false
set_option linter.unusedVariables false
set_option maxRecDepth 100000
open Go Go.RowKit Ck Im Kw Ik Ia Ib

set_option maxHeartbeats 400000 in
theorem clone_strs (X : Nat → Prop) (v : Value) (n : Nat) (xs : List Value) (w : World) (hv : Sl w X 1 v n xs) (h1 : ∀ u ∈ xs, u.oneCell' = true) (hn : n * 16 ≤ 140737488355328) :
    Calls Tryz.prog 115 #[v] w fun e w' => ∃ A c, e = .returned (.slice A n c) ∧ w'.ownsRow w.heap.size 9 1 (.slice A n c) n xs ∧ Below w.heap.size w w' := by
  obtain ⟨i0, hi0, hz0, hz1, hz2⟩ := info_parts info_str
  have hv' := hv
  obtain ⟨A, c, rfl, hxl, -⟩ := hv'
  have heq := fun (W : World) => Lib.run_eql_slice_nil (P := Tryz.prog) W 56 9 A n c 0 0 Tryz.underlying56
  rcases A with _ | ad
  · obtain ⟨h0, rfl⟩ := hv.none_
    subst h0
    clear hv h1 hxl
    go_enter Tryz.func115, Tryz.ntmps115
    go_wp2
    go_ret
    exact ⟨_, _, rfl, World.ownsRow_nil _ _ _ _, Below.refl _ _⟩
  · have HX := Lib.hid hxl
    clear hxl
    go_enter Tryz.func115, Tryz.ntmps115
    go_wp2_with (at_builtin; refine wpList_append_sh _ rfl (.tmp 5) (.tmp 6) _ rfl w.heap.size 9 i0 _ 1 16 Tryz.underlying56 hi0 hz0 hz1 hz2 rfl (by omega) (.slice (some ⟨w.heap.size, 0, none⟩) 0 0) 0 [] rfl (World.ownsRow_made w #[] 0 (Nat.le_refl _) (by simp only [maxLen]; omega) rfl) X _ n xs rfl (hv.alloc _) h1 (by simp only [maxLen]; omega) (by omega) (by simp) ?_; intro A2 c2 w2 happ)
    go_ret
    obtain ⟨ho, hg, hr⟩ := happ
    rw [Nat.zero_add] at hr
    refine ⟨A2, c2, by simp, by simpa using ho, ?_⟩
    exact ((Below.refl _ _).alloc (Nat.le_refl _) _).grown hg (by simp) (by simp [Value.ownBlock])

set_option maxHeartbeats 400000 in
set_option maxRecDepth 100000 in
theorem mclone_strs (w : World) (b : Nat) (es : Array MapEntry) (clock : Nat) (hb : w.heap[b]? = some (.map es clock)) :
    Calls Tryz.prog 114 #[.map (some b)] w fun e w' => e = .returned (.map (some w.heap.size)) ∧ w.alloc (.map es clock) = w' := by
  have hq := fun W => run_eql_map_nil_sl (P := Tryz.prog) W 55 _ _ (some b) Tryz.underlying55
  have HB := Lib.hid hb
  clear hb
  go_enter Tryz.func114, Tryz.ntmps114
  go_wp2
  rw [run_callFunc_extern Tryz.func143 (by kernel_rfl) (by kernel_rfl) (by kernel_rfl) (e := Extern.MapsClone.clone) (by kernel_rfl), run_maps_clone_sl w 55 HB.out]
  simp only [Result.andThen]
  rw [Oper.upon_value]
  go_wp2
  rw [run_typeAssert_map_sl _ 55 20 _ _ _ Tryz.underlying55]
  simp only [Result.andThen]
  rw [Oper.upon_value]
  go_wp2
  go_ret
  exact ⟨rfl, rfl⟩

end Go.Proofs.YtobphijbhghgmaaGreat.Ic

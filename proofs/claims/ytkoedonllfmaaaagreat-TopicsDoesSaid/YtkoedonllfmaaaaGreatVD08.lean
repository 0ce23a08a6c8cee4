/-
  Contract of the program's topics: run, kind by kind.
-/
import Derived.Test.YtkoedonllfmaaaaGreatVD07
import Derived.Test.YtkoedonllfmaaaaGreatVD03
import Derived.Test.YtkoedonllfmaaaaGreatVD02
import Derived.BigQuiet
import Derived.Deep.QuietTactic
namespace Go.Proofs.YtkoedonllfmaaaaGreat.Ag
set_option linter.unusedSimpArgs false
open Go Go.RowKit Ck Kw Ga Kf Km Kd Pm Pz Pe Pg Py Tm Tn Tq Aa Ab Ac Ad Ae Af
attribute [local go_sem ↓] Go.wp_at_zero Go.wp_at_succ
set_option linter.unusedVariables false

theorem Tz.more {w : World} {S S' R : Nat → Prop} {p : Nat} {s : St} (h : Tz w S R p s) (hs : ∀ k, S k → S' k) (hr : ∀ k, R k → ¬ S' k) : Tz w S' R p s := by
  obtain ⟨m, D, G, V, M, F, h⟩ := h
  exact ⟨m, D, G, V, M, F, h.blk, hs _ h.sp, h.own, h.tells, ⟨hs _ h.sm.1, h.sm.2⟩, h.top, fun t ht k hk => ⟨hs _ (h.sub t ht k hk).1, (h.sub t ht k hk).2⟩, h.apart, fun k hk => ⟨hr k hk, (h.rs k hk).2⟩, h.good⟩
theorem Tz.rlt {w : World} {S R : Nat → Prop} {p : Nat} {s : St} (h : Tz w S R p s) : ∀ k, R k → ¬ S k ∧ k < w.heap.size := by
  obtain ⟨m, D, G, V, M, F, h⟩ := h
  exact h.rs
theorem did_lift {w w1 w2 : World} {S R : Nat → Prop} {p : Nat} {s : St} (b : Below w.heap.size w w1) (hr : ∀ k, R k → ¬ S k ∧ k < w.heap.size) (h : Did S R p s w1 w2) : Did S R p s w w2 := by
  have hs := b.size
  refine ⟨Tz.more h.1 (fun k hk => ?_) (fun k hk hu => ?_), (Ch.of_below b (Nat.le_refl _)).trans h.2 (fun _ _ h => h)⟩
  · rcases hk with hk | ⟨h1, h2⟩
    · exact .inl hk
    · exact .inr ⟨by omega, h2⟩
  · obtain ⟨r1, r2⟩ := hr k hk
    rcases hu with hu | ⟨h1, h2⟩
    · exact r1 hu
    · omega
theorem op_new (w : World) (o : O) (A : Option Addr) (c : Nat) : OB (w.alloc (.cells (OC o A c) 38)) w.heap.size o A c := Blk.new w _ _
theorem op_below (w : World) (x : Obj) : Below w.heap.size w (w.alloc x) := (Below.refl _ w).alloc (Nat.le_refl _) _
theorem Ins.later {w w' : World} {R : Nat → Prop} {A : Option Addr} {c : Nat} {rs : List Tx} (h : Ins w R A c rs) (b : Below w.heap.size w w') : Ins w' R A c rs := by
  obtain ⟨vals, h1, h2⟩ := h
  refine ⟨vals, h1.after b, fun i hi => ?_⟩
  obtain ⟨u, hu, hs⟩ := h2 i hi
  exact ⟨u, hu, hs.after b⟩
/-- What run leaves. -/
def Ran (S R : Nat → Prop) (p : Nat) (s : St) (o : O) (w : World) (e : Ending) (w' : World) : Prop :=
  e = .returned (.tuple #[.int .i64 (doesS s.L o).1.2, .int .i64 (doesS s.L o).1.1]) ∧ Did S R p ⟨(doesS s.L o).2.2, s.last⟩ w w'
set_option maxRecDepth 100000 in
set_option maxHeartbeats 1000000 in
theorem run_0 (w : World) (S R : Nat → Prop) (p : Nat) (s : St) (o : O) (A : Option Addr) (c : Nat) (hk : o.kind = 0) (hc : check o = 0) (h : Tz w S R p s) (hi : Ins w R A c o.recs) :
    Calls Tryz.prog 44 #[.pointer (some ⟨p, 0, none⟩), OV o A c] w (Ran S R p s o w) := by
  have HRL := Lib.hid (Tz.rlt h)
  have hal := op_below w (.cells (OC o A c) 38)
  have HAL := Lib.hid hal
  have HZ := Lib.hid (h.later hal)
  have hob := op_new w o A c
  obtain ⟨a0, a1, a2, a3, a4⟩ := hob.cells
  have hgood := (doesS_good h.good.L o).1
  have HGS : Hid (GoodS ⟨(doesS s.L o).2.2, s.last⟩) := Lib.hid ⟨hgood, h.good.eight, h.good.a⟩
  have HIN := Lib.hid (Ins.later hi hal)
  have HL4 := Lib.hid (check_lens hc)
  have HD := Lib.hid (does_0 (L := s.L) hc hk)
  clear hal hob hgood h hi hc
  unfold Ran
  rw [HD.out]
  obtain ⟨kind, topic, group, off, recs⟩ := o
  simp only at hk
  subst hk
  unfold OV
  unfold OC at HAL HZ HIN a0 a1 a2 a3 a4
  simp only at HAL HZ HIN a0 a1 a2 a3 a4 ⊢
  go_enter Tryz.func44, Tryz.ntmps44
  go_wp2_with fail
  go_ret2
  exact ⟨rfl, did_lift HAL.out HRL.out (did_refl HZ.out)⟩
set_option maxRecDepth 100000 in
set_option maxHeartbeats 1000000 in
theorem run_1 (w : World) (S R : Nat → Prop) (p : Nat) (s : St) (o : O) (A : Option Addr) (c : Nat) (hk : o.kind = 1) (hc : check o = 0) (h : Tz w S R p s) (hi : Ins w R A c o.recs) :
    Calls Tryz.prog 44 #[.pointer (some ⟨p, 0, none⟩), OV o A c] w (Ran S R p s o w) := by
  have HRL := Lib.hid (Tz.rlt h)
  have hal := op_below w (.cells (OC o A c) 38)
  have HAL := Lib.hid hal
  have HZ := Lib.hid (h.later hal)
  have hob := op_new w o A c
  obtain ⟨a0, a1, a2, a3, a4⟩ := hob.cells
  have hgood := (doesS_good h.good.L o).1
  have HGS : Hid (GoodS ⟨(doesS s.L o).2.2, s.last⟩) := Lib.hid ⟨hgood, h.good.eight, h.good.a⟩
  have HIN := Lib.hid (Ins.later hi hal)
  have HL4 := Lib.hid (check_lens hc)
  have HD := Lib.hid (does_1 (L := s.L) hc hk)
  have hlen := (HL4.out.1 (by rw [hk]; rfl))
  have HC := Lib.hid (create_any _ S R p s o.topic (by omega) HZ.out (fun h1 h2 => by
    have := HGS.out
    rw [HD.out, crS, h1, if_neg (by simp), if_neg (by omega)] at this
    exact this))
  clear hal hob hgood h hi hc hlen
  unfold Ran
  rw [HD.out]
  obtain ⟨kind, topic, group, off, recs⟩ := o
  simp only at hk
  subst hk
  unfold OV
  unfold OC at HAL HZ HIN HC a0 a1 a2 a3 a4
  simp only at HAL HZ HIN HC a0 a1 a2 a3 a4 ⊢
  go_enter Tryz.func44, Tryz.ntmps44
  go_wp2_with fail
  refine HC.out.mono ?_
  rintro e w2 ⟨rfl, hd⟩
  go_wp2_with fail
  go_ret2
  exact ⟨rfl, did_lift HAL.out HRL.out hd⟩
set_option maxRecDepth 100000 in
set_option maxHeartbeats 1000000 in
theorem run_2 (w : World) (S R : Nat → Prop) (p : Nat) (s : St) (o : O) (A : Option Addr) (c : Nat) (hk : o.kind = 2) (hc : check o = 0) (h : Tz w S R p s) (hi : Ins w R A c o.recs) :
    Calls Tryz.prog 44 #[.pointer (some ⟨p, 0, none⟩), OV o A c] w (Ran S R p s o w) := by
  have HRL := Lib.hid (Tz.rlt h)
  have hal := op_below w (.cells (OC o A c) 38)
  have HAL := Lib.hid hal
  have HZ := Lib.hid (h.later hal)
  have hob := op_new w o A c
  obtain ⟨a0, a1, a2, a3, a4⟩ := hob.cells
  have hgood := (doesS_good h.good.L o).1
  have HGS : Hid (GoodS ⟨(doesS s.L o).2.2, s.last⟩) := Lib.hid ⟨hgood, h.good.eight, h.good.a⟩
  have HIN := Lib.hid (Ins.later hi hal)
  have HL4 := Lib.hid (check_lens hc)
  have hlen := (HL4.out.1 (by rw [hk]; rfl))
  obtain ⟨m, D, G, V, M, F, hP⟩ := HZ.out
  have HF := Lib.hid (find_on _ S R p m s D G V M F o.topic (by omega) hP)
  have HP := Lib.hid hP
  have hrt := h.good.L.rises
  cases hf : findT s.L o.topic with
  | none =>
    have HD := Lib.hid (does_no (L := s.L) hc (by omega) (by omega) hf)
    rw [hf] at HF
    unfold PV at HF
    simp only [Option.map_none, Option.isSome_none] at HF
    clear hal hob hgood h hi hc hlen hP hf hrt
    unfold Ran
    rw [HD.out]
    obtain ⟨kind, topic, group, off, recs⟩ := o
    simp only at hk
    subst hk
    unfold OV
    unfold OC at HAL HZ HIN HF HP a0 a1 a2 a3 a4
    simp only at HAL HZ HIN HF HP a0 a1 a2 a3 a4 ⊢
    go_enter Tryz.func44, Tryz.ntmps44
    go_wp2_with fail
    refine HF.out.mono ?_
    rintro e w2 ⟨rfl, rfl⟩
    go_wp2_with fail
    go_ret2
    exact ⟨rfl, did_lift HAL.out HRL.out (did_refl HZ.out)⟩
  | some x =>
    have hD := does_2 hrt hc hk hf
    obtain ⟨hx, hn⟩ := findT_some hf
    have hfit := h.good.L.fit x hx
    have HD := Lib.hid hD
    have HX := Lib.hid hx
    rw [hf] at HF
    unfold PV at HF
    simp only [Option.map_some, Option.isSome_some] at HF
    have hFR : ∀ k, R k → ¬ F x.n k ∧ k < (w.alloc (.cells (OC o A c) 38)).heap.size := fun k hk => ⟨fun hF => (hP.rs k hk).1 (hP.sub x hx k hF).1, (hP.rs k hk).2⟩
    have HC := Lib.hid (publish_any _ _ R _ x _ _ A c o.recs (hP.top x hx) hfit hFR HIN.out (by have := (HL4.out.2.2.2 (by rw [hk]; rfl)).2.1; omega))
    clear hal hob hgood h hi hc hlen hP hf hrt hD hx hfit hFR hn
    unfold Ran
    rw [HD.out.1, HD.out.2.1]
    obtain ⟨kind, topic, group, off, recs⟩ := o
    simp only at hk
    subst hk
    unfold OV
    unfold OC at HAL HZ HIN HF HP HC a0 a1 a2 a3 a4
    simp only at HAL HZ HIN HF HP HC HD a0 a1 a2 a3 a4 ⊢
    go_enter Tryz.func44, Tryz.ntmps44
    go_wp2_with fail
    refine HF.out.mono ?_
    rintro e w2 ⟨rfl, rfl⟩
    go_wp2_with fail
    refine HC.out.mono ?_
    rintro e w3 ⟨rfl, ht⟩
    go_wp2_with fail
    go_ret2
    refine ⟨rfl, did_lift HAL.out HRL.out (tp_upd HP.out HX.out (pub_n _ _) ht ?_)⟩
    rw [← HD.out.2.1]
    exact HGS.out
set_option maxRecDepth 100000 in
set_option maxHeartbeats 1000000 in
theorem run_3 (w : World) (S R : Nat → Prop) (p : Nat) (s : St) (o : O) (A : Option Addr) (c : Nat) (hk : o.kind = 3) (hc : check o = 0) (h : Tz w S R p s) (hi : Ins w R A c o.recs) :
    Calls Tryz.prog 44 #[.pointer (some ⟨p, 0, none⟩), OV o A c] w (Ran S R p s o w) := by
  have HRL := Lib.hid (Tz.rlt h)
  have hal := op_below w (.cells (OC o A c) 38)
  have HAL := Lib.hid hal
  have HZ := Lib.hid (h.later hal)
  have hob := op_new w o A c
  obtain ⟨a0, a1, a2, a3, a4⟩ := hob.cells
  have hgood := (doesS_good h.good.L o).1
  have HGS : Hid (GoodS ⟨(doesS s.L o).2.2, s.last⟩) := Lib.hid ⟨hgood, h.good.eight, h.good.a⟩
  have HIN := Lib.hid (Ins.later hi hal)
  have HL4 := Lib.hid (check_lens hc)
  have hlen := (HL4.out.1 (by rw [hk]; rfl))
  obtain ⟨m, D, G, V, M, F, hP⟩ := HZ.out
  have HF := Lib.hid (find_on _ S R p m s D G V M F o.topic (by omega) hP)
  have HP := Lib.hid hP
  have hrt := h.good.L.rises
  cases hf : findT s.L o.topic with
  | none =>
    have HD := Lib.hid (does_no (L := s.L) hc (by omega) (by omega) hf)
    rw [hf] at HF
    unfold PV at HF
    simp only [Option.map_none, Option.isSome_none] at HF
    clear hal hob hgood h hi hc hlen hP hf hrt
    unfold Ran
    rw [HD.out]
    obtain ⟨kind, topic, group, off, recs⟩ := o
    simp only at hk
    subst hk
    unfold OV
    unfold OC at HAL HZ HIN HF HP a0 a1 a2 a3 a4
    simp only at HAL HZ HIN HF HP a0 a1 a2 a3 a4 ⊢
    go_enter Tryz.func44, Tryz.ntmps44
    go_wp2_with fail
    refine HF.out.mono ?_
    rintro e w2 ⟨rfl, rfl⟩
    go_wp2_with fail
    go_ret2
    exact ⟨rfl, did_lift HAL.out HRL.out (did_refl HZ.out)⟩
  | some x =>
    have hD := does_3 hrt hc hk hf
    obtain ⟨hx, hn⟩ := findT_some hf
    have hfit := h.good.L.fit x hx
    have HD := Lib.hid hD
    have HX := Lib.hid hx
    rw [hf] at HF
    unfold PV at HF
    simp only [Option.map_some, Option.isSome_some] at HF
    have hFR : ∀ k, R k → ¬ F x.n k ∧ k < (w.alloc (.cells (OC o A c) 38)).heap.size := fun k hk => ⟨fun hF => (hP.rs k hk).1 (hP.sub x hx k hF).1, (hP.rs k hk).2⟩
    have HC := Lib.hid (commit_any _ _ R _ x _ _ o.group o.off (by have := HL4.out.2.1 (by rw [hk]; rfl); omega) (hP.top x hx) hfit ((okT_iff x).1 (h.good.L.ok x hx)).2.2.2 (fun k hk => (hFR k hk).1))
    clear hal hob hgood h hi hc hlen hP hf hrt hD hx hfit hFR hn
    unfold Ran
    rw [HD.out.1, HD.out.2.1]
    obtain ⟨kind, topic, group, off, recs⟩ := o
    simp only at hk
    subst hk
    unfold OV
    unfold OC at HAL HZ HIN HF HP HC a0 a1 a2 a3 a4
    simp only at HAL HZ HIN HF HP HC HD a0 a1 a2 a3 a4 ⊢
    go_enter Tryz.func44, Tryz.ntmps44
    go_wp2_with fail
    refine HF.out.mono ?_
    rintro e w2 ⟨rfl, rfl⟩
    go_wp2_with fail
    refine HC.out.mono ?_
    rintro e w3 ⟨rfl, ht⟩
    go_wp2_with fail
    go_ret2
    refine ⟨rfl, did_lift HAL.out HRL.out (tp_upd HP.out HX.out (com_n _ _ _) ht ?_)⟩
    rw [← HD.out.2.1]
    exact HGS.out
set_option maxRecDepth 100000 in
set_option maxHeartbeats 1000000 in
theorem run_4 (w : World) (S R : Nat → Prop) (p : Nat) (s : St) (o : O) (A : Option Addr) (c : Nat) (hk : o.kind = 4) (hc : check o = 0) (h : Tz w S R p s) (hi : Ins w R A c o.recs) :
    Calls Tryz.prog 44 #[.pointer (some ⟨p, 0, none⟩), OV o A c] w (Ran S R p s o w) := by
  have HRL := Lib.hid (Tz.rlt h)
  have hal := op_below w (.cells (OC o A c) 38)
  have HAL := Lib.hid hal
  have HZ := Lib.hid (h.later hal)
  have hob := op_new w o A c
  obtain ⟨a0, a1, a2, a3, a4⟩ := hob.cells
  have hgood := (doesS_good h.good.L o).1
  have HGS : Hid (GoodS ⟨(doesS s.L o).2.2, s.last⟩) := Lib.hid ⟨hgood, h.good.eight, h.good.a⟩
  have HIN := Lib.hid (Ins.later hi hal)
  have HL4 := Lib.hid (check_lens hc)
  have hlen := (HL4.out.1 (by rw [hk]; rfl))
  obtain ⟨m, D, G, V, M, F, hP⟩ := HZ.out
  have HF := Lib.hid (find_on _ S R p m s D G V M F o.topic (by omega) hP)
  have HP := Lib.hid hP
  have hrt := h.good.L.rises
  cases hf : findT s.L o.topic with
  | none =>
    have HD := Lib.hid (does_no (L := s.L) hc (by omega) (by omega) hf)
    rw [hf] at HF
    unfold PV at HF
    simp only [Option.map_none, Option.isSome_none] at HF
    clear hal hob hgood h hi hc hlen hP hf hrt
    unfold Ran
    rw [HD.out]
    obtain ⟨kind, topic, group, off, recs⟩ := o
    simp only at hk
    subst hk
    unfold OV
    unfold OC at HAL HZ HIN HF HP a0 a1 a2 a3 a4
    simp only at HAL HZ HIN HF HP a0 a1 a2 a3 a4 ⊢
    go_enter Tryz.func44, Tryz.ntmps44
    go_wp2_with fail
    refine HF.out.mono ?_
    rintro e w2 ⟨rfl, rfl⟩
    go_wp2_with fail
    go_ret2
    exact ⟨rfl, did_lift HAL.out HRL.out (did_refl HZ.out)⟩
  | some x =>
    have hD := does_4 hrt hc hk hf
    obtain ⟨hx, hn⟩ := findT_some hf
    have hfit := h.good.L.fit x hx
    have HD := Lib.hid hD
    have HX := Lib.hid hx
    rw [hf] at HF
    unfold PV at HF
    simp only [Option.map_some, Option.isSome_some] at HF
    have hFR : ∀ k, R k → ¬ F x.n k ∧ k < (w.alloc (.cells (OC o A c) 38)).heap.size := fun k hk => ⟨fun hF => (hP.rs k hk).1 (hP.sub x hx k hF).1, (hP.rs k hk).2⟩
    have HC := Lib.hid (trim_any _ _ R _ x _ _ o.off (hP.top x hx) hfit (fun k hk => (hFR k hk).1))
    clear hal hob hgood h hi hc hlen hP hf hrt hD hx hfit hFR hn
    unfold Ran
    rw [HD.out.1, HD.out.2.1]
    obtain ⟨kind, topic, group, off, recs⟩ := o
    simp only at hk
    subst hk
    unfold OV
    unfold OC at HAL HZ HIN HF HP HC a0 a1 a2 a3 a4
    simp only at HAL HZ HIN HF HP HC HD a0 a1 a2 a3 a4 ⊢
    go_enter Tryz.func44, Tryz.ntmps44
    go_wp2_with fail
    refine HF.out.mono ?_
    rintro e w2 ⟨rfl, rfl⟩
    go_wp2_with fail
    refine HC.out.mono ?_
    rintro e w3 ⟨rfl, ht⟩
    go_wp2_with fail
    go_ret2
    refine ⟨rfl, did_lift HAL.out HRL.out (tp_upd HP.out HX.out (tri_n _ _) ht ?_)⟩
    rw [← HD.out.2.1]
    exact HGS.out
theorem run_any (w : World) (S R : Nat → Prop) (p : Nat) (s : St) (o : O) (A : Option Addr) (c : Nat) (hc : check o = 0) (h : Tz w S R p s) (hi : Ins w R A c o.recs) :
    Calls Tryz.prog 44 #[.pointer (some ⟨p, 0, none⟩), OV o A c] w (Ran S R p s o w) := by
  rcases kind_cases (check_ok hc).1 with e | e | e | e | e
  · exact run_0 w S R p s o A c e hc h hi
  · exact run_1 w S R p s o A c e hc h hi
  · exact run_2 w S R p s o A c e hc h hi
  · exact run_3 w S R p s o A c e hc h hi
  · exact run_4 w S R p s o A c e hc h hi
end Go.Proofs.YtkoedonllfmaaaaGreat.Ag

/-
  Contract of the program's topics: places.
-/
namespace Go.Proofs.YtkoedonllfmaaaaGreat.Ah
set_option linter.unusedSimpArgs false
open Go Go.RowKit Ck Kw Ga Kf Km Kd Pm Pz Pe Pg Py Tm Tn Tq Aa Ab Ac Ad Ae Af Ag
attribute [local go_sem ↓] Go.wp_at_zero Go.wp_at_succ
set_option linter.unusedVariables false

theorem info_placed : (Tryz.prog.info? 59).map (fun i => (i.zero, i.size, i.bytes)) = some (some (.agg #[.string ⟨#[]⟩, .int .i64 0, .slice none 0 0]), 3, 48) := by kernel_rfl
/-- A record at its place, and the slice that holds it. -/
abbrev Pq := (Tx × Int × Tx) × Value
def PC (x : Pq) : List Value := [.string ⟨x.1.1.toArray⟩, .int .i64 x.1.2.1, x.2]
def PCs (l : List Pq) : List Value := l.flatMap PC
theorem PC_len (x : Pq) : (PC x).length = 3 := rfl
/-- The slice v reads as records at their places; all of it lies from block B on. -/
def Ps (w : World) (B : Nat) (v : Value) (ps : List (Tx × Int × Tx)) : Prop :=
  ∃ l : List Pq, l.map (·.1) = ps ∧ w.ownsRow B 59 3 v ps.length (PCs l) ∧ ∀ x ∈ l, w.ownsRow B 5 1 x.2 x.1.2.2.length (BVs x.1.2.2)
theorem Ps.nil (w : World) (B : Nat) : Ps w B (.slice none 0 0) [] := ⟨[], rfl, World.ownsRow_nil _ _ _ _, fun x hx => by cases hx⟩
theorem Ps.ch {w w' : World} {B : Nat} {v : Value} {ps : List (Tx × Int × Tx)} {S : Nat → Prop} (h : Ps w B v ps) (c : Ch S w w') (hs : ∀ k, S k → k < B) : Ps w' B v ps := by
  obtain ⟨l, h1, h2, h3⟩ := h
  exact ⟨l, h1, own_ch h2 c (fun g hg hs' => by have := (h2.lt g hg).1; have := hs g hs'; omega), fun x hx => own_ch (h3 x hx) c (fun g hg hs' => by have := ((h3 x hx).lt g hg).1; have := hs g hs'; omega)⟩
theorem Ps.later {w w' : World} {B : Nat} {v : Value} {ps : List (Tx × Int × Tx)} (h : Ps w B v ps) (b : Below w.heap.size w w') : Ps w' B v ps :=
  h.ch (Ch.of_below (S := fun _ => False) b (Nat.le_refl _)) (fun _ h => h.elim)
theorem Ps.base {w : World} {B B' : Nat} {v : Value} {ps : List (Tx × Int × Tx)} (h : Ps w B v ps) (hb : B' ≤ B) : Ps w B' v ps := by
  obtain ⟨l, h1, h2, h3⟩ := h
  exact ⟨l, h1, own_base h2 hb, fun x hx => own_base (h3 x hx) hb⟩
theorem placed_len (n : Tx) : ∀ (k : Int) (rs : List Tx), (placed n k rs).length = rs.length
  | _, [] => rfl
  | k, r :: rs => by simp [placed, placed_len n (k + 1) rs]
theorem placed_take (n : Tx) : ∀ (rs : List Tx) (k : Int) (i : Nat) (hi : i < rs.length), (placed n k rs).take (i + 1) = (placed n k rs).take i ++ [(n, k + (i : Int), rs[i])]
  | [], k, i, hi => absurd hi (by simp)
  | r :: rs, k, 0, hi => by simp [placed]
  | r :: rs, k, i + 1, hi => by
    have := placed_take n rs (k + 1) i (by simpa using hi)
    simp only [placed, List.take_succ_cons, this, List.getElem_cons_succ, List.cons_append]
    rw [show k + 1 + (i : Int) = k + ((i + 1 : Nat) : Int) by omega]
theorem one_pq {w : World} {x : Pq} {cs : Array Value} (X : Nat → Prop) (hc : cs = (PCs [x]).toArray) (hX : ¬ X w.heap.size) : Sl (w.alloc (.cells cs 59)) X 3 (.slice (some ⟨w.heap.size, 0, none⟩) 1 1) 1 (PCs [x]) := by
  subst hc
  refine ⟨_, _, rfl, rfl, Nat.le_refl _, by simp [maxLen], fun _ => ⟨_, rfl, by simp, hX, fun j u hu => ?_⟩⟩
  have ha : (⟨w.heap.size, 0, none⟩ : Addr).add j = ⟨w.heap.size, j, none⟩ := by unfold Addr.add; split <;> simp_all
  rw [ha, Blk.cell (Blk.new w 59 _) j]
  simpa using hu
theorem pcs_app (l k : List Pq) : PCs (l ++ k) = PCs l ++ PCs k := by simp [PCs]
/-- One place more. -/
theorem ps_step {W0 wr w4 w5 : World} {v v5 : Value} {l : List Pq} {n : Nat} {x : Pq} {cs : Array Value} (hs : W0.heap.size ≤ wr.heap.size) (hr : wr.ownsRow W0.heap.size 59 3 v n (PCs l)) (he : ∀ y ∈ l, wr.ownsRow W0.heap.size 5 1 y.2 y.1.2.2.length (BVs y.1.2.2))
    (hb : Below wr.heap.size wr w4) (ho : w4.ownsRow wr.heap.size 5 1 x.2 x.1.2.2.length (BVs x.1.2.2)) (happ : Appended (w4.alloc (.cells cs 59)) W0.heap.size 59 3 v (n + 1) (PCs l ++ PCs [x]) v5 w5) (hB : Below W0.heap.size W0 wr) :
    w5.ownsRow W0.heap.size 59 3 v5 (n + 1) (PCs (l ++ [x])) ∧ (∀ y ∈ l ++ [x], w5.ownsRow W0.heap.size 5 1 y.2 y.1.2.2.length (BVs y.1.2.2)) ∧ Below W0.heap.size W0 w5 := by
  obtain ⟨h1, h2, h3⟩ := happ
  have hrow : (w4.alloc (.cells cs 59)).ownsRow W0.heap.size 59 3 v n (PCs l) := (own_below hr hb).alloc _
  have key : ∀ {u : Value} {b : Tx}, (w4.alloc (.cells cs 59)).ownsRow W0.heap.size 5 1 u b.length (BVs b) → w5.ownsRow W0.heap.size 5 1 u b.length (BVs b) := fun {u b} hu =>
    own_ch hu (Ch.of_grown h2 (fun g hg _ => hg) : Ch (fun k => v.ownBlock = some k) _ w5) (fun g hg hv => by
      rcases hrow.2 with ⟨rfl, _⟩ | ⟨g1, _, _, rfl, _, r1, _⟩
      · simp [Value.ownBlock] at hv
      · rcases hu.2 with ⟨rfl, _⟩ | ⟨g2, _, _, rfl, _, r2, _⟩
        · simp [Value.ownBlock] at hg
        · simp only [Value.ownBlock, Option.some.injEq] at hv hg
          subst hv; subst hg
          rw [r1] at r2
          simp only [Option.some.injEq, Obj.cells.injEq] at r2
          exact absurd r2.2.1 (by decide))
  refine ⟨by rw [pcs_app]; exact h1, fun y hy => ?_, ?_⟩
  · rcases List.mem_append.1 hy with hy | hy
    · exact key ((own_below (he y hy) hb).alloc _)
    · rw [List.mem_singleton] at hy
      subst hy
      exact key (own_base (ho.alloc _) hs)
  · have hb4 : Below W0.heap.size W0 (w4.alloc (.cells cs 59)) := (hB.trans (hb.mono hs)).alloc (by have := hb.size; omega) _
    exact hb4.grown h2 hb4.size (fun g hg => (hrow.lt g hg).1)
set_option maxRecDepth 100000 in
set_option maxHeartbeats 1000000 in
theorem places_any (w : World) (o : O) (X : Nat → Prop) (A : Option Addr) (c : Nat) (first : Int) (hls : Ls w X (.slice A o.recs.length c) o.recs) (h4 : o.recs.length ≤ 64) (h64 : ∀ x ∈ o.recs, x.length ≤ 64) (h0 : 0 ≤ first) (h1 : first ≤ 9007199254740992) :
    Calls Tryz.prog 45 #[OV o A c, .int .i64 first] w fun e w' => ∃ v, e = .returned v ∧ Ps w' w.heap.size v (placed o.topic first o.recs) ∧ Below w.heap.size w w' := by
  have hal := op_below w (.cells (OC o A c) 38)
  have HAL := Lib.hid hal
  have hob := op_new w o A c
  have HOB := Lib.hid hob
  have HLS := Lib.hid (hls.after hal)
  have HX := Lib.hid h64
  have HTL := Lib.hid (placed_take o.topic o.recs first)
  have hz0 : (w.alloc (.cells (OC o A c) 38)).heap.size = w.heap.size + 1 := by simp
  clear hal hob hls h64
  unfold OV
  unfold OC at HAL HLS HOB hz0
  obtain ⟨a0, a1, a2, a3, a4⟩ := OB.cells HOB.out
  obtain ⟨i0, hi0, hy0, hy1, hy2⟩ := info_parts info_placed
  go_enter Tryz.func45, Tryz.ntmps45
  go_wp2_with fail
  generalize w.alloc (.cells #[.int .i64 o.kind, .string ⟨o.topic.toArray⟩, .string ⟨o.group.toArray⟩, .int .i64 o.off, .slice A o.recs.length c] 38) = W0 at *
  generalize hg0 : w.heap.size = g0 at *
  have HG0 := Lib.hid hg0
  clear hg0
  have HZ0 := Lib.hid hz0
  clear a0 a1 a2 a3 a4 hz0
  go_loopw [5, 11] (fun v i wr => ∃ (k : Nat) (l : List Pq), k ≤ o.recs.length ∧ i = .int .i64 k ∧ l.map (·.1) = (placed o.topic first o.recs).take k ∧ wr.ownsRow W0.heap.size 59 3 v k (PCs l) ∧ (∀ y ∈ l, wr.ownsRow W0.heap.size 5 1 y.2 y.1.2.2.length (BVs y.1.2.2)) ∧ Below W0.heap.size W0 wr) (fun _ i _ => o.recs.length - (intOf i).toNat)
  case atStart => exact ⟨0, [], Nat.zero_le _, rfl, by simp, World.ownsRow_nil _ _ _ _, (fun x hx => by cases hx), Below.refl _ _⟩
  case round =>
    obtain ⟨k, l, hk, rfl, hmap, hrow, hel, hB⟩ := hrel
    have HM := Lib.hid hmap
    have HR := Lib.hid hrow
    have HE := Lib.hid hel
    have HB := Lib.hid hB
    obtain ⟨Av, cv, rfl⟩ := own_shape hrow
    by_cases hlt : k < o.recs.length
    · obtain ⟨ad, Ab, cb, rfl, hcell, hsl⟩ := (HLS.out.after hB).at_ hlt
      have HSL := Lib.hid hsl.drew
      have q1 := (OB.cells (Blk.below HOB.out hB (Blk.lt HOB.out))).2.1
      have hr64 := HX.out _ (List.getElem_mem hlt)
      have HCL := Lib.hid (clone_sh X _ _ o.recs[k] wr.drew HSL.out (by omega))
      have HTK := Lib.hid (HTL.out k hlt)
      have hw : IntKind.i64.wrap (first + (k : Int)) = first + (k : Int) := Ga.wrap64 (by omega) (by omega)
      clear hmap hrow hel hB hsl
      go_wp2_with fail
      have hkc : (k : Int) ≤ 64 := by omega
      go_region_law (first
        | (go_simp; go_at_call 41; refine HCL.out.mono ?_; rintro e w4 ⟨A4, c4, rfl, ho4, hb4⟩; have hb4 : Below wr.heap.size wr w4 := below_of_drew hb4; have HO4 : Hid (w4.ownsRow wr.heap.size 5 1 (.slice A4 o.recs[k].length c4) o.recs[k].length (BVs o.recs[k])) := Lib.hid ho4; have HB4 := Lib.hid hb4; have q4 : w4.cell? ⟨g0, 1, none⟩ = some (.string ⟨o.topic.toArray⟩) := (hb4.cell (World.block_lt_of_cell? _ _ q1)).trans q1; clear ho4 hb4)
        | (refine step_append_sh (by rfl) (.tmp 16) (.tmp 25) _ (by rfl) W0.heap.size 59 i0 _ 3 48 Tryz.underlying41 hi0 hy0 hy1 hy2 rfl (by omega) (.slice Av k cv) k (PCs l) (by rfl) (show (w4.alloc (.cells #[.string ⟨o.topic.toArray⟩, .int .i64 (first + (k : Int)), .slice A4 o.recs[k].length c4] 59)).ownsRow W0.heap.size 59 3 (.slice Av k cv) k (PCs l) from (own_below HR.out HB4.out).alloc _) (fun _ => False) _ 1 (PCs [((o.topic, first + (k : Int), o.recs[k]), .slice A4 o.recs[k].length c4)]) (by rfl) (show Sl (w4.alloc (.cells #[.string ⟨o.topic.toArray⟩, .int .i64 (first + (k : Int)), .slice A4 o.recs[k].length c4] 59)) (fun _ => False) _ _ _ _ from one_pq (fun _ => False) rfl (fun h => h)) (by intro u hu; simp only [PCs, PC, List.flatMap_cons, List.flatMap_nil, List.append_nil, List.mem_cons, List.not_mem_nil, or_false] at hu; rcases hu with rfl | rfl | rfl <;> rfl) (by simp only [maxLen]; omega) (by omega) (by have h1 := HB.out.size; have h2 := HB4.out.size; simp; omega) ?_; intro A5 c5 w5 happ; have HAP := Lib.hid happ; clear happ))
      all_goals
        go_wp2
        have hs := ps_step (x := ((o.topic, first + (k : Int), o.recs[k]), .slice A4 o.recs[k].length c4)) HB.out.size HR.out HE.out HB4.out HO4.out HAP.out HB.out
        have HS := Lib.hid hs
        have hm1 : (l ++ [((o.topic, first + (k : Int), o.recs[k]), Value.slice A4 o.recs[k].length c4)]).map (·.1) = (placed o.topic first o.recs).take (k + 1) := by
          rw [HTK.out, List.map_append, HM.out]
          rfl
        have HM1 := Lib.hid hm1
        clear hs hm1
        go_roundw
        case rel => exact ⟨k + 1, _, by omega, by go_num, HM1.out, HS.out.1, HS.out.2.1, HS.out.2.2⟩
        case measure => simp [intOf]; omega
    · have hke : k = o.recs.length := by omega
      subst hke
      clear hmap hrow hel hB
      go_wp2_with fail
      go_ret
      have hl := placed_len o.topic first o.recs
      rw [HG0.out]
      refine ⟨_, rfl, ⟨l, ?_, ?_, fun x hx => own_base (HE.out x hx) (by have := HZ0.out; omega)⟩, HAL.out.trans (HB.out.mono (by have := HZ0.out; omega))⟩
      · rw [HM.out, ← hl, List.take_length]
      · rw [hl]
        exact own_base HR.out (by have := HZ0.out; omega)
end Go.Proofs.YtkoedonllfmaaaaGreat.Ah

/-
  Layer 6 (op): the document's own runes and names.
-/
namespace Go.Proofs.YtkoedonllfmaaaaGreat.Pb
set_option linter.unusedSimpArgs false
open Go Go.RowKit Ck Kw Pm Pa
set_option linter.unusedVariables false

set_option maxRecDepth 100000 in
set_option maxHeartbeats 1000000 in
theorem size_any (b : Nat) (h : b < 256) (w : World) :
    Calls Tryz.prog 139 #[.int .u8 b] w fun e w' => e = .returned (.int .i64 (sz b : Nat)) ∧ w = w' := by
  rcases sz_cases b with ⟨e, hb⟩ | ⟨e, hb⟩ | ⟨e, hb, hb'⟩ | ⟨e, hb, hb'⟩ | ⟨e, hb, hb'⟩
  · rw [e]
    clear e
    rcases hb with ⟨hb, hb'⟩ | hb
    · have h1 : ¬ b < 128 := by omega
      have d2 : decide (194 ≤ (b : Int)) = false := decide_eq_false (by omega)
      have d3 : decide (224 ≤ (b : Int)) = false := decide_eq_false (by omega)
      have d4 : decide (240 ≤ (b : Int)) = false := decide_eq_false (by omega)
      go_enter Tryz.func139, Tryz.ntmps139
      go_wp2
      go_ret
      exact ⟨rfl, rfl⟩
    · have h1 : ¬ b < 128 := by omega
      have d2 : decide ((b : Int) < 224) = false := decide_eq_false (by omega)
      have d3 : decide ((b : Int) < 240) = false := decide_eq_false (by omega)
      have d4 : decide ((b : Int) < 245) = false := decide_eq_false (by omega)
      go_enter Tryz.func139, Tryz.ntmps139
      go_wp2
      go_ret
      exact ⟨rfl, rfl⟩
  · rw [e]
    clear e
    go_enter Tryz.func139, Tryz.ntmps139
    go_wp2
    go_ret
    exact ⟨rfl, rfl⟩
  · rw [e]
    clear e
    have h1 : ¬ b < 128 := by omega
    go_enter Tryz.func139, Tryz.ntmps139
    go_wp2
    go_ret
    exact ⟨rfl, rfl⟩
  · rw [e]
    clear e
    have h1 : ¬ b < 128 := by omega
    have d2 : decide ((b : Int) < 224) = false := decide_eq_false (by omega)
    go_enter Tryz.func139, Tryz.ntmps139
    go_wp2
    go_ret
    exact ⟨rfl, rfl⟩
  · rw [e]
    clear e
    have h1 : ¬ b < 128 := by omega
    have d2 : decide ((b : Int) < 224) = false := decide_eq_false (by omega)
    have d3 : decide ((b : Int) < 240) = false := decide_eq_false (by omega)
    go_enter Tryz.func139, Tryz.ntmps139
    go_wp2
    go_ret
    exact ⟨rfl, rfl⟩

theorem gath_le {m : Nat} (l : Tx) (hm : m ≤ 32) (h0 : 0 < m) : ∀ k, k ≤ 3 → gath l m k ≤ 8388607 := by
  have b0 : gath l m 0 < m := Nat.mod_lt _ h0
  have e1 : gath l m 1 = gath l m 0 * 64 + byte l 1 % 64 := rfl
  have e2 : gath l m 2 = gath l m 1 * 64 + byte l 2 % 64 := rfl
  have e3 : gath l m 3 = gath l m 2 * 64 + byte l 3 % 64 := rfl
  intro k hk
  have : k = 0 ∨ k = 1 ∨ k = 2 ∨ k = 3 := by omega
  rcases this with rfl | rfl | rfl | rfl <;> omega
theorem byte_ix {l : Tx} {k : Nat} (h : k < (ByteArray.mk l.toArray).size) : ((ByteArray.mk l.toArray)[k]'h).toNat = byte l k := by
  rw [byte_get (by rw [← sv_size l]; exact h)]
  rfl
theorem and31 (b : Nat) (h : b < 256) : bits .and .i64 (b : Int) 31 = ((b % 32 : Nat) : Int) := by
  have : ∀ b : Fin 256, bits .and .i64 ((b.val : Nat) : Int) 31 = ((b.val % 32 : Nat) : Int) := by decide +kernel
  exact this ⟨b, h⟩
theorem and15 (b : Nat) (h : b < 256) : bits .and .i64 (b : Int) 15 = ((b % 16 : Nat) : Int) := by
  have : ∀ b : Fin 256, bits .and .i64 ((b.val : Nat) : Int) 15 = ((b.val % 16 : Nat) : Int) := by decide +kernel
  exact this ⟨b, h⟩
theorem and7 (b : Nat) (h : b < 256) : bits .and .i64 (b : Int) 7 = ((b % 8 : Nat) : Int) := by
  have : ∀ b : Fin 256, bits .and .i64 ((b.val : Nat) : Int) 7 = ((b.val % 8 : Nat) : Int) := by decide +kernel
  exact this ⟨b, h⟩

theorem lits_at (w : World) (nq k z : Nat) (h : (#[.int .i64 0, .int .i64 0, .int .i64 128, .int .i64 2048, .int .i64 65536] : Array Value)[k]? = some (.int .i64 (z : Int))) :
    ((w.drewN nq).alloc (.cells #[.int .i64 0, .int .i64 0, .int .i64 128, .int .i64 2048, .int .i64 65536] 3)).cell? ⟨w.heap.size, k, none⟩ = some (.int .i64 (z : Int)) :=
  (Blk.cell (Blk.new (w.drewN nq) 3 #[.int .i64 0, .int .i64 0, .int .i64 128, .int .i64 2048, .int .i64 65536]) k).trans h
/-- What rune1 answers. -/
def Rune (l : Tx) (w : World) (e : Ending) (w' : World) : Prop := e = .returned (.tuple #[.int .i64 ((r1 l).1 : Nat), .int .i64 ((r1 l).2 : Nat)]) ∧ Below w.heap.size w w'
theorem rune_of {l : Tx} {w w' : World} {v n : Nat} (h : r1 l = (v, n)) (hb : Below w.heap.size w w') : Rune l w (.returned (.tuple #[.int .i64 (v : Nat), .int .i64 (n : Nat)])) w' := by
  rw [Rune, h]
  exact ⟨rfl, hb⟩
theorem size_call {b n : Nat} (hb : b < 256) (h : sz b = n) (w : World) : Calls Tryz.prog 139 #[.int .u8 b] w fun e w' => e = .returned (.int .i64 (n : Nat)) ∧ w = w' := by
  subst h
  exact size_any b hb w

set_option maxRecDepth 100000 in
set_option maxHeartbeats 1000000 in
theorem rune_no (l : Tx) (hl : 1 ≤ l.length) (h : sz (byte l 0) = 0 ∨ l.length < sz (byte l 0)) (w : World) :
    Calls Tryz.prog 124 #[SV l] w (Rune l w) := by
  have h0 := byte_lt l 0
  have HS := Lib.hid (size_any _ h0 w)
  have HR := Lib.hid (r1_none hl h)
  unfold SV
  have hz0 : 0 < (ByteArray.mk l.toArray).size := by rw [sv_size]; omega
  have hx0 := byte_ix hz0
  have hsz := sv_size l
  generalize sz (byte l 0) = q at *
  by_cases hq : q = 0
  · subst hq
    clear h
    go_enter Tryz.func124, Tryz.ntmps124
    go_wp2_with (go_at_call 139; refine HS.out.mono ?_; rintro e w1 ⟨rfl, rfl⟩)
    go_ret2
    exact rune_of HR.out (Below.refl _ _)
  · have hq1 : ((q : Int) == 0) = false := by rw [beq_eq_false_iff_ne]; omega
    have hq2 : (l.length : Int) < (q : Int) := by omega
    clear h hq
    go_enter Tryz.func124, Tryz.ntmps124
    go_wp2_with (go_at_call 139; refine HS.out.mono ?_; rintro e w1 ⟨rfl, rfl⟩)
    go_ret2
    exact rune_of HR.out (Below.refl _ _)

set_option maxRecDepth 100000 in
set_option maxHeartbeats 1000000 in
theorem rune_one (l : Tx) (hl : 1 ≤ l.length) (h : sz (byte l 0) = 1) (w : World) :
    Calls Tryz.prog 124 #[SV l] w (Rune l w) := by
  have h0 := byte_lt l 0
  have HS := Lib.hid (size_call h0 h w)
  have HR := Lib.hid (r1_one h)
  unfold SV
  have hz0 : 0 < (ByteArray.mk l.toArray).size := by rw [sv_size]; omega
  have hx0 := byte_ix hz0
  have hsz := sv_size l
  have hq2 : ¬ ((l.length : Int) < 1) := by omega
  clear h
  go_enter Tryz.func124, Tryz.ntmps124
  go_wp2_with (go_at_call 139; refine HS.out.mono ?_; rintro e w1 ⟨rfl, rfl⟩)
  go_ret2
  exact rune_of HR.out (Below.refl _ _)

set_option maxRecDepth 100000 in
set_option maxHeartbeats 4000000 in
theorem rune_two (l : Tx) (h : sz (byte l 0) = 2) (hl : 2 ≤ l.length) (w : World) :
    Calls Tryz.prog 124 #[SV l] w (Rune l w) := by
  have h0 := byte_lt l 0
  have HS := Lib.hid (size_call h0 h w)
  have HR := Lib.hid (r1_two h hl)
  unfold SV
  have hz0 : 0 < (ByteArray.mk l.toArray).size := by rw [sv_size]; omega
  have hx0 := byte_ix hz0
  have hsz := sv_size l
  have hm := and31 (byte l 0) h0
  have HSZ := Lib.hid hsz
  have hq2 : ¬ ((l.length : Int) < 2) := by omega
  have hq3 : ¬ (2 > (l.length : Int)) := by omega
  clear h
  go_enter Tryz.func124, Tryz.ntmps124
  go_wp2_with (go_at_call 139; refine HS.out.mono ?_; rintro e w1 ⟨rfl, rfl⟩)
  go_quiet (fail)
  go_wp2
  go_loop [5, 6] (fun v i => ∃ k : Nat, 1 ≤ k ∧ k ≤ 2 ∧ i = .int .i64 k ∧ v = .int .i64 ((gath l 32 (k - 1) : Nat) : Int) ∧ (∀ p, 1 ≤ p → p < k → cont l p)) (fun _ i => 2 - (intOf i).toNat)
  case atStart => exact ⟨1, by omega, by omega, rfl, rfl, fun p h1 h2 => by omega⟩
  case round =>
    obtain ⟨k, hk1, hkn, rfl, rfl, hc⟩ := hrel
    have HC := Lib.hid hc
    have hg := gath_le l (m := 32) (by omega) (by omega) (k - 1) (by omega)
    have HG := Lib.hid hg
    clear hc
    by_cases hk : k < 2
    · have hxk := byte_ix (l := l) (k := k) (by rw [HSZ.out]; omega)
      have hzk : k < (ByteArray.mk l.toArray).size := by rw [HSZ.out]; omega
      have hbk := byte_lt l k
      have HB := Lib.hid (show gath l 32 k = gath l 32 (k - 1) * 64 + byte l k % 64 from by obtain ⟨j, rfl⟩ : ∃ j, k = j + 1 := ⟨k - 1, by omega⟩; rfl)
      generalize hG : gath l 32 (k - 1) = G at *
      by_cases h1 : byte l k < 128
      · have HN := Lib.hid (HR.out.1 (by
          intro hh
          have : k = 1 := by omega
          rcases this with rfl
          all_goals first | exact absurd hh (by unfold cont; omega)))
        clear hm hx0
        go_wp2
        go_ret2
        exact rune_of HN.out (below_drewN (Below.refl _ _) _)
      · by_cases h2 : 192 ≤ byte l k
        · have HN := Lib.hid (HR.out.1 (by
            intro hh
            have : k = 1  := by omega
            rcases this with rfl
            all_goals first | exact absurd hh (by unfold cont; omega)))
          clear hm hx0
          go_wp2
          go_ret2
          exact rune_of HN.out (below_drewN (Below.refl _ _) _)
        · have h2' : byte l k < 192 := by omega
          have h2'' : decide (192 ≤ (byte l k : Int)) = false := decide_eq_false (by omega)
          have HCK := Lib.hid (show cont l k from ⟨h1, h2⟩)
          clear h2
          clear hm hx0
          go_wp2
          go_round
          case rel =>
            refine ⟨k + 1, by omega, by omega, by go_num, ?_, fun p hp1 hp2 => ?_⟩
            · rw [Nat.add_sub_cancel, HB.out]; go_num
            · rcases Nat.lt_or_ge p k with hp | hp
              · exact HC.out p hp1 hp
              · obtain rfl : p = k := by omega
                exact HCK.out
          case measure => simp [intOf]; omega
    · obtain rfl : k = 2 := by omega
      have hld := lits_at w nq 2 128 rfl
      have HX := Lib.hid (HR.out.2 (HC.out 1 (by omega) (by omega)))
      simp only [Nat.reduceSub] at hg
      generalize hG : gath l 32 1 = G at *
      clear hm hx0
      by_cases q1 : G < 128
      · have HN := Lib.hid (HX.out.2 (fun h => h.1 q1))
        have q1' : decide ((G : Int) < 128) = true := decide_eq_true (by omega)
        clear q1
        go_wp2
        go_ret2
        exact rune_of HN.out (((below_drewN (Below.refl _ _) _).alloc (Nat.le_refl _) _))
      · have q1' : decide ((G : Int) < 128) = false := decide_eq_false (by omega)
        by_cases q2 : 1114111 < G
        · have HN := Lib.hid (HX.out.2 (fun h => h.2.1 q2))
          have q2' : decide (1114111 < (G : Int)) = true := decide_eq_true (by omega)
          clear q1 q2
          go_wp2
          go_ret2
          exact rune_of HN.out (((below_drewN (Below.refl _ _) _).alloc (Nat.le_refl _) _))
        · have q2' : decide (1114111 < (G : Int)) = false := decide_eq_false (by omega)
          by_cases q3 : 55296 ≤ G ∧ G < 57344
          · have HN := Lib.hid (HX.out.2 (fun h => h.2.2 q3))
            have q5 : decide (55296 ≤ (G : Int)) = true := decide_eq_true (by omega)
            have q6 : decide ((G : Int) < 57344) = true := decide_eq_true (by omega)
            clear q1 q2 q3
            go_wp2
            go_ret2
            exact rune_of HN.out (((below_drewN (Below.refl _ _) _).alloc (Nat.le_refl _) _))
          · have HN := Lib.hid (HX.out.1 ⟨q1, q2, q3⟩)
            clear q1 q2
            by_cases q4 : 55296 ≤ G
            · have q5 : decide ((G : Int) < 57344) = false := decide_eq_false (by omega)
              have q6 : decide (55296 ≤ (G : Int)) = true := decide_eq_true (by omega)
              clear q3 q4
              go_wp2
              go_ret2
              exact rune_of HN.out (((below_drewN (Below.refl _ _) _).alloc (Nat.le_refl _) _))
            · have q5 : decide (55296 ≤ (G : Int)) = false := decide_eq_false (by omega)
              clear q3 q4
              go_wp2
              go_ret2
              exact rune_of HN.out (((below_drewN (Below.refl _ _) _).alloc (Nat.le_refl _) _))

end Go.Proofs.YtkoedonllfmaaaaGreat.Pb

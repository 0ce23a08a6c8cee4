/-
  Contract of the program's topics: run, kind by kind.
-/
import Derived.Test.YtobphijbhghgmaaGreatU08
import Derived.Test.YtobphijbhghgmaaGreatU06
import Derived.Test.YtobphijbhghgmaaGreatU03
namespace Go.Proofs.YtobphijbhghgmaaGreat.Ag
set_option linter.unusedSimpArgs false
open Go Go.RowKit Ck Kw Ga Kf Km Kd Pm Pz Pe Pg Py Tm Tn Tq Aa Ab Ac Ad Ae Af
attribute [local go_sem ↓] Go.wp_at_zero Go.wp_at_succ
set_option linter.unusedVariables false

theorem Tz.more {w : World} {S S' R : Nat → Prop} {p : Nat} {s : St} (h : Tz w S R p s) (hs : ∀ k, S k → S' k) (hr : ∀ k, R k → ¬ S' k) : Tz w S' R p s := by
  obtain ⟨m, D, G, V, M, F, h⟩ := h
  exact ⟨m, D, G, V, M, F, h.blk, hs _ h.sp, h.own, h.tells, ⟨hs _ h.sm.1, h.sm.2⟩, h.top, fun t ht k hk => ⟨hs _ (h.sub t ht k hk).1, (h.sub t ht k hk).2⟩, h.apart, fun k hk => ⟨hr k hk, (h.rs k hk).2⟩, h.good⟩
theorem Tz.rlt {w : World} {S R : Nat → Prop} {p : Nat} {s : St} (h : Tz w S R p s) : ∀ k, R k → ¬ S k ∧ k < w.heap.size := by
  obtain ⟨m, D, G, V, M, F, h⟩ := h
  exact h.rs
theorem did_lift {w w1 w2 : World} {S R : Nat → Prop} {p : Nat} {s : St} (b : Below w.heap.size w w1) (hr : ∀ k, R k → ¬ S k ∧ k < w.heap.size) (h : Did S R p s w1 w2) : Did S R p s w w2 := by
  have hs := b.size
  refine ⟨Tz.more h.1 (fun k hk => ?_) (fun k hk hu => ?_), (Ch.of_below b (Nat.le_refl _)).trans h.2 (fun _ _ h => h)⟩
  · rcases hk with hk | ⟨h1, h2⟩
    · exact .inl hk
    · exact .inr ⟨by omega, h2⟩
  · obtain ⟨r1, r2⟩ := hr k hk
    rcases hu with hu | ⟨h1, h2⟩
    · exact r1 hu
    · omega
theorem op_new (w : World) (o : O) (A : Option Addr) (c : Nat) : OB (w.alloc (.cells (OC o A c) 98)) w.heap.size o A c := Blk.new w _ _
theorem op_below (w : World) (x : Obj) : Below w.heap.size w (w.alloc x) := (Below.refl _ w).alloc (Nat.le_refl _) _
theorem Ins.later {w w' : World} {R : Nat → Prop} {A : Option Addr} {c : Nat} {rs : List Tx} (h : Ins w R A c rs) (b : Below w.heap.size w w') : Ins w' R A c rs := by
  obtain ⟨vals, h1, h2⟩ := h
  refine ⟨vals, h1.after b, fun i hi => ?_⟩
  obtain ⟨u, hu, hs⟩ := h2 i hi
  exact ⟨u, hu, hs.after b⟩
/-- What run leaves. -/
def Ran (S R : Nat → Prop) (p : Nat) (s : St) (o : O) (w : World) (e : Ending) (w' : World) : Prop :=
  e = .returned (.tuple #[.int .i64 (doesS s.L o).1.2, .int .i64 (doesS s.L o).1.1]) ∧ Did S R p ⟨(doesS s.L o).2.2, s.last⟩ w w'
set_option maxRecDepth 100000 in
set_option maxHeartbeats 1000000 in
theorem run_0 (w : World) (S R : Nat → Prop) (p : Nat) (s : St) (o : O) (A : Option Addr) (c : Nat) (hk : o.kind = 0) (hc : check o = 0) (h : Tz w S R p s) (hi : Ins w R A c o.recs) :
    Calls Tryz.prog 112 #[.pointer (some ⟨p, 0, none⟩), OV o A c] w (Ran S R p s o w) := by
  have HRL := Lib.hid (Tz.rlt h)
  have hal := op_below w (.cells (OC o A c) 98)
  have HAL := Lib.hid hal
  have HZ := Lib.hid (h.later hal)
  have hob := op_new w o A c
  obtain ⟨a0, a1, a2, a3, a4⟩ := hob.cells
  have hgood := (doesS_good h.good.L o).1
  have HGS : Hid (GoodS ⟨(doesS s.L o).2.2, s.last⟩) := Lib.hid ⟨hgood, h.good.eight, h.good.a⟩
  have HIN := Lib.hid (Ins.later hi hal)
  have HL4 := Lib.hid (check_lens hc)
  have HD := Lib.hid (does_0 (L := s.L) hc hk)
  clear hal hob hgood h hi hc
  unfold Ran
  rw [HD.out]
  obtain ⟨kind, topic, group, off, recs⟩ := o
  simp only at hk
  subst hk
  unfold OV
  unfold OC at HAL HZ HIN a0 a1 a2 a3 a4
  simp only at HAL HZ HIN a0 a1 a2 a3 a4 ⊢
  go_enter Tryz.func112, Tryz.ntmps112
  go_wp2_with fail
  go_ret2
  exact ⟨rfl, did_lift HAL.out HRL.out (did_refl HZ.out)⟩
set_option maxRecDepth 100000 in
set_option maxHeartbeats 1000000 in
theorem run_1 (w : World) (S R : Nat → Prop) (p : Nat) (s : St) (o : O) (A : Option Addr) (c : Nat) (hk : o.kind = 1) (hc : check o = 0) (h : Tz w S R p s) (hi : Ins w R A c o.recs) :
    Calls Tryz.prog 112 #[.pointer (some ⟨p, 0, none⟩), OV o A c] w (Ran S R p s o w) := by
  have HRL := Lib.hid (Tz.rlt h)
  have hal := op_below w (.cells (OC o A c) 98)
  have HAL := Lib.hid hal
  have HZ := Lib.hid (h.later hal)
  have hob := op_new w o A c
  obtain ⟨a0, a1, a2, a3, a4⟩ := hob.cells
  have hgood := (doesS_good h.good.L o).1
  have HGS : Hid (GoodS ⟨(doesS s.L o).2.2, s.last⟩) := Lib.hid ⟨hgood, h.good.eight, h.good.a⟩
  have HIN := Lib.hid (Ins.later hi hal)
  have HL4 := Lib.hid (check_lens hc)
  have HD := Lib.hid (does_1 (L := s.L) hc hk)
  have hlen := (HL4.out.1 (by rw [hk]; rfl))
  have HC := Lib.hid (create_any _ S R p s o.topic (by omega) HZ.out (fun h1 h2 => by
    have := HGS.out
    rw [HD.out, crS, h1, if_neg (by simp), if_neg (by omega)] at this
    exact this))
  clear hal hob hgood h hi hc hlen
  unfold Ran
  rw [HD.out]
  obtain ⟨kind, topic, group, off, recs⟩ := o
  simp only at hk
  subst hk
  unfold OV
  unfold OC at HAL HZ HIN HC a0 a1 a2 a3 a4
  simp only at HAL HZ HIN HC a0 a1 a2 a3 a4 ⊢
  go_enter Tryz.func112, Tryz.ntmps112
  go_wp2_with fail
  refine HC.out.mono ?_
  rintro e w2 ⟨rfl, hd⟩
  go_wp2_with fail
  go_ret2
  exact ⟨rfl, did_lift HAL.out HRL.out hd⟩
set_option maxRecDepth 100000 in
set_option maxHeartbeats 1000000 in
theorem run_2 (w : World) (S R : Nat → Prop) (p : Nat) (s : St) (o : O) (A : Option Addr) (c : Nat) (hk : o.kind = 2) (hc : check o = 0) (h : Tz w S R p s) (hi : Ins w R A c o.recs) :
    Calls Tryz.prog 112 #[.pointer (some ⟨p, 0, none⟩), OV o A c] w (Ran S R p s o w) := by
  have HRL := Lib.hid (Tz.rlt h)
  have hal := op_below w (.cells (OC o A c) 98)
  have HAL := Lib.hid hal
  have HZ := Lib.hid (h.later hal)
  have hob := op_new w o A c
  obtain ⟨a0, a1, a2, a3, a4⟩ := hob.cells
  have hgood := (doesS_good h.good.L o).1
  have HGS : Hid (GoodS ⟨(doesS s.L o).2.2, s.last⟩) := Lib.hid ⟨hgood, h.good.eight, h.good.a⟩
  have HIN := Lib.hid (Ins.later hi hal)
  have HL4 := Lib.hid (check_lens hc)
  have hlen := (HL4.out.1 (by rw [hk]; rfl))
  obtain ⟨m, D, G, V, M, F, hP⟩ := HZ.out
  have HF := Lib.hid (find_on _ S R p m s D G V M F o.topic (by omega) hP)
  have HP := Lib.hid hP
  have hrt := h.good.L.rises
  cases hf : findT s.L o.topic with
  | none =>
    have HD := Lib.hid (does_no (L := s.L) hc (by omega) (by omega) hf)
    rw [hf] at HF
    unfold PV at HF
    simp only [Option.map_none, Option.isSome_none] at HF
    clear hal hob hgood h hi hc hlen hP hf hrt
    unfold Ran
    rw [HD.out]
    obtain ⟨kind, topic, group, off, recs⟩ := o
    simp only at hk
    subst hk
    unfold OV
    unfold OC at HAL HZ HIN HF HP a0 a1 a2 a3 a4
    simp only at HAL HZ HIN HF HP a0 a1 a2 a3 a4 ⊢
    go_enter Tryz.func112, Tryz.ntmps112
    go_wp2_with fail
    refine HF.out.mono ?_
    rintro e w2 ⟨rfl, rfl⟩
    go_wp2_with fail
    go_ret2
    exact ⟨rfl, did_lift HAL.out HRL.out (did_refl HZ.out)⟩
  | some x =>
    have hD := does_2 hrt hc hk hf
    obtain ⟨hx, hn⟩ := findT_some hf
    have hfit := h.good.L.fit x hx
    have HD := Lib.hid hD
    have HX := Lib.hid hx
    rw [hf] at HF
    unfold PV at HF
    simp only [Option.map_some, Option.isSome_some] at HF
    have hFR : ∀ k, R k → ¬ F x.n k ∧ k < (w.alloc (.cells (OC o A c) 98)).heap.size := fun k hk => ⟨fun hF => (hP.rs k hk).1 (hP.sub x hx k hF).1, (hP.rs k hk).2⟩
    have HC := Lib.hid (publish_any _ _ R _ x _ _ A c o.recs (hP.top x hx) hfit hFR HIN.out (by have := (HL4.out.2.2.2 (by rw [hk]; rfl)).2.1; omega))
    clear hal hob hgood h hi hc hlen hP hf hrt hD hx hfit hFR hn
    unfold Ran
    rw [HD.out.1, HD.out.2.1]
    obtain ⟨kind, topic, group, off, recs⟩ := o
    simp only at hk
    subst hk
    unfold OV
    unfold OC at HAL HZ HIN HF HP HC a0 a1 a2 a3 a4
    simp only at HAL HZ HIN HF HP HC HD a0 a1 a2 a3 a4 ⊢
    go_enter Tryz.func112, Tryz.ntmps112
    go_wp2_with fail
    refine HF.out.mono ?_
    rintro e w2 ⟨rfl, rfl⟩
    go_wp2_with fail
    refine HC.out.mono ?_
    rintro e w3 ⟨rfl, ht⟩
    go_wp2_with fail
    go_ret2
    refine ⟨rfl, did_lift HAL.out HRL.out (tp_upd HP.out HX.out (pub_n _ _) ht ?_)⟩
    rw [← HD.out.2.1]
    exact HGS.out
set_option maxRecDepth 100000 in
set_option maxHeartbeats 1000000 in
theorem run_3 (w : World) (S R : Nat → Prop) (p : Nat) (s : St) (o : O) (A : Option Addr) (c : Nat) (hk : o.kind = 3) (hc : check o = 0) (h : Tz w S R p s) (hi : Ins w R A c o.recs) :
    Calls Tryz.prog 112 #[.pointer (some ⟨p, 0, none⟩), OV o A c] w (Ran S R p s o w) := by
  have HRL := Lib.hid (Tz.rlt h)
  have hal := op_below w (.cells (OC o A c) 98)
  have HAL := Lib.hid hal
  have HZ := Lib.hid (h.later hal)
  have hob := op_new w o A c
  obtain ⟨a0, a1, a2, a3, a4⟩ := hob.cells
  have hgood := (doesS_good h.good.L o).1
  have HGS : Hid (GoodS ⟨(doesS s.L o).2.2, s.last⟩) := Lib.hid ⟨hgood, h.good.eight, h.good.a⟩
  have HIN := Lib.hid (Ins.later hi hal)
  have HL4 := Lib.hid (check_lens hc)
  have hlen := (HL4.out.1 (by rw [hk]; rfl))
  obtain ⟨m, D, G, V, M, F, hP⟩ := HZ.out
  have HF := Lib.hid (find_on _ S R p m s D G V M F o.topic (by omega) hP)
  have HP := Lib.hid hP
  have hrt := h.good.L.rises
  cases hf : findT s.L o.topic with
  | none =>
    have HD := Lib.hid (does_no (L := s.L) hc (by omega) (by omega) hf)
    rw [hf] at HF
    unfold PV at HF
    simp only [Option.map_none, Option.isSome_none] at HF
    clear hal hob hgood h hi hc hlen hP hf hrt
    unfold Ran
    rw [HD.out]
    obtain ⟨kind, topic, group, off, recs⟩ := o
    simp only at hk
    subst hk
    unfold OV
    unfold OC at HAL HZ HIN HF HP a0 a1 a2 a3 a4
    simp only at HAL HZ HIN HF HP a0 a1 a2 a3 a4 ⊢
    go_enter Tryz.func112, Tryz.ntmps112
    go_wp2_with fail
    refine HF.out.mono ?_
    rintro e w2 ⟨rfl, rfl⟩
    go_wp2_with fail
    go_ret2
    exact ⟨rfl, did_lift HAL.out HRL.out (did_refl HZ.out)⟩
  | some x =>
    have hD := does_3 hrt hc hk hf
    obtain ⟨hx, hn⟩ := findT_some hf
    have hfit := h.good.L.fit x hx
    have HD := Lib.hid hD
    have HX := Lib.hid hx
    rw [hf] at HF
    unfold PV at HF
    simp only [Option.map_some, Option.isSome_some] at HF
    have hFR : ∀ k, R k → ¬ F x.n k ∧ k < (w.alloc (.cells (OC o A c) 98)).heap.size := fun k hk => ⟨fun hF => (hP.rs k hk).1 (hP.sub x hx k hF).1, (hP.rs k hk).2⟩
    have HC := Lib.hid (commit_any _ _ R _ x _ _ o.group o.off (by have := HL4.out.2.1 (by rw [hk]; rfl); omega) (hP.top x hx) hfit ((okT_iff x).1 (h.good.L.ok x hx)).2.2.2 (fun k hk => (hFR k hk).1))
    clear hal hob hgood h hi hc hlen hP hf hrt hD hx hfit hFR hn
    unfold Ran
    rw [HD.out.1, HD.out.2.1]
    obtain ⟨kind, topic, group, off, recs⟩ := o
    simp only at hk
    subst hk
    unfold OV
    unfold OC at HAL HZ HIN HF HP HC a0 a1 a2 a3 a4
    simp only at HAL HZ HIN HF HP HC HD a0 a1 a2 a3 a4 ⊢
    go_enter Tryz.func112, Tryz.ntmps112
    go_wp2_with fail
    refine HF.out.mono ?_
    rintro e w2 ⟨rfl, rfl⟩
    go_wp2_with fail
    refine HC.out.mono ?_
    rintro e w3 ⟨rfl, ht⟩
    go_wp2_with fail
    go_ret2
    refine ⟨rfl, did_lift HAL.out HRL.out (tp_upd HP.out HX.out (com_n _ _ _) ht ?_)⟩
    rw [← HD.out.2.1]
    exact HGS.out
set_option maxRecDepth 100000 in
set_option maxHeartbeats 1000000 in
theorem run_4 (w : World) (S R : Nat → Prop) (p : Nat) (s : St) (o : O) (A : Option Addr) (c : Nat) (hk : o.kind = 4) (hc : check o = 0) (h : Tz w S R p s) (hi : Ins w R A c o.recs) :
    Calls Tryz.prog 112 #[.pointer (some ⟨p, 0, none⟩), OV o A c] w (Ran S R p s o w) := by
  have HRL := Lib.hid (Tz.rlt h)
  have hal := op_below w (.cells (OC o A c) 98)
  have HAL := Lib.hid hal
  have HZ := Lib.hid (h.later hal)
  have hob := op_new w o A c
  obtain ⟨a0, a1, a2, a3, a4⟩ := hob.cells
  have hgood := (doesS_good h.good.L o).1
  have HGS : Hid (GoodS ⟨(doesS s.L o).2.2, s.last⟩) := Lib.hid ⟨hgood, h.good.eight, h.good.a⟩
  have HIN := Lib.hid (Ins.later hi hal)
  have HL4 := Lib.hid (check_lens hc)
  have hlen := (HL4.out.1 (by rw [hk]; rfl))
  obtain ⟨m, D, G, V, M, F, hP⟩ := HZ.out
  have HF := Lib.hid (find_on _ S R p m s D G V M F o.topic (by omega) hP)
  have HP := Lib.hid hP
  have hrt := h.good.L.rises
  cases hf : findT s.L o.topic with
  | none =>
    have HD := Lib.hid (does_no (L := s.L) hc (by omega) (by omega) hf)
    rw [hf] at HF
    unfold PV at HF
    simp only [Option.map_none, Option.isSome_none] at HF
    clear hal hob hgood h hi hc hlen hP hf hrt
    unfold Ran
    rw [HD.out]
    obtain ⟨kind, topic, group, off, recs⟩ := o
    simp only at hk
    subst hk
    unfold OV
    unfold OC at HAL HZ HIN HF HP a0 a1 a2 a3 a4
    simp only at HAL HZ HIN HF HP a0 a1 a2 a3 a4 ⊢
    go_enter Tryz.func112, Tryz.ntmps112
    go_wp2_with fail
    refine HF.out.mono ?_
    rintro e w2 ⟨rfl, rfl⟩
    go_wp2_with fail
    go_ret2
    exact ⟨rfl, did_lift HAL.out HRL.out (did_refl HZ.out)⟩
  | some x =>
    have hD := does_4 hrt hc hk hf
    obtain ⟨hx, hn⟩ := findT_some hf
    have hfit := h.good.L.fit x hx
    have HD := Lib.hid hD
    have HX := Lib.hid hx
    rw [hf] at HF
    unfold PV at HF
    simp only [Option.map_some, Option.isSome_some] at HF
    have hFR : ∀ k, R k → ¬ F x.n k ∧ k < (w.alloc (.cells (OC o A c) 98)).heap.size := fun k hk => ⟨fun hF => (hP.rs k hk).1 (hP.sub x hx k hF).1, (hP.rs k hk).2⟩
    have HC := Lib.hid (trim_any _ _ R _ x _ _ o.off (hP.top x hx) hfit (fun k hk => (hFR k hk).1))
    clear hal hob hgood h hi hc hlen hP hf hrt hD hx hfit hFR hn
    unfold Ran
    rw [HD.out.1, HD.out.2.1]
    obtain ⟨kind, topic, group, off, recs⟩ := o
    simp only at hk
    subst hk
    unfold OV
    unfold OC at HAL HZ HIN HF HP HC a0 a1 a2 a3 a4
    simp only at HAL HZ HIN HF HP HC HD a0 a1 a2 a3 a4 ⊢
    go_enter Tryz.func112, Tryz.ntmps112
    go_wp2_with fail
    refine HF.out.mono ?_
    rintro e w2 ⟨rfl, rfl⟩
    go_wp2_with fail
    refine HC.out.mono ?_
    rintro e w3 ⟨rfl, ht⟩
    go_wp2_with fail
    go_ret2
    refine ⟨rfl, did_lift HAL.out HRL.out (tp_upd HP.out HX.out (tri_n _ _) ht ?_)⟩
    rw [← HD.out.2.1]
    exact HGS.out
theorem run_any (w : World) (S R : Nat → Prop) (p : Nat) (s : St) (o : O) (A : Option Addr) (c : Nat) (hc : check o = 0) (h : Tz w S R p s) (hi : Ins w R A c o.recs) :
    Calls Tryz.prog 112 #[.pointer (some ⟨p, 0, none⟩), OV o A c] w (Ran S R p s o w) := by
  rcases kind_cases (check_ok hc).1 with e | e | e | e | e
  · exact run_0 w S R p s o A c e hc h hi
  · exact run_1 w S R p s o A c e hc h hi
  · exact run_2 w S R p s o A c e hc h hi
  · exact run_3 w S R p s o A c e hc h hi
  · exact run_4 w S R p s o A c e hc h hi
end Go.Proofs.YtobphijbhghgmaaGreat.Ag

/-
  Contract of the program's topics: places.
-/
namespace Go.Proofs.YtobphijbhghgmaaGreat.Ah
set_option linter.unusedSimpArgs false
open Go Go.RowKit Ck Kw Ga Kf Km Kd Pm Pz Pe Pg Py Tm Tn Tq Aa Ab Ac Ad Ae Af Ag
attribute [local go_sem ↓] Go.wp_at_zero Go.wp_at_succ
set_option linter.unusedVariables false

theorem info_placed : (Tryz.prog.info? 150).map (fun i => (i.zero, i.size, i.bytes)) = some (some (.agg #[.string ⟨#[]⟩, .int .i64 0, .slice none 0 0]), 3, 48) := by kernel_rfl
/-- A record at its place, and the slice that holds it. -/
abbrev Pq := (Tx × Int × Tx) × Value
def PC (x : Pq) : List Value := [.string ⟨x.1.1.toArray⟩, .int .i64 x.1.2.1, x.2]
def PCs (l : List Pq) : List Value := l.flatMap PC
/-- The slice v reads as records at their places; all of it lies from block B on. -/
def Ps (w : World) (B : Nat) (v : Value) (ps : List (Tx × Int × Tx)) : Prop :=
  ∃ l : List Pq, l.map (·.1) = ps ∧ w.ownsRow B 150 3 v ps.length (PCs l) ∧ ∀ x ∈ l, w.ownsRow B 5 1 x.2 x.1.2.2.length (BVs x.1.2.2)
theorem Ps.nil (w : World) (B : Nat) : Ps w B (.slice none 0 0) [] := ⟨[], rfl, World.ownsRow_nil _ _ _ _, fun x hx => by cases hx⟩
theorem Ps.ch {w w' : World} {B : Nat} {v : Value} {ps : List (Tx × Int × Tx)} {S : Nat → Prop} (h : Ps w B v ps) (c : Ch S w w') (hs : ∀ k, S k → k < B) : Ps w' B v ps := by
  obtain ⟨l, h1, h2, h3⟩ := h
  exact ⟨l, h1, own_ch h2 c (fun g hg hs' => by have := (h2.lt g hg).1; have := hs g hs'; omega), fun x hx => own_ch (h3 x hx) c (fun g hg hs' => by have := ((h3 x hx).lt g hg).1; have := hs g hs'; omega)⟩
theorem Ps.later {w w' : World} {B : Nat} {v : Value} {ps : List (Tx × Int × Tx)} (h : Ps w B v ps) (b : Below w.heap.size w w') : Ps w' B v ps :=
  h.ch (Ch.of_below (S := fun _ => False) b (Nat.le_refl _)) (fun _ h => h.elim)
theorem Ps.base {w : World} {B B' : Nat} {v : Value} {ps : List (Tx × Int × Tx)} (h : Ps w B v ps) (hb : B' ≤ B) : Ps w B' v ps := by
  obtain ⟨l, h1, h2, h3⟩ := h
  exact ⟨l, h1, own_base h2 hb, fun x hx => own_base (h3 x hx) hb⟩
theorem placed_len (n : Tx) : ∀ (k : Int) (rs : List Tx), (placed n k rs).length = rs.length
  | _, [] => rfl
  | k, r :: rs => by simp [placed, placed_len n (k + 1) rs]
theorem placed_take (n : Tx) : ∀ (rs : List Tx) (k : Int) (i : Nat) (hi : i < rs.length), (placed n k rs).take (i + 1) = (placed n k rs).take i ++ [(n, k + (i : Int), rs[i])]
  | [], k, i, hi => absurd hi (by simp)
  | r :: rs, k, 0, hi => by simp [placed]
  | r :: rs, k, i + 1, hi => by
    have := placed_take n rs (k + 1) i (by simpa using hi)
    simp only [placed, List.take_succ_cons, this, List.getElem_cons_succ, List.cons_append]
    rw [show k + 1 + (i : Int) = k + ((i + 1 : Nat) : Int) by omega]
theorem one_pq {w : World} {x : Pq} {cs : Array Value} (X : Nat → Prop) (hc : cs = (PCs [x]).toArray) (hX : ¬ X w.heap.size) : Sl (w.alloc (.cells cs 150)) X 3 (.slice (some ⟨w.heap.size, 0, none⟩) 1 1) 1 (PCs [x]) := by
  subst hc
  refine ⟨_, _, rfl, rfl, Nat.le_refl _, by simp [maxLen], fun _ => ⟨_, rfl, by simp, hX, fun j u hu => ?_⟩⟩
  have ha : (⟨w.heap.size, 0, none⟩ : Addr).add j = ⟨w.heap.size, j, none⟩ := by unfold Addr.add; split <;> simp_all
  rw [ha, Blk.cell (Blk.new w 150 _) j]
  simpa using hu
theorem pcs_app (l k : List Pq) : PCs (l ++ k) = PCs l ++ PCs k := by simp [PCs]
/-- One place more. -/
theorem ps_step {W0 wr w4 w5 : World} {v v5 : Value} {l : List Pq} {n : Nat} {x : Pq} {cs : Array Value} (hs : W0.heap.size ≤ wr.heap.size) (hr : wr.ownsRow W0.heap.size 150 3 v n (PCs l)) (he : ∀ y ∈ l, wr.ownsRow W0.heap.size 5 1 y.2 y.1.2.2.length (BVs y.1.2.2))
    (hb : Below wr.heap.size wr w4) (ho : w4.ownsRow wr.heap.size 5 1 x.2 x.1.2.2.length (BVs x.1.2.2)) (happ : Appended (w4.alloc (.cells cs 150)) W0.heap.size 150 3 v (n + 1) (PCs l ++ PCs [x]) v5 w5) (hB : Below W0.heap.size W0 wr) :
    w5.ownsRow W0.heap.size 150 3 v5 (n + 1) (PCs (l ++ [x])) ∧ (∀ y ∈ l ++ [x], w5.ownsRow W0.heap.size 5 1 y.2 y.1.2.2.length (BVs y.1.2.2)) ∧ Below W0.heap.size W0 w5 := by
  obtain ⟨h1, h2, h3⟩ := happ
  have hrow : (w4.alloc (.cells cs 150)).ownsRow W0.heap.size 150 3 v n (PCs l) := (own_below hr hb).alloc _
  have key : ∀ {u : Value} {b : Tx}, (w4.alloc (.cells cs 150)).ownsRow W0.heap.size 5 1 u b.length (BVs b) → w5.ownsRow W0.heap.size 5 1 u b.length (BVs b) := fun {u b} hu =>
    own_ch hu (Ch.of_grown h2 (fun g hg _ => hg) : Ch (fun k => v.ownBlock = some k) _ w5) (fun g hg hv => by
      rcases hrow.2 with ⟨rfl, _⟩ | ⟨g1, _, _, rfl, _, r1, _⟩
      · simp [Value.ownBlock] at hv
      · rcases hu.2 with ⟨rfl, _⟩ | ⟨g2, _, _, rfl, _, r2, _⟩
        · simp [Value.ownBlock] at hg
        · simp only [Value.ownBlock, Option.some.injEq] at hv hg
          subst hv; subst hg
          rw [r1] at r2
          simp only [Option.some.injEq, Obj.cells.injEq] at r2
          exact absurd r2.2.1 (by decide))
  refine ⟨by rw [pcs_app]; exact h1, fun y hy => ?_, ?_⟩
  · rcases List.mem_append.1 hy with hy | hy
    · exact key ((own_below (he y hy) hb).alloc _)
    · rw [List.mem_singleton] at hy
      subst hy
      exact key (own_base (ho.alloc _) hs)
  · have hb4 : Below W0.heap.size W0 (w4.alloc (.cells cs 150)) := (hB.trans (hb.mono hs)).alloc (by have := hb.size; omega) _
    exact hb4.grown h2 hb4.size (fun g hg => (hrow.lt g hg).1)
set_option maxRecDepth 100000 in
set_option maxHeartbeats 1000000 in
theorem places_any (w : World) (o : O) (X : Nat → Prop) (A : Option Addr) (c : Nat) (first : Int) (hls : Ls w X (.slice A o.recs.length c) o.recs) (h4 : o.recs.length ≤ 64) (h64 : ∀ x ∈ o.recs, x.length ≤ 64) (h0 : 0 ≤ first) (h1 : first ≤ 9007199254740992) :
    Calls Tryz.prog 113 #[OV o A c, .int .i64 first] w fun e w' => ∃ v, e = .returned v ∧ Ps w' w.heap.size v (placed o.topic first o.recs) ∧ Below w.heap.size w w' := by
  have hal := op_below w (.cells (OC o A c) 98)
  have HAL := Lib.hid hal
  have hob := op_new w o A c
  have HOB := Lib.hid hob
  have HLS := Lib.hid (hls.after hal)
  have HX := Lib.hid h64
  have HTL := Lib.hid (placed_take o.topic o.recs first)
  have hz0 : (w.alloc (.cells (OC o A c) 98)).heap.size = w.heap.size + 1 := by simp
  clear hal hob hls h64
  unfold OV
  unfold OC at HAL HLS HOB hz0
  obtain ⟨a0, a1, a2, a3, a4⟩ := OB.cells HOB.out
  obtain ⟨i0, hi0, hy0, hy1, hy2⟩ := info_parts info_placed
  go_enter Tryz.func113, Tryz.ntmps113
  go_wp2_with fail
  generalize w.alloc (.cells #[.int .i64 o.kind, .string ⟨o.topic.toArray⟩, .string ⟨o.group.toArray⟩, .int .i64 o.off, .slice A o.recs.length c] 98) = W0 at *
  generalize hg0 : w.heap.size = g0 at *
  have HG0 := Lib.hid hg0
  clear hg0
  have HZ0 := Lib.hid hz0
  clear a0 a1 a2 a3 a4 hz0
  go_loopw [5, 11] (fun v i wr => ∃ (k : Nat) (l : List Pq), k ≤ o.recs.length ∧ i = .int .i64 k ∧ l.map (·.1) = (placed o.topic first o.recs).take k ∧ wr.ownsRow W0.heap.size 150 3 v k (PCs l) ∧ (∀ y ∈ l, wr.ownsRow W0.heap.size 5 1 y.2 y.1.2.2.length (BVs y.1.2.2)) ∧ Below W0.heap.size W0 wr) (fun _ i _ => o.recs.length - (intOf i).toNat)
  case atStart => exact ⟨0, [], Nat.zero_le _, rfl, by simp, World.ownsRow_nil _ _ _ _, (fun x hx => by cases hx), Below.refl _ _⟩
  case round =>
    obtain ⟨k, l, hk, rfl, hmap, hrow, hel, hB⟩ := hrel
    have HM := Lib.hid hmap
    have HR := Lib.hid hrow
    have HE := Lib.hid hel
    have HB := Lib.hid hB
    obtain ⟨Av, cv, rfl⟩ := own_shape hrow
    by_cases hlt : k < o.recs.length
    · obtain ⟨ad, Ab, cb, rfl, hcell, hsl⟩ := (HLS.out.after hB).at_ hlt
      have HSL := Lib.hid hsl.drew
      have q1 := (OB.cells (Blk.below HOB.out hB (Blk.lt HOB.out))).2.1
      have hr64 := HX.out _ (List.getElem_mem hlt)
      have HCL := Lib.hid (clone_sh X _ _ o.recs[k] wr.drew HSL.out (by omega))
      have HTK := Lib.hid (HTL.out k hlt)
      have hw : IntKind.i64.wrap (first + (k : Int)) = first + (k : Int) := Ga.wrap64 (by omega) (by omega)
      clear hmap hrow hel hB hsl
      go_wp2_with fail
      have hkc : (k : Int) ≤ 64 := by omega
      go_region_law (first
        | (go_simp; go_at_call 138; refine HCL.out.mono ?_; rintro e w4 ⟨A4, c4, rfl, ho4, hb4⟩; have hb4 : Below wr.heap.size wr w4 := below_of_drew hb4; have HO4 : Hid (w4.ownsRow wr.heap.size 5 1 (.slice A4 o.recs[k].length c4) o.recs[k].length (BVs o.recs[k])) := Lib.hid ho4; have HB4 := Lib.hid hb4; have q4 : w4.cell? ⟨g0, 1, none⟩ = some (.string ⟨o.topic.toArray⟩) := (hb4.cell (World.block_lt_of_cell? _ _ q1)).trans q1; clear ho4 hb4)
        | (refine step_append_sh (by rfl) (.tmp 16) (.tmp 25) _ (by rfl) W0.heap.size 150 i0 _ 3 48 Tryz.underlying61 hi0 hy0 hy1 hy2 rfl (by omega) (.slice Av k cv) k (PCs l) (by rfl) (show (w4.alloc (.cells #[.string ⟨o.topic.toArray⟩, .int .i64 (first + (k : Int)), .slice A4 o.recs[k].length c4] 150)).ownsRow W0.heap.size 150 3 (.slice Av k cv) k (PCs l) from (own_below HR.out HB4.out).alloc _) (fun _ => False) _ 1 (PCs [((o.topic, first + (k : Int), o.recs[k]), .slice A4 o.recs[k].length c4)]) (by rfl) (show Sl (w4.alloc (.cells #[.string ⟨o.topic.toArray⟩, .int .i64 (first + (k : Int)), .slice A4 o.recs[k].length c4] 150)) (fun _ => False) _ _ _ _ from one_pq (fun _ => False) rfl (fun h => h)) (by intro u hu; simp only [PCs, PC, List.flatMap_cons, List.flatMap_nil, List.append_nil, List.mem_cons, List.not_mem_nil, or_false] at hu; rcases hu with rfl | rfl | rfl <;> rfl) (by simp only [maxLen]; omega) (by omega) (by have h1 := HB.out.size; have h2 := HB4.out.size; simp; omega) ?_; intro A5 c5 w5 happ; have HAP := Lib.hid happ; clear happ))
      all_goals
        go_wp2
        have hs := ps_step (x := ((o.topic, first + (k : Int), o.recs[k]), .slice A4 o.recs[k].length c4)) HB.out.size HR.out HE.out HB4.out HO4.out HAP.out HB.out
        have HS := Lib.hid hs
        have hm1 : (l ++ [((o.topic, first + (k : Int), o.recs[k]), Value.slice A4 o.recs[k].length c4)]).map (·.1) = (placed o.topic first o.recs).take (k + 1) := by
          rw [HTK.out, List.map_append, HM.out]
          rfl
        have HM1 := Lib.hid hm1
        clear hs hm1
        go_roundw
        case rel => exact ⟨k + 1, _, by omega, by go_num, HM1.out, HS.out.1, HS.out.2.1, HS.out.2.2⟩
        case measure => simp [intOf]; omega
    · have hke : k = o.recs.length := by omega
      subst hke
      clear hmap hrow hel hB
      go_wp2_with fail
      go_ret
      have hl := placed_len o.topic first o.recs
      rw [HG0.out]
      refine ⟨_, rfl, ⟨l, ?_, ?_, fun x hx => own_base (HE.out x hx) (by have := HZ0.out; omega)⟩, HAL.out.trans (HB.out.mono (by have := HZ0.out; omega))⟩
      · rw [HM.out, ← hl, List.take_length]
      · rw [hl]
        exact own_base HR.out (by have := HZ0.out; omega)
end Go.Proofs.YtobphijbhghgmaaGreat.Ah

/-
  Contracts of the document's own reader of layer 1: Read, Fail, Done, Num.
-/
namespace Go.Proofs.YtobphijbhghgmaaGreat.Cj
set_option linter.unusedSimpArgs false
set_option linter.unusedVariables false
open Go Go.RowKit Ck Ca Cb Ce Cf Cg Ch

/-- The document's reader's block. -/
abbrev DB (w : World) (g : Nat) (v : Value) (err : Int) : Prop := Blk w g 119 #[v, .int .i64 err]
/-- The document's reader in memory. -/
def RR (w : World) (X : Nat → Prop) (g : Nat) (s : Cm.RS) : Prop :=
  ∃ A n c, DB w g (.slice A n c) s.2 ∧ Sl w (fun k => k = g ∨ X k) 1 (.slice A n c) n (BVs s.1) ∧ Cm.Good s
theorem RR.weaken {w : World} {X Y : Nat → Prop} {g : Nat} {s : Cm.RS} (h : RR w X g s) (hk : ∀ b, b < w.heap.size → Y b → X b) : RR w Y g s := by
  obtain ⟨A, n, c, hb, hsl, hgd⟩ := h
  exact ⟨A, n, c, hb, hsl.weaken fun b hb hy => by
    rcases hy with hy | hy
    · exact .inl hy
    · exact .inr (hk b hb hy), hgd⟩
theorem RR.grown {w w' : World} {X : Nat → Prop} {g : Nat} {s : Cm.RS} {row : Option Nat} (h : RR w X g s) (hg : w.grownBy w' row) (hne : some g ≠ row) (hr : ∀ k, row = some k → k < w.heap.size → X k) : RR w' X g s := by
  obtain ⟨A, n, c, hb, hsl, hgd⟩ := h
  exact ⟨A, n, c, Blk.grown hb hg hne, hsl.grown hg fun k hk hlt => .inr (hr k hk hlt), hgd⟩
theorem RR.after {w w' : World} {X : Nat → Prop} {g : Nat} {s : Cm.RS} (h : RR w X g s) (hb : Below w.heap.size w w') : RR w' X g s :=
  h.grown (grown_of_below hb none) (by simp) (by simp)
theorem RR.old {w : World} {X : Nat → Prop} {g : Nat} {s : Cm.RS} (h : RR w X g s) {B : Nat} (hB : w.heap.size ≤ B) : RR w (fun k => X k ∨ B ≤ k) g s := by
  obtain ⟨A, n, c, hb, hsl, hgd⟩ := h
  refine ⟨A, n, c, hb, (hsl.old hB).weaken fun b _ hy => ?_, hgd⟩
  rcases hy with hy | hy | hy
  · exact .inl (.inl hy)
  · exact .inl (.inr hy)
  · exact .inr hy
theorem RR.lt {w : World} {X : Nat → Prop} {g : Nat} {s : Cm.RS} (h : RR w X g s) : g < w.heap.size := by
  obtain ⟨A, n, c, hb, _⟩ := h
  exact hb.lt

theorem rread_any (w : World) (X : Nat → Prop) (v : Value) (n : Nat) (b : List UInt8) (hv : Sl w X 1 v n (BVs b)) :
    Calls Tryz.prog 34 #[v] w fun e w' => e = .returned (P_ w.heap.size) ∧ RR w' X w.heap.size (b, 0) ∧ Below w.heap.size w w' := by
  have hnl : n = b.length := by obtain ⟨A, c, _, h, _⟩ := hv; rw [BVs_len] at h; omega
  subst hnl
  have hv' := hv
  obtain ⟨A, c, rfl, -⟩ := hv'
  go_enter Tryz.func34, Tryz.ntmps34
  go_wp2
  go_ret
  refine ⟨rfl, ⟨A, b.length, c, Blk.new _ _ _, ?_, fun h => absurd rfl h⟩, (Below.refl _ _).alloc (Nat.le_refl _) _⟩
  refine Sl.alloc (hv.weaken' fun ad hb hX hy => ?_) _
  rcases hy with hy | hy
  · omega
  · exact hX hy

theorem rfail_end {w : World} {g : Nat} {v : Value} {e0 e1 : Int} {X : Nat → Prop} (h : DB w g v e1) :
    w.grownBy ((w.setCell ⟨g, 1, none⟩ (.int .i64 e0)).setCell ⟨g, 0, none⟩ (.slice none 0 0)) (some g) ∧ RR ((w.setCell ⟨g, 1, none⟩ (.int .i64 e0)).setCell ⟨g, 0, none⟩ (.slice none 0 0)) X g ([], e0) := by
  have h1 := Blk.set_ h 1 (.int .i64 e0)
  have h2 := Blk.set_ h1 0 (.slice none 0 0)
  refine ⟨?_, none, 0, 0, h2, Sl.nil _ _ _, fun _ => rfl⟩
  have g1 := grown_setCell (World.grownBy.refl w (some g)) (p := ⟨g, 1, none⟩) (.inl rfl) (.int .i64 e0)
  exact grown_setCell g1 (p := ⟨g, 0, none⟩) (.inl rfl) (.slice none 0 0)
theorem rfail_end0 {w : World} {g : Nat} {v : Value} {e1 : Int} {X : Nat → Prop} (h : DB w g v e1) :
    w.grownBy (w.setCell ⟨g, 0, none⟩ (.slice none 0 0)) (some g) ∧ RR (w.setCell ⟨g, 0, none⟩ (.slice none 0 0)) X g ([], e1) := by
  have h2 := Blk.set_ h 0 (.slice none 0 0)
  refine ⟨?_, none, 0, 0, h2, Sl.nil _ _ _, fun _ => rfl⟩
  exact grown_setCell (World.grownBy.refl w (some g)) (p := ⟨g, 0, none⟩) (.inl rfl) (.slice none 0 0)

set_option maxHeartbeats 400000 in
theorem rfail_any (w : World) (X : Nat → Prop) (g : Nat) (s : Cm.RS) (h : RR w X g s) (e0 : Int) :
    Calls Tryz.prog 57 #[P_ g, .int .i64 e0] w fun e w' => e = .returned (.tuple #[]) ∧ w.grownBy w' (some g) ∧ RR w' X g (Cm.failS s e0) := by
  have hcr := h
  obtain ⟨A, n, c, hb, hsl, hgd⟩ := h
  have h0 := hb.cell 0
  have h1 := hb.cell 1
  have f0 := hb.frozen 0
  have f1 := hb.frozen 1
  simp only [List.getElem?_toArray, List.getElem?_cons_zero, List.getElem?_cons_succ] at h0 h1
  by_cases hs : s.2 = 0
  · have hb0 := hb
    rw [hs] at hb0 h1
    by_cases he : e0 = 0
    · have hf : Cm.failS s e0 = s := by simp [Cm.failS, hs, he]
      rw [hf]
      subst he
      have hend : Blk (w.setCell ⟨g, 1, none⟩ (.int .i64 0)) g 119 #[.slice A n c, .int .i64 0] := Blk.set_ hb0 1 (.int .i64 0)
      have HE := Lib.hid hend
      have HS := Lib.hid hs
      clear hs hf hend
      go_enter Tryz.func57, Tryz.ntmps57
      go_wp2
      go_end0
      refine ⟨rfl, grown_setCell (World.grownBy.refl w (some g)) (p := ⟨g, 1, none⟩) (.inl rfl) (.int .i64 0), A, n, c, ?_, hsl.setCell (p := ⟨g, 1, none⟩) (fun _ => .inl rfl) (.int .i64 0), hgd⟩
      rw [HS.out]
      exact HE.out
    · have hf : Cm.failS s e0 = ([], e0) := by simp [Cm.failS, hs, he]
      rw [hf]
      have he1 : (e0 == 0) = false := by rw [beq_eq_false_iff_ne]; exact he
      have he2 : (e0 != 0) = true := by rw [bne, he1]; rfl
      have HS := Lib.hid hs
      have HE := Lib.hid he
      clear hs hf he
      go_enter Tryz.func57, Tryz.ntmps57
      go_wp2
      go_end0
      exact ⟨rfl, rfail_end hb0⟩
  · have hz : s.1 = [] := hgd hs
    have hf : Cm.failS s e0 = ([], s.2) := by simp [Cm.failS, hs, ← hz]
    rw [hf]
    have he1 : (s.2 == 0) = false := by rw [beq_eq_false_iff_ne]; exact hs
    have he2 : (s.2 != 0) = true := by rw [bne, he1]; rfl
    have HS := Lib.hid hs
    clear hs hf hz
    go_enter Tryz.func57, Tryz.ntmps57
    go_wp2
    go_end0
    exact ⟨rfl, rfail_end0 hb⟩

theorem rdone_any (w : World) (X : Nat → Prop) (g : Nat) (s : Cm.RS) (h : RR w X g s) :
    Calls Tryz.prog 37 #[P_ g] w fun e w' => e = .returned (.int .i64 (Cm.doneS s)) ∧ w = w' := by
  obtain ⟨A, m, c, hb, hsl, hgd⟩ := h
  have hm : m = s.1.length := by obtain ⟨A, c, _, h, _⟩ := hsl; rw [BVs_len] at h; omega
  subst hm
  have h0 := hb.cell 0
  have h1 := hb.cell 1
  simp only [List.getElem?_toArray, List.getElem?_cons_zero, List.getElem?_cons_succ] at h0 h1
  by_cases hs : s.2 = 0
  · rw [hs] at h1
    by_cases hz : s.1 = []
    · have hd : Cm.doneS s = 0 := by simp [Cm.doneS, hz, hs]
      rw [hd]
      rw [hz] at h0
      simp only [List.length_nil] at h0
      clear hs hd hz hsl hb
      go_enter Tryz.func37, Tryz.ntmps37
      go_wp2
      go_ret
      exact ⟨rfl, rfl⟩
    · have hd : Cm.doneS s = 12 := by simp [Cm.doneS, hz, hs]
      rw [hd]
      have hp : 0 < s.1.length := by
        rcases Nat.eq_zero_or_pos s.1.length with h0 | h0
        · exact absurd (List.eq_nil_of_length_eq_zero h0) hz
        · exact h0
      clear hs hd hz hb
      go_enter Tryz.func37, Tryz.ntmps37
      go_wp2
      go_ret
      exact ⟨rfl, rfl⟩
  · have hd : Cm.doneS s = s.2 := by simp [Cm.doneS, hs]
    rw [hd]
    have he1 : (s.2 == 0) = false := by rw [beq_eq_false_iff_ne]; exact hs
    clear hs hd hb
    go_enter Tryz.func37, Tryz.ntmps37
    go_wp2
    go_ret
    exact ⟨rfl, rfl⟩

end Go.Proofs.YtobphijbhghgmaaGreat.Cj

/-
  Contract of the document's own reader of layer 1: Num.
-/
namespace Go.Proofs.YtobphijbhghgmaaGreat.Cn
set_option linter.unusedSimpArgs false
set_option linter.unusedVariables false
open Go Go.RowKit Ck Ca Cb Ce Cf Cg Ch Cj

theorem wrap_u64 (n : Nat) (hn : n < 18446744073709551616) : IntKind.u64.wrap (n : Int) = (n : Int) := by
  simp [IntKind.wrap, IntKind.bits, IntKind.signed]
  omega
theorem wrap_step (k acc x q : Nat) (hq : q = 128 ^ k) (hacc : acc < 128 ^ k) (hk : k ≤ 9) (h9 : k = 9 → x % 128 ≤ 1) :
    IntKind.u64.wrap ((acc : Int) + IntKind.u64.wrap ((x : Int) % 128 * (q : Int))) = ((acc + x % 128 * 128 ^ k : Nat) : Int) := by
  subst hq
  have hp := Cm.pow_le k hk
  have hb : x % 128 * 128 ^ k ≤ 9223372036854775808 := by
    by_cases hk9 : k = 9
    · have := h9 hk9
      have : x % 128 * 128 ^ k ≤ 1 * 128 ^ k := Nat.mul_le_mul_right _ this
      omega
    · have h8 : 128 ^ k ≤ 72057594037927936 := by
        have : k = 0 ∨ k = 1 ∨ k = 2 ∨ k = 3 ∨ k = 4 ∨ k = 5 ∨ k = 6 ∨ k = 7 ∨ k = 8 := by omega
        rcases this with rfl | rfl | rfl | rfl | rfl | rfl | rfl | rfl | rfl <;> decide
      have : x % 128 * 128 ^ k ≤ 127 * 128 ^ k := Nat.mul_le_mul_right _ (by omega)
      omega
  have e1 : ((x : Int) % 128 * ((128 ^ k : Nat) : Int)) = ((x % 128 * 128 ^ k : Nat) : Int) := by
    rw [Int.natCast_mul]; rfl
  rw [e1, wrap_u64 _ (by omega), ← Int.natCast_add, wrap_u64 _ (by omega)]
theorem wrap_by (k q : Nat) (hq : q = 128 ^ k) (hk : k < 9) : IntKind.u64.wrap ((q : Int) * 128) = ((128 ^ (k + 1) : Nat) : Int) := by
  subst hq
  have hp := Cm.pow_le (k + 1) (by omega)
  have e : (((128 ^ k : Nat) : Int) * 128) = ((128 ^ (k + 1) : Nat) : Int) := by
    rw [Nat.pow_succ, Int.natCast_mul]; rfl
  rw [e, wrap_u64 _ (by omega)]

theorem rrest_end {w : World} {X : Nat → Prop} {g : Nat} {A A' : Option Addr} {n c k : Nat} {xs : List UInt8} (hb : DB w g (.slice A n c) 0) (hsl : Sl w (fun j => j = g ∨ X j) 1 (.slice A n c) n (BVs xs)) (hk : k ≤ n) (hA : ∀ ad, A = some ad → k < n → A' = some (ad.add (k * 1))) :
    w.grownBy (w.setCell ⟨g, 0, none⟩ (.slice A' (n - k) (c - k))) (some g) ∧ RR (w.setCell ⟨g, 0, none⟩ (.slice A' (n - k) (c - k))) X g (xs.drop k, 0) := by
  have h1 := Blk.set_ hb 0 (.slice A' (n - k) (c - k))
  have g1 := grown_setCell (World.grownBy.refl w (some g)) (p := ⟨g, 0, none⟩) (.inl rfl) (.slice A' (n - k) (c - k))
  refine ⟨g1, A', n - k, c - k, h1, ?_, fun h => absurd rfl h⟩
  have h2 := (hsl.cut hk A' hA).setCell (p := ⟨g, 0, none⟩) (fun _ => .inl rfl) (.slice A' (n - k) (c - k))
  have h3 : (BVs xs).drop (k * 1) = BVs (xs.drop k) := by simp [BVs, List.map_drop]
  rw [h3] at h2
  exact h2
theorem rslice {w : World} {X : Nat → Prop} {g : Nat} {A : Option Addr} {n c k : Nat} {xs : List UInt8} (hb : DB w g (.slice A n c) 0) (hsl : Sl w (fun j => j = g ∨ X j) 1 (.slice A n c) n (BVs xs)) (hk : k ≤ n) (hc : n ≤ c) :
    ∃ A' N C, (∀ W : World, (Instr.slice 25 (.slice A n c) (some (.int .i64 (k : Int))) none none).run Tryz.prog W = .ok (.slice A' N C) W) ∧
      w.grownBy (w.setCell ⟨g, 0, none⟩ (.slice A' N C)) (some g) ∧ RR (w.setCell ⟨g, 0, none⟩ (.slice A' N C)) X g (xs.drop k, 0) := by
  obtain ⟨A', h1, h2⟩ := slice_from A n c k hk hc
  exact ⟨A', n - k, c - k, h1, rrest_end hb hsl hk h2⟩

/-- What a number's reading leaves. -/
def RNumed (w : World) (X : Nat → Prop) (g : Nat) (r : Nat × Cm.RS) (e : Ending) (w' : World) : Prop := e = .returned (.int .u64 (r.1 : Int)) ∧ w.grownBy w' (some g) ∧ RR w' X g r.2

set_option maxRecDepth 100000 in
set_option maxHeartbeats 800000 in
theorem rnum_ok (w : World) (X : Nat → Prop) (g : Nat) (s : Cm.RS) (h : RR w X g s) (hs : s.2 = 0) (most : Nat) :
    Calls Tryz.prog 36 #[P_ g, .int .u64 most] w fun e w' => RNumed w X g (Cm.numS s most) e w' := by
  have hcr := h
  have hcr' := h
  obtain ⟨A, n, c, hb, hsl, hgd⟩ := h
  have hn : n = s.1.length := by obtain ⟨A, c, _, h, _⟩ := hsl; rw [BVs_len] at h; omega
  subst hn
  rw [hs] at hb
  have hbw := hb
  have hcond := err_cond (most := most) hs
  have h0 := hb.cell 0
  have h1 := hb.cell 1
  have f0 := hb.frozen 0
  simp only [List.getElem?_toArray, List.getElem?_cons_zero, List.getElem?_cons_succ] at h0 h1
  have HS := Lib.hid hs
  have HC := Lib.hid hcond
  clear hs hcond
  go_enter Tryz.func36, Tryz.ntmps36
  go_wp2
  go_loop [5, 6, 7] (fun a p i => ∃ k acc q : Nat, k ≤ s.1.length ∧ i = .int .i64 k ∧ a = .int .u64 acc ∧ p = .int .u64 q ∧ Hid (q = 128 ^ k) ∧ Hid (acc < 128 ^ k) ∧ k ≤ 9 ∧ Hid (Cm.pn s.1 0 0 = Cm.pn (s.1.drop k) k acc))
    (fun _ _ i => s.1.length - (intOf i).toNat)
  case atStart => exact ⟨0, 0, 1, Nat.zero_le _, rfl, rfl, rfl, rfl, (by decide : 0 < 128 ^ 0), by omega, by simp [Hid]⟩
  case round =>
    obtain ⟨k, acc, q, hk, rfl, rfl, rfl, hq, hacc, hk9, hpn⟩ := hrel
    have hq63 : q ≤ 9223372036854775808 := by have := Cm.pow_le k hk9; have := hq.out; omega
    by_cases hlt : k < s.1.length
    · obtain ⟨ad, rfl, hcell⟩ := Sl_at hsl hlt
      have hb := s.1[k].toNat_lt
      have hat := pn_at hlt acc
      generalize hx : s.1[k].toNat = x at *
      have HAT := Lib.hid hat
      clear hat
      have HX := Lib.hid hx
      clear hx
      have hc9 : 9 ≤ k → w.cell? ⟨ad.block, ad.off + 9, none⟩ = some (.int .u8 (x : Int)) := by
        intro h
        obtain rfl : k = 9 := by omega
        simpa [Addr.add] using hcell
      have HC9 := Lib.hid hc9
      clear hc9
      by_cases h9 : k = 9 ∧ 1 < x
      · have e := HAT.out
        rw [if_pos h9, ← hpn.out] at e
        have hf := HC.out
        rw [e] at hf
        have HF := Lib.hid hf
        have hk9a : 9 ≤ k := by omega
        have hx1 : 1 < x := h9.2
        have hcell9 := HC9.out hk9a
        clear h9 e hf
        go_wp2_with (go_at_call 57; refine (rfail_any _ X g s hcr 11).mono ?_; rintro e w1 ⟨rfl, hg1, hc1⟩; rw [failS_ok HS.out (by decide)] at hc1; have hc1' := hc1; obtain ⟨A1, n1, c1, hb1, -⟩ := hc1'; have h11 := hb1.cell 1; simp only [List.getElem?_toArray, List.getElem?_cons_zero, List.getElem?_cons_succ] at h11)
        go_ret
        exact ⟨by rw [HF.out]; rfl, hg1, by rw [HF.out]; exact hc1⟩
      · by_cases hbig : 128 ≤ x
        · have hkn : k < 9 := by omega
          have e := HAT.out
          rw [if_neg h9, if_pos hbig, ← hpn.out] at e
          have HE := Lib.hid e
          clear h9 e
          go_wp2
          go_round
          case rel => exact ⟨k + 1, acc + x % 128 * 128 ^ k, 128 ^ (k + 1), by omega, by go_num, by rw [wrap_step k acc x q hq.out hacc.out (by omega) (by omega)], by rw [wrap_by k q hq.out hkn], rfl, pow_step hacc.out, by omega, HE.out⟩
          case measure => simp [intOf]; omega
        · have hsm : x < 128 := by omega
          have e := HAT.out
          rw [if_neg h9, if_neg hbig, ← hpn.out] at e
          have hv := wrap_step k acc x q hq.out hacc.out hk9 (by omega)
          rw [Nat.mod_eq_of_lt hsm] at hv
          by_cases hz : x = 0 ∧ 0 < k
          · rw [if_pos hz] at e
            have hf := HC.out
            rw [e] at hf
            have hf2 : Cm.numS s most = (0, ([], 11)) := hf
            have HF := Lib.hid hf2
            have HV := Lib.hid hv
            have hz2 : 0 < k := hz.2
            have hzx := hz.1
            clear hz e hbig hv hf hf2 HAT HX hsm
            subst hzx
            by_cases hk8 : k < 9
            · clear h9
              go_wp2_with (go_at_call 57; refine (rfail_any _ X g s hcr 11).mono ?_; rintro e w1 ⟨rfl, hg1, hc1⟩; rw [failS_ok HS.out (by decide)] at hc1; have hc1' := hc1; obtain ⟨A1, n1, c1, hb1, -⟩ := hc1'; have h11 := hb1.cell 1; simp only [List.getElem?_toArray, List.getElem?_cons_zero, List.getElem?_cons_succ] at h11)
              go_ret
              exact ⟨by rw [HF.out]; rfl, hg1, by rw [HF.out]; exact hc1⟩
            · have hk9a : 9 ≤ k := by omega
              have hcell9 := HC9.out hk9a
              clear h9 hk8
              go_wp2_with (go_at_call 57; refine (rfail_any _ X g s hcr 11).mono ?_; rintro e w1 ⟨rfl, hg1, hc1⟩; rw [failS_ok HS.out (by decide)] at hc1; have hc1' := hc1; obtain ⟨A1, n1, c1, hb1, -⟩ := hc1'; have h11 := hb1.cell 1; simp only [List.getElem?_toArray, List.getElem?_cons_zero, List.getElem?_cons_succ] at h11)
              go_ret
              exact ⟨by rw [HF.out]; rfl, hg1, by rw [HF.out]; exact hc1⟩
          · rw [if_neg hz] at e
            have hnc : s.1.length ≤ c := by obtain ⟨A, c, hv, _, h, _⟩ := hsl; injection hv with _ _ e3; omega
            have hcm : c ≤ 9223372036854775807 := by obtain ⟨A, c, hv, _, _, h, _⟩ := hsl; injection hv with _ _ e3; simp only [maxLen] at h; omega
            obtain ⟨A', N, C, hsl1, hR⟩ := rslice hbw hsl (k := k + 1) (by omega) hnc
            have HR := Lib.hid hR
            have hv2 := wrap_step k acc x q hq.out hacc.out hk9 (by omega)
            rw [Nat.mod_eq_of_lt hsm] at hv2
            have hv3 : IntKind.u64.wrap ((acc : Int) + IntKind.u64.wrap ((x : Int) * (q : Int))) = ((acc + x * 128 ^ k : Nat) : Int) := by
              rw [← hv2, show (x : Int) % 128 = (x : Int) from by omega]
            have hf := HC.out
            rw [e] at hf
            generalize acc + x * 128 ^ k = v at *
            have HE := Lib.hid hf
            clear hR e hf hbig hv HAT HX hcr' hbw
            by_cases hk8 : k < 9
            · have hsl2 : ∀ W : World, (Instr.slice 25 (.slice (some ad) s.1.length c) (some (.int .i64 ((k : Int) + 1))) none none).run Tryz.prog W = .ok (.slice A' N C) W := fun W => hsl1 W
              clear h9 hsl1
              rcases (show 1 ≤ x ∨ (x = 0 ∧ k = 0) from by omega) with hx1 | ⟨hx0, hk0⟩
              · clear hz
                by_cases hm : most < v
                · have hf2 : Cm.numS s most = (0, ([], 11)) := by have := HE.out; rw [if_neg (by simp), if_pos hm] at this; exact this
                  have HF := Lib.hid hf2
                  clear hf2
                  go_wp2_with (go_at_call 57; refine (rfail_any _ X g s hcr 11).mono ?_; rintro e w1 ⟨rfl, hg1, hc1⟩; rw [failS_ok HS.out (by decide)] at hc1; have hc1' := hc1; obtain ⟨A1, n1, c1, hb1, -⟩ := hc1'; have h11 := hb1.cell 1; simp only [List.getElem?_toArray, List.getElem?_cons_zero, List.getElem?_cons_succ] at h11)
                  all_goals go_ret
                  all_goals exact ⟨by rw [HF.out]; rfl, hg1, by rw [HF.out]; exact hc1⟩
                · have hf2 : Cm.numS s most = (v, (s.1.drop (k + 1), 0)) := by have := HE.out; rw [if_neg (by simp), if_neg hm] at this; exact this
                  have HF := Lib.hid hf2
                  clear hf2
                  go_wp2
                  all_goals go_ret
                  all_goals exact ⟨by rw [HF.out]; rfl, HR.out.1, by rw [HF.out]; exact HR.out.2⟩
              · have hk0' : ¬ 0 < k := by omega
                have hx0' : x ≤ 0 := by omega
                clear hz hx0 hk0
                by_cases hm : most < v
                · have hf2 : Cm.numS s most = (0, ([], 11)) := by have := HE.out; rw [if_neg (by simp), if_pos hm] at this; exact this
                  have HF := Lib.hid hf2
                  clear hf2
                  go_wp2_with (go_at_call 57; refine (rfail_any _ X g s hcr 11).mono ?_; rintro e w1 ⟨rfl, hg1, hc1⟩; rw [failS_ok HS.out (by decide)] at hc1; have hc1' := hc1; obtain ⟨A1, n1, c1, hb1, -⟩ := hc1'; have h11 := hb1.cell 1; simp only [List.getElem?_toArray, List.getElem?_cons_zero, List.getElem?_cons_succ] at h11)
                  all_goals go_ret
                  all_goals exact ⟨by rw [HF.out]; rfl, hg1, by rw [HF.out]; exact hc1⟩
                · have hf2 : Cm.numS s most = (v, (s.1.drop (k + 1), 0)) := by have := HE.out; rw [if_neg (by simp), if_neg hm] at this; exact this
                  have HF := Lib.hid hf2
                  clear hf2
                  go_wp2
                  all_goals go_ret
                  all_goals exact ⟨by rw [HF.out]; rfl, HR.out.1, by rw [HF.out]; exact HR.out.2⟩
            · have hk9a : 9 ≤ k := by omega
              have hcell9 := HC9.out hk9a
              have hsl2 : ∀ W : World, (Instr.slice 25 (.slice (some ad) s.1.length c) (some (.int .i64 10)) none none).run Tryz.prog W = .ok (.slice A' N C) W := fun W => by
                have h := hsl1 W
                rw [show ((k + 1 : Nat) : Int) = 10 from by omega] at h
                exact h
              have hx1 : x ≤ 1 := by omega
              have hx2 : 1 ≤ x := by omega
              clear h9 hsl1 hk8 hz
              by_cases hm : most < v
              · have hf2 : Cm.numS s most = (0, ([], 11)) := by have := HE.out; rw [if_neg (by simp), if_pos hm] at this; exact this
                have HF := Lib.hid hf2
                clear hf2
                go_wp2_with (go_at_call 57; refine (rfail_any _ X g s hcr 11).mono ?_; rintro e w1 ⟨rfl, hg1, hc1⟩; rw [failS_ok HS.out (by decide)] at hc1; have hc1' := hc1; obtain ⟨A1, n1, c1, hb1, -⟩ := hc1'; have h11 := hb1.cell 1; simp only [List.getElem?_toArray, List.getElem?_cons_zero, List.getElem?_cons_succ] at h11)
                all_goals go_ret
                all_goals exact ⟨by rw [HF.out]; rfl, hg1, by rw [HF.out]; exact hc1⟩
              · have hf2 : Cm.numS s most = (v, (s.1.drop (k + 1), 0)) := by have := HE.out; rw [if_neg (by simp), if_neg hm] at this; exact this
                have HF := Lib.hid hf2
                clear hf2
                go_wp2
                all_goals go_ret
                all_goals exact ⟨by rw [HF.out]; rfl, HR.out.1, by rw [HF.out]; exact HR.out.2⟩
    · have hke : s.1.length ≤ k := by omega
      have e := hpn.out
      rw [List.drop_eq_nil_of_le hke] at e
      have hf := HC.out
      rw [e] at hf
      have hf2 : Cm.numS s most = (0, ([], 10)) := hf
      have HF := Lib.hid hf2
      have hkk : ((k : Int) == (s.1.length : Int)) = true := by rw [beq_iff_eq]; omega
      clear e hf hf2 
      go_wp2_with (go_at_call 57; refine (rfail_any _ X g s hcr 10).mono ?_; rintro e w1 ⟨rfl, hg1, hc1⟩; rw [failS_ok HS.out (by decide)] at hc1; have hc1' := hc1; obtain ⟨A1, n1, c1, hb1, -⟩ := hc1'; have h11 := hb1.cell 1; simp only [List.getElem?_toArray, List.getElem?_cons_zero, List.getElem?_cons_succ] at h11)
      go_ret
      exact ⟨by rw [HF.out]; rfl, hg1, by rw [HF.out]; exact hc1⟩

end Go.Proofs.YtobphijbhghgmaaGreat.Cn

/-
  Contracts of the document's own reader of layer 1: Num, Take, Bytes, List.
-/
namespace Go.Proofs.YtobphijbhghgmaaGreat.Co
set_option linter.unusedSimpArgs false
set_option linter.unusedVariables false
open Go Go.RowKit Ck Ca Cb Ce Cf Cg Ch Ci Cj Cn

set_option maxHeartbeats 400000 in
theorem rnum_err (w : World) (X : Nat → Prop) (g : Nat) (s : Cm.RS) (h : RR w X g s) (hs : s.2 ≠ 0) (most : Nat) :
    Calls Tryz.prog 36 #[P_ g, .int .u64 most] w fun e w' => RNumed w X g (Cm.numS s most) e w' := by
  have hcr := h
  obtain ⟨A, n, c, hb, hsl, hgd⟩ := h
  have hn : n = s.1.length := by obtain ⟨A, c, _, h, _⟩ := hsl; rw [BVs_len] at h; omega
  have hz := hgd hs
  rw [hz] at hn
  simp only [List.length_nil] at hn
  subst hn
  have hf : Cm.numS s most = (0, s) := by rw [Cm.numS, if_pos hs]
  have hff : Cm.failS s 10 = s := by rw [Cm.failS, if_pos hs]
  have h0 := hb.cell 0
  have h1 := hb.cell 1
  simp only [List.getElem?_toArray, List.getElem?_cons_zero, List.getElem?_cons_succ] at h0 h1
  have he2 : (s.2 != 0) = true := by rw [bne_iff_ne]; exact hs
  have HF := Lib.hid hf
  have HFF := Lib.hid hff
  clear hf hff hs hz
  go_enter Tryz.func36, Tryz.ntmps36
  go_wp2
  refine wp_loop_rounds 1 ?_
  rw [rounds_succ]
  go_wp2_with (go_at_call 57; refine (rfail_any _ X g s hcr 10).mono ?_; rintro e w1 ⟨rfl, hg1, hc1⟩; rw [HFF.out] at hc1; have hc1' := hc1; obtain ⟨A1, n1, c1, hb1, -⟩ := hc1'; have h11 := hb1.cell 1; simp only [List.getElem?_toArray, List.getElem?_cons_zero, List.getElem?_cons_succ] at h11)
  go_ret
  exact ⟨by rw [HF.out]; rfl, hg1, by rw [HF.out]; exact hc1⟩

theorem rnum_any (w : World) (X : Nat → Prop) (g : Nat) (s : Cm.RS) (h : RR w X g s) (most : Nat) :
    Calls Tryz.prog 36 #[P_ g, .int .u64 most] w fun e w' => RNumed w X g (Cm.numS s most) e w' := by
  by_cases hs : s.2 = 0
  · exact rnum_ok w X g s h hs most
  · exact rnum_err w X g s h hs most

/-- What a reading of bytes leaves. -/
def RTaken (w : World) (X : Nat → Prop) (g : Nat) (r : List UInt8 × Cm.RS) (e : Ending) (w' : World) : Prop :=
  ∃ v, e = .returned v ∧ w'.ownsRow w.heap.size 5 1 v r.1.length (BVs r.1) ∧ w.grownBy w' (some g) ∧ RR w' X g r.2
theorem RTaken.nil {w w' : World} {X : Nat → Prop} {g : Nat} {s : Cm.RS} (hg : w.grownBy w' (some g)) (hc : RR w' X g s) : RTaken w X g ([], s) (.returned (.slice none 0 0)) w' :=
  ⟨_, rfl, World.ownsRow_nil _ _ _ _, hg, hc⟩

set_option maxRecDepth 100000 in
set_option maxHeartbeats 800000 in
theorem rtake_any (w : World) (X : Nat → Prop) (g : Nat) (s : Cm.RS) (h : RR w X g s) (n : Int) (hl : s.1.length ≤ 140737488355328) :
    Calls Tryz.prog 35 #[P_ g, .int .i64 n] w fun e w' => RTaken w X g (Cm.takeS s n) e w' := by
  have hcr := h
  obtain ⟨A, m, c, hb, hsl, hgd⟩ := h
  have hm : m = s.1.length := by obtain ⟨A, c, _, h, _⟩ := hsl; rw [BVs_len] at h; omega
  subst hm
  have hnc : s.1.length ≤ c := by obtain ⟨A, c, hv, _, h, _⟩ := hsl; injection hv with _ _ e3; omega
  have hcm : c ≤ 9223372036854775807 := by obtain ⟨A, c, hv, _, _, h, _⟩ := hsl; injection hv with _ _ e3; simp only [maxLen] at h; omega
  have h0 := hb.cell 0
  have h1 := hb.cell 1
  have f0 := hb.frozen 0
  simp only [List.getElem?_toArray, List.getElem?_cons_zero, List.getElem?_cons_succ] at h0 h1
  by_cases hs : s.2 = 0
  · have hb0 := hb
    rw [hs] at hb0 h1
    have HS := Lib.hid hs
    by_cases hn : n < 0
    · have hf : Cm.takeS s n = ([], Cm.failS s 1) := by rw [Cm.takeS, if_neg (by simp [hs]), if_pos hn, failS_ok hs (by decide)]
      rw [hf, failS_ok hs (by decide)]
      clear hs hf
      go_enter Tryz.func35, Tryz.ntmps35
      go_wp2_with (go_at_call 57; refine (rfail_any _ X g s hcr 1).mono ?_; rintro e w1 ⟨rfl, hg1, hc1⟩; rw [failS_ok HS.out (by decide)] at hc1; have hc1' := hc1; obtain ⟨A1, n1, c1, hb1, -⟩ := hc1'; have h11 := hb1.cell 1; simp only [List.getElem?_toArray, List.getElem?_cons_zero, List.getElem?_cons_succ] at h11)
      go_ret
      exact RTaken.nil hg1 hc1
    · obtain ⟨k, rfl⟩ := Int.eq_ofNat_of_zero_le (show 0 ≤ n by omega)
      clear hn
      by_cases hlt : s.1.length < k
      · have hf : Cm.takeS s k = ([], ([], 10)) := by rw [Cm.takeS, if_neg (by simp [hs]), if_neg (by omega), if_pos (by omega)]
        rw [hf]
        clear hs hf
        go_enter Tryz.func35, Tryz.ntmps35
        go_wp2_with (go_at_call 57; refine (rfail_any _ X g s hcr 10).mono ?_; rintro e w1 ⟨rfl, hg1, hc1⟩; rw [failS_ok HS.out (by decide)] at hc1; have hc1' := hc1; obtain ⟨A1, n1, c1, hb1, -⟩ := hc1'; have h11 := hb1.cell 1; simp only [List.getElem?_toArray, List.getElem?_cons_zero, List.getElem?_cons_succ] at h11)
        go_ret
        exact RTaken.nil hg1 hc1
      · have hk : k ≤ s.1.length := by omega
        have hf : Cm.takeS s k = (s.1.take k, (s.1.drop k, 0)) := by rw [Cm.takeS, if_neg (by simp [hs]), if_neg (by omega), if_neg (by omega), Int.toNat_natCast]
        rw [hf]
        obtain ⟨i0, hi0, hz0, hz1, hz2⟩ := info_parts info_u8
        obtain ⟨A', hsl1, hA'⟩ := slice_from A s.1.length c k hk hnc
        have hsl2 := slice_upto A s.1.length c k (by omega)
        have hup : Sl w (fun j => j = g ∨ X j) 1 (.slice A k c) k (BVs (s.1.take k)) := by
          have := hsl.upto hk
          rw [show (BVs s.1).take (k * 1) = BVs (s.1.take k) from by simp [BVs, List.map_take]] at this
          exact this
        have HA := Lib.hid hA'
        have hgl : g < w.heap.size := hb0.lt
        have hkl : (s.1.take k).length = k := by rw [List.length_take]; omega
        have HKL := Lib.hid hkl
        clear hs hf hA' hlt hkl
        go_enter Tryz.func35, Tryz.ntmps35
        go_wp2_with (at_builtin; refine wpList_append_sl _ rfl (.tmp 31) (.tmp 37) _ rfl w.heap.size 5 i0 _ 1 1 Tryz.underlying25 hi0 hz0 hz1 hz2 rfl (by omega) (.slice none 0 0) 0 [] rfl (World.ownsRow_nil _ _ _ _) _ _ k (BVs (s.1.take k)) rfl hup (BVs_one _) (by simp only [maxLen]; omega) (by omega) (Nat.le_refl _) ?_; intro v1 w1 happ; have hb1 : Below w.heap.size w w1 := below_of_grown happ.2.1 (by simp [Value.ownBlock]); have h00 := (hb1.cell (p := ⟨g, 0, none⟩) hgl).trans h0; have f00 := (hb1.frozen (p := ⟨g, 0, none⟩) hgl).trans f0)
        go_ret
        have R := rrest_end (X := X) (hb0.below hb1 hb0.lt) (hsl.after hb1) hk HA.out
        refine ⟨v1, rfl, ownsRow_setCell_below (a := ⟨g, 0, none⟩) ?_ hgl _, grown_step (grown_of_below hb1 (some g)) R.1 (.inl rfl), R.2⟩
        have := happ.1
        rw [HKL.out]
        simpa using this
  · have hf : Cm.takeS s n = ([], s) := by rw [Cm.takeS, if_pos hs]
    have hff : Cm.failS s 1 = s := by rw [Cm.failS, if_pos hs]
    rw [hf]
    have he1 : (s.2 == 0) = false := by rw [beq_eq_false_iff_ne]; exact hs
    have he2 : (s.2 != 0) = true := by rw [bne_iff_ne]; exact hs
    have HFF := Lib.hid hff
    clear hs hf hff
    by_cases hn : n < 0
    · go_enter Tryz.func35, Tryz.ntmps35
      go_wp2_with (go_at_call 57; refine (rfail_any _ X g s hcr 1).mono ?_; rintro e w1 ⟨rfl, hg1, hc1⟩; rw [HFF.out] at hc1; have hc1' := hc1; obtain ⟨A1, n1, c1, hb1, -⟩ := hc1'; have h11 := hb1.cell 1; simp only [List.getElem?_toArray, List.getElem?_cons_zero, List.getElem?_cons_succ] at h11)
      go_ret
      exact RTaken.nil hg1 hc1
    · go_enter Tryz.func35, Tryz.ntmps35
      go_wp2
      go_ret
      exact RTaken.nil (World.grownBy.refl _ _) hcr

end Go.Proofs.YtobphijbhghgmaaGreat.Co

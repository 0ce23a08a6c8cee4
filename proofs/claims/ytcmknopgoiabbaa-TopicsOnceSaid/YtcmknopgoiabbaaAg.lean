/-
  Contract of the program's topics: run, kind by kind.
-/
import Derived.Test.YtcmknopgoiabbaaAf
import Derived.Test.YtcmknopgoiabbaaPy
import Derived.Test.YtcmknopgoiabbaaPz
namespace Go.Proofs.Ytcmknopgoiabbaa.Ag
set_option linter.unusedSimpArgs false
open Go Go.RowKit Ck Kw Ga Kf Km Kd Pm Pz Pe Pg Py Tm Tn Tq Aa Ab Ac Ad Ae Af
attribute [local go_sem ↓] Go.wp_at_zero Go.wp_at_succ
set_option linter.unusedVariables false

theorem Tz.more {w : World} {S S' R : Nat → Prop} {p : Nat} {s : St} (h : Tz w S R p s) (hs : ∀ k, S k → S' k) (hr : ∀ k, R k → ¬ S' k) : Tz w S' R p s := by
  obtain ⟨m, D, G, V, M, F, h⟩ := h
  exact ⟨m, D, G, V, M, F, h.blk, hs _ h.sp, h.own, h.tells, ⟨hs _ h.sm.1, h.sm.2⟩, h.top, fun t ht k hk => ⟨hs _ (h.sub t ht k hk).1, (h.sub t ht k hk).2⟩, h.apart, fun k hk => ⟨hr k hk, (h.rs k hk).2⟩, h.good⟩
theorem Tz.rlt {w : World} {S R : Nat → Prop} {p : Nat} {s : St} (h : Tz w S R p s) : ∀ k, R k → ¬ S k ∧ k < w.heap.size := by
  obtain ⟨m, D, G, V, M, F, h⟩ := h
  exact h.rs
theorem did_lift {w w1 w2 : World} {S R : Nat → Prop} {p : Nat} {s : St} (b : Below w.heap.size w w1) (hr : ∀ k, R k → ¬ S k ∧ k < w.heap.size) (h : Did S R p s w1 w2) : Did S R p s w w2 := by
  have hs := b.size
  refine ⟨Tz.more h.1 (fun k hk => ?_) (fun k hk hu => ?_), (Ch.of_below b (Nat.le_refl _)).trans h.2 (fun _ _ h => h)⟩
  · rcases hk with hk | ⟨h1, h2⟩
    · exact .inl hk
    · exact .inr ⟨by omega, h2⟩
  · obtain ⟨r1, r2⟩ := hr k hk
    rcases hu with hu | ⟨h1, h2⟩
    · exact r1 hu
    · omega
theorem op_new (w : World) (o : O) (A : Option Addr) (c : Nat) : OB (w.alloc (.cells (OC o A c) 29)) w.heap.size o A c := Blk.new w _ _
theorem op_below (w : World) (x : Obj) : Below w.heap.size w (w.alloc x) := (Below.refl _ w).alloc (Nat.le_refl _) _
theorem Ins.later {w w' : World} {R : Nat → Prop} {A : Option Addr} {c : Nat} {rs : List Tx} (h : Ins w R A c rs) (b : Below w.heap.size w w') : Ins w' R A c rs := by
  obtain ⟨vals, h1, h2⟩ := h
  refine ⟨vals, h1.after b, fun i hi => ?_⟩
  obtain ⟨u, hu, hs⟩ := h2 i hi
  exact ⟨u, hu, hs.after b⟩
/-- What run leaves. -/
def Ran (S R : Nat → Prop) (p : Nat) (s : St) (o : O) (w : World) (e : Ending) (w' : World) : Prop :=
  e = .returned (.tuple #[.int .i64 (doesS s.L o).1.2, .int .i64 (doesS s.L o).1.1]) ∧ Did S R p ⟨(doesS s.L o).2.2, s.last⟩ w w'
set_option maxRecDepth 100000 in
set_option maxHeartbeats 1000000 in
theorem run_0 (w : World) (S R : Nat → Prop) (p : Nat) (s : St) (o : O) (A : Option Addr) (c : Nat) (hk : o.kind = 0) (hc : check o = 0) (h : Tz w S R p s) (hi : Ins w R A c o.recs) :
    Calls Try.prog 26 #[.pointer (some ⟨p, 0, none⟩), OV o A c] w (Ran S R p s o w) := by
  have HRL := Lib.hid (Tz.rlt h)
  have hal := op_below w (.cells (OC o A c) 29)
  have HAL := Lib.hid hal
  have HZ := Lib.hid (h.later hal)
  have hob := op_new w o A c
  obtain ⟨a0, a1, a2, a3, a4⟩ := hob.cells
  have hgood := (doesS_good h.good.L o).1
  have HGS : Hid (GoodS ⟨(doesS s.L o).2.2, s.last⟩) := Lib.hid ⟨hgood, h.good.eight, h.good.a⟩
  have HIN := Lib.hid (Ins.later hi hal)
  have HL4 := Lib.hid (check_lens hc)
  have HD := Lib.hid (does_0 (L := s.L) hc hk)
  clear hal hob hgood h hi hc
  unfold Ran
  rw [HD.out]
  obtain ⟨kind, topic, group, off, recs⟩ := o
  simp only at hk
  subst hk
  unfold OV
  unfold OC at HAL HZ HIN a0 a1 a2 a3 a4
  simp only at HAL HZ HIN a0 a1 a2 a3 a4 ⊢
  go_enter Try.func26, Try.ntmps26
  go_wp2_with fail
  go_ret2
  exact ⟨rfl, did_lift HAL.out HRL.out (did_refl HZ.out)⟩
set_option maxRecDepth 100000 in
set_option maxHeartbeats 1000000 in
theorem run_1 (w : World) (S R : Nat → Prop) (p : Nat) (s : St) (o : O) (A : Option Addr) (c : Nat) (hk : o.kind = 1) (hc : check o = 0) (h : Tz w S R p s) (hi : Ins w R A c o.recs) :
    Calls Try.prog 26 #[.pointer (some ⟨p, 0, none⟩), OV o A c] w (Ran S R p s o w) := by
  have HRL := Lib.hid (Tz.rlt h)
  have hal := op_below w (.cells (OC o A c) 29)
  have HAL := Lib.hid hal
  have HZ := Lib.hid (h.later hal)
  have hob := op_new w o A c
  obtain ⟨a0, a1, a2, a3, a4⟩ := hob.cells
  have hgood := (doesS_good h.good.L o).1
  have HGS : Hid (GoodS ⟨(doesS s.L o).2.2, s.last⟩) := Lib.hid ⟨hgood, h.good.eight, h.good.a⟩
  have HIN := Lib.hid (Ins.later hi hal)
  have HL4 := Lib.hid (check_lens hc)
  have HD := Lib.hid (does_1 (L := s.L) hc hk)
  have hlen := (HL4.out.1 (by rw [hk]; rfl))
  have HC := Lib.hid (create_any _ S R p s o.topic (by omega) HZ.out (fun h1 h2 => by
    have := HGS.out
    rw [HD.out, crS, h1, if_neg (by simp), if_neg (by omega)] at this
    exact this))
  clear hal hob hgood h hi hc hlen
  unfold Ran
  rw [HD.out]
  obtain ⟨kind, topic, group, off, recs⟩ := o
  simp only at hk
  subst hk
  unfold OV
  unfold OC at HAL HZ HIN HC a0 a1 a2 a3 a4
  simp only at HAL HZ HIN HC a0 a1 a2 a3 a4 ⊢
  go_enter Try.func26, Try.ntmps26
  go_wp2_with fail
  refine HC.out.mono ?_
  rintro e w2 ⟨rfl, hd⟩
  go_wp2_with fail
  go_ret2
  exact ⟨rfl, did_lift HAL.out HRL.out hd⟩
set_option maxRecDepth 100000 in
set_option maxHeartbeats 1000000 in
theorem run_2 (w : World) (S R : Nat → Prop) (p : Nat) (s : St) (o : O) (A : Option Addr) (c : Nat) (hk : o.kind = 2) (hc : check o = 0) (h : Tz w S R p s) (hi : Ins w R A c o.recs) :
    Calls Try.prog 26 #[.pointer (some ⟨p, 0, none⟩), OV o A c] w (Ran S R p s o w) := by
  have HRL := Lib.hid (Tz.rlt h)
  have hal := op_below w (.cells (OC o A c) 29)
  have HAL := Lib.hid hal
  have HZ := Lib.hid (h.later hal)
  have hob := op_new w o A c
  obtain ⟨a0, a1, a2, a3, a4⟩ := hob.cells
  have hgood := (doesS_good h.good.L o).1
  have HGS : Hid (GoodS ⟨(doesS s.L o).2.2, s.last⟩) := Lib.hid ⟨hgood, h.good.eight, h.good.a⟩
  have HIN := Lib.hid (Ins.later hi hal)
  have HL4 := Lib.hid (check_lens hc)
  have hlen := (HL4.out.1 (by rw [hk]; rfl))
  obtain ⟨m, D, G, V, M, F, hP⟩ := HZ.out
  have HF := Lib.hid (find_on _ S R p m s D G V M F o.topic (by omega) hP)
  have HP := Lib.hid hP
  have hrt := h.good.L.rises
  cases hf : findT s.L o.topic with
  | none =>
    have HD := Lib.hid (does_no (L := s.L) hc (by omega) (by omega) hf)
    rw [hf] at HF
    unfold PV at HF
    simp only [Option.map_none, Option.isSome_none] at HF
    clear hal hob hgood h hi hc hlen hP hf hrt
    unfold Ran
    rw [HD.out]
    obtain ⟨kind, topic, group, off, recs⟩ := o
    simp only at hk
    subst hk
    unfold OV
    unfold OC at HAL HZ HIN HF HP a0 a1 a2 a3 a4
    simp only at HAL HZ HIN HF HP a0 a1 a2 a3 a4 ⊢
    go_enter Try.func26, Try.ntmps26
    go_wp2_with fail
    refine HF.out.mono ?_
    rintro e w2 ⟨rfl, rfl⟩
    go_wp2_with fail
    go_ret2
    exact ⟨rfl, did_lift HAL.out HRL.out (did_refl HZ.out)⟩
  | some x =>
    have hD := does_2 hrt hc hk hf
    obtain ⟨hx, hn⟩ := findT_some hf
    have hfit := h.good.L.fit x hx
    have HD := Lib.hid hD
    have HX := Lib.hid hx
    rw [hf] at HF
    unfold PV at HF
    simp only [Option.map_some, Option.isSome_some] at HF
    have hFR : ∀ k, R k → ¬ F x.n k ∧ k < (w.alloc (.cells (OC o A c) 29)).heap.size := fun k hk => ⟨fun hF => (hP.rs k hk).1 (hP.sub x hx k hF).1, (hP.rs k hk).2⟩
    have HC := Lib.hid (publish_any _ _ R _ x _ _ A c o.recs (hP.top x hx) hfit hFR HIN.out (by have := (HL4.out.2.2.2 (by rw [hk]; rfl)).2.1; omega))
    clear hal hob hgood h hi hc hlen hP hf hrt hD hx hfit hFR hn
    unfold Ran
    rw [HD.out.1, HD.out.2.1]
    obtain ⟨kind, topic, group, off, recs⟩ := o
    simp only at hk
    subst hk
    unfold OV
    unfold OC at HAL HZ HIN HF HP HC a0 a1 a2 a3 a4
    simp only at HAL HZ HIN HF HP HC HD a0 a1 a2 a3 a4 ⊢
    go_enter Try.func26, Try.ntmps26
    go_wp2_with fail
    refine HF.out.mono ?_
    rintro e w2 ⟨rfl, rfl⟩
    go_wp2_with fail
    refine HC.out.mono ?_
    rintro e w3 ⟨rfl, ht⟩
    go_wp2_with fail
    go_ret2
    refine ⟨rfl, did_lift HAL.out HRL.out (tp_upd HP.out HX.out (pub_n _ _) ht ?_)⟩
    rw [← HD.out.2.1]
    exact HGS.out
set_option maxRecDepth 100000 in
set_option maxHeartbeats 1000000 in
theorem run_3 (w : World) (S R : Nat → Prop) (p : Nat) (s : St) (o : O) (A : Option Addr) (c : Nat) (hk : o.kind = 3) (hc : check o = 0) (h : Tz w S R p s) (hi : Ins w R A c o.recs) :
    Calls Try.prog 26 #[.pointer (some ⟨p, 0, none⟩), OV o A c] w (Ran S R p s o w) := by
  have HRL := Lib.hid (Tz.rlt h)
  have hal := op_below w (.cells (OC o A c) 29)
  have HAL := Lib.hid hal
  have HZ := Lib.hid (h.later hal)
  have hob := op_new w o A c
  obtain ⟨a0, a1, a2, a3, a4⟩ := hob.cells
  have hgood := (doesS_good h.good.L o).1
  have HGS : Hid (GoodS ⟨(doesS s.L o).2.2, s.last⟩) := Lib.hid ⟨hgood, h.good.eight, h.good.a⟩
  have HIN := Lib.hid (Ins.later hi hal)
  have HL4 := Lib.hid (check_lens hc)
  have hlen := (HL4.out.1 (by rw [hk]; rfl))
  obtain ⟨m, D, G, V, M, F, hP⟩ := HZ.out
  have HF := Lib.hid (find_on _ S R p m s D G V M F o.topic (by omega) hP)
  have HP := Lib.hid hP
  have hrt := h.good.L.rises
  cases hf : findT s.L o.topic with
  | none =>
    have HD := Lib.hid (does_no (L := s.L) hc (by omega) (by omega) hf)
    rw [hf] at HF
    unfold PV at HF
    simp only [Option.map_none, Option.isSome_none] at HF
    clear hal hob hgood h hi hc hlen hP hf hrt
    unfold Ran
    rw [HD.out]
    obtain ⟨kind, topic, group, off, recs⟩ := o
    simp only at hk
    subst hk
    unfold OV
    unfold OC at HAL HZ HIN HF HP a0 a1 a2 a3 a4
    simp only at HAL HZ HIN HF HP a0 a1 a2 a3 a4 ⊢
    go_enter Try.func26, Try.ntmps26
    go_wp2_with fail
    refine HF.out.mono ?_
    rintro e w2 ⟨rfl, rfl⟩
    go_wp2_with fail
    go_ret2
    exact ⟨rfl, did_lift HAL.out HRL.out (did_refl HZ.out)⟩
  | some x =>
    have hD := does_3 hrt hc hk hf
    obtain ⟨hx, hn⟩ := findT_some hf
    have hfit := h.good.L.fit x hx
    have HD := Lib.hid hD
    have HX := Lib.hid hx
    rw [hf] at HF
    unfold PV at HF
    simp only [Option.map_some, Option.isSome_some] at HF
    have hFR : ∀ k, R k → ¬ F x.n k ∧ k < (w.alloc (.cells (OC o A c) 29)).heap.size := fun k hk => ⟨fun hF => (hP.rs k hk).1 (hP.sub x hx k hF).1, (hP.rs k hk).2⟩
    have HC := Lib.hid (commit_any _ _ R _ x _ _ o.group o.off (by have := HL4.out.2.1 (by rw [hk]; rfl); omega) (hP.top x hx) hfit ((okT_iff x).1 (h.good.L.ok x hx)).2.2.2 (fun k hk => (hFR k hk).1))
    clear hal hob hgood h hi hc hlen hP hf hrt hD hx hfit hFR hn
    unfold Ran
    rw [HD.out.1, HD.out.2.1]
    obtain ⟨kind, topic, group, off, recs⟩ := o
    simp only at hk
    subst hk
    unfold OV
    unfold OC at HAL HZ HIN HF HP HC a0 a1 a2 a3 a4
    simp only at HAL HZ HIN HF HP HC HD a0 a1 a2 a3 a4 ⊢
    go_enter Try.func26, Try.ntmps26
    go_wp2_with fail
    refine HF.out.mono ?_
    rintro e w2 ⟨rfl, rfl⟩
    go_wp2_with fail
    refine HC.out.mono ?_
    rintro e w3 ⟨rfl, ht⟩
    go_wp2_with fail
    go_ret2
    refine ⟨rfl, did_lift HAL.out HRL.out (tp_upd HP.out HX.out (com_n _ _ _) ht ?_)⟩
    rw [← HD.out.2.1]
    exact HGS.out
set_option maxRecDepth 100000 in
set_option maxHeartbeats 1000000 in
theorem run_4 (w : World) (S R : Nat → Prop) (p : Nat) (s : St) (o : O) (A : Option Addr) (c : Nat) (hk : o.kind = 4) (hc : check o = 0) (h : Tz w S R p s) (hi : Ins w R A c o.recs) :
    Calls Try.prog 26 #[.pointer (some ⟨p, 0, none⟩), OV o A c] w (Ran S R p s o w) := by
  have HRL := Lib.hid (Tz.rlt h)
  have hal := op_below w (.cells (OC o A c) 29)
  have HAL := Lib.hid hal
  have HZ := Lib.hid (h.later hal)
  have hob := op_new w o A c
  obtain ⟨a0, a1, a2, a3, a4⟩ := hob.cells
  have hgood := (doesS_good h.good.L o).1
  have HGS : Hid (GoodS ⟨(doesS s.L o).2.2, s.last⟩) := Lib.hid ⟨hgood, h.good.eight, h.good.a⟩
  have HIN := Lib.hid (Ins.later hi hal)
  have HL4 := Lib.hid (check_lens hc)
  have hlen := (HL4.out.1 (by rw [hk]; rfl))
  obtain ⟨m, D, G, V, M, F, hP⟩ := HZ.out
  have HF := Lib.hid (find_on _ S R p m s D G V M F o.topic (by omega) hP)
  have HP := Lib.hid hP
  have hrt := h.good.L.rises
  cases hf : findT s.L o.topic with
  | none =>
    have HD := Lib.hid (does_no (L := s.L) hc (by omega) (by omega) hf)
    rw [hf] at HF
    unfold PV at HF
    simp only [Option.map_none, Option.isSome_none] at HF
    clear hal hob hgood h hi hc hlen hP hf hrt
    unfold Ran
    rw [HD.out]
    obtain ⟨kind, topic, group, off, recs⟩ := o
    simp only at hk
    subst hk
    unfold OV
    unfold OC at HAL HZ HIN HF HP a0 a1 a2 a3 a4
    simp only at HAL HZ HIN HF HP a0 a1 a2 a3 a4 ⊢
    go_enter Try.func26, Try.ntmps26
    go_wp2_with fail
    refine HF.out.mono ?_
    rintro e w2 ⟨rfl, rfl⟩
    go_wp2_with fail
    go_ret2
    exact ⟨rfl, did_lift HAL.out HRL.out (did_refl HZ.out)⟩
  | some x =>
    have hD := does_4 hrt hc hk hf
    obtain ⟨hx, hn⟩ := findT_some hf
    have hfit := h.good.L.fit x hx
    have HD := Lib.hid hD
    have HX := Lib.hid hx
    rw [hf] at HF
    unfold PV at HF
    simp only [Option.map_some, Option.isSome_some] at HF
    have hFR : ∀ k, R k → ¬ F x.n k ∧ k < (w.alloc (.cells (OC o A c) 29)).heap.size := fun k hk => ⟨fun hF => (hP.rs k hk).1 (hP.sub x hx k hF).1, (hP.rs k hk).2⟩
    have HC := Lib.hid (trim_any _ _ R _ x _ _ o.off (hP.top x hx) hfit (fun k hk => (hFR k hk).1))
    clear hal hob hgood h hi hc hlen hP hf hrt hD hx hfit hFR hn
    unfold Ran
    rw [HD.out.1, HD.out.2.1]
    obtain ⟨kind, topic, group, off, recs⟩ := o
    simp only at hk
    subst hk
    unfold OV
    unfold OC at HAL HZ HIN HF HP HC a0 a1 a2 a3 a4
    simp only at HAL HZ HIN HF HP HC HD a0 a1 a2 a3 a4 ⊢
    go_enter Try.func26, Try.ntmps26
    go_wp2_with fail
    refine HF.out.mono ?_
    rintro e w2 ⟨rfl, rfl⟩
    go_wp2_with fail
    refine HC.out.mono ?_
    rintro e w3 ⟨rfl, ht⟩
    go_wp2_with fail
    go_ret2
    refine ⟨rfl, did_lift HAL.out HRL.out (tp_upd HP.out HX.out (tri_n _ _) ht ?_)⟩
    rw [← HD.out.2.1]
    exact HGS.out
theorem run_any (w : World) (S R : Nat → Prop) (p : Nat) (s : St) (o : O) (A : Option Addr) (c : Nat) (hc : check o = 0) (h : Tz w S R p s) (hi : Ins w R A c o.recs) :
    Calls Try.prog 26 #[.pointer (some ⟨p, 0, none⟩), OV o A c] w (Ran S R p s o w) := by
  rcases kind_cases (check_ok hc).1 with e | e | e | e | e
  · exact run_0 w S R p s o A c e hc h hi
  · exact run_1 w S R p s o A c e hc h hi
  · exact run_2 w S R p s o A c e hc h hi
  · exact run_3 w S R p s o A c e hc h hi
  · exact run_4 w S R p s o A c e hc h hi
end Go.Proofs.Ytcmknopgoiabbaa.Ag

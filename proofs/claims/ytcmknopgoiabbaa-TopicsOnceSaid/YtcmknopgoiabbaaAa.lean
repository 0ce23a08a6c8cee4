/-
  Words for memory of the program's topics; New, made, find, isClient, next.
-/
import Derived.Test.YtcmknopgoiabbaaKm
import Derived.Test.YtcmknopgoiabbaaKf
import Derived.Test.YtcmknopgoiabbaaTq
import Derived.Test.YtcmknopgoiabbaaGa
import Derived.Outline
namespace Go.Proofs.Ytcmknopgoiabbaa.Aa
set_option linter.unusedSimpArgs false
open Go Go.RowKit Ck Kw Ga Kf Km Pm Pz Tm Tn Tq
attribute [local go_sem ↓] Go.wp_at_zero Go.wp_at_succ
set_option linter.unusedVariables false

/-- An answer's cells. -/
def AC (a : An) : List Value := [.int .i64 a.time, .int .i64 a.err, .int .i64 a.off]
def ACs (l : List An) : List Value := l.flatMap AC
theorem AC_len (x : An) : (AC x).length = 3 := rfl
/-- Records: a row whose elements lie in R. -/
def Rs (w : World) (R : Nat → Prop) (v : Value) (rs : List Tx) : Prop :=
  ∃ vals, w.ownsRow 0 44 1 v rs.length vals ∧ ∀ i (hi : i < rs.length), ∃ u, vals[i]? = some u ∧ Sl w (fun k => ¬ R k) 1 u rs[i].length (BVs rs[i])
/-- What a map of groups tells. -/
def TellsG (D : DataW Unit) (gs : List Gp) : Prop :=
  (∀ s : Tx, Maps.has D (.string s) = (pos gs s).isSome) ∧ ∀ s k, pos gs s = some k → ∀ zd, D.atKey (.string s) zd = .lit (.int .i64 k)
def Gs (w : World) (m : Nat) (gs : List Gp) : Prop := ∃ D, w.ownsMap Try.prog 9 inElem m (Maps.size D) D ∧ TellsG D gs
/-- Block g is a topic: v its records, mg its groups; what may be written of it lies in T. -/
structure Tg (w : World) (T R : Nat → Prop) (g : Nat) (t : Tp) (v : Value) (mg : Nat) : Prop where
  blk : Blk w g 71 #[.int .i64 t.base, v, .map (some mg)]
  recs : Rs w R v t.recs
  gs : Gs w mg t.gs
  tg : T g
  tv : ∀ k, v.ownBlock = some k → T k
  tm : T mg
/-- What the map of topics tells: where each lies. -/
def TellsT (D : DataW Unit) (L : List Tp) (G : Tx → Nat) : Prop :=
  (∀ s : Tx, Maps.has D (.string s) = (findT L s).isSome) ∧ ∀ t ∈ L, ∀ zd, D.atKey (.string t.n) zd = .lit (.int .i64 (G t.n : Int))
/-- Topics, laid open. -/
structure TP (w : World) (S R : Nat → Prop) (p m : Nat) (s : St) (D : DataW Unit) (G : Tx → Nat) (V : Tx → Value) (M : Tx → Nat) (T : Tx → Nat → Prop) : Prop where
  blk : Blk w p 57 (.map (some m) :: ACs s.last).toArray
  sp : S p
  own : w.ownsMap Try.prog 9 ptrElem m (Maps.size D) D
  tells : TellsT D s.L G
  sm : S m ∧ m ≠ p
  top : ∀ t ∈ s.L, Tg w (T t.n) R (G t.n) t (V t.n) (M t.n)
  sub : ∀ t ∈ s.L, ∀ k, T t.n k → S k ∧ k ≠ p ∧ k ≠ m ∧ k < w.heap.size
  apart : ∀ t ∈ s.L, ∀ u ∈ s.L, t.n ≠ u.n → ∀ k, T t.n k → T u.n k → False
  rs : ∀ k, R k → ¬ S k ∧ k < w.heap.size
  good : GoodS s
/-- Block p is topics: what may be written of them lies in S, the bytes of their records in R. -/
def Tz (w : World) (S R : Nat → Prop) (p : Nat) (s : St) : Prop := ∃ m D G V M T, TP w S R p m s D G V M T
section
variable {w w' : World} {S R T X : Nat → Prop} {p m g mg : Nat} {s : St} {t : Tp} {v : Value} {D : DataW Unit} {G : Tx → Nat} {V : Tx → Value} {M : Tx → Nat} {F : Tx → Nat → Prop} {rs : List Tx} {gs : List Gp}
theorem Rs.ch (h : Rs w R v rs) (c : Ch X w w') (hv : ∀ k, v.ownBlock = some k → ¬ X k) (hr : ∀ k, R k → ¬ X k) : Rs w' R v rs := by
  obtain ⟨vals, h1, h2⟩ := h
  refine ⟨vals, own_ch h1 c hv, fun i hi => ?_⟩
  obtain ⟨u, hu, h3⟩ := h2 i hi
  exact ⟨u, hu, h3.ch c (fun k _ hk hR => hr k hR hk)⟩
theorem Rs.more {R' : Nat → Prop} (h : Rs w R v rs) (hr : ∀ k, R k → R' k) : Rs w R' v rs := by
  obtain ⟨vals, h1, h2⟩ := h
  refine ⟨vals, h1, fun i hi => ?_⟩
  obtain ⟨u, hu, h3⟩ := h2 i hi
  exact ⟨u, hu, h3.weaken (fun k _ hk hR => hk (hr k hR))⟩
theorem Rs.nil (w : World) (R : Nat → Prop) : Rs w R (.slice none 0 0) [] := ⟨[], World.ownsRow_nil _ _ _ _, fun i hi => absurd hi (by simp)⟩
theorem Gs.ch (h : Gs w m gs) (c : Ch X w w') (hm : ¬ X m) : Gs w' m gs := by
  obtain ⟨D, h1, h2⟩ := h
  exact ⟨D, map_ch h1 c hm, h2⟩
theorem Tg.ch (h : Tg w T R g t v mg) (c : Ch X w w') (hd : ∀ k, T k → ¬ X k) (hr : ∀ k, R k → ¬ X k) : Tg w' T R g t v mg :=
  ⟨h.blk.ch c (hd _ h.tg), h.recs.ch c (fun k hk => hd _ (h.tv k hk)) hr, h.gs.ch c (hd _ h.tm), h.tg, h.tv, h.tm⟩
theorem Tg.more {R' T' : Nat → Prop} (h : Tg w T R g t v mg) (hr : ∀ k, R k → R' k) (ht : ∀ k, T k → T' k) : Tg w T' R' g t v mg :=
  ⟨h.blk, h.recs.more hr, h.gs, ht _ h.tg, fun k hk => ht _ (h.tv k hk), ht _ h.tm⟩
theorem TP.shut (h : TP w S R p m s D G V M F) : Tz w S R p s := ⟨m, D, G, V, M, F, h⟩
theorem TP.ch (h : TP w S R p m s D G V M F) (c : Ch X w w') (hd : ∀ k, S k → ¬ X k) (hr : ∀ k, R k → ¬ X k) : TP w' S R p m s D G V M F :=
  ⟨h.blk.ch c (hd _ h.sp), h.sp, map_ch h.own c (hd _ h.sm.1), h.tells, h.sm, fun t ht => (h.top t ht).ch c (fun k hk => hd _ (h.sub t ht k hk).1) hr,
    fun t ht k hk => ⟨(h.sub t ht k hk).1, (h.sub t ht k hk).2.1, (h.sub t ht k hk).2.2.1, Nat.lt_of_lt_of_le (h.sub t ht k hk).2.2.2 c.size⟩, h.apart, fun k hk => ⟨(h.rs k hk).1, Nat.lt_of_lt_of_le (h.rs k hk).2 c.size⟩, h.good⟩
theorem TP.later (h : TP w S R p m s D G V M F) (b : Below w.heap.size w w') : TP w' S R p m s D G V M F :=
  h.ch (Ch.of_below (S := fun _ => False) b (Nat.le_refl _)) (fun _ _ h => h) (fun _ _ h => h)
theorem Tz.ch (h : Tz w S R p s) (c : Ch X w w') (hd : ∀ k, S k → ¬ X k) (hr : ∀ k, R k → ¬ X k) : Tz w' S R p s := by
  obtain ⟨m, D, G, V, M, F, h⟩ := h
  exact (h.ch c hd hr).shut
theorem Tz.later (h : Tz w S R p s) (b : Below w.heap.size w w') : Tz w' S R p s := by
  obtain ⟨m, D, G, V, M, F, h⟩ := h
  exact (h.later b).shut
theorem Tz.good (h : Tz w S R p s) : GoodS s := by
  obtain ⟨m, D, G, V, M, F, h⟩ := h
  exact h.good
theorem TP.names (h : TP w S R p m s D G V M F) : (s.L.map (·.n)).Nodup := by
  have h1 : (s.L.map (·.n)).Pairwise (· < ·) := List.pairwise_map.2 h.good.L.rises
  exact h1.imp (fun {a b} hab e => by rw [e] at hab; exact List.lt_irrefl _ hab)
theorem isSome_find {L : List Tp} {x : Tx} : (findT L x).isSome = true ↔ x ∈ L.map (·.n) := by
  rw [List.mem_map]
  constructor
  · intro h
    obtain ⟨t, ht⟩ := Option.isSome_iff_exists.1 h
    exact ⟨t, (findT_some ht).1, (findT_some ht).2⟩
  · rintro ⟨t, ht, rfl⟩
    cases hf : findT L t.n with
    | none => exact absurd rfl (findT_none hf t ht)
    | some _ => rfl
theorem TP.size (h : TP w S R p m s D G V M F) : Maps.size D = s.L.length := by
  rw [size_names h.own h.names (fun x => by rw [h.tells.1, isSome_find]), List.length_map]
theorem zero_ptr (w : World) : (zeroValue 65).run Try.prog w = .ok (.pointer none) w := by kernel_rfl
/-- The map's look-up. -/
theorem TP.look (h : TP w S R p m s D G V M F) (x : Tx) (hx : x.length ≤ 140737488355328) :
    (Instr.lookup 52 (.map (some m)) (.string ⟨x.toArray⟩) true).run Try.prog w = .ok (.tuple #[PV ((findT s.L x).map fun t => G t.n), .bool (findT s.L x).isSome]) w := by
  obtain ⟨v, ps, hrun, hv⟩ := h.own.look_ok law_str Try.underlying52 (zero_ptr w) (zd := .nil) (zp := []) ptrElem_nil (key_str x (by simp only [maxLen]; omega))
  rw [h.tells.1 x] at hrun
  rw [hrun]
  cases hf : findT s.L x with
  | some t =>
    obtain ⟨ht, rfl⟩ := findT_some hf
    rw [h.tells.2 t ht] at hv
    rw [ptrElem_at hv]
    rfl
  | none =>
    rw [has_atKey (by rw [h.tells.1, hf]; rfl)] at hv
    obtain ⟨o, rfl, hz⟩ := ptrElem_inv hv
    cases o with
    | none => rfl
    | some g =>
      have h1 := congrArg Prod.fst hz
      cases h1
theorem TP.cell0 (h : TP w S R p m s D G V M F) : w.cell? ⟨p, 0, none⟩ = some (.map (some m)) := by
  have := h.blk.cell 0
  simpa using this
theorem TP.len8 (h : TP w S R p m s D G V M F) : s.last.length = 8 := h.good.eight
/-- A client's cells. -/
theorem TP.cellA (h : TP w S R p m s D G V M F) {i : Nat} (hi : i < s.last.length) : w.cell? ⟨p, 1 + i * 3, none⟩ = some (.int .i64 s.last[i].time) ∧ w.cell? ⟨p, 1 + i * 3 + 1, none⟩ = some (.int .i64 s.last[i].err) ∧ w.cell? ⟨p, 1 + i * 3 + 2, none⟩ = some (.int .i64 s.last[i].off) := by
  have key : ∀ j, j < 3 → w.cell? ⟨p, 1 + i * 3 + j, none⟩ = (AC s.last[i])[j]? := fun j hj => by
    have := h.blk.cell (1 + i * 3 + j)
    rw [this, List.getElem?_toArray, show 1 + i * 3 + j = (i * 3 + j) + 1 from by omega, List.getElem?_cons_succ]
    exact flat_get AC_len s.last i hi j hj
  exact ⟨key 0 (by omega), key 1 (by omega), key 2 (by omega)⟩
end

/-- Topics that no call made. -/
def Un (w : World) (v : Value) : Prop := v = .pointer none ∨ ∃ p l, v = .pointer (some ⟨p, 0, none⟩) ∧ Blk w p 57 (.map none :: l).toArray
theorem Un.later {w w' : World} {v : Value} (h : Un w v) (b : Below w.heap.size w w') : Un w' v := by
  rcases h with h | ⟨p, l, h, hb⟩
  · exact .inl h
  · exact .inr ⟨p, l, h, hb.below b hb.lt⟩
theorem made_un (w : World) (v : Value) (h : Un w v) : Calls Try.prog 13 #[v] w fun e w' => e = .returned (.bool false) ∧ w = w' := by
  rcases h with rfl | ⟨p, l, rfl, h⟩
  · go_enter Try.func13, Try.ntmps13
    go_wp2
    go_ret
    exact ⟨rfl, rfl⟩
  · have c0 : w.cell? ⟨p, 0, none⟩ = some (.map none) := by have := h.cell 0; simpa using this
    have hq := fun W => run_neq_map_nil (P := Try.prog) W 52 9 65 none Try.underlying52
    clear h
    go_enter Try.func13, Try.ntmps13
    go_wp2
    go_ret
    exact ⟨rfl, rfl⟩
theorem made_on (w : World) (S R : Nat → Prop) (p : Nat) (s : St) (h : Tz w S R p s) :
    Calls Try.prog 13 #[.pointer (some ⟨p, 0, none⟩)] w fun e w' => e = .returned (.bool true) ∧ w = w' := by
  obtain ⟨m, D, G, V, M, F, hP⟩ := h
  have c0 := hP.cell0
  have hq := fun W => run_neq_map_nil (P := Try.prog) W 52 9 65 (some m) Try.underlying52
  clear hP
  go_enter Try.func13, Try.ntmps13
  go_wp2
  go_ret
  exact ⟨rfl, rfl⟩
theorem find_un (w : World) (v : Value) (s : ByteArray) (h : Un w v) : Calls Try.prog 21 #[v, .string s] w fun e w' => e = .returned (.tuple #[.pointer none, .int .i64 2]) ∧ w = w' := by
  have H := Lib.hid h
  clear h
  go_enter Try.func21, Try.ntmps21
  go_wp2_with (go_at_call 13; refine (made_un _ _ H.out).mono ?_; rintro e w' ⟨rfl, rfl⟩)
  go_ret2
  exact ⟨rfl, rfl⟩
set_option maxRecDepth 100000 in
theorem find_on (w : World) (S R : Nat → Prop) (p m : Nat) (s : St) (D : DataW Unit) (G : Tx → Nat) (V : Tx → Value) (M : Tx → Nat) (F : Tx → Nat → Prop) (x : Tx) (hx : x.length ≤ 140737488355328) (h : TP w S R p m s D G V M F) :
    Calls Try.prog 21 #[.pointer (some ⟨p, 0, none⟩), .string ⟨x.toArray⟩] w fun e w' => e = .returned (.tuple #[PV ((findT s.L x).map fun t => G t.n), .int .i64 (if (findT s.L x).isSome then 0 else 4)]) ∧ w = w' := by
  have HM := Lib.hid (made_on w S R p s h.shut)
  have c0 := h.cell0
  have e2 := h.look x hx
  clear h hx
  cases hf : findT s.L x with
  | some t =>
    rw [hf] at e2
    unfold PV at e2 ⊢
    simp only [Option.map_some, Option.isSome_some] at e2 ⊢
    clear hf
    go_enter Try.func21, Try.ntmps21
    go_wp2_with (go_at_call 13; refine HM.out.mono ?_; rintro e w' ⟨rfl, rfl⟩)
    go_ret2
    exact ⟨rfl, rfl⟩
  | none =>
    rw [hf] at e2
    unfold PV at e2 ⊢
    simp only [Option.map_none, Option.isSome_none] at e2 ⊢
    clear hf
    go_enter Try.func21, Try.ntmps21
    go_wp2_with (go_at_call 13; refine HM.out.mono ?_; rintro e w' ⟨rfl, rfl⟩)
    go_ret2
    exact ⟨rfl, rfl⟩
theorem client_any (w : World) (c : Int) : Calls Try.prog 14 #[.int .i64 c] w fun e w' => e = .returned (.bool (decide (0 ≤ c) && decide (c < 8))) ∧ w = w' := by
  by_cases h0 : 0 ≤ c
  · have h1 : decide (0 ≤ c) = true := decide_eq_true h0
    go_enter Try.func14, Try.ntmps14
    go_wp2
    go_ret
    exact ⟨by simp [h0], rfl⟩
  · have h1 : decide (0 ≤ c) = false := decide_eq_false h0
    have h2 : c < 0 := by omega
    go_enter Try.func14, Try.ntmps14
    go_wp2
    go_ret
    exact ⟨by simp [h0], rfl⟩
theorem wrap_next {t : Tp} (h0 : 0 ≤ t.base) (h1 : t.next ≤ maxNum) : IntKind.i64.wrap (t.base + (t.recs.length : Int)) = t.next := by
  simp only [Tp.next, maxNum] at h1
  rw [Tp.next]
  exact Ga.wrap64 (by omega) (by omega)
theorem next_any (w : World) (T R : Nat → Prop) (g : Nat) (t : Tp) (v : Value) (mg : Nat) (h : Tg w T R g t v mg) (h0 : 0 ≤ t.base) (h1 : t.next ≤ maxNum) :
    Calls Try.prog 22 #[.pointer (some ⟨g, 0, none⟩)] w fun e w' => e = .returned (.int .i64 t.next) ∧ Below w.heap.size w w' := by
  have b := h.blk
  obtain ⟨vals, hr, -⟩ := h.recs
  obtain ⟨A, c, rfl⟩ := own_shape hr
  have c0 : w.cell? ⟨g, 0, none⟩ = some (.int .i64 t.base) := b.cell 0
  have c1 : w.cell? ⟨g, 1, none⟩ = some (.slice A t.recs.length c) := b.cell 1
  have hw := wrap_next h0 h1
  clear h b hr
  go_enter Try.func22, Try.ntmps22
  go_wp2_with fail
  go_quiet (fail)
  go_wp2_with fail
  go_ret
  exact ⟨by first | rfl | (rw [← hw]; rfl), below_drewN (Below.refl _ _) _⟩
end Go.Proofs.Ytcmknopgoiabbaa.Aa

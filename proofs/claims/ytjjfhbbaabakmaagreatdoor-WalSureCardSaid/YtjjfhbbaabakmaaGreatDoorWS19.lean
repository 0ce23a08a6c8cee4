/-
  Layer 4: words for WalDamage: a map of slices by numbers; a log in one file, with what was had.
-/
import Derived.Test.YtjjfhbbaabakmaaGreatDoorWS16
import Derived.Test.YtjjfhbbaabakmaaGreatDoorWS18
import Derived.Maps.RangeWalk
import Derived.Shelf.SlMaps.Clone
import Derived.Deep.RegionLaw
namespace Go.Proofs.YtjjfhbbaabakmaaGreatDoor.Uk
set_option linter.unusedSimpArgs false
open Go Go.RowKit Cm Ck Kw Ga Dm Dw Da Db Dc Dd De Df Dg Dh Wc Wf Wa Wb Wd Wn We Kx Wg Wh Wl Wj Wk Wo Wq Wr Ws Wt Wu Wv Ww Wx Wy Wz Va Vb Vc Vd Uj
attribute [local go_sem ↓] Go.wp_at_zero Go.wp_at_succ
set_option linter.unusedVariables false
set_option maxRecDepth 100000

/-- How a slice reads: its place, its length and its capacity. -/
def slA (v : Value) : Option (DataW Unit × List MemPlace) :=
  match v with
  | .slice none n c => some (.agg [.lit (.int .i64 (n : Int)), .lit (.int .i64 (c : Int))], [])
  | .slice (some ⟨g, o, none⟩) n c => some (.agg [.lit (.int .i64 (g : Int)), .lit (.int .i64 (o : Int)), .lit (.int .i64 (n : Int)), .lit (.int .i64 (c : Int))], [])
  | .slice (some ⟨g, o, some k⟩) n c => some (.agg [.lit (.int .i64 (g : Int)), .lit (.int .i64 (o : Int)), .lit (.int .i64 (k : Int)), .lit (.int .i64 (n : Int)), .lit (.int .i64 (c : Int))], [])
  | _ => none
theorem slA_inj {v v' : Value} {z : DataW Unit} {ps ps' : List MemPlace} (h : slA v = some (z, ps)) (h' : slA v' = some (z, ps')) : v = v' := by
  unfold slA at h h'
  split at h <;> split at h' <;> simp only [Option.some.injEq, Prod.mk.injEq, reduceCtorEq] at h h' <;> (try (obtain ⟨h1, -⟩ := h; obtain ⟨h2, -⟩ := h'; rw [← h1] at h2; simp at h2))
  · obtain ⟨a, b⟩ := h2
    congr 1 <;> omega
  · obtain ⟨a, b, c, d⟩ := h2
    congr 1 <;> first | omega | (congr 2 <;> omega)
  · obtain ⟨a, b, e, c, d⟩ := h2
    congr 1
    · congr 2 <;> first | omega | (congr 1; omega)
    · omega
    · omega
theorem slA_some (A : Option Addr) (n c : Nat) : ∃ z, slA (.slice A n c) = some (z, []) := by
  rcases A with _ | ⟨g, o, _ | k⟩
  · exact ⟨_, rfl⟩
  · exact ⟨_, rfl⟩
  · exact ⟨_, rfl⟩
theorem law_i64 : Maps.Keyed Tryz.prog 2 := Maps.int_keyed Tryz.underlying2
theorem key_i64 {n : Nat} (h : n ≤ 4611686018427387904) : keyOf Tryz.prog 2 (.int .i64 (n : Int)) = some (.int .i64 (n : Int)) := by
  refine Maps.keyOf_int_mk Tryz.underlying2 ?_
  simp only [Lit.wf]
  rw [Bool.and_eq_true, decide_eq_true_eq, decide_eq_true_eq]
  have h1 : IntKind.i64.min = -9223372036854775808 := by decide
  have h2 : IntKind.i64.max = 9223372036854775807 := by decide
  omega
theorem zero_sl (w : World) : (zeroValue 32).run Tryz.prog w = .ok (.slice none 0 0) w := by kernel_rfl
theorem slA_nil : slA (.slice none 0 0) = some (.agg [.lit (.int .i64 0), .lit (.int .i64 0)], []) := rfl
/-- What was had, by its number: number j + 1 is vals[j]. -/
structure HadM (w : World) (m : Nat) (vals : List Value) (D : DataW Unit) : Prop where
  own : w.ownsMap Tryz.prog 2 slA m vals.length D
  at_ : ∀ j v, vals[j]? = some v → ∃ z, slA v = some (z, []) ∧ ∀ zd, D.atKey (.int .i64 ((j + 1 : Nat) : Int)) zd = z
section
variable {w w' : World} {m : Nat} {vals : List Value} {D : DataW Unit} {X : Nat → Prop}
theorem HadM.ch (h : HadM w m vals D) (c : Ch X w w') (hx : ¬ X m) : HadM w' m vals D := ⟨map_ch h.own c hx, h.at_⟩
theorem HadM.look (h : HadM w m vals D) {j : Nat} {v : Value} (hj : vals[j]? = some v) (hl : vals.length ≤ 4611686018427387903) : (Instr.lookup 31 (.map (some m)) (.int .i64 ((j + 1 : Nat) : Int)) false).run Tryz.prog w = .ok v w := by
  have hjl := (List.getElem?_eq_some_iff.1 hj).1
  obtain ⟨v', ps, hrun, hv'⟩ := h.own.lookup law_i64 Tryz.underlying31 (zero_sl w) slA_nil (key_i64 (n := j + 1) (by omega))
  obtain ⟨z, hz, hat⟩ := h.at_ j v hj
  rw [hat] at hv'
  rw [hrun, slA_inj hv' hz]
theorem HadM.put (h : HadM w m vals D) (A : Option Addr) (n c : Nat) (hl : vals.length ≤ 4611686018427387903) : ∃ w' D', (Instr.mapUpdate 31 (.map (some m)) (.int .i64 ((vals.length + 1 : Nat) : Int)) (.slice A n c)).run Tryz.prog w = .ok () w' ∧ HadM w' m (vals ++ [.slice A n c]) D' ∧ Ch (fun k => k = m) w w' := by
  obtain ⟨z, hz⟩ := slA_some A n c
  obtain ⟨w', hrun, hown, hturn⟩ := h.own.store law_i64 Tryz.underlying31 (by simp only [maxLen]; omega) (key_i64 (n := vals.length + 1) (by omega)) hz
  refine ⟨w', _, hrun, ⟨by rw [List.length_append]; exact hown, fun j v hj => ?_⟩, Ch.of_grown hturn.grown (fun g hg _ => (Option.some.inj hg).symm)⟩
  by_cases hlt : j < vals.length
  · rw [List.getElem?_append_left hlt] at hj
    obtain ⟨z', hz', hat⟩ := h.at_ j v hj
    refine ⟨z', hz', fun zd => ?_⟩
    rw [Maps.atKey_put_other (fun e => by injection e with _ e; omega)]
    exact hat zd
  · have hj1 := (List.getElem?_eq_some_iff.1 hj).1
    have : j = vals.length := by simp at hj1; omega
    subst this
    rw [List.getElem?_append_right (Nat.le_refl _), Nat.sub_self] at hj
    obtain rfl := Option.some.inj hj
    exact ⟨z, hz, fun zd => Maps.atKey_put_same (k := .int .i64 ((vals.length + 1 : Nat) : Int)) h.own.isMap trivial _ _⟩
end
theorem append_long (w : World) (g p gb cap : Nat) (name : Tx) (most : Nat) (segs : List Sg) (synced : Nat) (h : LgC w g p gb cap name most segs synced) (A : Option Addr) (n c : Nat) (hn : 524288 < n) :
    Calls Tryz.prog 8 #[.pointer (some ⟨g, 0, none⟩), .slice A n c] w fun e w' => e = .returned (.tuple #[.int .i64 0, .int .i64 3]) ∧ w = w' := by
  have HM := Lib.hid (made_log w g p gb cap name most segs synced h)
  have HF := Lib.hid (frame_long w A n c hn)
  clear h hn
  go_enter Tryz.func8, Tryz.ntmps8
  go_wp2_with fail
  refine HM.out.mono ?_
  rintro e w1 ⟨rfl, rfl⟩
  go_wp2_with fail
  refine HF.out.mono ?_
  rintro e w1 ⟨rfl, rfl⟩
  go_wp2_with fail
  go_ret2
  exact ⟨rfl, rfl⟩
/-- The ends of the records in the file. -/
def EV (recs : List Bs) : List Value := (List.range recs.length).map fun i => .int .i64 ((bt (recs.take (i + 1))).length : Int)
/-- Where the loop over the records stands: a log at g on a disk at p, its records recs; vals what was had; re the records whose ends are noted in ve. -/
structure DA (w : World) (p g m : Nat) (ve : Value) (recs : List Bs) (vals : List Value) (re : List Bs) (wr : World) : Prop where
  below : Below w.heap.size w wr
  ld : ∃ S1 S2, LDs wr S1 S2 g p [fl1 (bt recs) (head 1).length] 1048576 lg 4194304 ([] ++ [sg1 recs]) 0 ∧ (∀ k, S1 k ∨ S2 k → w.heap.size ≤ k ∧ k ≠ m ∧ ve.ownBlock ≠ some k)
  had : ∃ D, HadM wr m vals D
  hm : w.heap.size ≤ m
  ends : wr.ownsRow w.heap.size 3 1 ve re.length (EV re)
  vl : vals.length ≤ recs.length
  vs : ∀ j (h : j < vals.length), ∃ (h' : j < recs.length) (A : Option Addr) (c : Nat), vals[j] = .slice A recs[j].length c ∧ Sl w (fun k => w.heap.size ≤ k) 1 (.slice A recs[j].length c) recs[j].length (BVs recs[j])
  len : ∀ x ∈ recs, x.length ≤ 524288
  fit : (bt recs).length ≤ 1048576
  g0 : 0 < w.heap.size
section
variable {w wr w' : World} {p g m : Nat} {ve : Value} {recs re : List Bs} {vals : List Value}
theorem DA.em (h : DA w p g m ve recs vals re wr) : ve.ownBlock ≠ some m := by
  obtain ⟨D, hD⟩ := h.had
  exact map_row hD.own h.ends
theorem DA.few (h : DA w p g m ve recs vals re wr) : recs.length ≤ 1048576 := by
  have := bt_len recs
  have := h.fit
  omega
theorem DA.later (h : DA w p g m ve recs vals re wr) (b : Below wr.heap.size wr w') : DA w p g m ve recs vals re w' := by
  obtain ⟨S1, S2, h1, h2⟩ := h.ld
  obtain ⟨D, hD⟩ := h.had
  exact ⟨h.below.trans (b.mono h.below.size), ⟨S1, S2, h1.later b, h2⟩, ⟨D, hD.ch (Ch.of_below (S := fun _ => False) b (Nat.le_refl _)) (fun h => h)⟩, h.hm, own_below h.ends b, h.vl, h.vs, h.len, h.fit, h.g0⟩
/-- The record is put, or not. -/
theorem DA.app (h : DA w p g m ve recs vals re wr) (A : Option Addr) (c : Nat) (x : Bs) (hx : Sl w (fun k => w.heap.size ≤ k) 1 (.slice A x.length c) x.length (BVs x)) :
    Calls Tryz.prog 8 #[.pointer (some ⟨g, 0, none⟩), .slice A x.length c] wr fun e w' =>
      (e = .returned (.tuple #[.int .i64 ((recs.length + 1 : Nat) : Int), .int .i64 0]) ∧ DA w p g m ve (recs ++ [x]) vals re w') ∨
      (∃ z : Nat, z ≠ 0 ∧ e = .returned (.tuple #[.int .i64 0, .int .i64 (z : Int)]) ∧ DA w p g m ve recs vals re w') := by
  have hB := h.below.size
  by_cases hlong : 524288 < x.length
  · obtain ⟨S1, S2, h1, h2⟩ := h.ld
    obtain ⟨gb, cap, hC, -, -⟩ := h1.cells (by simp)
    refine (append_long wr g p gb cap _ _ _ _ hC A x.length c hlong).mono ?_
    rintro e w' ⟨rfl, rfl⟩
    exact .inr ⟨3, by omega, rfl, h⟩
  · obtain ⟨S1, S2, h1, h2⟩ := h.ld
    have hbt := bt_len recs
    have hxw := (hx.below h.below (fun k hk hX => hX)).weaken (Y := fun k => S1 k ∨ S2 k) (fun k hk hS => (h2 k hS).1)
    have hxs := (bt_len recs).1
    refine (append_log wr S1 S2 (fun k => S1 k ∨ S2 k) g p _ 1048576 lg 4194304 [] (sg1 recs) 0 (fl1 (bt recs) (head 1).length) h1 (by simp) (by simp [sg1]) (find_fl1 _ _) rfl A c x hxw (fun k hk => .inl hk) (fun k hk => .inr hk) (by omega)).mono ?_
    intro e w' he
    have hd : (head 1).length ≤ (bt recs).length := by unfold bt; rw [List.length_append]; omega
    have happ := app_one recs x (head 1).length hd
    have hful : full (sg1 recs) 4194304 = false := full_one h.fit
    have hsg : (⟨(sg1 recs).num, (sg1 recs).first, (sg1 recs).size + (frame x).length, (sg1 recs).recs ++ [x]⟩ : Sg) = sg1 (recs ++ [x]) := by
      simp only [sg1, bt_snoc, List.length_append]
    have hdone : ∀ (rs : List Bs) (Wn : Wal S1 S2 g p 1048576 lg 4194304 wr [fl1 (bt rs) (head 1).length] ([] ++ [sg1 rs]) 0 w'), recs.length ≤ rs.length → (∀ j (h' : j < recs.length), ∃ h'' : j < rs.length, rs[j] = recs[j]) → (∀ x ∈ rs, x.length ≤ 524288) → (bt rs).length ≤ 1048576 → DA w p g m ve rs vals re w' := by
      rintro rs ⟨T1, T2, hL, hS⟩ hle hat hlen hfit
      obtain ⟨D, hD⟩ := h.had
      have hml := hD.own.lt
      have hs := hS.ch.size
      refine ⟨h.below.trans (hS.ch.below (fun k hk hX => by have := (h2 k hX).1; omega) hB), ⟨T1, T2, hL, fun k hk => ?_⟩, ⟨D, hD.ch hS.ch (fun hX => (h2 m hX).2.1 rfl)⟩, h.hm, own_ch h.ends hS.ch (fun k hk hX => (h2 k hX).2.2 hk), Nat.le_trans h.vl hle, fun j hj => ?_, hlen, hfit, h.g0⟩
      · have hu : (S1 k ∨ S2 k) ∨ (wr.heap.size ≤ k ∧ k < w'.heap.size) := by
          rcases hk with hk | hk
          · rcases hS.s1 k hk with h | h
            · exact .inl (.inl h)
            · exact .inr h
          · rcases hS.s2 k hk with h | h
            · exact .inl (.inr h)
            · exact .inr h
        rcases hu with hu | hu
        · exact h2 k hu
        · refine ⟨by omega, by omega, fun e => ?_⟩
          have := (h.ends.lt k e).2
          omega
      · obtain ⟨h', A', c', hv, hs'⟩ := h.vs j hj
        obtain ⟨h'', e2⟩ := hat j h'
        refine ⟨h'', A', c', ?_⟩
        rw [e2]
        exact ⟨hv, hs'⟩
    rcases he with ⟨-, he⟩ | ⟨hf, -⟩ | ⟨hf, -⟩
    · have hn : (sg1 recs).num = 1 := rfl
      unfold Apped at he
      rw [hn, happ] at he
      by_cases hfit : (bt (recs ++ [x])).length ≤ 1048576
      · rw [if_pos hfit] at he
        rcases he with ⟨-, rfl, hW⟩ | ⟨hc, -⟩
        · have hsg' : (⟨1, (sg1 recs).first, (sg1 recs).size + (frame x).length, (sg1 recs).recs ++ [x]⟩ : Sg) = sg1 (recs ++ [x]) := hsg
          rw [hsg'] at hW
          refine .inl ⟨by simp [sg1, Int.add_comm], hdone (recs ++ [x]) hW (by simp) (fun j h' => ⟨by simp; omega, List.getElem_append_left h'⟩) (fun y hy => ?_) hfit⟩
          rcases List.mem_append.1 hy with hy | hy
          · exact h.len y hy
          · rw [List.mem_singleton] at hy
            subst hy
            omega
        · exact absurd rfl hc
      · rw [if_neg hfit] at he
        rcases he with ⟨hc, -⟩ | ⟨hc, rfl, hW⟩
        · cases hc
        · exact .inr ⟨30, by omega, rfl, hdone recs hW (Nat.le_refl _) (fun j h' => ⟨h', rfl⟩) h.len h.fit⟩
    · rw [hful] at hf; cases hf
    · rw [hful] at hf; cases hf
/-- What was had, noted. -/
theorem DA.put {wa wb : World} {x : Bs} {A : Option Addr} {c : Nat} {D : DataW Unit} (h : DA w p g m ve (recs ++ [x]) vals re wa) (hv : vals.length = recs.length) (hD : HadM wb m (vals ++ [.slice A x.length c]) D) (hc : Ch (fun k => k = m) wa wb) (hx : Sl w (fun k => w.heap.size ≤ k) 1 (.slice A x.length c) x.length (BVs x)) :
    DA w p g m ve (recs ++ [x]) (vals ++ [.slice A x.length c]) re wb := by
  obtain ⟨S1, S2, h1, h2⟩ := h.ld
  have hem := h.em
  have hz : 0 ≠ m := fun e => by
    have := h.g0; have := h.hm; omega
  refine ⟨h.below.trans (hc.below (fun k hk e => by have := h.hm; omega) h.below.size), ⟨S1, S2, ⟨h1.lg.ch hc (fun k hk e => (h2 k (.inl hk)).2.1 e), h1.dk.ch hc (fun k hk e => (h2 k (.inr hk)).2.1 e), h1.apart, fun k hk => Nat.lt_of_lt_of_le (h1.b1 k hk) hc.size, fun k hk => Nat.lt_of_lt_of_le (h1.b2 k hk) hc.size, h1.tab.ch hc hz, h1.z1, h1.z2⟩, h2⟩, ⟨D, hD⟩, h.hm, own_ch h.ends hc (fun k hk e => hem (by rw [hk, e])), by rw [List.length_append, List.length_append, hv]; exact Nat.le_refl _, fun j hj => ?_, h.len, h.fit, h.g0⟩
  by_cases hlt : j < vals.length
  · obtain ⟨h', A', c', e, hs⟩ := h.vs j hlt
    refine ⟨h', A', c', ?_, hs⟩
    rw [List.getElem_append_left hlt]
    exact e
  · have hj2 : j = recs.length := by rw [List.length_append] at hj; simp at hj; omega
    subst hj2
    refine ⟨by simp, A, c, ?_⟩
    rw [List.getElem_append_right (by omega), List.getElem_append_right (Nat.le_refl _)]
    simp only [Nat.sub_self, List.getElem_cons_zero]
    exact ⟨by simp only [hv, Nat.sub_self, List.getElem_cons_zero], hx⟩
/-- The room that is used. -/
theorem DA.used (h : DA w p g m ve recs vals re wr) : Calls Tryz.prog 20 #[.pointer (some ⟨p, 0, none⟩)] wr fun e w' => e = .returned (.int .i64 ((bt recs).length : Int)) ∧ Below wr.heap.size wr w' := by
  obtain ⟨S1, S2, h1, h2⟩ := h.ld
  have := used_on wr S2 p _ _ _ h1.dk
  have hu : Dm.used [fl1 (bt recs) (head 1).length] = (bt recs).length := by simp [Dm.used, fl1]
  rw [hu] at this
  exact this
end
end Go.Proofs.YtjjfhbbaabakmaaGreatDoor.Uk

/-
  Layer 4: words for WalSure: slices.Clone of bytes; a log, its files and what was had, behind each operation.
-/
namespace Go.Proofs.YtjjfhbbaabakmaaGreatDoor.Ur
set_option linter.unusedSimpArgs false
open Go Go.RowKit Cm Ck Kw Ga Dm Dw Da Db Dc Dd De Df Dg Dh Dj Wc Wf Wa Wb Wd Wn We Kx Wg Wh Wl Wj Wk Wo Wq Wr Ws Wt Wu Wv Ww Wx Wy Wz Va Vb Vc Vd Uj Uk Uo Up Uq
attribute [local go_sem ↓] Go.wp_at_zero Go.wp_at_succ
set_option linter.unusedVariables false
set_option maxRecDepth 100000

theorem info_b : (Tryz.prog.info? 5).map (fun i => (i.zero, i.size, i.bytes)) = some (some (.int .u8 0), 1, 1) := by kernel_rfl
set_option maxHeartbeats 400000 in
theorem clone_b (X : Nat → Prop) (v : Value) (n : Nat) (xs : List Value) (w : World) (hv : Sl w X 1 v n xs) (h1 : ∀ u ∈ xs, u.oneCell' = true) (hn : n * 1 ≤ 140737488355328) :
    Calls Tryz.prog 9 #[v] w fun e w' => ∃ A c, e = .returned (.slice A n c) ∧ w'.ownsRow w.heap.size 5 1 (.slice A n c) n xs ∧ Below w.heap.size w w' := by
  obtain ⟨i0, hi0, hz0, hz1, hz2⟩ := info_parts info_b
  have hv' := hv
  obtain ⟨A, c, rfl, hxl, -⟩ := hv'
  have heq := fun (W : World) => Lib.run_eql_slice_nil (P := Tryz.prog) W 32 5 A n c 0 0 Tryz.underlying32
  rcases A with _ | ad
  · obtain ⟨h0, rfl⟩ := hv.none_
    subst h0
    clear hv h1 hxl
    go_enter Tryz.func9, Tryz.ntmps9
    go_wp2
    go_ret
    exact ⟨_, _, rfl, World.ownsRow_nil _ _ _ _, Below.refl _ _⟩
  · have HX := Lib.hid hxl
    clear hxl
    go_enter Tryz.func9, Tryz.ntmps9
    go_wp2_with (at_builtin; refine wpList_append_sh _ rfl (.tmp 5) (.tmp 6) _ rfl w.heap.size 5 i0 _ 1 1 Tryz.underlying32 hi0 hz0 hz1 hz2 rfl (by omega) (.slice (some ⟨w.heap.size, 0, none⟩) 0 0) 0 [] rfl (World.ownsRow_made w #[] 0 (Nat.le_refl _) (by simp only [maxLen]; omega) rfl) X _ n xs rfl (hv.alloc _) h1 (by simp only [maxLen]; omega) (by omega) (by simp) ?_; intro A2 c2 w2 happ)
    go_ret
    obtain ⟨ho, hg, hr⟩ := happ
    rw [Nat.zero_add] at hr
    refine ⟨A2, c2, by simp, by simpa using ho, ?_⟩
    exact ((Below.refl _ _).alloc (Nat.le_refl _) _).grown hg (by simp) (by simp [Value.ownBlock])

theorem row_low {w : World} {b b' : Nat} {e : TypeId} {sz n : Nat} {v : Value} {x : List Value} (h : w.ownsRow b e sz v n x) (hb : b' ≤ b) : w.ownsRow b' e sz v n x := by
  refine ⟨h.1, ?_⟩
  rcases h.2 with h2 | ⟨g, c, cur, h1, h2, h3⟩
  · exact .inl h2
  · exact .inr ⟨g, c, cur, h1, Nat.le_trans hb h2, h3⟩
/-- Where the script stands: a log at g on a disk at p; R is all that was ever put, vals what was had of it, by its number. -/
structure SA (w : World) (p g m : Nat) (R : List Bs) (vals : List Value) (wr : World) : Prop where
  below : Below w.heap.size w wr
  ld : ∃ S1 S2 L ls s y, LDs wr S1 S2 g p L 16384 lg 64 (ls ++ [s]) y ∧ Inv L ls s y R ∧ ∀ k, S1 k ∨ S2 k → w.heap.size ≤ k ∧ k ≠ m ∧ ∀ v ∈ vals, v.ownBlock ≠ some k
  had : ∃ D, HadM wr m vals D
  hm : w.heap.size ≤ m
  vl : vals.length ≤ R.length
  vs : ∀ (j : Nat) (v : Value), vals[j]? = some v → ∃ x : Bs, R[j]? = some x ∧ ∃ A c, v = .slice A x.length c ∧ wr.ownsRow w.heap.size 5 1 v x.length (BVs x)
  g0 : 0 < w.heap.size
section
variable {w wr w' : World} {p g m : Nat} {R : List Bs} {vals : List Value}
theorem few_segs {wr : World} {S1 S2 : Nat → Prop} {L : List Fl} {room y : Nat} {ls : List Sg} {s : Sg} (h : LDs wr S1 S2 g p L room lg 64 (ls ++ [s]) y) (hi : Inv L ls s y R) : ls.length + 1 ≤ 64 := by
  obtain ⟨j, -, -, hp⟩ := hi.files
  have h1 := (names_of hp).length_eq
  have h2 := h.dk.good.few
  simp only [List.length_map, List.length_append, List.length_singleton] at h1
  omega
theorem few_recs {wr : World} {S1 S2 : Nat → Prop} {L : List Fl} {room y : Nat} {ls : List Sg} {s : Sg} (h : LDs wr S1 S2 g p L room lg 64 (ls ++ [s]) y) (hi : Inv L ls s y R) : R.length ≤ 9007199258935296 := by
  have h1 := h.good s (by simp)
  have h2 := h1.first
  have h3 := h1.few
  have h4 := h1.size
  have := hi.all
  omega
theorem SA.few (h : SA w p g m R vals wr) : R.length ≤ 9007199258935296 := by
  obtain ⟨S1, S2, L, ls, s, y, h1, h2, -⟩ := h.ld
  exact few_recs h1 h2
theorem SA.later (h : SA w p g m R vals wr) (b : Below wr.heap.size wr w') : SA w p g m R vals w' := by
  obtain ⟨S1, S2, L, ls, s, y, h1, h2, h3⟩ := h.ld
  obtain ⟨D, hD⟩ := h.had
  exact ⟨h.below.trans (b.mono h.below.size), ⟨S1, S2, L, ls, s, y, h1.later b, h2, h3⟩, ⟨D, hD.ch (Ch.of_below (S := fun _ => False) b (Nat.le_refl _)) (fun h => h)⟩, h.hm, h.vl, fun j v hj => by
    obtain ⟨x, h1, A, c, h2, h3⟩ := h.vs j v hj
    exact ⟨x, h1, A, c, h2, own_below h3 b⟩, h.g0⟩
/-- A step of the log and its disk. -/
theorem SA.step (h : SA w p g m R vals wr) {S1 S2 : Nat → Prop} (hS : ∀ k, S1 k ∨ S2 k → w.heap.size ≤ k ∧ k ≠ m ∧ ∀ v ∈ vals, v.ownBlock ≠ some k) {L' : List Fl} {ls' : List Sg} {s' : Sg} {y' : Nat} {R' : List Bs}
    (hW : Wal S1 S2 g p 16384 lg 64 wr L' (ls' ++ [s']) y' w') (hi : Inv L' ls' s' y' R') (hR : ∀ (j : Nat) (x : Bs), R[j]? = some x → R'[j]? = some x) (hl : R.length ≤ R'.length) : SA w p g m R' vals w' := by
  obtain ⟨T1, T2, hL, hst⟩ := hW
  obtain ⟨D, hD⟩ := h.had
  have hml := hD.own.lt
  have hB := h.below.size
  have hs := hst.ch.size
  refine ⟨h.below.trans (hst.ch.below (fun k hk hX => by have := (hS k hX).1; omega) hB), ⟨T1, T2, L', ls', s', y', hL, hi, fun k hk => ?_⟩, ⟨D, hD.ch hst.ch (fun hX => (hS m hX).2.1 rfl)⟩, h.hm, Nat.le_trans h.vl hl, fun j v hj => ?_, h.g0⟩
  · have hu : (S1 k ∨ S2 k) ∨ (wr.heap.size ≤ k ∧ k < w'.heap.size) := by
      rcases hk with hk | hk
      · rcases hst.s1 k hk with h | h
        · exact .inl (.inl h)
        · exact .inr h
      · rcases hst.s2 k hk with h | h
        · exact .inl (.inr h)
        · exact .inr h
    rcases hu with hu | hu
    · exact hS k hu
    · refine ⟨by omega, by omega, fun v hv e => ?_⟩
      obtain ⟨j, hj, rfl⟩ := List.getElem_of_mem hv
      obtain ⟨x, -, A, c, -, ho⟩ := h.vs j _ (List.getElem?_eq_getElem hj)
      have := (ho.lt k e).2
      omega
  · obtain ⟨x, h1, A, c, h2, h3⟩ := h.vs j v hj
    exact ⟨x, hR j x h1, A, c, h2, own_ch h3 hst.ch (fun k hk hX => (hS k hX).2.2 v (List.mem_of_getElem? hj) hk)⟩
/-- The record is put, or not. -/
theorem wal_ch {wr wx w' : World} {S1 S2 : Nat → Prop} {L L' : List Fl} {segs segs' : List Sg} {y y' room : Nat} (h1 : LDs wr S1 S2 g p L room lg 64 segs y) (hW : Wal S1 S2 g p room lg 64 wx L' segs' y' w') : Ch (fun k => k < wr.heap.size) wx w' := by
  obtain ⟨T1, T2, -, hst⟩ := hW
  exact hst.ch.mono (fun k _ hk => by
    rcases hk with hk | hk
    · exact h1.b1 k hk
    · exact h1.b2 k hk)
theorem SA.app {wx : World} (h0 : SA w p g m R vals wr) (b : Below wr.heap.size wr wx) (A : Option Addr) (c : Nat) (x : Bs) (hx : Sl w (fun k => w.heap.size ≤ k) 1 (.slice A x.length c) x.length (BVs x)) :
    Calls Tryz.prog 8 #[.pointer (some ⟨g, 0, none⟩), .slice A x.length c] wx fun e w' => Ch (fun k => k < wr.heap.size) wx w' ∧
      ((e = .returned (.tuple #[.int .i64 ((R.length + 1 : Nat) : Int), .int .i64 0]) ∧ SA w p g m (R ++ [x]) vals w' ∧ x.length ≤ 524288) ∨
      (∃ z : Nat, z ≠ 0 ∧ e = .returned (.tuple #[.int .i64 0, .int .i64 (z : Int)]) ∧ SA w p g m R vals w')) := by
  obtain ⟨S1, S2, L, ls, s, y, h01, h2, h3⟩ := h0.ld
  have h1 := h01.later b
  have h := h0.later b
  by_cases hlong : 524288 < x.length
  · obtain ⟨gb, cap, hC, -, -⟩ := h1.cells (by simp)
    refine (append_long wx g p gb cap _ _ _ _ hC A x.length c hlong).mono ?_
    rintro e w' ⟨rfl, rfl⟩
    exact ⟨Ch.refl _ _, .inr ⟨3, by omega, rfl, h⟩⟩
  · have hxw := (hx.below h.below (fun k hk hX => hX)).weaken (Y := fun k => S1 k ∨ S2 k) (fun k hk hS => (h3 k hS).1)
    have hxl : x.length ≤ 524288 := by omega
    obtain ⟨f, hf, hfs, -⟩ := h2.sync
    have hs1 := (h2.row.size s (by simp)).2.1
    have hfew := few_segs h1 h2
    refine (append_log wx S1 S2 (fun k => S1 k ∨ S2 k) g p L 16384 lg 64 ls s y f h1 (by omega) hs1 hf hfs A c x hxw (fun k hk => .inl hk) (fun k hk => .inr hk) hxl).mono ?_
    have hsn : ∀ (j : Nat) (z : Bs), R[j]? = some z → (R ++ [x])[j]? = some z := fun j z hj => by
      rw [List.getElem?_append_left (List.getElem?_eq_some_iff.1 hj).1]
      exact hj
    have hap : ∀ {L' : List Fl} {ls' : List Sg} {s' : Sg} {y' : Nat} {e : Ending} {w' : World}, Inv L' ls' s' y' R → Apped S1 S2 g p 16384 lg 64 wx L' ls' s' y' x e w' →
        Ch (fun k => k < wr.heap.size) wx w' ∧ ((e = .returned (.tuple #[.int .i64 ((R.length + 1 : Nat) : Int), .int .i64 0]) ∧ SA w p g m (R ++ [x]) vals w' ∧ x.length ≤ 524288) ∨ (∃ z : Nat, z ≠ 0 ∧ e = .returned (.tuple #[.int .i64 0, .int .i64 (z : Int)]) ∧ SA w p g m R vals w')) := by
      intro L' ls' s' y' e w' hi ha
      rcases ha with ⟨hc, he, hW⟩ | ⟨hc, he, hW⟩
      · rcases hi.app (room := 16384) x hxl with ⟨-, hi'⟩ | ⟨hc', -⟩
        · refine ⟨wal_ch h01 hW, .inl ⟨by rw [he, hi.all], h.step h3 hW hi' hsn (by simp), hxl⟩⟩
        · exact absurd hc hc'
      · rcases hi.app (room := 16384) x hxl with ⟨hc', -⟩ | ⟨-, hi'⟩
        · exact absurd hc' hc
        · exact ⟨wal_ch h01 hW, .inr ⟨_, hc, he, h.step h3 hW hi' (fun _ _ h => h) (Nat.le_refl _)⟩⟩
    intro e w' he
    rcases he with ⟨-, he⟩ | ⟨-, hr, he⟩ | ⟨-, hr, he, hW⟩
    · exact hap h2 he
    · rcases h2.roll (room := 16384) hf with ⟨-, hi⟩ | ⟨hr', -⟩
      · exact hap hi he
      · exact absurd hr hr'
    · rcases h2.roll (room := 16384) hf with ⟨hr', -⟩ | ⟨-, hi⟩
      · exact absurd hr' hr
      · exact ⟨wal_ch h01 hW, .inr ⟨_, hr, he, h.step h3 hW hi (fun _ _ h => h) (Nat.le_refl _)⟩⟩
theorem SA.sync (h : SA w p g m R vals wr) : Calls Tryz.prog 10 #[.pointer (some ⟨g, 0, none⟩)] wr fun e w' => (∃ z : Nat, e = .returned (.int .i64 (z : Int))) ∧ SA w p g m R vals w' := by
  obtain ⟨S1, S2, L, ls, s, y, h1, h2, h3⟩ := h.ld
  obtain ⟨f, hf, hfs, hi⟩ := h2.sync
  have hfew := few_segs h1 h2
  refine (sync_log wr S1 S2 g p L 16384 lg 64 ls s y f h1 (by omega) (h2.row.size s (by simp)).2.1 hf).mono ?_
  rintro e w' ⟨rfl, hW⟩
  exact ⟨⟨0, rfl⟩, h.step h3 hW hi (fun _ _ h => h) (Nat.le_refl _)⟩
theorem SA.roll (h : SA w p g m R vals wr) : Calls Tryz.prog 11 #[.pointer (some ⟨g, 0, none⟩)] wr fun e w' => (∃ z : Nat, e = .returned (.int .i64 (z : Int))) ∧ SA w p g m R vals w' := by
  obtain ⟨S1, S2, L, ls, s, y, h1, h2, h3⟩ := h.ld
  obtain ⟨f, hf, hfs, -⟩ := h2.sync
  have hfew := few_segs h1 h2
  refine (roll_log wr S1 S2 g p L 16384 lg 64 ls s y f h1 (by omega) (h2.row.size s (by simp)).2.1 hf).mono ?_
  rintro e w' ⟨rfl, hW⟩
  refine ⟨⟨_, rfl⟩, ?_⟩
  rcases h2.roll (room := 16384) hf with ⟨hc, hi⟩ | ⟨hc, hi⟩
  · unfold rolled at hW
    rw [if_pos hc] at hW
    exact h.step h3 hW hi (fun _ _ h => h) (Nat.le_refl _)
  · unfold rolled at hW
    rw [if_neg hc] at hW
    exact h.step h3 hW hi (fun _ _ h => h) (Nat.le_refl _)
theorem SA.prune {wx : World} (h0 : SA w p g m R vals wr) (b : Below wr.heap.size wr wx) (upto : Int) : Calls Tryz.prog 12 #[.pointer (some ⟨g, 0, none⟩), .int .i64 upto] wx fun e w' => (∃ v, e = .returned v) ∧ Ch (fun k => k < wr.heap.size) wx w' ∧ SA w p g m R vals w' := by
  obtain ⟨S1, S2, L, ls, s, y, h01, h2, h3⟩ := h0.ld
  have h1 := h01.later b
  have h := h0.later b
  have hfew := few_segs h1 h2
  refine (prune_log wx S1 S2 g p L 16384 lg 64 ls s y h1 (by omega) upto).mono ?_
  rintro e w' ⟨hv, k, hk, hW⟩
  have hk' : k ≤ ls.length := by simp at hk; omega
  unfold PruAt at hW
  rw [List.drop_append_of_le_length hk'] at hW
  exact ⟨hv, wal_ch h01 hW, h.step h3 hW (Inv.prune k h2 hk') (fun _ _ h => h) (Nat.le_refl _)⟩
theorem SA.synced (h : SA w p g m R vals wr) : ∃ y : Nat, ∀ W, Below wr.heap.size wr W → Calls Tryz.prog 13 #[.pointer (some ⟨g, 0, none⟩)] W fun e w' => e = .returned (.int .i64 (y : Int)) ∧ W = w' := by
  obtain ⟨S1, S2, L, ls, s, y, h1, h2, h3⟩ := h.ld
  obtain ⟨gb, cap, hC, -, -⟩ := h1.cells (by simp)
  exact ⟨y, fun W hW => synced_log W g p gb cap lg 64 (ls ++ [s]) y (hC.after hW)⟩
/-- What was had, noted. -/
theorem SA.put {wa wb : World} {x : Bs} {A : Option Addr} {c : Nat} (h : SA w p g m (R ++ [x]) vals wa) (hv : vals.length = R.length) (ho : wb.ownsRow wa.heap.size 5 1 (.slice A x.length c) x.length (BVs x)) (hb : Below wa.heap.size wa wb) :
    ∃ wc, (Instr.mapUpdate 31 (.map (some m)) (.int .i64 ((R.length + 1 : Nat) : Int)) (.slice A x.length c)).run Tryz.prog wb = .ok () wc ∧ SA w p g m (R ++ [x]) (vals ++ [.slice A x.length c]) wc := by
  have hB := h.below.size
  have hfew := h.few
  rw [List.length_append, List.length_singleton] at hfew
  have hl := h.later hb
  obtain ⟨D, hD⟩ := hl.had
  obtain ⟨wc, D', hrun, hD', hc⟩ := hD.put A x.length c (by omega)
  rw [hv] at hrun
  refine ⟨wc, hrun, ?_⟩
  obtain ⟨S1, S2, L, ls, s, y, h1, h2, h3⟩ := h.ld
  have h1b := h1.later hb
  have hz : 0 ≠ m := fun e => by
    have := h.g0; have := h.hm; omega
  have hma : m < wa.heap.size := by obtain ⟨D0, hD0⟩ := h.had; exact hD0.own.lt
  have hnew : (Value.slice A x.length c).ownBlock ≠ some m := fun e => by have := (ho.lt m e).1; omega
  refine ⟨hl.below.trans (hc.below (fun k hk e => by have := h.hm; omega) hl.below.size), ⟨S1, S2, L, ls, s, y, ⟨h1b.lg.ch hc (fun k hk e => (h3 k (.inl hk)).2.1 e), h1b.dk.ch hc (fun k hk e => (h3 k (.inr hk)).2.1 e), h1b.apart, fun k hk => Nat.lt_of_lt_of_le (h1b.b1 k hk) hc.size, fun k hk => Nat.lt_of_lt_of_le (h1b.b2 k hk) hc.size, h1b.tab.ch hc hz, h1b.z1, h1b.z2⟩, h2, fun k hk => ⟨(h3 k hk).1, (h3 k hk).2.1, fun v hv e => ?_⟩⟩, ⟨D', hD'⟩, h.hm, by rw [List.length_append, List.length_append, hv]; exact Nat.le_refl _, fun j v hj => ?_, h.g0⟩
  · rcases List.mem_append.1 hv with hv | hv
    · exact (h3 k hk).2.2 v hv e
    · rw [List.mem_singleton.1 hv] at e
      have := (ho.lt k e).1
      rcases hk with hk | hk
      · have := h1.b1 k hk; omega
      · have := h1.b2 k hk; omega
  · by_cases hlt : j < vals.length
    · rw [List.getElem?_append_left hlt] at hj
      obtain ⟨z, q1, A', c', q2, q3⟩ := hl.vs j v hj
      exact ⟨z, q1, A', c', q2, own_ch q3 hc (fun k hk e => map_row hD.own q3 (by rw [hk, e]))⟩
    · have hj2 : j = R.length := by have := (List.getElem?_eq_some_iff.1 hj).1; rw [List.length_append] at this; simp at this; omega
      subst hj2
      rw [List.getElem?_append_right (by omega), hv, Nat.sub_self] at hj
      obtain rfl := Option.some.inj hj
      refine ⟨x, by rw [List.getElem?_append_right (Nat.le_refl _), Nat.sub_self]; rfl, A, c, rfl, own_ch (row_low ho hB) hc (fun k hk e => hnew (by rw [hk, e]))⟩
end
end Go.Proofs.YtjjfhbbaabakmaaGreatDoor.Ur

/-
  Layer 4: WalDamage's walk.
-/
namespace Go.Proofs.YtjjfhbbaabakmaaGreatDoor.Ul
set_option linter.unusedSimpArgs false
open Go Go.RowKit Cm Ck Kw Ga Dm Dw Da Db Dc Dd De Df Dg Dh Wc Wf Wa Wb Wd Wn We Kx Wg Wh Wl Wj Wk Wo Wq Wr Ws Wt Wu Wv Ww Wx Wy Wz Va Vb Vc Vd Ug Uh Uj Uk
attribute [local go_sem ↓] Go.wp_at_zero Go.wp_at_succ
set_option linter.unusedVariables false
set_option maxRecDepth 100000

theorem one_lit (w : World) (X : Nat → Prop) (t : TypeId) (u : Value) (hX : ¬ X w.heap.size) : Sl (w.alloc (.cells #[u] t)) X 1 (.slice (some ⟨w.heap.size, 0, none⟩) 1 1) 1 [u] := by
  refine ⟨_, _, rfl, rfl, Nat.le_refl _, by simp only [maxLen]; omega, fun _ => ⟨_, rfl, by simp, hX, fun j x hx => ?_⟩⟩
  have ha : (⟨w.heap.size, 0, none⟩ : Addr).add j = ⟨w.heap.size, j, none⟩ := by unfold Addr.add; split <;> simp_all
  rw [ha, Blk.cell (Blk.new w t _) j]
  simpa using hx
theorem op_below (w : World) (x : Obj) : Below w.heap.size w (w.alloc x) := (Below.refl _ w).alloc (Nat.le_refl _) _

end Go.Proofs.YtjjfhbbaabakmaaGreatDoor.Ul

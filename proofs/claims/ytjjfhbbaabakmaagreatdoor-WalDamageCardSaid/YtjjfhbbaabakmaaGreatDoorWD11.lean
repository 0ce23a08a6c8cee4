/-
  Contracts of layer 4's log: what only reads.
-/
import Derived.Test.YtjjfhbbaabakmaaGreatDoorWD10
import Derived.Test.YtjjfhbbaabakmaaGreatDoorWD08
namespace Go.Proofs.YtjjfhbbaabakmaaGreatDoor.Wo
set_option linter.unusedSimpArgs false
open Go Go.RowKit Ck Kw Ga Dm Dw Da Db Dc Dd De Df Dg Wc Wf Wa Wb Wd Wn We Kx Wg Wh Wl Wj Wk
attribute [local go_sem ↓] Go.wp_at_zero Go.wp_at_succ
set_option linter.unusedVariables false

/-- A log's cells: its block is g, its row of segments is gb. -/
structure LgC (w : World) (g p gb cap : Nat) (name : Tx) (most : Nat) (segs : List Sg) (synced : Nat) : Prop where
  blk : Blk w g 64 #[.pointer (some ⟨p, 0, none⟩), .string ⟨name.toArray⟩, .int .i64 (most : Int), .slice (some ⟨gb, 0, none⟩) segs.length cap, .int .i64 (synced : Int)]
  glt : gb < w.heap.size
  frz : ∀ j, w.frozen? ⟨gb, j, none⟩ = false
  row : ∀ i (h : i < segs.length), ∃ A c, w.cell? ⟨gb, i * 4, none⟩ = some (.int .i64 (segs[i].num : Int)) ∧ w.cell? ⟨gb, i * 4 + 1, none⟩ = some (.int .i64 (segs[i].first : Int)) ∧
    w.cell? ⟨gb, i * 4 + 2, none⟩ = some (.int .i64 (segs[i].size : Int)) ∧ w.cell? ⟨gb, i * 4 + 3, none⟩ = some (.slice A segs[i].recs.length c)
  good : ∀ s ∈ segs, GoodS s
  nml : name.length ≤ 16
  mst : most ≤ 4194304
  cpl : segs.length ≤ cap
section
variable {w w' : World} {S T : Nat → Prop} {g p gb cap most synced : Nat} {name : Tx} {segs : List Sg}
theorem _root_.Go.Proofs.YtjjfhbbaabakmaaGreatDoor.Wk.Lg.cells (h : Lg w S g p name most segs synced) (hne : 0 < segs.length) : ∃ gb cap, LgC w g p gb cap name most segs synced ∧ S gb ∧ gb ≠ g := by
  obtain ⟨v, rv, h1, h2, h3, h4, h5⟩ := h
  obtain ⟨gb, cap, rfl, k1, k2, k3, k4⟩ := h3.at_ hne
  refine ⟨gb, cap, ⟨h1, k2, fun j => ?_, fun i hi => ?_, h3.good, h4, h5, k3⟩, k1.1, k1.2⟩
  · obtain ⟨u, _, _, _, _, _, hf, _⟩ := k4 0 hne
    exact hf j
  · obtain ⟨u, hu, c0, c1, c2, c3, hf, hr⟩ := k4 i hi
    obtain ⟨A, c, rfl⟩ := hr.shape
    exact ⟨A, c, c0, c1, c2, c3⟩
theorem LgC.ch (h : LgC w g p gb cap name most segs synced) (c : Ch T w w') (hg : ¬ T g) (hb : ¬ T gb) : LgC w' g p gb cap name most segs synced := by
  have hk : ∀ {j : Nat} {v : Value}, w.cell? ⟨gb, j, none⟩ = some v → w'.cell? ⟨gb, j, none⟩ = some v := fun {j v} hc => c.cell hc hb
  refine ⟨h.blk.ch c hg, Nat.lt_of_lt_of_le h.glt c.size, fun j => ?_, fun i hi => ?_, h.good, h.nml, h.mst, h.cpl⟩
  · have := h.frz j
    simp only [World.frozen?] at this ⊢
    rw [c.block gb h.glt hb]
    exact this
  · obtain ⟨A, cc, c0, c1, c2, c3⟩ := h.row i hi
    exact ⟨A, cc, hk c0, hk c1, hk c2, hk c3⟩
theorem LgC.after (h : LgC w g p gb cap name most segs synced) (b : Below w.heap.size w w') : LgC w' g p gb cap name most segs synced :=
  h.ch (Ch.of_below (S := fun _ => False) b (Nat.le_refl _)) (fun h => h) (fun h => h)
end

theorem made_log (w : World) (g p gb cap : Nat) (name : Tx) (most : Nat) (segs : List Sg) (synced : Nat) (h : LgC w g p gb cap name most segs synced) :
    Calls Tryz.prog 32 #[.pointer (some ⟨g, 0, none⟩)] w fun e w' => e = .returned (.bool true) ∧ w = w' := by
  have c0 := h.blk.cell 0
  simp only [List.getElem?_toArray, List.getElem?_cons_zero] at c0
  clear h
  go_enter Tryz.func32, Tryz.ntmps32
  go_wp2
  go_ret
  exact ⟨rfl, rfl⟩

set_option maxHeartbeats 1000000 in
theorem last_log (w : World) (g p gb cap : Nat) (name : Tx) (most : Nat) (ls : List Sg) (s : Sg) (synced : Nat) (h : LgC w g p gb cap name most (ls ++ [s]) synced) (hl : ls.length ≤ 549755813888) :
    Calls Tryz.prog 34 #[.pointer (some ⟨g, 0, none⟩)] w fun e w' => e = .returned (.pointer (some ⟨gb, ls.length * 4, none⟩)) ∧ ∃ n, w' = w.drewN n := by
  have c3 := h.blk.cell 3
  simp only [List.getElem?_toArray, List.getElem?_cons_zero, List.getElem?_cons_succ, List.length_append, List.length_cons, List.length_nil, Nat.zero_add] at c3
  generalize ls.length = n at *
  have hw : IntKind.i64.wrap ((n : Int) + 1 - 1) = (n : Int) := by rw [wrap64 (by omega) (by omega)]; omega
  have h0 : (0 : Int) ≤ (n : Int) := by omega
  have h1 : (n : Int) < (n : Int) + 1 := by omega
  clear h
  go_enter Tryz.func34, Tryz.ntmps34
  go_wp2_with fail
  go_quiet (fail)
  go_wp2
  go_ret
  exact ⟨rfl, _, rfl⟩

theorem below_of_drewN {B n : Nat} {w w2 : World} (h : Below B (w.drewN n) w2) : Below B w w2 := ⟨h.os, h.tape, h.output, h.size, h.block⟩
set_option maxHeartbeats 1000000 in
/-- The name of the file of a segment whose first cell is known. -/
theorem file_log (w : World) (g p : Nat) (name : Tx) (most : Nat) (synced : Nat) (v3 : Value) (h : Blk w g 64 #[.pointer (some ⟨p, 0, none⟩), .string ⟨name.toArray⟩, .int .i64 (most : Int), v3, .int .i64 (synced : Int)]) (hn : name.length ≤ 16) (hT : Tab w)
    (b o k : Nat) (hk : k < 1000000000000000) (hc : w.cell? ⟨b, o, none⟩ = some (.int .i64 (k : Int))) :
    Calls Tryz.prog 36 #[.pointer (some ⟨g, 0, none⟩), .pointer (some ⟨b, o, none⟩)] w fun e w' => e = .returned (.string ⟨(nm name k).toArray⟩) ∧ Below w.heap.size w w' := by
  have c1 := h.cell 1
  simp only [List.getElem?_toArray, List.getElem?_cons_zero, List.getElem?_cons_succ] at c1
  have HT := Lib.hid hT
  clear h hT
  go_enter Tryz.func36, Tryz.ntmps36
  go_wp2_with fail
  go_region_held3 (fun w' => w'.cell? ⟨g, 1, none⟩ = some (.string ⟨name.toArray⟩) ∧ w'.cell? ⟨b, o, none⟩ = some (.int .i64 (k : Int))) (exact ⟨c1, hc⟩)
    (first
    | (go_at_call 53; refine (file_name _ name k (HT.out.after (below_drewN (Below.refl _ w) 1)) hk (by omega)).mono ?_; rintro e w2 ⟨rfl, hb2⟩; have c1 := (hb2.cell (World.block_lt_of_cell? _ _ c1)).trans c1; have hc := (hb2.cell (World.block_lt_of_cell? _ _ hc)).trans hc))
  go_wp2_with fail
  go_ret
  exact ⟨rfl, below_of_drew hb2⟩

theorem next_any (w : World) (s : Sg) (A : Option Addr) (c : Nat) (hg : GoodS s) :
    Calls Tryz.prog 39 #[.agg (SgV s (.slice A s.recs.length c))] w fun e w' => e = .returned (.int .i64 ((s.first + s.recs.length : Nat) : Int)) ∧ Below w.heap.size w w' := by
  have h1 := hg.first
  have h2 := hg.few
  have h3 := hg.size
  obtain ⟨a, b, z, r⟩ := s
  simp only at h1 h2 h3
  simp only [SgV]
  generalize r.length = n at *
  clear hg
  go_enter Tryz.func39, Tryz.ntmps39
  go_wp2
  go_ret
  exact ⟨rfl, (Below.refl _ _).alloc (Nat.le_refl _) _⟩

/-- The numbers of the last segment. -/
def lastS (s : Sg) : Int := (s.first : Int) + (s.recs.length : Int) - 1
set_option maxHeartbeats 1000000 in
theorem lastn_log (w : World) (g p gb cap : Nat) (name : Tx) (most : Nat) (ls : List Sg) (s : Sg) (synced : Nat) (h : LgC w g p gb cap name most (ls ++ [s]) synced) (hl : ls.length ≤ 549755813888) :
    Calls Tryz.prog 14 #[.pointer (some ⟨g, 0, none⟩)] w fun e w' => e = .returned (.int .i64 (lastS s)) ∧ Below w.heap.size w w' := by
  have hg := h.good s (by simp)
  obtain ⟨A, c, c0, c1, c2, c3⟩ := h.row ls.length (by simp)
  simp only [List.getElem_append_right (Nat.le_refl _), Nat.sub_self, List.getElem_cons_zero] at c0 c1 c2 c3
  have HN := fun W => next_any W s A c hg
  simp only [SgV] at HN
  have HN := Lib.hid HN
  have HM := Lib.hid (made_log w g p gb cap name most _ synced h)
  have HL := Lib.hid (last_log w g p gb cap name most ls s synced h hl)
  have h1 := hg.first
  have h2 := hg.few
  have h3 := hg.size
  have HV := Lib.hid (show lastS s = (s.first : Int) + (s.recs.length : Int) - 1 from rfl)
  clear h hg
  generalize ls.length = n at *
  go_enter Tryz.func14, Tryz.ntmps14
  go_wp2_with (first
    | (go_at_call 32; refine HM.out.mono ?_; rintro e w1 ⟨rfl, rfl⟩)
    | (go_at_call 34; refine HL.out.mono ?_; rintro e w1 ⟨rfl, nn, rfl⟩)
    | (go_at_call 39; refine (HN.out _).mono ?_; rintro e w2 ⟨rfl, hb2⟩))
  go_ret
  exact ⟨by rw [HV.out]; rfl, below_of_drewN hb2⟩

theorem first_log (w : World) (g p gb cap : Nat) (name : Tx) (most : Nat) (s : Sg) (ls : List Sg) (synced : Nat) (h : LgC w g p gb cap name most (s :: ls) synced) (hl : ls.length ≤ 549755813888) :
    Calls Tryz.prog 15 #[.pointer (some ⟨g, 0, none⟩)] w fun e w' => e = .returned (.int .i64 (s.first : Int)) ∧ w = w' := by
  obtain ⟨A, c, c0, c1, c2, c3⟩ := h.row 0 (by simp)
  simp only [List.getElem_cons_zero, Nat.zero_mul, Nat.zero_add] at c1
  have d3 := h.blk.cell 3
  simp only [List.getElem?_toArray, List.getElem?_cons_zero, List.getElem?_cons_succ, List.length_cons] at d3
  have HM := Lib.hid (made_log w g p gb cap name most _ synced h)
  clear h c0 c2 c3
  generalize ls.length = n at *
  go_enter Tryz.func15, Tryz.ntmps15
  go_wp2_with (go_at_call 32; refine HM.out.mono ?_; rintro e w1 ⟨rfl, rfl⟩)
  go_ret
  exact ⟨rfl, rfl⟩
theorem synced_log (w : World) (g p gb cap : Nat) (name : Tx) (most : Nat) (segs : List Sg) (synced : Nat) (h : LgC w g p gb cap name most segs synced) :
    Calls Tryz.prog 13 #[.pointer (some ⟨g, 0, none⟩)] w fun e w' => e = .returned (.int .i64 (synced : Int)) ∧ w = w' := by
  have d4 := h.blk.cell 4
  simp only [List.getElem?_toArray, List.getElem?_cons_zero, List.getElem?_cons_succ] at d4
  have HM := Lib.hid (made_log w g p gb cap name most _ synced h)
  clear h
  go_enter Tryz.func13, Tryz.ntmps13
  go_wp2_with (go_at_call 32; refine HM.out.mono ?_; rintro e w1 ⟨rfl, rfl⟩)
  go_ret
  exact ⟨rfl, rfl⟩

end Go.Proofs.YtjjfhbbaabakmaaGreatDoor.Wo

/-
  Plain mathematics of layer 4 (wal): what beginning a segment makes of a disk's files.
-/
namespace Go.Proofs.YtjjfhbbaabakmaaGreatDoor.Wq
set_option linter.unusedSimpArgs false
set_option linter.unusedVariables false
open Dm De Df Dg Dh Wf Wn Wg

theorem isIn_cons {L : List Fl} {f : Fl} {s : Tx} (h : isIn (f :: L) s = false) : f.n ≠ s ∧ isIn L s = false := by
  unfold isIn at h ⊢
  simp only [List.any_cons, Bool.or_eq_false_iff, beq_eq_false_iff_ne] at h
  exact h
theorem find_ins {x : Fl} : ∀ {L : List Fl}, isIn L x.n = false → find (ins x L) x.n = some x
  | [], _ => by simp [ins, find]
  | f :: L, h => by
    obtain ⟨h1, h2⟩ := isIn_cons h
    unfold ins
    split
    · have := find_ins (x := x) h2
      unfold find at this ⊢
      rw [List.find?_cons_of_neg (by simpa using h1)]
      exact this
    · simp [find]
theorem upd_ins {x : Fl} {g : Fl → Fl} (hg : (g x).n = x.n) : ∀ {L : List Fl}, isIn L x.n = false → upd (ins x L) x.n g = ins (g x) L
  | [], _ => by simp [ins, upd]
  | f :: L, h => by
    obtain ⟨h1, h2⟩ := isIn_cons h
    unfold ins
    rw [hg]
    split
    · have := upd_ins (g := g) hg h2
      unfold upd at this ⊢
      rw [List.map_cons, this, if_neg h1]
    · have : L.map (fun f => if f.n = x.n then g f else f) = L := by
        conv => rhs; rw [← List.map_id L]
        refine List.map_congr_left (fun f' hf => ?_)
        rw [if_neg]
        · rfl
        · intro e
          have := isIn_iff.2 ⟨f', hf, e⟩
          rw [this] at h2
          cases h2
      unfold upd
      rw [List.map_cons, List.map_cons, if_pos rfl, if_neg h1, this]
theorem del_same {s : Tx} {L : List Fl} (h : isIn L s = false) : del L s = L := by
  unfold del
  refine List.filter_eq_self.2 (fun f hf => ?_)
  simp only [Bool.not_eq_true', beq_eq_false_iff_ne]
  intro e
  rw [isIn_iff.2 ⟨f, hf, e⟩] at h
  cases h
theorem del_ins {x : Fl} : ∀ {L : List Fl}, isIn L x.n = false → del (ins x L) x.n = L
  | [], _ => by simp [ins, del]
  | f :: L, h => by
    obtain ⟨h1, h2⟩ := isIn_cons h
    unfold ins
    split
    · have := del_ins (x := x) h2
      unfold del at this ⊢
      rw [List.filter_cons_of_pos (by simpa using h1), this]
    · have := del_same h2
      unfold del at this ⊢
      rw [List.filter_cons_of_neg (by simp), List.filter_cons_of_pos (by simpa using h1), this]

/-- What begin makes of the files: with a head, or not at all. -/
def begS (L : List Fl) (room : Nat) (name : Tx) (number first : Nat) : List Fl × Nat :=
  if 9007199254740992 < first then (L, 6) else if 999999999999999 < number then (L, 6)
  else if isIn L (nm name number) then (L, 31) else if 64 ≤ L.length then (L, 6)
  else if room < (head first).length + used L then (L, 30) else (ins ⟨nm name number, head first, (head first).length⟩ L, 0)
theorem used_ins {x : Fl} {L : List Fl} : used (ins x L) = x.b.length + used L := by rw [used_perm (ins_perm x L)]; rfl

theorem beg_steps {L : List Fl} {room : Nat} {name : Tx} {number first : Nat} (h1 : ¬ 9007199254740992 < first) (h2 : ¬ 999999999999999 < number) :
    (∃ c, c ≠ 0 ∧ c < 100 ∧ createS L false (nm name number) = (L, c) ∧ begS L room name number first = (L, c)) ∨
    (∃ L1, createS L false (nm name number) = (L1, 0) ∧ ((appS L1 room false (nm name number) (head first) = (L1, 30) ∧ remS L1 false (nm name number) = (L, 0) ∧ begS L room name number first = (L, 30)) ∨
      ∃ L2 L3, appS L1 room false (nm name number) (head first) = (L2, 0) ∧ syncS L2 false (nm name number) = (L3, 0) ∧ begS L room name number first = (L3, 0) ∧ L3 = ins ⟨nm name number, head first, (head first).length⟩ L)) := by
  have hne := nm_ne name number
  unfold begS
  rw [if_neg h1, if_neg h2]
  by_cases hi : isIn L (nm name number) = true
  · refine .inl ⟨31, by omega, by omega, ?_, ?_⟩
    · simp [createS, hne, hi]
    · rw [if_pos hi]
  · have hi : isIn L (nm name number) = false := by simpa using hi
    by_cases h64 : 64 ≤ L.length
    · refine .inl ⟨6, by omega, by omega, ?_, ?_⟩
      · simp [createS, hne, hi, h64]
      · rw [if_neg (by rw [hi]; simp), if_pos h64]
    · refine .inr ⟨ins ⟨nm name number, [], 0⟩ L, ?_, ?_⟩
      · simp only [createS]
        rw [if_neg (by simp), if_neg hne, if_neg (by rw [hi]; simp), if_neg h64]
      · have hf := find_ins (x := ⟨nm name number, [], 0⟩) hi
        simp only at hf
        rw [if_neg (by rw [hi]; simp), if_neg h64]
        have ha : appS (ins ⟨nm name number, [], 0⟩ L) room false (nm name number) (head first) = putS (ins ⟨nm name number, [], 0⟩ L) room ⟨nm name number, [], 0⟩ 0 (head first) := by simp [appS, hf]
        have hu : used (ins ⟨nm name number, [], 0⟩ L) = used L := by rw [used_ins]; simp
        by_cases hr : room < (head first).length + used L
        · refine .inl ⟨?_, ?_, ?_⟩
          · rw [ha, putS, if_pos (by rw [hu]; simp; omega)]
          · simp only [remS, hf]
            rw [if_neg (by simp), del_ins (x := ⟨nm name number, [], 0⟩) hi]
          · rw [if_pos hr]
        · have hw : Db.wr [] 0 (head first) = head first := by simp [Db.wr]
          refine .inr ⟨ins ⟨nm name number, head first, 0⟩ L, ins ⟨nm name number, head first, (head first).length⟩ L, ?_, ?_, ?_, rfl⟩
          · rw [ha, putS, if_neg (by rw [hu]; simp; omega)]
            simp only [hw, Nat.min_zero]
            rw [upd_ins (x := ⟨nm name number, [], 0⟩) rfl hi]
            rfl
          · have hf2 := find_ins (x := ⟨nm name number, head first, 0⟩) hi
            simp only at hf2
            simp only [syncS, hf2]
            rw [if_neg (by simp), upd_ins (x := ⟨nm name number, head first, 0⟩) rfl hi]
            rfl
          · rw [if_neg hr]

end Go.Proofs.YtjjfhbbaabakmaaGreatDoor.Wq

/-
  Contract of layer 4's begin: another segment.
-/
namespace Go.Proofs.YtjjfhbbaabakmaaGreatDoor.Wr
set_option linter.unusedSimpArgs false
open Go Go.RowKit Ck Kw Ga Dm Dw Da Db Dc Dd De Df Dg Dh Wc Wf Wa Wb Wd Wn We Kx Wg Wh Wl Wj Wk Wo Wq
attribute [local go_sem ↓] Go.wp_at_zero Go.wp_at_succ
set_option linter.unusedVariables false

def segCells (s : Sg) (u : Value) : List Value := [.int .i64 (s.num : Int), .int .i64 (s.first : Int), .int .i64 (s.size : Int), u]
section
variable {w w' : World} {S T : Nat → Prop} {v v' u : Value} {segs : List Sg} {rv : List Value} {s : Sg}
/-- A segment more. -/
theorem Segs.push (h : Segs w S v segs rv) (hu : Rcs w S u s.recs) (hap : ∀ (k i : Nat) (u1 : Value), u.ownBlock = some k → rv[i]? = some u1 → u1.ownBlock ≠ some k) (hg : GoodS s)
    (ha : Appended w 0 76 4 v (segs.length + 1) (cellsS segs rv ++ segCells s u) v' w') : Segs w' (Up S w w') v' (segs ++ [s]) (rv ++ [u]) := by
  obtain ⟨ho, hgr, hloc⟩ := ha
  have cg : Ch (fun k => v.ownBlock = some k) w w' := Ch.of_grown hgr (fun g hg _ => hg)
  have hc : cellsS segs rv ++ segCells s u = cellsS (segs ++ [s]) (rv ++ [u]) := by rw [cellsS_app h.len]; rfl
  have hkeep : ∀ {x : Value} {rs : List Tx}, Rcs w S x rs → Rcs w' (Up S w w') x rs := fun {x rs} hx => by
    refine Rcs.weaken (hx.keep cg (fun k hk hv => ?_) (fun k b n y A cc hrow hk hv => row_far hrow h.row (by decide) hk hv)) (fun k hk => .inl hk)
    obtain ⟨vals, h1, _⟩ := hx
    exact row_far h1 h.row (by decide) hk hv
  refine ⟨by simp [h.len], by rw [List.length_append]; rw [hc] at ho; exact ho, fun k hk => ?_, fun i hi => ?_, fun i j u1 u2 k hij h1 h2 hk => ?_, fun x hx => ?_⟩
  · rcases hloc with hb | hb
    · rw [hb] at hk; exact .inl (h.own k hk)
    · rw [hb] at hk; injection hk with hk; exact .inr ⟨by omega, by have := (ho.lt _ hb).2; omega⟩
  · by_cases hlt : i < segs.length
    · obtain ⟨x, h1, h2⟩ := h.rcs i hlt
      rw [List.getElem_append_left hlt]
      exact ⟨x, by rw [List.getElem?_append_left (by rw [h.len]; exact hlt)]; exact h1, hkeep h2⟩
    · have hi' : i = segs.length := by rw [List.length_append] at hi; simp at hi; omega
      subst hi'
      rw [List.getElem_append_right (Nat.le_refl _)]
      simp only [Nat.sub_self, List.getElem_cons_zero]
      exact ⟨u, by rw [List.getElem?_append_right (by rw [h.len]; exact Nat.le_refl _), h.len]; simp, hkeep hu⟩
  · have hsplit : ∀ (i : Nat) (x : Value), (rv ++ [u])[i]? = some x → rv[i]? = some x ∨ (i = rv.length ∧ x = u) := fun i x hx => by
      by_cases hlt : i < rv.length
      · rw [List.getElem?_append_left hlt] at hx; exact .inl hx
      · rw [List.getElem?_append_right (by omega)] at hx
        have : i - rv.length = 0 := by have := (List.getElem?_eq_some_iff.1 hx).1; simp at this; omega
        rw [this] at hx
        exact .inr ⟨by omega, by simpa using hx.symm⟩
    rcases hsplit i u1 h1 with g1 | ⟨g1, rfl⟩ <;> rcases hsplit j u2 h2 with g2 | ⟨g2, rfl⟩
    · exact h.apart i j u1 u2 k hij g1 g2 hk
    · exact fun e => hap k i u1 e g1 hk
    · exact hap k j u2 hk g2
    · omega
  · rcases List.mem_append.1 hx with hx | hx
    · exact h.good x hx
    · rw [List.mem_singleton.1 hx]; exact hg
end
theorem seg_lit (w : World) (X : Nat → Prop) (t : TypeId) (s : Sg) (u : Value) (hX : ¬ X w.heap.size) : Sl (w.alloc (.cells (SgV s u) t)) X 4 (.slice (some ⟨w.heap.size, 0, none⟩) 1 1) 1 (segCells s u) := by
  refine ⟨_, _, rfl, rfl, Nat.le_refl _, by simp only [maxLen]; omega, fun _ => ⟨_, rfl, by simp, hX, fun j x hx => ?_⟩⟩
  have ha : (⟨w.heap.size, 0, none⟩ : Addr).add j = ⟨w.heap.size, j, none⟩ := by unfold Addr.add; split <;> simp_all
  rw [ha, Blk.cell (Blk.new w t _) j]
  simpa [SgV, segCells] using hx
theorem segCells_one (s : Sg) (A : Option Addr) (n c : Nat) : ∀ x ∈ segCells s (.slice A n c), x.oneCell' = true := by
  intro x hx
  simp only [segCells, List.mem_cons, List.not_mem_nil, or_false] at hx
  rcases hx with rfl | rfl | rfl | rfl <;> rfl
theorem info_segs : (Tryz.prog.info? 76).map (fun i => (i.zero, i.size, i.bytes)) = some (some (.agg #[.int .i64 0, .int .i64 0, .int .i64 0, .slice none 0 0]), 4, 48) := by kernel_rfl

end Go.Proofs.YtjjfhbbaabakmaaGreatDoor.Wr

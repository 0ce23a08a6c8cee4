/-
  Contracts of layer 4's log: what only reads.
-/
import Derived.Test.YtjjfhbbaabakmaaGreatDoorWS10
import Derived.Test.YtjjfhbbaabakmaaGreatDoorWS08
import Derived.Test.YtjjfhbbaabakmaaGreatDoorWS02
import Derived.ArgAppend
import Derived.Deep.RegionLaw
namespace Go.Proofs.YtjjfhbbaabakmaaGreatDoor.Wo
set_option linter.unusedSimpArgs false
open Go Go.RowKit Ck Kw Ga Dm Dw Da Db Dc Dd De Df Dg Wc Wf Wa Wb Wd Wn We Kx Wg Wh Wl Wj Wk
attribute [local go_sem ↓] Go.wp_at_zero Go.wp_at_succ
set_option linter.unusedVariables false

/-- A log's cells: its block is g, its row of segments is gb. -/
structure LgC (w : World) (g p gb cap : Nat) (name : Tx) (most : Nat) (segs : List Sg) (synced : Nat) : Prop where
  blk : Blk w g 64 #[.pointer (some ⟨p, 0, none⟩), .string ⟨name.toArray⟩, .int .i64 (most : Int), .slice (some ⟨gb, 0, none⟩) segs.length cap, .int .i64 (synced : Int)]
  glt : gb < w.heap.size
  frz : ∀ j, w.frozen? ⟨gb, j, none⟩ = false
  row : ∀ i (h : i < segs.length), ∃ A c, w.cell? ⟨gb, i * 4, none⟩ = some (.int .i64 (segs[i].num : Int)) ∧ w.cell? ⟨gb, i * 4 + 1, none⟩ = some (.int .i64 (segs[i].first : Int)) ∧
    w.cell? ⟨gb, i * 4 + 2, none⟩ = some (.int .i64 (segs[i].size : Int)) ∧ w.cell? ⟨gb, i * 4 + 3, none⟩ = some (.slice A segs[i].recs.length c)
  good : ∀ s ∈ segs, GoodS s
  nml : name.length ≤ 16
  mst : most ≤ 4194304
  cpl : segs.length ≤ cap
section
variable {w w' : World} {S T : Nat → Prop} {g p gb cap most synced : Nat} {name : Tx} {segs : List Sg}
theorem _root_.Go.Proofs.YtjjfhbbaabakmaaGreatDoor.Wk.Lg.cells (h : Lg w S g p name most segs synced) (hne : 0 < segs.length) : ∃ gb cap, LgC w g p gb cap name most segs synced ∧ S gb ∧ gb ≠ g := by
  obtain ⟨v, rv, h1, h2, h3, h4, h5⟩ := h
  obtain ⟨gb, cap, rfl, k1, k2, k3, k4⟩ := h3.at_ hne
  refine ⟨gb, cap, ⟨h1, k2, fun j => ?_, fun i hi => ?_, h3.good, h4, h5, k3⟩, k1.1, k1.2⟩
  · obtain ⟨u, _, _, _, _, _, hf, _⟩ := k4 0 hne
    exact hf j
  · obtain ⟨u, hu, c0, c1, c2, c3, hf, hr⟩ := k4 i hi
    obtain ⟨A, c, rfl⟩ := hr.shape
    exact ⟨A, c, c0, c1, c2, c3⟩
theorem LgC.ch (h : LgC w g p gb cap name most segs synced) (c : Ch T w w') (hg : ¬ T g) (hb : ¬ T gb) : LgC w' g p gb cap name most segs synced := by
  have hk : ∀ {j : Nat} {v : Value}, w.cell? ⟨gb, j, none⟩ = some v → w'.cell? ⟨gb, j, none⟩ = some v := fun {j v} hc => c.cell hc hb
  refine ⟨h.blk.ch c hg, Nat.lt_of_lt_of_le h.glt c.size, fun j => ?_, fun i hi => ?_, h.good, h.nml, h.mst, h.cpl⟩
  · have := h.frz j
    simp only [World.frozen?] at this ⊢
    rw [c.block gb h.glt hb]
    exact this
  · obtain ⟨A, cc, c0, c1, c2, c3⟩ := h.row i hi
    exact ⟨A, cc, hk c0, hk c1, hk c2, hk c3⟩
theorem LgC.after (h : LgC w g p gb cap name most segs synced) (b : Below w.heap.size w w') : LgC w' g p gb cap name most segs synced :=
  h.ch (Ch.of_below (S := fun _ => False) b (Nat.le_refl _)) (fun h => h) (fun h => h)
end

theorem made_log (w : World) (g p gb cap : Nat) (name : Tx) (most : Nat) (segs : List Sg) (synced : Nat) (h : LgC w g p gb cap name most segs synced) :
    Calls Tryz.prog 32 #[.pointer (some ⟨g, 0, none⟩)] w fun e w' => e = .returned (.bool true) ∧ w = w' := by
  have c0 := h.blk.cell 0
  simp only [List.getElem?_toArray, List.getElem?_cons_zero] at c0
  clear h
  go_enter Tryz.func32, Tryz.ntmps32
  go_wp2
  go_ret
  exact ⟨rfl, rfl⟩

set_option maxHeartbeats 1000000 in
theorem last_log (w : World) (g p gb cap : Nat) (name : Tx) (most : Nat) (ls : List Sg) (s : Sg) (synced : Nat) (h : LgC w g p gb cap name most (ls ++ [s]) synced) (hl : ls.length ≤ 549755813888) :
    Calls Tryz.prog 34 #[.pointer (some ⟨g, 0, none⟩)] w fun e w' => e = .returned (.pointer (some ⟨gb, ls.length * 4, none⟩)) ∧ ∃ n, w' = w.drewN n := by
  have c3 := h.blk.cell 3
  simp only [List.getElem?_toArray, List.getElem?_cons_zero, List.getElem?_cons_succ, List.length_append, List.length_cons, List.length_nil, Nat.zero_add] at c3
  generalize ls.length = n at *
  have hw : IntKind.i64.wrap ((n : Int) + 1 - 1) = (n : Int) := by rw [wrap64 (by omega) (by omega)]; omega
  have h0 : (0 : Int) ≤ (n : Int) := by omega
  have h1 : (n : Int) < (n : Int) + 1 := by omega
  clear h
  go_enter Tryz.func34, Tryz.ntmps34
  go_wp2_with fail
  go_quiet (fail)
  go_wp2
  go_ret
  exact ⟨rfl, _, rfl⟩

theorem below_of_drewN {B n : Nat} {w w2 : World} (h : Below B (w.drewN n) w2) : Below B w w2 := ⟨h.os, h.tape, h.output, h.size, h.block⟩
set_option maxHeartbeats 1000000 in
/-- The name of the file of a segment whose first cell is known. -/
theorem file_log (w : World) (g p : Nat) (name : Tx) (most : Nat) (synced : Nat) (v3 : Value) (h : Blk w g 64 #[.pointer (some ⟨p, 0, none⟩), .string ⟨name.toArray⟩, .int .i64 (most : Int), v3, .int .i64 (synced : Int)]) (hn : name.length ≤ 16) (hT : Tab w)
    (b o k : Nat) (hk : k < 1000000000000000) (hc : w.cell? ⟨b, o, none⟩ = some (.int .i64 (k : Int))) :
    Calls Tryz.prog 36 #[.pointer (some ⟨g, 0, none⟩), .pointer (some ⟨b, o, none⟩)] w fun e w' => e = .returned (.string ⟨(nm name k).toArray⟩) ∧ Below w.heap.size w w' := by
  have c1 := h.cell 1
  simp only [List.getElem?_toArray, List.getElem?_cons_zero, List.getElem?_cons_succ] at c1
  have HT := Lib.hid hT
  clear h hT
  go_enter Tryz.func36, Tryz.ntmps36
  go_wp2_with fail
  go_region_held3 (fun w' => w'.cell? ⟨g, 1, none⟩ = some (.string ⟨name.toArray⟩) ∧ w'.cell? ⟨b, o, none⟩ = some (.int .i64 (k : Int))) (exact ⟨c1, hc⟩)
    (first
    | (go_at_call 53; refine (file_name _ name k (HT.out.after (below_drewN (Below.refl _ w) 1)) hk (by omega)).mono ?_; rintro e w2 ⟨rfl, hb2⟩; have c1 := (hb2.cell (World.block_lt_of_cell? _ _ c1)).trans c1; have hc := (hb2.cell (World.block_lt_of_cell? _ _ hc)).trans hc))
  go_wp2_with fail
  go_ret
  exact ⟨rfl, below_of_drew hb2⟩

theorem next_any (w : World) (s : Sg) (A : Option Addr) (c : Nat) (hg : GoodS s) :
    Calls Tryz.prog 39 #[.agg (SgV s (.slice A s.recs.length c))] w fun e w' => e = .returned (.int .i64 ((s.first + s.recs.length : Nat) : Int)) ∧ Below w.heap.size w w' := by
  have h1 := hg.first
  have h2 := hg.few
  have h3 := hg.size
  obtain ⟨a, b, z, r⟩ := s
  simp only at h1 h2 h3
  simp only [SgV]
  generalize r.length = n at *
  clear hg
  go_enter Tryz.func39, Tryz.ntmps39
  go_wp2
  go_ret
  exact ⟨rfl, (Below.refl _ _).alloc (Nat.le_refl _) _⟩

/-- The numbers of the last segment. -/
def lastS (s : Sg) : Int := (s.first : Int) + (s.recs.length : Int) - 1
set_option maxHeartbeats 1000000 in
theorem lastn_log (w : World) (g p gb cap : Nat) (name : Tx) (most : Nat) (ls : List Sg) (s : Sg) (synced : Nat) (h : LgC w g p gb cap name most (ls ++ [s]) synced) (hl : ls.length ≤ 549755813888) :
    Calls Tryz.prog 14 #[.pointer (some ⟨g, 0, none⟩)] w fun e w' => e = .returned (.int .i64 (lastS s)) ∧ Below w.heap.size w w' := by
  have hg := h.good s (by simp)
  obtain ⟨A, c, c0, c1, c2, c3⟩ := h.row ls.length (by simp)
  simp only [List.getElem_append_right (Nat.le_refl _), Nat.sub_self, List.getElem_cons_zero] at c0 c1 c2 c3
  have HN := fun W => next_any W s A c hg
  simp only [SgV] at HN
  have HN := Lib.hid HN
  have HM := Lib.hid (made_log w g p gb cap name most _ synced h)
  have HL := Lib.hid (last_log w g p gb cap name most ls s synced h hl)
  have h1 := hg.first
  have h2 := hg.few
  have h3 := hg.size
  have HV := Lib.hid (show lastS s = (s.first : Int) + (s.recs.length : Int) - 1 from rfl)
  clear h hg
  generalize ls.length = n at *
  go_enter Tryz.func14, Tryz.ntmps14
  go_wp2_with (first
    | (go_at_call 32; refine HM.out.mono ?_; rintro e w1 ⟨rfl, rfl⟩)
    | (go_at_call 34; refine HL.out.mono ?_; rintro e w1 ⟨rfl, nn, rfl⟩)
    | (go_at_call 39; refine (HN.out _).mono ?_; rintro e w2 ⟨rfl, hb2⟩))
  go_ret
  exact ⟨by rw [HV.out]; rfl, below_of_drewN hb2⟩

theorem first_log (w : World) (g p gb cap : Nat) (name : Tx) (most : Nat) (s : Sg) (ls : List Sg) (synced : Nat) (h : LgC w g p gb cap name most (s :: ls) synced) (hl : ls.length ≤ 549755813888) :
    Calls Tryz.prog 15 #[.pointer (some ⟨g, 0, none⟩)] w fun e w' => e = .returned (.int .i64 (s.first : Int)) ∧ w = w' := by
  obtain ⟨A, c, c0, c1, c2, c3⟩ := h.row 0 (by simp)
  simp only [List.getElem_cons_zero, Nat.zero_mul, Nat.zero_add] at c1
  have d3 := h.blk.cell 3
  simp only [List.getElem?_toArray, List.getElem?_cons_zero, List.getElem?_cons_succ, List.length_cons] at d3
  have HM := Lib.hid (made_log w g p gb cap name most _ synced h)
  clear h c0 c2 c3
  generalize ls.length = n at *
  go_enter Tryz.func15, Tryz.ntmps15
  go_wp2_with (go_at_call 32; refine HM.out.mono ?_; rintro e w1 ⟨rfl, rfl⟩)
  go_ret
  exact ⟨rfl, rfl⟩
theorem synced_log (w : World) (g p gb cap : Nat) (name : Tx) (most : Nat) (segs : List Sg) (synced : Nat) (h : LgC w g p gb cap name most segs synced) :
    Calls Tryz.prog 13 #[.pointer (some ⟨g, 0, none⟩)] w fun e w' => e = .returned (.int .i64 (synced : Int)) ∧ w = w' := by
  have d4 := h.blk.cell 4
  simp only [List.getElem?_toArray, List.getElem?_cons_zero, List.getElem?_cons_succ] at d4
  have HM := Lib.hid (made_log w g p gb cap name most _ synced h)
  clear h
  go_enter Tryz.func13, Tryz.ntmps13
  go_wp2_with (go_at_call 32; refine HM.out.mono ?_; rintro e w1 ⟨rfl, rfl⟩)
  go_ret
  exact ⟨rfl, rfl⟩

end Go.Proofs.YtjjfhbbaabakmaaGreatDoor.Wo

/-
  Plain mathematics of layer 4 (wal): what beginning a segment makes of a disk's files.
-/
namespace Go.Proofs.YtjjfhbbaabakmaaGreatDoor.Wq
set_option linter.unusedSimpArgs false
set_option linter.unusedVariables false
open Dm De Df Dg Dh Wf Wn Wg

theorem isIn_cons {L : List Fl} {f : Fl} {s : Tx} (h : isIn (f :: L) s = false) : f.n ≠ s ∧ isIn L s = false := by
  unfold isIn at h ⊢
  simp only [List.any_cons, Bool.or_eq_false_iff, beq_eq_false_iff_ne] at h
  exact h
theorem find_ins {x : Fl} : ∀ {L : List Fl}, isIn L x.n = false → find (ins x L) x.n = some x
  | [], _ => by simp [ins, find]
  | f :: L, h => by
    obtain ⟨h1, h2⟩ := isIn_cons h
    unfold ins
    split
    · have := find_ins (x := x) h2
      unfold find at this ⊢
      rw [List.find?_cons_of_neg (by simpa using h1)]
      exact this
    · simp [find]
theorem upd_ins {x : Fl} {g : Fl → Fl} (hg : (g x).n = x.n) : ∀ {L : List Fl}, isIn L x.n = false → upd (ins x L) x.n g = ins (g x) L
  | [], _ => by simp [ins, upd]
  | f :: L, h => by
    obtain ⟨h1, h2⟩ := isIn_cons h
    unfold ins
    rw [hg]
    split
    · have := upd_ins (g := g) hg h2
      unfold upd at this ⊢
      rw [List.map_cons, this, if_neg h1]
    · have : L.map (fun f => if f.n = x.n then g f else f) = L := by
        conv => rhs; rw [← List.map_id L]
        refine List.map_congr_left (fun f' hf => ?_)
        rw [if_neg]
        · rfl
        · intro e
          have := isIn_iff.2 ⟨f', hf, e⟩
          rw [this] at h2
          cases h2
      unfold upd
      rw [List.map_cons, List.map_cons, if_pos rfl, if_neg h1, this]
theorem del_same {s : Tx} {L : List Fl} (h : isIn L s = false) : del L s = L := by
  unfold del
  refine List.filter_eq_self.2 (fun f hf => ?_)
  simp only [Bool.not_eq_true', beq_eq_false_iff_ne]
  intro e
  rw [isIn_iff.2 ⟨f, hf, e⟩] at h
  cases h
theorem del_ins {x : Fl} : ∀ {L : List Fl}, isIn L x.n = false → del (ins x L) x.n = L
  | [], _ => by simp [ins, del]
  | f :: L, h => by
    obtain ⟨h1, h2⟩ := isIn_cons h
    unfold ins
    split
    · have := del_ins (x := x) h2
      unfold del at this ⊢
      rw [List.filter_cons_of_pos (by simpa using h1), this]
    · have := del_same h2
      unfold del at this ⊢
      rw [List.filter_cons_of_neg (by simp), List.filter_cons_of_pos (by simpa using h1), this]

/-- What begin makes of the files: with a head, or not at all. -/
def begS (L : List Fl) (room : Nat) (name : Tx) (number first : Nat) : List Fl × Nat :=
  if 9007199254740992 < first then (L, 6) else if 999999999999999 < number then (L, 6)
  else if isIn L (nm name number) then (L, 31) else if 64 ≤ L.length then (L, 6)
  else if room < (head first).length + used L then (L, 30) else (ins ⟨nm name number, head first, (head first).length⟩ L, 0)
theorem used_ins {x : Fl} {L : List Fl} : used (ins x L) = x.b.length + used L := by rw [used_perm (ins_perm x L)]; rfl

theorem beg_steps {L : List Fl} {room : Nat} {name : Tx} {number first : Nat} (h1 : ¬ 9007199254740992 < first) (h2 : ¬ 999999999999999 < number) :
    (∃ c, c ≠ 0 ∧ c < 100 ∧ createS L false (nm name number) = (L, c) ∧ begS L room name number first = (L, c)) ∨
    (∃ L1, createS L false (nm name number) = (L1, 0) ∧ ((appS L1 room false (nm name number) (head first) = (L1, 30) ∧ remS L1 false (nm name number) = (L, 0) ∧ begS L room name number first = (L, 30)) ∨
      ∃ L2 L3, appS L1 room false (nm name number) (head first) = (L2, 0) ∧ syncS L2 false (nm name number) = (L3, 0) ∧ begS L room name number first = (L3, 0) ∧ L3 = ins ⟨nm name number, head first, (head first).length⟩ L)) := by
  have hne := nm_ne name number
  unfold begS
  rw [if_neg h1, if_neg h2]
  by_cases hi : isIn L (nm name number) = true
  · refine .inl ⟨31, by omega, by omega, ?_, ?_⟩
    · simp [createS, hne, hi]
    · rw [if_pos hi]
  · have hi : isIn L (nm name number) = false := by simpa using hi
    by_cases h64 : 64 ≤ L.length
    · refine .inl ⟨6, by omega, by omega, ?_, ?_⟩
      · simp [createS, hne, hi, h64]
      · rw [if_neg (by rw [hi]; simp), if_pos h64]
    · refine .inr ⟨ins ⟨nm name number, [], 0⟩ L, ?_, ?_⟩
      · simp only [createS]
        rw [if_neg (by simp), if_neg hne, if_neg (by rw [hi]; simp), if_neg h64]
      · have hf := find_ins (x := ⟨nm name number, [], 0⟩) hi
        simp only at hf
        rw [if_neg (by rw [hi]; simp), if_neg h64]
        have ha : appS (ins ⟨nm name number, [], 0⟩ L) room false (nm name number) (head first) = putS (ins ⟨nm name number, [], 0⟩ L) room ⟨nm name number, [], 0⟩ 0 (head first) := by simp [appS, hf]
        have hu : used (ins ⟨nm name number, [], 0⟩ L) = used L := by rw [used_ins]; simp
        by_cases hr : room < (head first).length + used L
        · refine .inl ⟨?_, ?_, ?_⟩
          · rw [ha, putS, if_pos (by rw [hu]; simp; omega)]
          · simp only [remS, hf]
            rw [if_neg (by simp), del_ins (x := ⟨nm name number, [], 0⟩) hi]
          · rw [if_pos hr]
        · have hw : Db.wr [] 0 (head first) = head first := by simp [Db.wr]
          refine .inr ⟨ins ⟨nm name number, head first, 0⟩ L, ins ⟨nm name number, head first, (head first).length⟩ L, ?_, ?_, ?_, rfl⟩
          · rw [ha, putS, if_neg (by rw [hu]; simp; omega)]
            simp only [hw, Nat.min_zero]
            rw [upd_ins (x := ⟨nm name number, [], 0⟩) rfl hi]
            rfl
          · have hf2 := find_ins (x := ⟨nm name number, head first, 0⟩) hi
            simp only at hf2
            simp only [syncS, hf2]
            rw [if_neg (by simp), upd_ins (x := ⟨nm name number, head first, 0⟩) rfl hi]
            rfl
          · rw [if_neg hr]

end Go.Proofs.YtjjfhbbaabakmaaGreatDoor.Wq

/-
  Contract of layer 4's begin: another segment.
-/
namespace Go.Proofs.YtjjfhbbaabakmaaGreatDoor.Wr
set_option linter.unusedSimpArgs false
open Go Go.RowKit Ck Kw Ga Dm Dw Da Db Dc Dd De Df Dg Dh Wc Wf Wa Wb Wd Wn We Kx Wg Wh Wl Wj Wk Wo Wq
attribute [local go_sem ↓] Go.wp_at_zero Go.wp_at_succ
set_option linter.unusedVariables false

def segCells (s : Sg) (u : Value) : List Value := [.int .i64 (s.num : Int), .int .i64 (s.first : Int), .int .i64 (s.size : Int), u]
section
variable {w w' : World} {S T : Nat → Prop} {v v' u : Value} {segs : List Sg} {rv : List Value} {s : Sg}
/-- A segment more. -/
theorem Segs.push (h : Segs w S v segs rv) (hu : Rcs w S u s.recs) (hap : ∀ (k i : Nat) (u1 : Value), u.ownBlock = some k → rv[i]? = some u1 → u1.ownBlock ≠ some k) (hg : GoodS s)
    (ha : Appended w 0 76 4 v (segs.length + 1) (cellsS segs rv ++ segCells s u) v' w') : Segs w' (Up S w w') v' (segs ++ [s]) (rv ++ [u]) := by
  obtain ⟨ho, hgr, hloc⟩ := ha
  have cg : Ch (fun k => v.ownBlock = some k) w w' := Ch.of_grown hgr (fun g hg _ => hg)
  have hc : cellsS segs rv ++ segCells s u = cellsS (segs ++ [s]) (rv ++ [u]) := by rw [cellsS_app h.len]; rfl
  have hkeep : ∀ {x : Value} {rs : List Tx}, Rcs w S x rs → Rcs w' (Up S w w') x rs := fun {x rs} hx => by
    refine Rcs.weaken (hx.keep cg (fun k hk hv => ?_) (fun k b n y A cc hrow hk hv => row_far hrow h.row (by decide) hk hv)) (fun k hk => .inl hk)
    obtain ⟨vals, h1, _⟩ := hx
    exact row_far h1 h.row (by decide) hk hv
  refine ⟨by simp [h.len], by rw [List.length_append]; rw [hc] at ho; exact ho, fun k hk => ?_, fun i hi => ?_, fun i j u1 u2 k hij h1 h2 hk => ?_, fun x hx => ?_⟩
  · rcases hloc with hb | hb
    · rw [hb] at hk; exact .inl (h.own k hk)
    · rw [hb] at hk; injection hk with hk; exact .inr ⟨by omega, by have := (ho.lt _ hb).2; omega⟩
  · by_cases hlt : i < segs.length
    · obtain ⟨x, h1, h2⟩ := h.rcs i hlt
      rw [List.getElem_append_left hlt]
      exact ⟨x, by rw [List.getElem?_append_left (by rw [h.len]; exact hlt)]; exact h1, hkeep h2⟩
    · have hi' : i = segs.length := by rw [List.length_append] at hi; simp at hi; omega
      subst hi'
      rw [List.getElem_append_right (Nat.le_refl _)]
      simp only [Nat.sub_self, List.getElem_cons_zero]
      exact ⟨u, by rw [List.getElem?_append_right (by rw [h.len]; exact Nat.le_refl _), h.len]; simp, hkeep hu⟩
  · have hsplit : ∀ (i : Nat) (x : Value), (rv ++ [u])[i]? = some x → rv[i]? = some x ∨ (i = rv.length ∧ x = u) := fun i x hx => by
      by_cases hlt : i < rv.length
      · rw [List.getElem?_append_left hlt] at hx; exact .inl hx
      · rw [List.getElem?_append_right (by omega)] at hx
        have : i - rv.length = 0 := by have := (List.getElem?_eq_some_iff.1 hx).1; simp at this; omega
        rw [this] at hx
        exact .inr ⟨by omega, by simpa using hx.symm⟩
    rcases hsplit i u1 h1 with g1 | ⟨g1, rfl⟩ <;> rcases hsplit j u2 h2 with g2 | ⟨g2, rfl⟩
    · exact h.apart i j u1 u2 k hij g1 g2 hk
    · exact fun e => hap k i u1 e g1 hk
    · exact hap k j u2 hk g2
    · omega
  · rcases List.mem_append.1 hx with hx | hx
    · exact h.good x hx
    · rw [List.mem_singleton.1 hx]; exact hg
end
theorem seg_lit (w : World) (X : Nat → Prop) (t : TypeId) (s : Sg) (u : Value) (hX : ¬ X w.heap.size) : Sl (w.alloc (.cells (SgV s u) t)) X 4 (.slice (some ⟨w.heap.size, 0, none⟩) 1 1) 1 (segCells s u) := by
  refine ⟨_, _, rfl, rfl, Nat.le_refl _, by simp only [maxLen]; omega, fun _ => ⟨_, rfl, by simp, hX, fun j x hx => ?_⟩⟩
  have ha : (⟨w.heap.size, 0, none⟩ : Addr).add j = ⟨w.heap.size, j, none⟩ := by unfold Addr.add; split <;> simp_all
  rw [ha, Blk.cell (Blk.new w t _) j]
  simpa [SgV, segCells] using hx
theorem segCells_one (s : Sg) (A : Option Addr) (n c : Nat) : ∀ x ∈ segCells s (.slice A n c), x.oneCell' = true := by
  intro x hx
  simp only [segCells, List.mem_cons, List.not_mem_nil, or_false] at hx
  rcases hx with rfl | rfl | rfl | rfl <;> rfl
theorem info_segs : (Tryz.prog.info? 76).map (fun i => (i.zero, i.size, i.bytes)) = some (some (.agg #[.int .i64 0, .int .i64 0, .int .i64 0, .slice none 0 0]), 4, 48) := by kernel_rfl

end Go.Proofs.YtjjfhbbaabakmaaGreatDoor.Wr

/-
  Layer 4: slices.Delete of the first segment.
-/
namespace Go.Proofs.YtjjfhbbaabakmaaGreatDoor.Un
set_option linter.unusedSimpArgs false
open Go Go.RowKit Ck Kw Ga Dm Wj Wk Wr
attribute [local go_sem ↓] Go.wp_at_zero Go.wp_at_succ
set_option linter.unusedVariables false

theorem size_setCells (b : Nat) : ∀ (vs : List Value) (o : Nat) (w : World), (w.setCells b o vs).heap.size = w.heap.size
  | [], _, _ => rfl
  | v :: vs, o, w => by
    rw [World.setCells, size_setCells b vs]
    simp [World.setCell]
theorem os_setCells (w : World) (g o : Nat) (vs : List Value) : (w.setCells g o vs).os = w.os := (World.keptBut_setCells g (may := fun _ => True) vs o w (fun _ _ => trivial)).1
theorem output_setCells (w : World) (g o : Nat) (vs : List Value) : (w.setCells g o vs).output = w.output := (World.keptBut_setCells g (may := fun _ => True) vs o w (fun _ _ => trivial)).2.1
theorem heap_setCells_other (w : World) (g o : Nat) (vs : List Value) {i : Nat} (hi : i < w.heap.size) (hne : i ≠ g) : (w.setCells g o vs).heap[i]? = w.heap[i]? := by
  induction vs generalizing o w with
  | nil => rfl
  | cons v vs ih =>
    rw [World.setCells, ih _ _ (by simpa [World.setCell] using hi)]
    exact Below.heap_setCell w ⟨g, o, none⟩ v i hne
theorem ch_setCells (g : Nat) (w : World) (o : Nat) (vs : List Value) : Ch (fun q => q = g) w (w.setCells g o vs) :=
  ⟨os_setCells _ _ _ _, by
    induction vs generalizing o w with
    | nil => rfl
    | cons v vs ih => rw [World.setCells, ih]; rfl, output_setCells _ _ _ _, by rw [size_setCells]; exact Nat.le_refl _, fun i hi hn => heap_setCells_other _ _ _ _ hi hn⟩
theorem setCells_row {g : Nat} {t : TypeId} {fr : Nat × Nat} : ∀ (vs : List Value) (o : Nat) (w : World) (cur : Array Value), w.heap[g]? = some (.cells cur t fr) → o + vs.length ≤ cur.size →
    (w.setCells g o vs).heap[g]? = some (.cells (cur.toList.take o ++ vs ++ cur.toList.drop (o + vs.length)).toArray t fr)
  | [], o, w, cur, h, _ => by simp [World.setCells, h]
  | v :: vs, o, w, cur, h, hl => by
    simp only [List.length_cons] at hl
    have h1 : (w.setCell ⟨g, o, none⟩ v).heap[g]? = some (.cells (cur.setIfInBounds o v) t fr) := by simp [World.setCell, Array.getElem?_modify, h]
    rw [World.setCells, setCells_row vs (o + 1) _ _ h1 (by simp; omega)]
    have e1 : (cur.toList.set o v).take (o + 1) = cur.toList.take o ++ [v] := by
      rw [List.take_set, List.take_add_one]
      have : o < cur.toList.length := by simp; omega
      rw [List.getElem?_eq_getElem this]
      simp only [Option.toList]
      rw [List.set_append_right _ _ (by simp; omega)]
      have e : o - (cur.toList.take o).length = 0 := by simp; omega
      rw [e]; rfl
    have e2 : (cur.toList.set o v).drop (o + 1 + vs.length) = cur.toList.drop (o + (vs.length + 1)) := by
      rw [List.drop_set_of_lt (by omega)]
      congr 1; omega
    rw [Array.toList_setIfInBounds, e1, e2]
    simp
def zeroS : List Value := [.int .i64 0, .int .i64 0, .int .i64 0, .slice none 0 0]
theorem clear_one (w : World) (ty : TypeId) (b o c : Nat) (hc : ∀ j, j < 4 → (w.cell? ⟨b, o + j, none⟩).isSome = true) (hf : ∀ j, j < 4 → w.frozen? ⟨b, o + j, none⟩ = false) :
    (Builtin.clear_ #[62] ty #[.slice (some ⟨b, o, none⟩) 1 c]).run Tryz.prog w = .ok (.tuple #[]) (w.setCells b o zeroS) := by
  have hv : ∀ w, (zeroValue 76).run Tryz.prog w = .ok (.agg #[.int .i64 0, .int .i64 0, .int .i64 0, .slice none 0 0]) w := fun w => by kernel_rfl
  have hzc : (Builtin.zeroCells (Value.agg #[.int .i64 0, .int .i64 0, .int .i64 0, .slice none 0 0]).cells 1).toList = zeroS := by
    simp [Builtin.zeroCells, Value.cells, zeroS, Array.toList_ofFn]
    simp [List.range, List.range.loop]
  have hst := run_storeCells_cells (P := Tryz.prog) b o zeroS 0 w (by simpa [zeroS] using hc) (by simpa [zeroS] using hf) (by
    intro v hv'
    simp only [zeroS, List.mem_cons, List.not_mem_nil, or_false] at hv'
    rcases hv' with rfl | rfl | rfl | rfl <;> rfl)
  simp only [Nat.add_zero] at hst
  simp [Builtin.clear_, run_underlying Tryz.underlying62, hv, hzc, hst]
theorem del_end {w W1 : World} {g n c : Nat} {cur : Array Value} {vals news : List Value} (hr : w.heap[g]? = some (.cells cur 76 (0, 0))) (hW : W1 = w.drew.setCells g (0 + 0 * 4) news)
    (hr1 : W1.heap[g]? = some (.cells (cur.toList.take 0 ++ news ++ cur.toList.drop (0 + news.length)).toArray 76 (0, 0))) (hnews : news = vals.drop 4) (hlen : news.length = (n - 1) * 4) (hcl : cur.size = c * 4) (hvl : vals.length = n * 4) (hk : 1 ≤ n) (hnc : n ≤ c) (hcm : c ≤ maxLen) :
    ∃ v', Ending.returned (.slice (some ⟨g, 0, none⟩) (n - 1) c) = .returned v' ∧ (W1.setCells g ((n - 1) * 4) zeroS).ownsRow 0 76 4 v' (n - 1) (vals.drop 4) ∧ v'.ownBlock = (Value.slice (some ⟨g, 0, none⟩) n c).ownBlock ∧
      Ch (fun q => (Value.slice (some ⟨g, 0, none⟩) n c).ownBlock = some q) w (W1.setCells g ((n - 1) * 4) zeroS) := by
  have hr2 := setCells_row zeroS ((n - 1) * 4) W1 _ hr1 (by simp [zeroS]; omega)
  have c1 : Ch (fun q => q = g) w W1 := by
    have := ch_setCells g w.drew 0 news
    rw [hW]
    exact ⟨this.os, this.tape, this.output, this.size, this.block⟩
  refine ⟨_, rfl, ⟨by rw [← hnews, hlen], .inr ⟨g, c, _, rfl, Nat.zero_le _, hr2, by omega, hcm, ?_, ?_⟩⟩, rfl, ?_⟩
  · simp [zeroS]
    omega
  · rw [← hnews]
    simp only [List.take_zero, List.nil_append, Nat.zero_add, List.append_assoc]
    rw [List.take_append_of_le_length (by simp; omega), List.take_take, Nat.min_self, List.take_append_of_le_length (by omega), ← hlen, List.take_length]
  · refine (c1.trans (ch_setCells g W1 _ _) (fun _ _ h => h)).mono (fun q _ hq => ?_)
    subst hq
    rfl
set_option maxRecDepth 100000 in
set_option maxHeartbeats 1000000 in
theorem sdel_any (w : World) (v : Value) (n : Nat) (vals : List Value) (hown : w.ownsRow 0 76 4 v n vals) (hk : 2 ≤ n) (hn : n ≤ 1000) (h1 : ∀ u ∈ vals, u.oneCell' = true) :
    Calls Tryz.prog 41 #[v, .int .i64 0, .int .i64 1] w fun e w' => ∃ v', e = .returned v' ∧ w'.ownsRow 0 76 4 v' (n - 1) (vals.drop 4) ∧ v'.ownBlock = v.ownBlock ∧ Ch (fun q => v.ownBlock = some q) w w' := by
  obtain ⟨A, c, rfl⟩ := own_shape hown
  rcases hown.2 with ⟨_, h0'⟩ | ⟨g, cap, cur, hv, hg, hr, h2, h3, h4, h5⟩
  · omega
  · obtain ⟨e1, _, e3⟩ := Value.slice.inj hv
    subst e1; subst e3
    have hnc : n ≤ c := h2
    have hcm : c ≤ 1152921504606846975 ∨ True := .inr trivial
    obtain ⟨i0, hi0, hz0, hz1, hz2⟩ := info_parts info_segs
    have hvl : vals.length = n * 4 := hown.1
    have hcl : cur.size = c * 4 := h4
    obtain ⟨news, hnews⟩ : ∃ news, news = vals.drop 4 := ⟨_, rfl⟩
    have hlen : news.length = (n - 1) * 4 := by rw [hnews, List.length_drop, hvl]; omega
    have hsrc : Hid (∀ t u, news[t]? = some u → w.drew.cell? ((⟨g, 4, none⟩ : Addr).add t) = some u) := Lib.hid (fun t u hu => by
      have ht : t < (n - 1) * 4 := by
        have := (List.getElem?_eq_some_iff.1 hu).1
        rwa [hlen] at this
      rw [hnews, List.getElem?_drop] at hu
      have ha : (⟨g, 4, none⟩ : Addr).add t = ⟨g, 4 + t, none⟩ := by unfold Addr.add; split <;> simp_all
      rw [ha]
      show w.cell? _ = _
      rw [cell_of_row w g (4 + t) cur _ (0, 0) hr, ← hu, ← h5]
      rw [List.getElem?_take, if_pos (by omega)]
      simp)
    have HV := Lib.hid hnews
    have s1 : Hid (news.length = (n - 1) * 4) := Lib.hid hlen
    have s2 : Hid (∀ u ∈ news, u.oneCell' = true) := Lib.hid (by
      intro u hu
      rw [hnews] at hu
      exact h1 u (List.mem_of_mem_drop hu))
    have s3 : Hid (∀ t, t < news.length → (w.drew.cell? ⟨g, 0 + 0 * 4 + t, none⟩).isSome = true ∧ w.drew.frozen? ⟨g, 0 + 0 * 4 + t, none⟩ = false) := Lib.hid (by
      intro t ht
      rw [hlen] at ht
      constructor
      · show (w.cell? _).isSome = true
        rw [cell_of_row w g _ cur _ (0, 0) hr]
        simp; omega
      · show w.frozen? _ = false
        simp [World.frozen?, hr])
    obtain ⟨W1, hW1⟩ : ∃ W1, W1 = w.drew.setCells g (0 + 0 * 4) news := ⟨_, rfl⟩
    have hr1 : W1.heap[g]? = some (.cells (cur.toList.take 0 ++ news ++ cur.toList.drop (0 + news.length)).toArray 76 (0, 0)) := by
      rw [hW1]
      exact setCells_row news 0 w.drew cur hr (by omega)
    have hcl1 : ∀ ty, (Builtin.clear_ #[62] ty #[.slice (some ⟨g, (n - 1) * 4, none⟩) (n - (n - 1)) (c - (n - 1))]).run Tryz.prog W1 = .ok (.tuple #[]) (W1.setCells g ((n - 1) * 4) zeroS) :=
      fun ty => by
        have h4 : n - (n - 1) = 1 := by omega
        rw [h4]
        exact clear_one W1 ty g _ _ (fun t ht => by
          rw [cell_of_row W1 g _ _ _ (0, 0) hr1]
          simp
          omega) (fun t ht => by simp [World.frozen?, hr1])
    have HW : Hid (W1 = w.drew.setCells g (0 + 0 * 4) news) := Lib.hid hW1
    have HR1 := Lib.hid hr1
    have HR := Lib.hid (And.intro hr (And.intro hlen (And.intro hcl (And.intro h5 (And.intro hvl h3)))))
    have hkc : (1 : Int) ≤ (c : Int) := by omega
    have hkn : (1 : Int) ≤ (n : Int) := by omega
    clear hW1 hr1 hr hlen hcl h5 hvl hown h1 hnews h2 h3 h4
    go_enter Tryz.func41, Tryz.ntmps41
    go_wp2_with fail
    go_region_law ((refine step_append_room rfl (.tmp 22) (.tmp 25) 62 rfl 76 i0 4 Tryz.underlying62 hi0 hz1 g 0 0 c (by simp [Act.eval, Act.put]) ⟨g, 4, none⟩ (n - 1) (c - 1) news (by simp [Act.eval, Act.put]; omega) s1.out hsrc.out s2.out (by omega) s3.out ?_; rw [← HW.out]))
    go_wp2
    all_goals
      go_ret
      obtain ⟨q1, q2, q3, q4, q5, q6⟩ := HR.out
      exact del_end q1 HW.out HR1.out HV.out q2 q3 q5 (by omega) hnc q6
end Go.Proofs.YtjjfhbbaabakmaaGreatDoor.Un

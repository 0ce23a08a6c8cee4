/-
  Contracts of the program's disk: Create, Rename.
-/
import Derived.Test.YtncppflmpfefkaaDg
namespace Go.Proofs.Ytncppflmpfefkaa.Dh
open Go Go.RowKit Go.Maps Ck Kw Ga Dm Dw Da Db Dc Dd De Df Dg
attribute [local go_sem ↓] Go.wp_at_zero Go.wp_at_succ
set_option linter.unusedVariables false

theorem ins_perm (x : Fl) : ∀ L : List Fl, (ins x L).Perm (x :: L)
  | [] => List.Perm.refl _
  | f :: L => by
    rw [ins]
    split
    · exact ((ins_perm x L).cons f).trans (List.Perm.swap x f L)
    · exact List.Perm.refl _
theorem mem_ins {x f : Fl} {L : List Fl} : f ∈ ins x L ↔ f = x ∨ f ∈ L := by rw [(ins_perm x L).mem_iff, List.mem_cons]
theorem used_perm {L K : List Fl} (h : L.Perm K) : used L = used K := by
  induction h with
  | nil => rfl
  | cons x _ ih => simp only [used, ih]
  | swap x y l => simp only [used]; omega
  | trans _ _ h1 h2 => exact h1.trans h2
theorem isIn_ins (x : Fl) (L : List Fl) (t : Tx) : isIn (ins x L) t = (x.n == t || isIn L t) := by
  rw [Bool.eq_iff_iff, isIn_iff, Bool.or_eq_true, isIn_iff]
  constructor
  · rintro ⟨f, hf, rfl⟩
    rcases mem_ins.1 hf with rfl | hf
    · exact .inl (by simp)
    · exact .inr ⟨f, hf, rfl⟩
  · rintro (h | ⟨f, hf, rfl⟩)
    · exact ⟨x, mem_ins.2 (.inl rfl), by simpa using h⟩
    · exact ⟨f, mem_ins.2 (.inr hf), rfl⟩
theorem good_ins {L : List Fl} {room : Nat} (h : GoodL L room) {x : Fl} (hn : isIn L x.n = false) (hl : L.length < 64) (hu : x.b.length + used L ≤ room) (hx : x.n.length ≤ 140737488355328) (hd : x.d ≤ x.b.length) : GoodL (ins x L) room := by
  have hp := ins_perm x L
  refine ⟨?_, by rw [hp.length_eq, List.length_cons]; omega, by rw [used_perm hp]; exact hu, h.room, fun f hf => ?_, fun f hf => ?_⟩
  · rw [(hp.map (·.n)).nodup_iff, List.map_cons, List.nodup_cons]
    refine ⟨fun hm => ?_, h.nodup⟩
    obtain ⟨f, hf, e⟩ := List.mem_map.1 hm
    rw [isIn_iff.2 ⟨f, hf, e⟩] at hn
    cases hn
  · rcases mem_ins.1 hf with rfl | hf
    · exact hx
    · exact h.name f hf
  · rcases mem_ins.1 hf with rfl | hf
    · exact hd
    · exact h.done f hf

theorem names_perm {w : World} {m n : Nat} {D : DataW Unit} {L : List Fl} {G : Tx → Nat} (h : w.ownsMap Try.prog 9 ptrElem m n D) (hT : TellsD D L G) (hn : (L.map (·.n)).Nodup) : (L.map (·.n)).Perm (strKeys D) := by
  obtain ⟨es, hD, hpw, _⟩ := h.entries law_str
  obtain ⟨es', hD', hko⟩ := h.keysOf
  obtain rfl : es = es' := by rw [hD] at hD'; simpa using hD'
  subst hD
  refine perm_strKeys hpw (fun p hp => by obtain ⟨v, hv⟩ := hko p hp; obtain ⟨x, _, hx, _⟩ := Maps.keyOf_str Try.underlying9 hv; exact ⟨x, hx⟩) hn (fun x => ?_)
  rw [hT.1 x, isIn_iff, List.mem_map]
theorem size_names {w : World} {m n : Nat} {D : DataW Unit} {L : List Fl} {G : Tx → Nat} (h : w.ownsMap Try.prog 9 ptrElem m n D) (hT : TellsD D L G) (hn : (L.map (·.n)).Nodup) : Maps.size D = L.length := by
  have hp := (names_perm h hT hn).length_eq
  obtain ⟨es, rfl, _⟩ := h.entries law_str
  rw [List.length_map] at hp
  rw [hp]
  show es.length = (es.map _).length
  rw [List.length_map]
theorem own_tight {w : World} {m n : Nat} {D : DataW Unit} (h : w.ownsMap Try.prog 9 ptrElem m n D) : w.ownsMap Try.prog 9 ptrElem m (Maps.size D) D := by
  obtain ⟨es, clock, hb, F, hs, rfl⟩ := h
  exact ⟨es, clock, hb, F, by simp [Maps.size, length_sorted], rfl⟩

/-- A key more. -/
theorem has_put {D : DataW Unit} (hD : Maps.IsMap D) (t s : Tx) (d : DataW Unit) : Maps.has (D.put (.string t) d) (.string s) = (t == s || Maps.has D (.string s)) := by
  by_cases e : s = t
  · subst e
    rw [Maps.has_put_same hD (strKey s)]
    simp
  · rw [Maps.has_put_other (strKey_ne e)]
    have : (t == s) = false := by rw [beq_eq_false_iff_ne]; exact fun h => e h.symm
    rw [this, Bool.false_or]

def createS (L : List Fl) (off : Bool) (s : Tx) : List Fl × Nat :=
  if off then (L, 32) else if s = [] then (L, 1) else if isIn L s then (L, 31) else if 64 ≤ L.length then (L, 6) else (ins ⟨s, [], 0⟩ L, 0)

theorem parts_add {w w1 w2 : World} {S : Nat → Prop} {p m room g : Nat} {L : List Fl} {D : DataW Unit} {G : Tx → Nat} {T : Tx → Nat → Prop} {s : Tx} (h : Parts w S p m L room false D G T) (hs : s.length ≤ 140737488355328) (hi : isIn L s = false) (hl : L.length < 64)
    (hb : Below w.heap.size w w1) (hg : g = w.heap.size) (hk : Blk w1 g 73 #[.slice none 0 0, .int .i64 0]) (c : Ch (fun k => k = m) w1 w2) (ho : w2.ownsMap Try.prog 9 ptrElem m 64 (D.put (.string s) (.lit (.int .i64 (g : Int))))) :
    Parts w2 (Up S w w2) p m (ins ⟨s, [], 0⟩ L) room false (D.put (.string s) (.lit (.int .i64 (g : Int)))) (fun t => if t = s then g else G t) (fun t => if t = s then (fun k => k = g) else T t) := by
  have h1 := h.later hb
  have hs1 := hb.size
  have hs2 := c.size
  have hml : m < w.heap.size := h.own.lt
  have hpl : p < w.heap.size := h.blk.lt
  have hgl := hk.lt
  have hne : ∀ f ∈ L, f.n ≠ s := fun f hf e => by rw [isIn_iff.2 ⟨f, hf, e⟩] at hi; cases hi
  refine ⟨h1.blk.ch c (fun e => h.sm.2 e.symm), .inl h.sp, ho, ⟨fun t => ?_, fun f hf zd => ?_⟩, ⟨.inl h.sm.1, h.sm.2⟩, fun f hf => ?_, fun f hf k hk => ?_, fun f hf f' hf' hn k hk hk' => ?_, good_ins h.good hi hl (by simpa using h.good.fits) hs (Nat.zero_le _)⟩
  · rw [has_put h.own.isMap, isIn_ins, h.tells.1]
  · rcases mem_ins.1 hf with rfl | hf
    · rw [Maps.atKey_put_same h.own.isMap (strKey s)]
      simp
    · rw [Maps.atKey_put_other (strKey_ne (hne f hf))]
      simp only [if_neg (hne f hf)]
      exact h.tells.2 f hf zd
  · rcases mem_ins.1 hf with rfl | hf
    · simp only [if_pos]
      exact ⟨_, hk.ch c (fun e => by omega), World.ownsRow_nil _ _ _ _, rfl, fun k hk => by simp [Value.ownBlock] at hk, by simp, Nat.le_refl _⟩
    · simp only [if_neg (hne f hf)]
      exact (h1.file f hf).ch c (fun k hk e => (h1.sub f hf k hk).2.2.1 e)
  · rcases mem_ins.1 hf with rfl | hf
    · simp only [if_pos] at hk
      subst hk
      exact ⟨.inr ⟨by omega, by omega⟩, by omega, by omega, by omega⟩
    · simp only [if_neg (hne f hf)] at hk
      have := h.sub f hf k hk
      exact ⟨.inl this.1, this.2.1, this.2.2.1, by omega⟩
  · rcases mem_ins.1 hf with rfl | hf
    · rcases mem_ins.1 hf' with rfl | hf'
      · exact hn rfl
      · simp only [if_pos] at hk
        simp only [if_neg (hne f' hf')] at hk'
        have := (h.sub f' hf' k hk').2.2.2
        omega
    · simp only [if_neg (hne f hf)] at hk
      rcases mem_ins.1 hf' with rfl | hf'
      · simp only [if_pos] at hk'
        have := (h.sub f hf k hk).2.2.2
        omega
      · simp only [if_neg (hne f' hf')] at hk'
        exact h.apart f hf f' hf' hn k hk hk'

theorem str_ne {s : Tx} (h : s ≠ []) : s.isEmpty = false := by cases s with | nil => exact absurd rfl h | cons => rfl

set_option maxRecDepth 100000 in
set_option maxHeartbeats 1000000 in
theorem create_on (w : World) (S : Nat → Prop) (p : Nat) (L : List Fl) (room : Nat) (off : Bool) (s : Tx) (hs : s.length ≤ 140737488355328) (h : Dk w S p L room off) :
    Calls Try.prog 13 #[.pointer (some ⟨p, 0, none⟩), .string ⟨s.toArray⟩] w (Did S p (createS L off s) room off w) := by
  have HR := Lib.hid (ready_on w S p L room off h)
  have H := Lib.hid h
  cases off
  · by_cases h0 : s = []
    · subst h0
      clear h
      have e : createS L false [] = (L, 1) := rfl
      rw [e]
      go_enter Try.func13, Try.ntmps13
      go_wp2_with (go_at_call 49; refine HR.out.mono ?_; rintro e w' ⟨rfl, rfl⟩)
      go_ret
      exact did_refl H.out
    · obtain ⟨m, D, G, T, hP⟩ := h.opened
      have c0 : w.cell? ⟨p, 0, none⟩ = some (.map (some m)) := hP.blk.cell 0
      have e2 := run_look hP.own hP.tells s hs
      have hse := str_ne h0
      have hsz := size_names hP.own hP.tells hP.good.nodup
      have HP := Lib.hid hP
      by_cases hi : isIn L s = true
      · have e : createS L false s = (L, 31) := by rw [createS, if_neg (by simp), if_neg h0, if_pos hi]
        rw [e]
        rw [hi, if_pos rfl] at e2
        unfold PV at e2
        simp only [Option.map_some] at e2
        clear h hP hi e hsz h0
        go_enter Try.func13, Try.ntmps13
        go_wp2_with (go_at_call 49; refine HR.out.mono ?_; rintro e w' ⟨rfl, rfl⟩)
        go_ret
        exact did_refl H.out
      · have hi : isIn L s = false := by simpa using hi
        rw [hi, if_neg (by simp)] at e2
        unfold PV at e2
        simp only [Option.map_none] at e2
        by_cases hl : 64 ≤ L.length
        · have e : createS L false s = (L, 6) := by rw [createS, if_neg (by simp), if_neg h0, if_neg (by rw [hi]; simp), if_pos hl]
          rw [e]
          have hll : (64 : Int) ≤ (L.length : Int) := by omega
          have HSZ := Lib.hid hsz
          clear h hP hi e h0 hsz hl
          go_enter Try.func13, Try.ntmps13
          go_wp2_with (first
            | (go_at_call 49; refine HR.out.mono ?_; rintro e w' ⟨rfl, rfl⟩)
            | (at_len; refine wpList_len_own _ rfl _ 60 rfl 9 69 Try.underlying60 ptrElem m 64 D rfl HP.out.own ?_; rw [HSZ.out]))
          go_ret
          exact did_refl H.out
        · have e : createS L false s = (ins ⟨s, [], 0⟩ L, 0) := by rw [createS, if_neg (by simp), if_neg h0, if_neg (by rw [hi]; simp), if_neg hl]
          rw [e]
          have hll : (L.length : Int) < (64 : Int) := by omega
          have HSZ := Lib.hid hsz
          have HI := Lib.hid hi
          have HLL := Lib.hid hl
          have HK := Lib.hid (key_str s (by simp only [maxLen]; omega))
          have HT : Hid ((w.alloc (.cells #[.slice none 0 0, .int .i64 0] 73)).ownsMap Try.prog 9 ptrElem m (Maps.size D) D) := Lib.hid ((own_tight hP.own).alloc _)
          have hdl : Maps.size D < maxLen := by rw [hsz]; simp only [maxLen]; omega
          have HDL := Lib.hid hdl
          clear h hP hi e h0 hsz hl hdl
          go_enter Try.func13, Try.ntmps13
          go_wp2_with (first
            | (go_at_call 49; refine HR.out.mono ?_; rintro e w' ⟨rfl, rfl⟩)
            | (at_len; refine wpList_len_own _ rfl _ 60 rfl 9 69 Try.underlying60 ptrElem m 64 D rfl HP.out.own ?_; rw [HSZ.out])
            | (at_mapUpdate; refine wpList_mapUpdate_in (H := Unit) _ rfl _ _ _ 60 rfl 9 69 law_str Try.underlying60 ptrElem m (Maps.size D) D rfl HT.out HDL.out _ _ (.string s) rfl rfl HK.out (.lit (.int .i64 (w.heap.size : Int))) [] (ptrElem_mk _) ?_; intro w2 hmap2 hturn2))
          go_ret
          have hc : Ch (fun k => k = m) (w.alloc (.cells #[.slice none 0 0, .int .i64 0] 73)) w2 := Ch.of_grown hturn2.grown (fun g hg _ => (Option.some.inj hg).symm)
          have hb : Below w.heap.size w (w.alloc (.cells #[.slice none 0 0, .int .i64 0] 73)) := (Below.refl _ w).alloc (Nat.le_refl _) _
          have hP2 := parts_add HP.out hs HI.out (by have := HLL.out; omega) hb rfl (Blk.new _ _ _) hc (hmap2.mono (by have := HSZ.out; have := HLL.out; omega))
          exact ⟨rfl, hP2.shut, (Ch.of_below hb (Nat.le_refl _)).trans (hc.mono (T := S) (fun k _ hk => by rw [hk]; exact HP.out.sm.1)) (fun _ _ h => h)⟩
  · clear h
    have e : createS L true s = (L, 32) := rfl
    rw [e]
    go_enter Try.func13, Try.ntmps13
    go_wp2_with (go_at_call 49; refine HR.out.mono ?_; rintro e w' ⟨rfl, rfl⟩)
    go_ret
    exact did_refl H.out

end Go.Proofs.Ytncppflmpfefkaa.Dh

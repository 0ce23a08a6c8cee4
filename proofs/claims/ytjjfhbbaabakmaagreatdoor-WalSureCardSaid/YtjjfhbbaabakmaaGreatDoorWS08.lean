/-
  Bytes made out of a text, for any layer.
-/
import Derived.Test.YtjjfhbbaabakmaaGreatDoorWS02
import Derived.RegionTactic
import Derived.Lib.ConvBytes
import Derived.Test.YtjjfhbbaabakmaaGreatDoorWS07
namespace Go.Proofs.YtjjfhbbaabakmaaGreatDoor.Kx
set_option linter.unusedSimpArgs false
set_option linter.unusedVariables false
open Go Go.RowKit Ck Kw Ga
/-- v is new bytes, made out of a text. -/
def Out (w : World) (base : Nat) (v : Value) (l : List UInt8) : Prop :=
  ∃ (g cap : Nat) (cs : Array Value) (z : Nat), v = .slice (some ⟨g, 0, none⟩) l.length cap ∧ base ≤ g ∧ w.heap[g]? = some (.cells cs 5 (z, z + 1)) ∧ l.length ≤ z ∧ l.length ≤ cap ∧ cap ≤ maxLen ∧ ∀ (j : Nat) (u : Value), (BVs l)[j]? = some u → cs[j]? = some u
theorem Out.sl {w : World} {base : Nat} {v : Value} {l : List UInt8} {X : Nat → Prop} (h : Out w base v l) (hX : ∀ k, base ≤ k → k < w.heap.size → ¬ X k) : Sl w X 1 v l.length (BVs l) := by
  obtain ⟨g, cap, cs, z, rfl, hb, hg, hz, hc, hm, hx⟩ := h
  have hlt := (Array.getElem?_eq_some_iff.1 hg).1
  refine ⟨_, _, rfl, by simp [BVs_len], hc, hm, fun _ => ⟨_, rfl, hlt, hX g hb hlt, fun j u hu => ?_⟩⟩
  have ha : (⟨g, 0, none⟩ : Addr).add j = ⟨g, j, none⟩ := by unfold Addr.add; split <;> simp_all
  rw [ha]
  simp only [World.cell?, hg]
  exact hx j u hu
theorem Out.ch {w w' : World} {base : Nat} {v : Value} {l : List UInt8} {S : Nat → Prop} (h : Out w base v l) (c : Ch S w w') (hS : ∀ k, base ≤ k → k < w.heap.size → ¬ S k) : Out w' base v l := by
  obtain ⟨g, cap, cs, z, rfl, hb, hg, r⟩ := h
  exact ⟨g, cap, cs, z, rfl, hb, (c.block g (Array.getElem?_eq_some_iff.1 hg).1 (hS g hb (Array.getElem?_eq_some_iff.1 hg).1)).trans hg, r⟩
theorem Out.base {w : World} {base b' : Nat} {v : Value} {l : List UInt8} (h : Out w base v l) (hb : b' ≤ base) : Out w b' v l := by
  obtain ⟨g, cap, cs, z, hv, h1, r⟩ := h
  exact ⟨g, cap, cs, z, hv, Nat.le_trans hb h1, r⟩
theorem bytesWorld_below (w : World) (e : TypeId) (s : ByteArray) : Below w.heap.size w (Lib.bytesWorld w e s) := by
  refine ⟨?_, ?_, ?_, by rw [Lib.bytesWorld_size]; omega, fun k hk => Lib.bytesWorld_at_old w e s k hk⟩ <;>
    (unfold Lib.bytesWorld World.freeze; split <;> rfl)
theorem bytesWorld_out (w : World) (l : List UInt8) (hl : l.length ≤ 140737488355328) : Out (Lib.bytesWorld w 5 ⟨l.toArray⟩) w.heap.size (.slice (some ⟨w.heap.size, 0, none⟩) l.length (grownCap w l.length 0 5)) l := by
  have hge := grownCap_ge w l.length 0 5
  refine ⟨w.heap.size, _, _, _, rfl, Nat.le_refl _, Lib.bytesWorld_at_new w 5 ⟨l.toArray⟩, ?_, hge, grownCap_le_maxLen w _ _ _ (by simp only [maxLen]; omega), fun j u hu => ?_⟩
  · show l.length ≤ ((l.toArray.map fun b : UInt8 => Value.int .u8 b.toNat) ++ Array.replicate _ _).size
    simp
  · have hj : j < l.length := by have := (List.getElem?_eq_some_iff.1 hu).1; rwa [BVs_len] at this
    show ((l.toArray.map fun b : UInt8 => Value.int .u8 b.toNat) ++ Array.replicate _ _)[j]? = some u
    rw [Array.getElem?_append_left (by simpa using hj)]
    rw [BVs_get hj] at hu
    simpa [hj] using hu
theorem conv_bytes (l : List UInt8) (W : World) : (convert 9 32 (.string ⟨l.toArray⟩)).run Tryz.prog W = .ok (.slice (some ⟨W.heap.size, 0, none⟩) l.length (grownCap W l.length 0 5)) (Lib.bytesWorld W 5 ⟨l.toArray⟩) := by
  have := Lib.run_convert_string_bytes (P := Tryz.prog) W 9 32 5 ⟨l.toArray⟩ Tryz.underlying9 Tryz.underlying32 Tryz.underlying5
  have hs : (⟨l.toArray⟩ : ByteArray).size = l.length := by show l.toArray.size = _; simp
  rw [hs] at this
  exact this

end Go.Proofs.YtjjfhbbaabakmaaGreatDoor.Kx

/-
  Contracts of layer 4's small functions: heads, names that may be.
-/
namespace Go.Proofs.YtjjfhbbaabakmaaGreatDoor.Wg
set_option linter.unusedSimpArgs false
open Go Go.RowKit Go.Shelf Ck Kw Ga Dm Dw Da Db Dc Dd De Df Dg Wc Wf Wa Wb Wd Wn We Kx
attribute [local go_sem ↓] Go.wp_at_zero Go.wp_at_succ
set_option linter.unusedVariables false

/-- A segment's head. -/
def head (n : Nat) : Tx := frame (Cm.enc n)
/-- The number that a head tells; 0, if it tells none. -/
def fstOf (x : Tx) : Nat := if Cm.doneS (Cm.numS (x, 0) 9007199254740992).2 = 0 then (Cm.numS (x, 0) 9007199254740992).1 else 0
theorem fstOf_enc {n : Nat} (h : n ≤ 9007199254740992) : fstOf (Cm.enc n) = n := by
  have h1 := Cm.numS_enc (n := n) (m := 9007199254740992) (by omega) h []
  rw [List.append_nil] at h1
  unfold fstOf
  rw [h1]
  rfl
theorem head_len (n : Nat) : (head n).length ≤ 15 ∧ 6 ≤ (head n).length := by
  have h1 := Cm.enc_len n
  have h2 := frame_len (Cm.enc n)
  have h3 : (Cm.enc (Cm.enc n).length).length = 1 := by rw [Cm.enc_small (by omega)]; rfl
  unfold head
  omega

theorem wrap_u64 (n : Nat) (hn : n < 18446744073709551616) : IntKind.u64.wrap (n : Int) = (n : Int) := by
  simp [IntKind.wrap, IntKind.bits, IntKind.signed]
  omega
theorem head_big (w : World) (z : Int) (h : 9007199254740992 < z) : Calls Tryz.prog 63 #[.int .i64 z] w fun e w' => e = .returned (.tuple #[.slice none 0 0, .int .i64 6]) ∧ w = w' := by
  go_enter Tryz.func63, Tryz.ntmps63
  go_wp2
  go_ret2
  exact ⟨rfl, rfl⟩
set_option maxRecDepth 100000 in
set_option maxHeartbeats 1000000 in
theorem head_any (w : World) (n : Nat) (h : n ≤ 9007199254740992) : Calls Tryz.prog 63 #[.int .i64 (n : Int)] w fun e w' =>
    ∃ A c, e = .returned (.tuple #[.slice A (head n).length c, .int .i64 0]) ∧ w'.ownsRow w.heap.size 5 1 (.slice A (head n).length c) (head n).length (BVs (head n)) ∧ Below w.heap.size w w' := by
  have hl := Cm.enc_len n
  have hcv : IntKind.u64.wrap (n : Int) = (n : Int) := wrap_u64 n (by omega)
  have HL := Lib.hid hl
  clear hl
  go_enter Tryz.func63, Tryz.ntmps63
  go_wp2_with fail
  refine (Cb.putnum_any (fun _ => False) _ 0 [] n _ (Sl.nil _ _ _) (by omega) (by omega)).mono ?_
  rintro e w1 ⟨v1, rfl, ho1, hb1⟩
  obtain ⟨A1, c1, rfl⟩ := own_shape ho1
  rw [List.nil_append] at ho1 ⊢
  have HO := Lib.hid ho1
  have HB := Lib.hid hb1
  clear ho1 hb1
  go_wp2_with fail
  refine (frame_any _ (fun _ => False) A1 c1 (Cm.enc n) (Sl.of_own HO.out (fun _ _ _ h => h)) (by have := HL.out; omega)).mono ?_
  rintro e w2 ⟨A2, c2, rfl, ho2, hb2⟩
  have HO2 := Lib.hid ho2
  have HB2 := Lib.hid hb2
  clear ho2 hb2
  go_wp2_with fail
  go_ret2
  exact ⟨A2, c2, rfl, own_base HO2.out HB.out.size, HB.out.trans (HB2.out.mono HB.out.size)⟩

set_option maxRecDepth 100000 in
set_option maxHeartbeats 1000000 in
theorem first_any (w : World) (X : Nat → Prop) (A : Option Addr) (c : Nat) (x : Tx) (h : Sl w X 1 (.slice A x.length c) x.length (BVs x)) (hx : x.length ≤ 549755813888) :
    Calls Tryz.prog 71 #[.slice A x.length c] w fun e w' => e = .returned (.int .i64 (fstOf x : Int)) ∧ Below w.heap.size w w' := by
  have HS := Lib.hid h
  have hle := Cm.numS_le (x, 0) 9007199254740992
  clear h
  go_enter Tryz.func71, Tryz.ntmps71
  go_wp2_with fail
  refine (Ch.read_any _ X _ x.length x HS.out (Nat.le_trans hx (by omega))).mono ?_
  rintro e w2 ⟨g, rfl, hr2, hg2, hb2⟩
  have HR2 := Lib.hid hr2
  have HG2 := Lib.hid hg2
  have HB2 := Lib.hid hb2
  clear hr2 hg2 hb2
  go_wp2_with fail
  refine (Cg.num_any _ _ g _ HR2.out 9007199254740992).mono ?_
  rintro e w3 ⟨rfl, hg3, hr3⟩
  have HB3 : Hid (Below w.heap.size w w3) := Lib.hid (HB2.out.grown hg3 HB2.out.size (fun k hk => by injection hk with hk; subst hk; exact HG2.out))
  have HD := Lib.hid (Ch.done_any _ _ g _ hr3)
  clear hg3 hr3
  obtain ⟨nn, hnn⟩ : ∃ nn, nn = (Cm.numS (x, 0) 9007199254740992).1 := ⟨_, rfl⟩
  obtain ⟨dn, hdn⟩ : ∃ dn, dn = Cm.doneS (Cm.numS (x, 0) 9007199254740992).2 := ⟨_, rfl⟩
  rw [← hdn] at HD
  rw [← hnn] at hle ⊢
  have HF : Hid (fstOf x = if dn = 0 then nn else 0) := Lib.hid (by rw [hnn, hdn]; rfl)
  clear hnn hdn
  by_cases h0 : dn = 0
  · subst h0
    go_wp2_with (go_at_call 91; refine HD.out.mono ?_; rintro e w4 ⟨rfl, rfl⟩)
    go_ret
    exact ⟨by rw [HF.out]; rfl, HB3.out⟩
  · have h1 : (dn == 0) = false := by rw [beq_eq_false_iff_ne]; exact h0
    have HF2 : Hid (fstOf x = 0) := Lib.hid (by rw [HF.out, if_neg h0])
    clear HF
    go_wp2_with (go_at_call 91; refine HD.out.mono ?_; rintro e w4 ⟨rfl, rfl⟩)
    go_ret
    exact ⟨by rw [HF2.out]; rfl, HB3.out⟩

/-- A log may have that name. -/
def okName (s : Tx) : Bool := s.all (fun c => decide (97 ≤ c.toNat) && decide (c.toNat ≤ 122)) && decide (1 ≤ s.length) && decide (s.length ≤ 16)

def okC (c : UInt8) : Bool := decide (97 ≤ c.toNat) && decide (c.toNat ≤ 122)
theorem okName_of {s : Tx} : okName s = (s.all okC && decide (1 ≤ s.length) && decide (s.length ≤ 16)) := rfl

set_option maxRecDepth 100000 in
set_option maxHeartbeats 1000000 in
theorem isname_any (w : World) (s : Tx) (hs : s.length ≤ 140737488351232) : Calls Tryz.prog 26 #[.string ⟨s.toArray⟩] w fun e w' => e = .returned (.bool (okName s)) ∧ Below w.heap.size w w' := by
  have hconv := conv_bytes s
  have R := bytesWorld_out w s (by omega)
  have RB := bytesWorld_below w 5 ⟨s.toArray⟩
  have hsz : (ByteArray.mk s.toArray).size = s.length := by show s.toArray.size = _; simp
  have HSZ := Lib.hid hsz
  clear hsz
  go_enter Tryz.func26, Tryz.ntmps26
  go_wp2
  generalize Lib.bytesWorld w 5 ⟨s.toArray⟩ = w1 at R RB ⊢
  generalize grownCap w s.length 0 5 = cp at R ⊢
  have hsl : Sl w1 (fun _ => False) 1 (.slice (some ⟨w.heap.size, 0, none⟩) s.length cp) s.length (BVs s) := R.sl (fun _ _ _ h => h)
  have HSL := Lib.hid hsl
  have HRB := Lib.hid RB
  clear hconv R RB hsl
  go_loop [8] (fun i => ∃ k : Nat, k ≤ s.length ∧ i = .int .i64 k ∧ (s.take k).all okC = true) (fun i => s.length - (intOf i).toNat)
  case atStart => exact ⟨0, Nat.zero_le _, rfl, rfl⟩
  case round =>
    obtain ⟨k, hk, rfl, hall⟩ := hrel
    have HA := Lib.hid hall
    clear hall
    by_cases hlt : k < s.length
    · obtain ⟨ad, hA, hcell⟩ := Cf.Sl_at HSL.out hlt
      injection hA with hA
      subst hA
      have ha : (⟨w.heap.size, 0, none⟩ : Addr).add k = ⟨w.heap.size, k, none⟩ := by unfold Addr.add; split <;> simp_all
      rw [ha] at hcell
      clear ha
      have hbl := s[k].toNat_lt
      have HT := Lib.hid (List.take_succ_eq_append_getElem hlt)
      by_cases hc : okC s[k] = true
      · have hc2 := hc
        simp only [okC, Bool.and_eq_true, decide_eq_true_eq] at hc2
        obtain ⟨c1, c2⟩ := hc2
        have HC := Lib.hid hc
        have d1 : ¬ (s[k].toNat : Int) < 97 := by omega
        have d2 : ¬ 122 < (s[k].toNat : Int) := by omega
        clear hc
        go_wp2
        go_round
        case rel => exact ⟨k + 1, by omega, by go_num, by rw [HT.out, List.all_append, HA.out]; simpa using HC.out⟩
        case measure => simp [intOf]; omega
      · have hno : okName s = false := by
          cases h : okName s with
          | false => rfl
          | true =>
            rw [okName_of] at h
            simp only [Bool.and_eq_true, List.all_eq_true] at h
            exact absurd (h.1.1 _ (List.getElem_mem hlt)) hc
        have HNO := Lib.hid hno
        have hc2 : okC s[k] = false := by simpa using hc
        simp only [okC, Bool.and_eq_false_iff, decide_eq_false_iff_not] at hc2
        clear hc hno
        by_cases d1 : (s[k].toNat : Int) < 97
        · go_wp2
          go_ret
          exact ⟨by rw [HNO.out]; rfl, HRB.out⟩
        · have d2 : 122 < (s[k].toNat : Int) := by omega
          clear hc2
          go_wp2
          go_ret
          exact ⟨by rw [HNO.out]; rfl, HRB.out⟩
    · have hall : s.all okC = true := by have := HA.out; rwa [List.take_of_length_le (by omega)] at this
      have hok : okName s = (decide (1 ≤ s.length) && decide (s.length ≤ 16)) := by rw [okName_of, hall]; rfl
      have HOK := Lib.hid hok
      have hsz : (ByteArray.mk s.toArray).size = s.length := HSZ.out
      clear hok hall
      by_cases h1 : 1 ≤ s.length
      · by_cases h16 : s.length ≤ 16
        · have HV : Hid (okName s = true) := Lib.hid (by rw [HOK.out]; simp [h1, h16])
          have hd : decide ((s.length : Int) ≤ 16) = true := decide_eq_true (by omega)
          go_wp2
          go_ret
          exact ⟨by rw [HV.out, ← hd]; rfl, HRB.out⟩
        · have HV : Hid (okName s = false) := Lib.hid (by rw [HOK.out]; simp [h16])
          have hd : decide ((s.length : Int) ≤ 16) = false := decide_eq_false (by omega)
          go_wp2
          go_ret
          exact ⟨by rw [HV.out, ← hd]; rfl, HRB.out⟩
      · have HV : Hid (okName s = false) := Lib.hid (by rw [HOK.out]; simp [h1])
        go_wp2
        go_ret
        exact ⟨by rw [HV.out]; rfl, HRB.out⟩

end Go.Proofs.YtjjfhbbaabakmaaGreatDoor.Wg

/-
  Contracts of the program's disk: Create, Rename.
-/
namespace Go.Proofs.YtjjfhbbaabakmaaGreatDoor.Dh
set_option linter.unusedSimpArgs false
open Go Go.RowKit Go.Maps Ck Kw Ga Dm Dw Da Db Dc Dd De Df Dg
attribute [local go_sem ↓] Go.wp_at_zero Go.wp_at_succ
set_option linter.unusedVariables false

theorem ins_perm (x : Fl) : ∀ L : List Fl, (ins x L).Perm (x :: L)
  | [] => List.Perm.refl _
  | f :: L => by
    rw [ins]
    split
    · exact ((ins_perm x L).cons f).trans (List.Perm.swap x f L)
    · exact List.Perm.refl _
theorem mem_ins {x f : Fl} {L : List Fl} : f ∈ ins x L ↔ f = x ∨ f ∈ L := by rw [(ins_perm x L).mem_iff, List.mem_cons]
theorem used_perm {L K : List Fl} (h : L.Perm K) : used L = used K := by
  induction h with
  | nil => rfl
  | cons x _ ih => simp only [used, ih]
  | swap x y l => simp only [used]; omega
  | trans _ _ h1 h2 => exact h1.trans h2
theorem isIn_ins (x : Fl) (L : List Fl) (t : Tx) : isIn (ins x L) t = (x.n == t || isIn L t) := by
  rw [Bool.eq_iff_iff, isIn_iff, Bool.or_eq_true, isIn_iff]
  constructor
  · rintro ⟨f, hf, rfl⟩
    rcases mem_ins.1 hf with rfl | hf
    · exact .inl (by simp)
    · exact .inr ⟨f, hf, rfl⟩
  · rintro (h | ⟨f, hf, rfl⟩)
    · exact ⟨x, mem_ins.2 (.inl rfl), by simpa using h⟩
    · exact ⟨f, mem_ins.2 (.inr hf), rfl⟩
theorem good_ins {L : List Fl} {room : Nat} (h : GoodL L room) {x : Fl} (hn : isIn L x.n = false) (hl : L.length < 64) (hu : x.b.length + used L ≤ room) (hx : x.n.length ≤ 140737488355328) (hd : x.d ≤ x.b.length) : GoodL (ins x L) room := by
  have hp := ins_perm x L
  refine ⟨?_, by rw [hp.length_eq, List.length_cons]; omega, by rw [used_perm hp]; exact hu, h.room, fun f hf => ?_, fun f hf => ?_⟩
  · rw [(hp.map (·.n)).nodup_iff, List.map_cons, List.nodup_cons]
    refine ⟨fun hm => ?_, h.nodup⟩
    obtain ⟨f, hf, e⟩ := List.mem_map.1 hm
    rw [isIn_iff.2 ⟨f, hf, e⟩] at hn
    cases hn
  · rcases mem_ins.1 hf with rfl | hf
    · exact hx
    · exact h.name f hf
  · rcases mem_ins.1 hf with rfl | hf
    · exact hd
    · exact h.done f hf

theorem names_perm {w : World} {m n : Nat} {D : DataW Unit} {L : List Fl} {G : Tx → Nat} (h : w.ownsMap Tryz.prog 9 ptrElem m n D) (hT : TellsD D L G) (hn : (L.map (·.n)).Nodup) : (L.map (·.n)).Perm (strKeys D) := by
  obtain ⟨es, hD, hpw, _⟩ := h.entries law_str
  obtain ⟨es', hD', hko⟩ := h.keysOf
  obtain rfl : es = es' := by rw [hD] at hD'; simpa using hD'
  subst hD
  refine perm_strKeys hpw (fun p hp => by obtain ⟨v, hv⟩ := hko p hp; obtain ⟨x, _, hx, _⟩ := Maps.keyOf_str Tryz.underlying9 hv; exact ⟨x, hx⟩) hn (fun x => ?_)
  rw [hT.1 x, isIn_iff, List.mem_map]
theorem size_names {w : World} {m n : Nat} {D : DataW Unit} {L : List Fl} {G : Tx → Nat} (h : w.ownsMap Tryz.prog 9 ptrElem m n D) (hT : TellsD D L G) (hn : (L.map (·.n)).Nodup) : Maps.size D = L.length := by
  have hp := (names_perm h hT hn).length_eq
  obtain ⟨es, rfl, _⟩ := h.entries law_str
  rw [List.length_map] at hp
  rw [hp]
  show es.length = (es.map _).length
  rw [List.length_map]
theorem own_tight {w : World} {m n : Nat} {D : DataW Unit} (h : w.ownsMap Tryz.prog 9 ptrElem m n D) : w.ownsMap Tryz.prog 9 ptrElem m (Maps.size D) D := by
  obtain ⟨es, clock, hb, F, hs, rfl⟩ := h
  exact ⟨es, clock, hb, F, by simp [Maps.size, length_sorted], rfl⟩

/-- A key more. -/
theorem has_put {D : DataW Unit} (hD : Maps.IsMap D) (t s : Tx) (d : DataW Unit) : Maps.has (D.put (.string t) d) (.string s) = (t == s || Maps.has D (.string s)) := by
  by_cases e : s = t
  · subst e
    rw [Maps.has_put_same hD (strKey s)]
    simp
  · rw [Maps.has_put_other (strKey_ne e)]
    have : (t == s) = false := by rw [beq_eq_false_iff_ne]; exact fun h => e h.symm
    rw [this, Bool.false_or]

def createS (L : List Fl) (off : Bool) (s : Tx) : List Fl × Nat :=
  if off then (L, 32) else if s = [] then (L, 1) else if isIn L s then (L, 31) else if 64 ≤ L.length then (L, 6) else (ins ⟨s, [], 0⟩ L, 0)

theorem parts_add {w w1 w2 : World} {S : Nat → Prop} {p m room g : Nat} {L : List Fl} {D : DataW Unit} {G : Tx → Nat} {T : Tx → Nat → Prop} {s : Tx} (h : Parts w S p m L room false D G T) (hs : s.length ≤ 140737488355328) (hi : isIn L s = false) (hl : L.length < 64)
    (hb : Below w.heap.size w w1) (hg : g = w.heap.size) (hk : Blk w1 g 87 #[.slice none 0 0, .int .i64 0]) (c : Ch (fun k => k = m) w1 w2) (ho : w2.ownsMap Tryz.prog 9 ptrElem m 64 (D.put (.string s) (.lit (.int .i64 (g : Int))))) :
    Parts w2 (Up S w w2) p m (ins ⟨s, [], 0⟩ L) room false (D.put (.string s) (.lit (.int .i64 (g : Int)))) (fun t => if t = s then g else G t) (fun t => if t = s then (fun k => k = g) else T t) := by
  have h1 := h.later hb
  have hs1 := hb.size
  have hs2 := c.size
  have hml : m < w.heap.size := h.own.lt
  have hpl : p < w.heap.size := h.blk.lt
  have hgl := hk.lt
  have hne : ∀ f ∈ L, f.n ≠ s := fun f hf e => by rw [isIn_iff.2 ⟨f, hf, e⟩] at hi; cases hi
  refine ⟨h1.blk.ch c (fun e => h.sm.2 e.symm), .inl h.sp, ho, ⟨fun t => ?_, fun f hf zd => ?_⟩, ⟨.inl h.sm.1, h.sm.2⟩, fun f hf => ?_, fun f hf k hk => ?_, fun f hf f' hf' hn k hk hk' => ?_, good_ins h.good hi hl (by simpa using h.good.fits) hs (Nat.zero_le _)⟩
  · rw [has_put h.own.isMap, isIn_ins, h.tells.1]
  · rcases mem_ins.1 hf with rfl | hf
    · rw [Maps.atKey_put_same h.own.isMap (strKey s)]
      simp
    · rw [Maps.atKey_put_other (strKey_ne (hne f hf))]
      simp only [if_neg (hne f hf)]
      exact h.tells.2 f hf zd
  · rcases mem_ins.1 hf with rfl | hf
    · simp only [if_pos]
      exact ⟨_, hk.ch c (fun e => by omega), World.ownsRow_nil _ _ _ _, rfl, fun k hk => by simp [Value.ownBlock] at hk, by simp, Nat.le_refl _⟩
    · simp only [if_neg (hne f hf)]
      exact (h1.file f hf).ch c (fun k hk e => (h1.sub f hf k hk).2.2.1 e)
  · rcases mem_ins.1 hf with rfl | hf
    · simp only [if_pos] at hk
      subst hk
      exact ⟨.inr ⟨by omega, by omega⟩, by omega, by omega, by omega⟩
    · simp only [if_neg (hne f hf)] at hk
      have := h.sub f hf k hk
      exact ⟨.inl this.1, this.2.1, this.2.2.1, by omega⟩
  · rcases mem_ins.1 hf with rfl | hf
    · rcases mem_ins.1 hf' with rfl | hf'
      · exact hn rfl
      · simp only [if_pos] at hk
        simp only [if_neg (hne f' hf')] at hk'
        have := (h.sub f' hf' k hk').2.2.2
        omega
    · simp only [if_neg (hne f hf)] at hk
      rcases mem_ins.1 hf' with rfl | hf'
      · simp only [if_pos] at hk'
        have := (h.sub f hf k hk).2.2.2
        omega
      · simp only [if_neg (hne f' hf')] at hk'
        exact h.apart f hf f' hf' hn k hk hk'

theorem str_ne {s : Tx} (h : s ≠ []) : s.isEmpty = false := by cases s with | nil => exact absurd rfl h | cons => rfl

set_option maxRecDepth 100000 in
set_option maxHeartbeats 1000000 in
theorem create_on (w : World) (S : Nat → Prop) (p : Nat) (L : List Fl) (room : Nat) (off : Bool) (s : Tx) (hs : s.length ≤ 140737488355328) (h : Dk w S p L room off) :
    Calls Tryz.prog 64 #[.pointer (some ⟨p, 0, none⟩), .string ⟨s.toArray⟩] w (Did S p (createS L off s) room off w) := by
  have HR := Lib.hid (ready_on w S p L room off h)
  have H := Lib.hid h
  cases off
  · by_cases h0 : s = []
    · subst h0
      clear h
      have e : createS L false [] = (L, 1) := rfl
      rw [e]
      go_enter Tryz.func64, Tryz.ntmps64
      go_wp2_with (go_at_call 42; refine HR.out.mono ?_; rintro e w' ⟨rfl, rfl⟩)
      go_ret
      exact did_refl H.out
    · obtain ⟨m, D, G, T, hP⟩ := h.opened
      have c0 : w.cell? ⟨p, 0, none⟩ = some (.map (some m)) := hP.blk.cell 0
      have e2 := run_look hP.own hP.tells s hs
      have hse := str_ne h0
      have hsz := size_names hP.own hP.tells hP.good.nodup
      have HP := Lib.hid hP
      by_cases hi : isIn L s = true
      · have e : createS L false s = (L, 31) := by rw [createS, if_neg (by simp), if_neg h0, if_pos hi]
        rw [e]
        rw [hi, if_pos rfl] at e2
        unfold PV at e2
        simp only [Option.map_some] at e2
        clear h hP hi e hsz h0
        go_enter Tryz.func64, Tryz.ntmps64
        go_wp2_with (go_at_call 42; refine HR.out.mono ?_; rintro e w' ⟨rfl, rfl⟩)
        go_ret
        exact did_refl H.out
      · have hi : isIn L s = false := by simpa using hi
        rw [hi, if_neg (by simp)] at e2
        unfold PV at e2
        simp only [Option.map_none] at e2
        by_cases hl : 64 ≤ L.length
        · have e : createS L false s = (L, 6) := by rw [createS, if_neg (by simp), if_neg h0, if_neg (by rw [hi]; simp), if_pos hl]
          rw [e]
          have hll : (64 : Int) ≤ (L.length : Int) := by omega
          have HSZ := Lib.hid hsz
          clear h hP hi e h0 hsz hl
          go_enter Tryz.func64, Tryz.ntmps64
          go_wp2_with (first
            | (go_at_call 42; refine HR.out.mono ?_; rintro e w' ⟨rfl, rfl⟩)
            | (at_len; refine wpList_len_own _ rfl _ 57 rfl 9 81 Tryz.underlying57 ptrElem m 64 D rfl HP.out.own ?_; rw [HSZ.out]))
          go_ret
          exact did_refl H.out
        · have e : createS L false s = (ins ⟨s, [], 0⟩ L, 0) := by rw [createS, if_neg (by simp), if_neg h0, if_neg (by rw [hi]; simp), if_neg hl]
          rw [e]
          have hll : (L.length : Int) < (64 : Int) := by omega
          have HSZ := Lib.hid hsz
          have HI := Lib.hid hi
          have HLL := Lib.hid hl
          have HK := Lib.hid (key_str s (by simp only [maxLen]; omega))
          have HT : Hid ((w.alloc (.cells #[.slice none 0 0, .int .i64 0] 87)).ownsMap Tryz.prog 9 ptrElem m (Maps.size D) D) := Lib.hid ((own_tight hP.own).alloc _)
          have hdl : Maps.size D < maxLen := by rw [hsz]; simp only [maxLen]; omega
          have HDL := Lib.hid hdl
          clear h hP hi e h0 hsz hl hdl
          go_enter Tryz.func64, Tryz.ntmps64
          go_wp2_with (first
            | (go_at_call 42; refine HR.out.mono ?_; rintro e w' ⟨rfl, rfl⟩)
            | (at_len; refine wpList_len_own _ rfl _ 57 rfl 9 81 Tryz.underlying57 ptrElem m 64 D rfl HP.out.own ?_; rw [HSZ.out])
            | (at_mapUpdate; refine wpList_mapUpdate_in (H := Unit) _ rfl _ _ _ 57 rfl 9 81 law_str Tryz.underlying57 ptrElem m (Maps.size D) D rfl HT.out HDL.out _ _ (.string s) rfl rfl HK.out (.lit (.int .i64 (w.heap.size : Int))) [] (ptrElem_mk _) ?_; intro w2 hmap2 hturn2))
          go_ret
          have hc : Ch (fun k => k = m) (w.alloc (.cells #[.slice none 0 0, .int .i64 0] 87)) w2 := Ch.of_grown hturn2.grown (fun g hg _ => (Option.some.inj hg).symm)
          have hb : Below w.heap.size w (w.alloc (.cells #[.slice none 0 0, .int .i64 0] 87)) := (Below.refl _ w).alloc (Nat.le_refl _) _
          have hP2 := parts_add HP.out hs HI.out (by have := HLL.out; omega) hb rfl (Blk.new _ _ _) hc (hmap2.mono (by have := HSZ.out; have := HLL.out; omega))
          exact ⟨rfl, hP2.shut, (Ch.of_below hb (Nat.le_refl _)).trans (hc.mono (T := S) (fun k _ hk => by rw [hk]; exact HP.out.sm.1)) (fun _ _ h => h)⟩
  · clear h
    have e : createS L true s = (L, 32) := rfl
    rw [e]
    go_enter Tryz.func64, Tryz.ntmps64
    go_wp2_with (go_at_call 42; refine HR.out.mono ?_; rintro e w' ⟨rfl, rfl⟩)
    go_ret
    exact did_refl H.out

end Go.Proofs.YtjjfhbbaabakmaaGreatDoor.Dh

/-
  Contract of the program's disk: Crash.
-/
namespace Go.Proofs.YtjjfhbbaabakmaaGreatDoor.Dj
set_option linter.unusedSimpArgs false
open Go Go.RowKit Go.Maps Ck Kw Ga Dm Dw Da Db Dc Dd De Df Dg Dh
attribute [local go_sem ↓] Go.wp_at_zero Go.wp_at_succ
set_option linter.unusedVariables false

theorem ranges_ch {H : Type} {P : Program} {k : TypeId} {R : Value → Option (DataW H × List MemPlace)} {w w' : World} {S : Nat → Prop} {b r n cnt : Nat} {D : DataW H} {left : Lit → Bool} (h : w.ranges P k R b r n D left cnt) (c : Ch S w w') (hb : ¬ S b) (hr : ¬ S r) : w'.ranges P k R b r n D left cnt := by
  have h1 := h.owns.lt
  have h2 := h.lt
  obtain ⟨es, clock, since, seen, c0, e1, e2, e3, e4, e5, rest⟩ := h
  exact ⟨es, clock, since, seen, c0, (c.block b h1 hb).trans e1, e2, e3, e4, (c.block r h2 hr).trans e5, rest⟩

theorem size_any (w : World) (z : Int) (h : -9223372036854775808 ≤ z) (h' : z ≤ 9223372036854775807) : Calls Tryz.prog 44 #[.int .i64 z] w fun e w' => e = .returned (.int .i64 (Dm.size z : Int)) ∧ w = w' := by
  by_cases h0 : z = -9223372036854775808
  · subst h0
    go_enter Tryz.func44, Tryz.ntmps44
    go_wp2
    go_ret
    exact ⟨rfl, rfl⟩
  · have hb : (z == -9223372036854775808) = false := by rw [beq_eq_false_iff_ne]; exact h0
    have hw : IntKind.i64.wrap (-z) = -z := wrap64 (by omega) (by omega)
    have hm : max z (-z) = (Dm.size z : Int) := by unfold Dm.size; rw [if_neg h0]; omega
    have HM := Lib.hid hm
    clear hm h h'
    go_enter Tryz.func44, Tryz.ntmps44
    go_wp2
    go_ret
    refine ⟨?_, rfl⟩
    rw [← HM.out]
    rfl

theorem parts_lt {w : World} {S S' : Nat → Prop} {p m room : Nat} {L : List Fl} {off : Bool} {D : DataW Unit} {G : Tx → Nat} {T : Tx → Nat → Prop} (h : Parts w S p m L room off D G T) (hS : ∀ k, k < w.heap.size → S k → S' k) : Parts w S' p m L room off D G T :=
  ⟨h.blk, hS _ h.blk.lt h.sp, h.own, h.tells, ⟨hS _ h.own.lt h.sm.1, h.sm.2⟩, h.file, fun f hf k hk => ⟨hS _ (h.sub f hf k hk).2.2.2 (h.sub f hf k hk).1, (h.sub f hf k hk).2⟩, h.apart, h.good⟩

/-- Some files torn, and some still to come. -/
def mix (k : Nat) (left : Lit → Bool) (L : List Fl) : List Fl := L.map (fun f => if left (.string f.n) then f else tear k f)
theorem mix_all {k : Nat} {left : Lit → Bool} {L : List Fl} (h : ∀ f ∈ L, left (.string f.n) = true) : mix k left L = L := by
  unfold mix
  rw [List.map_congr_left (g := id) (fun f hf => by rw [if_pos (h f hf)]; rfl), List.map_id]
theorem mix_none {k : Nat} {left : Lit → Bool} {L : List Fl} (h : ∀ s : Tx, left (.string s) = false) : mix k left L = L.map (tear k) := by
  unfold mix
  exact List.map_congr_left (fun f hf => by rw [if_neg (by rw [h]; simp)])
theorem mix_step {k : Nat} {left : Lit → Bool} {L : List Fl} (hn : (L.map (·.n)).Nodup) {f : Fl} (hf : f ∈ L) : mix k (fun z => left z && !z.sameKey (.string f.n)) L = upd (mix k left L) f.n (setf (tear k f).b (tear k f).d) := by
  unfold mix upd
  rw [List.map_map]
  refine List.map_congr_left (fun g hg => ?_)
  have e : (if left (.string g.n) then g else tear k g).n = g.n := by split <;> rfl
  simp only [Function.comp, e, sameKey_str]
  by_cases h : g.n = f.n
  · rw [if_pos h, nodup_eq hn hg hf h]
    simp only [beq_self_eq_true, Bool.not_true, Bool.and_false, Bool.false_eq_true, if_false]
    unfold setf
    split <;> rfl
  · have hb : (g.n == f.n) = false := by rw [beq_eq_false_iff_ne]; exact h
    rw [if_neg h, hb]
    simp
theorem mix_used {k : Nat} {left : Lit → Bool} {L : List Fl} : used (mix k left L) ≤ used L :=
  used_map (fun f hf => by
    split
    · exact Nat.le_refl _
    · unfold tear; simp only [List.length_take]; omega)

def crashS (L : List Fl) (off : Bool) (z : Int) : List Fl × Nat := if off then (L, 32) else (L.map (tear (Dm.size z)), 0)

set_option maxRecDepth 100000 in
set_option maxHeartbeats 2000000 in
theorem crash_on (w : World) (S : Nat → Prop) (p : Nat) (L : List Fl) (room : Nat) (off : Bool) (z : Int) (hz : -9223372036854775808 ≤ z) (hz' : z ≤ 9223372036854775807) (h : Dk w S p L room off) :
    Calls Tryz.prog 16 #[.pointer (some ⟨p, 0, none⟩), .int .i64 z] w (Did S p (crashS L off z) room true w) := by
  have HR := Lib.hid (ready_on w S p L room off h)
  have H := Lib.hid h
  cases off
  · have e : crashS L false z = (L.map (tear (Dm.size z)), 0) := rfl
    rw [e]
    clear e
    obtain ⟨m, D, G, T, hP⟩ := h.opened
    have c0 : w.cell? ⟨p, 0, none⟩ = some (.map (some m)) := hP.blk.cell 0
    have hin : ∀ f ∈ L, Maps.has D (.string f.n) = true := fun f hf => by rw [hP.tells.1]; exact isIn_iff.2 ⟨f, hf, rfl⟩
    have hst := mix_all (k := Dm.size z) hin
    have HP := Lib.hid hP
    have HS := Lib.hid hst
    have HZ := Lib.hid (And.intro hz hz')
    clear h hP hin hst hz hz'
    go_enter Tryz.func16, Tryz.ntmps16
    go_wp2_with (first
      | (go_at_call 42; refine HR.out.mono ?_; rintro e w' ⟨rfl, rfl⟩)
      | (at_range; refine wpList_range_own _ rfl _ 57 rfl 9 81 law_str Tryz.underlying57 _ m 64 D rfl HP.out.own ?_; intro w0 hrg0 hg0 hs0))
    have hb0 : Below w.heap.size w w0 := below_of_grown hg0 (fun k hk => by cases hk)
    have hP0 : Parts w0 (fun k => Up S w w0 k ∧ k ≠ w.heap.size) p m L room false D G T :=
      parts_lt ((parts_lt HP.out (S' := fun k => S k ∧ k ≠ w.heap.size) (fun k hk hs => ⟨hs, by omega⟩)).later hb0) (fun k _ hk => ⟨.inl hk.1, hk.2⟩)
    clear hg0
    go_frame
    go_loopw [7] (fun _ wr => ∃ (left : Lit → Bool) (cnt : Nat) (T' : Tx → Nat → Prop), Parts wr (fun k => Up S w wr k ∧ k ≠ w.heap.size) p m (mix (Dm.size z) left L) room false D G T' ∧ wr.ranges Tryz.prog 9 ptrElem m w.heap.size 64 D left cnt ∧ Ch S w wr)
      (fun _ wr => wr.rangeLeft m w.heap.size)
    case atStart => exact ⟨_, _, T, by rw [HS.out]; exact hP0, hrg0, Ch.of_below hb0 (Nat.le_refl _)⟩
    case round =>
      obtain ⟨left, cnt, T', hPr, hrg, hcw⟩ := hrel
      have hT : TellsD D L G := HP.out.tells
      go_wp2_with (at_next; refine wpList_next_files _ rfl _ rfl m w.heap.size 64 D left cnt L G HP.out.tells rfl hrg ?_ ?_)
      · intro h0
        rw [mix_none h0] at hPr
        have c2 := hPr.blk.cell 2
        have c0 := hPr.blk.cell 0
        have f2 := hPr.blk.frozen 2
        simp only [List.getElem?_toArray, List.getElem?_cons_zero, List.getElem?_cons_succ] at c2
        have HPr := Lib.hid hPr
        clear hPr hrg
        go_wp2
        go_ret
        refine ⟨rfl, (HPr.out.set_off true).shut.weaken (fun k hk => ?_), hcw.setCell (fun _ => HP.out.sp) _⟩
        rcases hk.1 with hk | ⟨g1, g2⟩
        · exact .inl hk
        · exact .inr ⟨g1, by simpa [World.setCell] using g2⟩
      · intro f w1 cnt1 hf hl hrg1 hlt hg1 hs1 hen
        have hc1 : Ch (fun k => k = w.heap.size) _ w1 := Ch.of_grown hg1 (fun g hg _ => (Option.some.inj hg).symm)
        have hsw := hcw.size
        have hrlt : w.heap.size < w1.heap.size := hrg1.lt
        have hP1 : Parts w1 (fun k => Up S w w1 k ∧ k ≠ w.heap.size) p m (mix (Dm.size z) left L) room false D G T' :=
          parts_lt (hPr.ch hc1 (fun k hk e => hk.2 e)) (fun k _ hk => ⟨up_mono (by omega) hk.1, hk.2⟩)
        have hfm : f ∈ mix (Dm.size z) left L := List.mem_map.2 ⟨f, hf, by rw [if_pos hl]⟩
        have hcw1 : Ch S w w1 := hcw.trans hc1 (fun k hk e => by omega)
        have HP1 := Lib.hid hP1
        have HFM := Lib.hid hfm
        have HL := Lib.hid hl
        have HR1 := Lib.hid hrg1
        have HRO := Lib.hid hrg
        have HC1 := Lib.hid hcw1
        have HLT := Lib.hid (And.intro hlt hrlt)
        clear hP1 hfm hl hPr hrg1 hrg hcw1 hcw hc1 hsw hrlt hlt hg1 hs1
        go_wp2_with (first
          | (go_at_call 44; refine (size_any _ z HZ.out.1 HZ.out.2).mono ?_; rintro e w' ⟨rfl, rfl⟩)
          | (go_at_call 43; refine (ftear_any _ _ _ _ _ (Dm.size z) (HP1.out.file f HFM.out)).mono ?_; rintro e w2 ⟨rfl, hF2, hC2⟩))
        have hu : used (upd (mix (Dm.size z) left L) f.n (setf (tear (Dm.size z) f).b (tear (Dm.size z) f).d)) ≤ room := by
          rw [← mix_step HP.out.good.nodup hf]
          exact Nat.le_trans mix_used HP.out.good.fits
        have hP2 := parts_put HP1.out HFM.out (b := (tear (Dm.size z) f).b) (d := (tear (Dm.size z) f).d) hF2 hC2 hu
        rw [← mix_step HP.out.good.nodup hf] at hP2
        have hrt : ¬ T' f.n w.heap.size := fun hk => (HP1.out.sub f HFM.out _ hk).1.2 rfl
        have hrg2 := ranges_ch HR1.out hC2 (fun hk => (HP1.out.sub f HFM.out _ hk).2.2.1 rfl) hrt
        have hs2 := hC2.size
        have hP3 : Parts w2 (fun k => Up S w w2 k ∧ k ≠ w.heap.size) p m (mix (Dm.size z) (fun z => left z && !z.sameKey (.string f.n)) L) room false D G _ := parts_lt hP2 (fun k _ hk => by
          rcases hk with hk | ⟨g1, g2⟩
          · exact ⟨up_mono hs2 hk.1, hk.2⟩
          · have := HLT.out.2
            exact ⟨.inr ⟨by omega, g2⟩, by omega⟩)
        have hc2 : Ch S w w2 := HC1.out.trans hC2 (fun k hk ht => by
          rcases (HP1.out.sub f HFM.out k ht).1.1 with h | ⟨g1, _⟩
          · exact h
          · omega)
        go_roundw
        case rel => exact ⟨_, cnt1, _, hP3, hrg2, hc2⟩
        case measure => rw [hrg2.left_eq, HRO.out.left_eq]; exact HLT.out.1
  · clear h
    have e : crashS L true z = (L, 32) := rfl
    rw [e]
    go_enter Tryz.func16, Tryz.ntmps16
    go_wp2_with (go_at_call 42; refine HR.out.mono ?_; rintro e w' ⟨rfl, rfl⟩)
    go_ret
    exact did_refl H.out

end Go.Proofs.YtjjfhbbaabakmaaGreatDoor.Dj

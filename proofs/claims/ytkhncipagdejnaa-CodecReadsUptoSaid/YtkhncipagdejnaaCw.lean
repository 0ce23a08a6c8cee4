/-
  The walk of the statement CodecNone: a reader that no call made; memory that is another one's.
-/
import Derived.Test.YtkhncipagdejnaaCv
namespace Go.Proofs.Ytkhncipagdejnaa.Cw
open Go Go.RowKit Ck Ca Cb Cc Cd Ce Cf Cg Ch Ci Cj Cn Co Cp Cq Cr Cu Cv

/-- A reader that no call made: nil, or a zero struct. -/
def BadR (w : World) (v : Value) : Prop := v = .pointer none ∨ ∃ g, v = P_ g ∧ Blk w g 53 #[.bool false, .slice none 0 0, .int .i64 0]

theorem err_bad (w : World) (v : Value) (h : BadR w v) : Calls Try.prog 20 #[v] w fun e w' => e = .returned (.int .i64 2) ∧ w = w' := by
  rcases h with rfl | ⟨g, rfl, hb⟩
  · go_enter Try.func20, Try.ntmps20
    go_wp2
    go_ret
    exact ⟨rfl, rfl⟩
  · have h0 := hb.cell 0
    simp only [List.getElem?_toArray, List.getElem?_cons_zero] at h0
    clear hb
    go_enter Try.func20, Try.ntmps20
    go_wp2
    go_ret
    exact ⟨rfl, rfl⟩
theorem reads_bad (w : World) (v : Value) (h : BadR w v) : Calls Try.prog 41 #[v] w fun e w' => e = .returned (.bool false) ∧ w = w' := by
  go_enter Try.func41, Try.ntmps41
  go_wp2_with (go_at_call 20; refine (err_bad _ v h).mono ?_; rintro e w1 ⟨rfl, rfl⟩)
  go_ret
  exact ⟨rfl, rfl⟩
theorem fail_bad (w : World) (v : Value) (h : BadR w v) (e0 : Int) : Calls Try.prog 27 #[v, .int .i64 e0] w fun e w' => e = .returned (.tuple #[]) ∧ w = w' := by
  go_enter Try.func27, Try.ntmps27
  go_wp2_with (go_at_call 41; refine (reads_bad _ v h).mono ?_; rintro e w1 ⟨rfl, rfl⟩)
  go_end0
  exact ⟨rfl, rfl⟩
theorem num_bad (w : World) (v : Value) (h : BadR w v) (m : Int) : Calls Try.prog 24 #[v, .int .u64 m] w fun e w' => e = .returned (.int .u64 0) ∧ w = w' := by
  go_enter Try.func24, Try.ntmps24
  go_wp2_with (go_at_call 41; refine (reads_bad _ v h).mono ?_; rintro e w1 ⟨rfl, rfl⟩)
  go_ret
  exact ⟨rfl, rfl⟩
theorem length_bad (w : World) (v : Value) (h : BadR w v) : Calls Try.prog 43 #[v, .int .i64 1] w fun e w' => e = .returned (.int .i64 0) ∧ w = w' := by
  go_enter Try.func43, Try.ntmps43
  go_wp2_with (go_at_call 24; refine (num_bad _ v h _).mono ?_; rintro e w1 ⟨rfl, rfl⟩)
  go_ret
  exact ⟨rfl, rfl⟩
theorem take_bad (w : World) (v : Value) (h : BadR w v) (m : Int) : Calls Try.prog 28 #[v, .int .i64 m] w fun e w' => e = .returned (.slice none 0 0) ∧ w = w' := by
  go_enter Try.func28, Try.ntmps28
  go_wp2_with (go_at_call 41; refine (reads_bad _ v h).mono ?_; rintro e w1 ⟨rfl, rfl⟩)
  go_ret
  exact ⟨rfl, rfl⟩
theorem bytes_bad (w : World) (v : Value) (h : BadR w v) : Calls Try.prog 29 #[v, .int .i64 1] w fun e w' => e = .returned (.slice none 0 0) ∧ w = w' := by
  go_enter Try.func29, Try.ntmps29
  go_wp2_with (first
    | (go_at_call 43; refine (length_bad _ v h).mono ?_; rintro e w1 ⟨rfl, rfl⟩)
    | (go_at_call 28; refine (take_bad _ v h _).mono ?_; rintro e w1 ⟨rfl, rfl⟩))
  go_ret
  exact ⟨rfl, rfl⟩
theorem list_bad (w : World) (v : Value) (h : BadR w v) : Calls Try.prog 26 #[v, .int .i64 1, .int .i64 1] w fun e w' => e = .returned (.slice none 0 0) ∧ w = w' := by
  go_enter Try.func26, Try.ntmps26
  go_wp2_with (go_at_call 43; refine (length_bad _ v h).mono ?_; rintro e w1 ⟨rfl, rfl⟩)
  refine wp_loop_rounds 1 ?_
  rw [rounds_succ]
  go_wp2
  go_ret
  exact ⟨rfl, rfl⟩
theorem left_bad (w : World) (v : Value) (h : BadR w v) : Calls Try.prog 21 #[v] w fun e w' => e = .returned (.int .i64 0) ∧ w = w' := by
  go_enter Try.func21, Try.ntmps21
  go_wp2_with (go_at_call 41; refine (reads_bad _ v h).mono ?_; rintro e w1 ⟨rfl, rfl⟩)
  go_ret
  exact ⟨rfl, rfl⟩
theorem done_bad (w : World) (v : Value) (h : BadR w v) : Calls Try.prog 22 #[v] w fun e w' => e = .returned (.int .i64 2) ∧ w = w' := by
  go_enter Try.func22, Try.ntmps22
  go_wp2_with (first
    | (go_at_call 41; refine (reads_bad _ v h).mono ?_; rintro e w1 ⟨rfl, rfl⟩)
    | (go_at_call 20; refine (err_bad _ v h).mono ?_; rintro e w1 ⟨rfl, rfl⟩))
  go_ret
  exact ⟨rfl, rfl⟩

/-- append where the operation is guarded and the guard says yes. -/
theorem wpList_append_want {P : Program} (w : World) {ops : Array Oper} {rest : List Oper} {o : Oper} {a : Act} {Q : Exit → Act → World → Prop} (hw : Region.wanted o (yielded ops a.tmps) = true) (s x : Operand) (t : TypeId)
    (ho : o.op = .call { callee := .builtin .append, args := #[s, x], argTypes := #[t, t] })
    (base : Nat) (e : TypeId) (i : TypeInfo) (z : Value) (size bytes : Nat) (ht : P.underlying t = some (.slice e)) (hi : P.info? e = some i) (hz : i.zero = some z)
    (hsize : i.size = size) (hby : i.bytes = bytes) (hzs : z.cells.size = size) (hsz : 0 < size)
    (v : Value) (n : Nat) (xs : List Value) (hs : a.eval s = v) (hown : w.ownsRow base e size v n xs)
    (X : Nat → Prop) (src : Value) (m : Nat) (news : List Value) (hx : a.eval x = src) (hr : Sl w X size src m news) (h1 : ∀ u ∈ news, u.oneCell' = true)
    (h63 : n + m ≤ maxLen) (hbytes : (n + m) * bytes ≤ 140737488355328) (hbase : base ≤ w.heap.size)
    (h : ∀ v' w', Appended w base e size v (n + m) (xs ++ news) v' w' → wpList P ops Q rest (a.put o.dst v') w') : wpList P ops Q (o :: rest) a w := by
  refine BigFrame.wpList_want hw fun K hK => ?_
  obtain ⟨v', w', hrun, h2⟩ := run_append_sl (P := P) w base t o.type e i z size bytes ht hi hz hsize hby hzs hsz v n xs hown X src m news hr h1 h63 hbytes hbase
  unfold Oper.wp execOp
  simp only [ho, resolve, invoke, builtin, Sem.run_bind, Sem.run_pure, Result.andThen_ok, List.map_toArray, List.map_cons, List.map_nil, hs, hx, hrun]
  exact hK _ _ (h v' w' h2)

theorem takeS_all (b : List UInt8) : Cm.takeS (b, 0) (b.length : Int) = (b, ([], 0)) := by
  rw [Cm.takeS, if_neg (by simp), if_neg (by omega), if_neg (by simp), Int.toNat_natCast]
  simp
theorem xor_byte (x : UInt8) : ∃ y : UInt8, bits .xor .u8 (x.toNat : Int) 255 = (y.toNat : Int) := by
  have hx := x.toNat_lt
  have h := u8_xor_nat x.toNat 255 (by omega) (by omega)
  have hl : x.toNat ^^^ 255 < 2 ^ 8 := Nat.xor_lt_two_pow (by omega) (by omega)
  exact ⟨UInt8.ofNat (x.toNat ^^^ 255), by rw [Cm.toNat_ofNat (by omega)]; exact h⟩
theorem own_at {w : World} {base : Nat} {t : TypeId} {v : Value} {l : List UInt8} {k : Nat} (h : w.ownsRow base t 1 v l.length (BVs l)) (hk : k < l.length) : ∃ g c, v = .slice (some ⟨g, 0, none⟩) l.length c ∧ base ≤ g ∧ w.cell? ⟨g, k, none⟩ = some (.int .u8 (l[k].toNat : Int)) ∧ w.frozen? ⟨g, k, none⟩ = false ∧
    ∀ y : UInt8, (w.setCell ⟨g, k, none⟩ (.int .u8 (y.toNat : Int))).ownsRow base t 1 v l.length (BVs (l.set k y)) ∧ w.grownBy (w.setCell ⟨g, k, none⟩ (.int .u8 (y.toNat : Int))) (some g) := by
  obtain ⟨g, c, rfl, hb, _⟩ := h.form (by omega)
  refine ⟨g, c, rfl, hb, ?_, h.frozenAt k, fun y => ?_⟩
  · rw [h.cellAt k (by omega), BVs_get hk]
  · have h2 := h.stored k (.int .u8 (y.toNat : Int))
    have e : BVs (l.set k y) = (BVs l).set k (.int .u8 (y.toNat : Int)) := by simp [BVs, BV, List.map_set]
    rw [e]
    exact h2

set_option maxRecDepth 100000 in
set_option maxHeartbeats 3200000 in
theorem none_any (w : World) (X : Nat → Prop) (A : Option Addr) (c : Nat) (b : List UInt8) (n : Nat) (hv : Sl w X 1 (.slice A b.length c) b.length (BVs b)) (hbl : b.length ≤ 1073741824) (hn : n < 18446744073709551616) :
    Calls Try.prog 7 #[.slice A b.length c, .int .u64 n] w fun e w' => e = .returned (.bool true) ∧ Below w.heap.size w w' := by
  obtain ⟨i0, hi0, hz0, hz1, hz2⟩ := info_parts info_u8
  go_enter Try.func7, Try.ntmps7
  go_wp2_with fail
  refine (live_any _).mono ?_
  rintro e w1 ⟨rfl, hb1⟩
  go_wp2_with fail
  obtain ⟨W0, hW0⟩ : ∃ W0, W0 = (w1.alloc (.cells #[.bool false, .slice none 0 0, .int .i64 0] 53)).alloc (.cells #[.pointer none, .pointer (some ⟨w1.heap.size, 0, none⟩)] 34) := ⟨_, rfl⟩
  have B0 : Below w.heap.size w W0 := by rw [hW0]; exact (hb1.alloc hb1.size _).alloc (by have := hb1.size; simp; omega) _
  have hz : Blk W0 w1.heap.size 53 #[.bool false, .slice none 0 0, .int .i64 0] := by rw [hW0]; exact (Blk.new _ _ _).alloc _
  have hp : Blk W0 (w1.heap.size + 1) 34 #[.pointer none, .pointer (some ⟨w1.heap.size, 0, none⟩)] := by rw [hW0]; exact Blk.new_at (by simp) rfl
  have hbad : ∀ k : Nat, k < 2 → ∃ p, W0.cell? ⟨w1.heap.size + 1, k, none⟩ = some p ∧ BadR W0 p := by
    intro k hk
    rcases (show k = 0 ∨ k = 1 from by omega) with rfl | rfl
    · exact ⟨_, hp.cell 0, .inl rfl⟩
    · exact ⟨_, hp.cell 1, .inr ⟨_, rfl, hz⟩⟩
  have HB := Lib.hid hbad
  clear hbad hz hp
  rw [← hW0]
  have HW := Lib.hid hW0
  clear hW0
  go_loop [22] (fun i => ∃ k : Nat, k ≤ 2 ∧ i = .int .i64 k) (fun i => 2 - (intOf i).toNat)
  case atStart => exact ⟨0, by omega, rfl⟩
  case round =>
    obtain ⟨k, hk, rfl⟩ := hrel
    by_cases hlt : k < 2
    · obtain ⟨p, hcell, hbad⟩ := HB.out k hlt
      go_wp2_with fail
      refine (fail_bad _ p hbad 10).mono ?_
      rintro e w2 ⟨rfl, rfl⟩
      go_wp2_with fail
      refine (num_bad _ p hbad 9).mono ?_
      rintro e w2 ⟨rfl, rfl⟩
      go_wp2_with fail
      refine (take_bad _ p hbad 0).mono ?_
      rintro e w2 ⟨rfl, rfl⟩
      go_wp2_with fail
      refine (bytes_bad _ p hbad).mono ?_
      rintro e w2 ⟨rfl, rfl⟩
      go_wp2_with fail
      refine (list_bad _ p hbad).mono ?_
      rintro e w2 ⟨rfl, rfl⟩
      go_wp2_with fail
      refine (left_bad _ p hbad).mono ?_
      rintro e w2 ⟨rfl, rfl⟩
      go_wp2_with fail
      refine (err_bad _ p hbad).mono ?_
      rintro e w2 ⟨rfl, rfl⟩
      go_wp2_with fail
      refine (done_bad _ p hbad).mono ?_
      rintro e w2 ⟨rfl, rfl⟩
      go_wp2_with fail
      go_round
      case rel => exact ⟨k + 1, by omega, by go_num⟩
      case measure => simp [intOf]; omega
    · have hk2 : 2 ≤ k := by omega
      clear hlt hk HB HW
      go_wp2_with (first
        | (refine wpList_make_own _ rfl _ _ 22 rfl W0.heap.size 5 i0 _ 1 Try.underlying22 hi0 hz0 hz1 .i64 .i64 _ (b.length + 40) rfl rfl (by omega) (by rw [hz2]; omega) (by simp only [maxLen]; omega) (Nat.le_refl _) ?_; intro wa howna hga)
        | (at_builtin; refine wpList_append_sl _ rfl (.tmp 68) (.tmp 69) _ rfl W0.heap.size 5 i0 _ 1 1 Try.underlying22 hi0 hz0 hz1 hz2 rfl (by omega) (.slice (some ⟨W0.heap.size, 0, none⟩) 0 (b.length + 40)) 0 [] rfl howna X _ b.length (BVs b) rfl ((hv.after B0).grown hga (by simp)) (BVs_one b) (by simp only [maxLen]; omega) (by omega) hga.size ?_; intro vr w2 happ))
      have hown2 : w2.ownsRow W0.heap.size 5 1 vr b.length (BVs b) := by simpa using happ.1
      have C2 : Below W0.heap.size W0 w2 := (below_of_grown hga (by simp)).grown happ.2.1 hga.size (by simp [Value.ownBlock])
      have B2 : Below w.heap.size w w2 := B0.trans (C2.mono B0.size)
      clear happ howna hga
      obtain ⟨Ar, cr, rfl⟩ := own_shape hown2
      have SR : Sl w2 (fun k => w2.heap.size ≤ k) 1 (.slice Ar b.length cr) b.length (BVs b) := (Sl.of_own (X := fun _ => False) hown2 (fun _ _ _ h => h)).old' (Nat.le_refl _)
      refine (clone_any X _ b.length b _ (hv.after B2) (by omega)).mono ?_
      rintro e w3 ⟨vw, rfl, hown3, hb3⟩
      have SR3 := SR.after hb3
      have SW : Sl w3 (fun k => w3.heap.size ≤ k) 1 vw b.length (BVs b) := (Sl.of_own (X := fun _ => False) hown3 (fun _ _ _ h => h)).old' (Nat.le_refl _)
      have B3 : Below w.heap.size w w3 := B2.trans (hb3.mono B2.size)
      go_wp2_with fail
      refine (putnum_any _ _ b.length b n _ SR3 (by omega) hn).mono ?_
      rintro e w4 ⟨v1, rfl, hown4, hb4⟩
      have B4 : Below w.heap.size w w4 := B3.trans (hb4.mono B3.size)
      have SR4 := SR3.after hb4
      have SW4 := SW.after hb4
      go_wp2_with fail
      refine (putnum_any _ _ b.length b (n / 2) _ SR4 (by omega) (by omega)).mono ?_
      rintro e w5 ⟨v2, rfl, hown5, hb5⟩
      have B5 : Below w.heap.size w w5 := B4.trans (hb5.mono B4.size)
      have SR5 := SR4.after hb5
      have SW5 := SW4.after hb5
      have ST : Sl w5 (fun k => k < w4.heap.size ∨ w5.heap.size ≤ k) 1 v2 _ (BVs (b ++ Cm.enc (n / 2))) := (Sl.of_own (X := fun k => k < w4.heap.size) hown5 (fun k h1 _ h2 => by omega)).old (Nat.le_refl _)
      go_wp2_with fail
      refine (read_any _ _ _ b.length b SR5 (by omega)).mono ?_
      rintro e w6 ⟨g, rfl, hcr6, hg6, hb6⟩
      go_wp2_with fail
      refine (take_any _ _ g _ hcr6 (b.length : Int) (by simp only; omega)).mono ?_
      rintro e w7 ⟨v3, rfl, hown7, hg7, hcr7⟩
      rw [takeS_all] at hown7
      simp only at hown7
      clear hcr7 hcr6
      have C7 : Below w5.heap.size w5 w7 := below_of_grown (grown_step (grown_of_below hb6 none) hg7 (.inr fun k hk => by injection hk with hk; omega)) (by simp)
      have hown47 : w7.ownsRow w3.heap.size 5 1 v1 (b ++ Cm.enc n).length (BVs (b ++ Cm.enc n)) := own_below (own_below hown4 hb5) C7
      have hv1 := hown4.lt
      have SR7 := SR5.after C7
      have SW7 := SW5.after C7
      have ST7 := ST.after C7
      have SX7 : Sl w7 (fun k => k < w6.heap.size ∨ w7.heap.size ≤ k) 1 v3 b.length (BVs b) := (Sl.of_own (X := fun k => k < w6.heap.size) hown7 (fun k h1 _ h2 => by omega)).old (Nat.le_refl _)
      have hz45 := hb5.size
      have hz56 := hb6.size
      have hz34 := hb4.size
      have hz23 := hb3.size
      have hz57 := C7.size
      have B7 : Below w.heap.size w w7 := B5.trans (C7.mono B5.size)
      have hen := Cm.enc_len n
      obtain ⟨A3, c3, rfl⟩ := own_shape hown7
      clear SR SR3 SR4 SR5 SW SW4 SW5 ST hb6 hg7 hown7 hg6 hown5 hown3 hown2 
      go_wp2_with fail
      go_loopw [9, 87] (fun u i wr => ∃ k : Nat, k ≤ b.length ∧ i = .int .i64 k ∧ wr.ownsRow w3.heap.size 5 1 u (b ++ Cm.enc n ++ b.take k).length (BVs (b ++ Cm.enc n ++ b.take k)) ∧ w7.grownBy wr v1.ownBlock ∧ (u.ownBlock = v1.ownBlock ∨ ∀ g, u.ownBlock = some g → w7.heap.size ≤ g))
        (fun _ i _ => b.length - (intOf i).toNat)
      case atStart => exact ⟨0, Nat.zero_le _, rfl, by simpa using hown47, World.grownBy.refl _ _, .inl rfl⟩
      case round =>
        obtain ⟨k, hk, rfl, hownu, hgu, hru⟩ := hrel
        have hszr := hgu.size
        have hlen : (b ++ Cm.enc n ++ b.take k).length ≤ 3221225472 := by simp only [List.length_append, List.length_take]; omega
        by_cases hlt : k < b.length
        · have SXr := SX7.grown hgu (fun g hg _ => .inl (by have := (hv1 g hg).2; omega))
          obtain ⟨ad, rfl, hcell⟩ := Sl_at SXr hlt
          have hbt := b[k].toNat_lt
          have hof : UInt8.ofNat b[k].toNat = b[k] := by simp
          generalize hx : b[k].toNat = x at *
          have HX := Lib.hid hof
          clear hof
          generalize hpre : b ++ Cm.enc n ++ b.take k = pre at *
          have HPRE := Lib.hid hpre
          clear hpre hx
          go_wp2_with (at_builtin; refine wpList_append_sl _ rfl (.tmp 91) (.tmp 93) _ rfl w3.heap.size 5 i0 _ 1 1 Try.underlying22 hi0 hz0 hz1 hz2 rfl (by omega) u9 pre.length (BVs pre) rfl (hownu.alloc _) (fun _ => False) _ 1 (BVs [UInt8.ofNat x]) rfl (one_new wr _ _ rfl (by omega) (fun h => h)) (BVs_one _) (by simp only [maxLen]; omega) (by omega) (by simp; omega) ?_; intro v8 w8 happ)
          go_roundw
          case rel =>
            have R := (Onto.of (k := [UInt8.ofNat x]) ((Below.refl wr.heap.size wr).alloc (Nat.le_refl _) _) happ).then_ hgu hru
            obtain ⟨v9, he, hown9, hg9, hr9⟩ := R
            injection he with he
            subst he
            refine ⟨k + 1, by omega, by go_num, ?_, hg9, hr9⟩
            rw [List.take_succ_eq_append_getElem hlt, ← List.append_assoc, HPRE.out, ← HX.out]
            exact hown9
          case measure => simp [intOf]; omega
        · obtain rfl : k = b.length := by omega
          rw [List.take_length] at hownu
          generalize wr = wo at *
          have SR8 := SR7.grown hgu (fun g hg _ => by have := (hv1 g hg).1; omega)
          have SW8 := SW7.grown hgu (fun g hg _ => by have := (hv1 g hg).1; omega)
          have ST8 := ST7.grown hgu (fun g hg _ => .inl (by have := (hv1 g hg).2; omega))
          have SO8 : Sl wo (fun k => wo.heap.size ≤ k) 1 u9 _ (BVs (b ++ Cm.enc n ++ b)) := (Sl.of_own (X := fun _ => False) hownu (fun _ _ _ h => h)).old' (Nat.le_refl _)
          have B8 : Below w.heap.size w wo := B7.grown hgu B7.size (fun g hg => by have := (hv1 g hg).1; have := B3.size; omega)
          clear SR7 SW7 ST7 SX7 hown47 hownu
          go_wp2_with fail
          refine (read_any _ _ _ b.length b SR8 (by omega)).mono ?_
          rintro e w9 ⟨g9, rfl, hcr9, hg9, hb9⟩
          go_wp2_with fail
          refine (take_any _ _ g9 _ hcr9 (b.length : Int) (by simp only; omega)).mono ?_
          rintro e w10 ⟨vt, rfl, hownt, hg10, hcr10⟩
          rw [takeS_all] at hownt
          simp only at hownt
          clear hcr10 hcr9
          have C10 : Below wo.heap.size wo w10 := below_of_grown (grown_step (grown_of_below hb9 none) hg10 (.inr fun k hk => by injection hk with hk; omega)) (by simp)
          have hz9 := hb9.size
          have hz10 := C10.size
          obtain ⟨At, ct, rfl⟩ := own_shape hownt
          go_wp2_with fail
          go_loopw [15, 103] (fun _ i wq => ∃ (k : Nat) (zs : List UInt8), k ≤ b.length ∧ i = .int .i64 k ∧ zs.length = b.length ∧ wq.ownsRow w9.heap.size 5 1 (.slice At b.length ct) zs.length (BVs zs) ∧ Below wo.heap.size wo wq)
            (fun _ i _ => b.length - (intOf i).toNat)
          case atStart => exact ⟨0, b, Nat.zero_le _, rfl, rfl, hownt, C10⟩
          case round =>
            obtain ⟨k, zs, hk, rfl, hzl, hownz, hbq⟩ := hrel
            by_cases hlt : k < b.length
            · obtain ⟨gt, ct', hvt, hgb, hcell, hfr, hset⟩ := own_at hownz (by omega : k < zs.length)
              obtain ⟨y, hy⟩ := xor_byte zs[k]
              have hs := hset y
              injection hvt with e1 e2 e3
              subst e1
              have HS := Lib.hid hs
              have HY := Lib.hid hy
              have HZ := Lib.hid hzl
              have hbt := zs[k].toNat_lt
              generalize hx : zs[k].toNat = x at *
              clear hs hset hy hzl hx e2 e3
              go_wp2_with fail
              go_roundw
              case rel =>
                rw [HY.out]
                exact ⟨k + 1, zs.set k y, by omega, by go_num, by rw [List.length_set]; exact HZ.out, by rw [List.length_set]; exact HS.out.1, hbq.grown HS.out.2 hbq.size (fun g hg => by injection hg with hg; omega)⟩
              case measure => simp [intOf]; omega
            · have hke : b.length ≤ k := by omega
              have SR9 := SR8.after hbq
              have SW9 := SW8.after hbq
              have ST9 := ST8.after hbq
              have SO9 := SO8.after hbq
              have B9 : Below w.heap.size w wr := B8.trans (hbq.mono B8.size)
              clear SR8 SW8 ST8 SO8 hownz
              go_wp2_with fail
              refine (equal_same _ _ _ _ vw _ _ _ SR9 SW9).mono ?_
              rintro e w11 ⟨rfl, rfl⟩
              go_wp2_with fail
              refine (rputnum_any _ vw b.length b (n / 2) _ SW9 (by omega) (by omega)).mono ?_
              rintro e w12 ⟨v12, rfl, hown12, hb12⟩
              have B12 : Below w.heap.size w w12 := B9.trans (hb12.mono B9.size)
              go_wp2_with fail
              refine (equal_same _ _ (fun _ => False) v2 v12 _ _ _ (ST9.after hb12) (Sl.of_own hown12 (fun _ _ _ h => h))).mono ?_
              rintro e w13 ⟨rfl, rfl⟩
              go_wp2_with fail
              refine (rputnum_any _ vw b.length b n _ (SW9.after hb12) (by omega) hn).mono ?_
              rintro e w14 ⟨v14, rfl, hown14, hb14⟩
              have B14 : Below w.heap.size w w14 := B12.trans (hb14.mono B12.size)
              have hlen2 : (b ++ Cm.enc n).length ≤ 2147483648 := by simp only [List.length_append]; omega
              have SWE := (SW9.after hb12).after hb14
              have SOE := (SO9.after hb12).after hb14
              obtain ⟨Aw, cw, rfl⟩ : ∃ Aw cw, vw = .slice Aw b.length cw := by obtain ⟨A, c, h, _⟩ := SWE; exact ⟨A, c, h⟩
              generalize hpr : b ++ Cm.enc n = pr at *
              go_wp2_with (with_reducible refine wpList_append_want _ ?hw (.tmp 128) (.tmp 129) _ ?ho w12.heap.size 5 i0 _ 1 1 Try.underlying22 hi0 hz0 hz1 hz2 ?hzs ?hsz v14 pr.length (BVs pr) ?hs hown14 _ _ b.length (BVs b) ?hx SWE (BVs_one _) ?h63 ?hby hb14.size ?_)
              case ho => rfl
              case hzs => rfl
              case hsz => omega
              case hs => rfl
              case hx => rfl
              case h63 => simp only [maxLen]; omega
              case hby => omega
              intro v15 w15 happ
              have hown15 : w15.ownsRow w12.heap.size 5 1 v15 (pr ++ b).length (BVs (pr ++ b)) := by rw [List.length_append, BVs_app]; exact happ.1
              go_wp2_with fail
              have hv14 := hown14.lt
              have B15 : Below w.heap.size w w15 := B14.grown happ.2.1 B14.size (fun g hg => by have := (hv14 g hg).1; have := B12.size; omega)
              have hzz := hbq.size
              have hzz2 := hb12.size
              refine (equal_same _ _ (fun _ => False) _ v15 _ _ _ (SOE.grown happ.2.1 (fun g hg _ => by have := (hv14 g hg).1; omega)) (Sl.of_own hown15 (fun _ _ _ h => h))).mono ?_
              rintro e w16 ⟨rfl, rfl⟩
              go_wp2_with fail
              go_ret
              exact ⟨rfl, B15⟩

end Go.Proofs.Ytkhncipagdejnaa.Cw

/-
  Layer 5: what a table that no call made answers; the walk of the statement MerkleNone.
-/
import Derived.Test.YtepdajhgfdjklaaNa
namespace Go.Proofs.Ytepdajhgfdjklaa.Nc
open Go Go.RowKit Ck Im Ik Ia Ib Ic Ig Ih Ij Mm Ma Mb Mc Md Pr Me Mf Mg Mh Mi Mj Ml Mk Na
attribute [local go_sem ↓] Go.wp_at_zero Go.wp_at_succ
set_option linter.unusedVariables false

/-- A table that no call made. -/
def Un (w : World) (v : Value) : Prop := v = .pointer none ∨ ∃ p tv, v = .pointer (some ⟨p, 0, none⟩) ∧ Blk w p 64 #[.map none, tv]
theorem Un.after {w w' : World} {v : Value} (h : Un w v) (b : Below w.heap.size w w') : Un w' v := by
  rcases h with rfl | ⟨p, tv, rfl, h⟩
  · exact .inl rfl
  · exact .inr ⟨p, tv, rfl, h.below b h.lt⟩
section
variable {w : World} {v : Value}
theorem sum_un (h : Un w v) (x : Value) : Calls Try.prog 31 #[v, x] w fun e w' => e = .returned (.int .i64 0) ∧ w = w' := by
  rcases h with rfl | ⟨p, tv, rfl, h⟩
  · exact sum_nil w x
  · exact sum_no w p tv x h
theorem look_un (h : Un w v) (x : Value) : Calls Try.prog 45 #[v, x] w fun e w' => e = .returned (.tuple #[.int .i64 0, .bool false]) ∧ w = w' := by
  rcases h with rfl | ⟨p, tv, rfl, h⟩
  · exact look_nil w x
  · exact look_no w p tv x h
theorem len_un (h : Un w v) : Calls Try.prog 17 #[v] w fun e w' => e = .returned (.int .i64 0) ∧ w = w' := by
  rcases h with rfl | ⟨p, tv, rfl, h⟩
  · exact len_nil w
  · exact len_no w p tv h
theorem clone_un (h : Un w v) : Calls Try.prog 49 #[v] w fun e w' => e = .returned (.pointer none) ∧ w = w' := by
  rcases h with rfl | ⟨p, tv, rfl, h⟩
  · exact tclone_nil w
  · exact tclone_no w p tv h
theorem made_un (h : Un w v) : Calls Try.prog 34 #[v] w fun e w' => e = .returned (.bool false) ∧ w = w' := by
  have HN := Lib.hid (len_un h)
  have HC := Lib.hid (clone_un h)
  clear h
  go_enter Try.func34, Try.ntmps34
  go_wp2_with fail
  refine HN.out.mono ?_
  rintro e w' ⟨rfl, rfl⟩
  go_wp2_with fail
  refine HC.out.mono ?_
  rintro e w' ⟨rfl, rfl⟩
  go_wp2_with fail
  go_ret
  exact ⟨rfl, rfl⟩
theorem leaf_un (h : Un w v) (X : Nat → Prop) (x : Value) (n : Nat) (b : Tx) (hb : Sl w X 1 x n (BVs b)) (hl : n ≤ 140737488355327) :
    Calls Try.prog 18 #[v, x] w fun e w' => e = .returned (.int .i64 0) ∧ Below w.heap.size w w' := by
  have HL := Lib.hid (leafbytes_any w X x n b hb hl)
  have HT := Lib.hid h
  clear h hb hl
  go_enter Try.func18, Try.ntmps18
  go_wp2_with fail
  refine HL.out.mono ?_
  rintro e w1 ⟨v1, rfl, ho1, hb1⟩
  have HS := Lib.hid (sum_un (HT.out.after hb1) v1)
  have HB1 := Lib.hid hb1
  clear ho1 hb1
  go_wp2_with fail
  refine HS.out.mono ?_
  rintro e w2 ⟨rfl, rfl⟩
  go_wp2_with fail
  go_ret
  exact ⟨rfl, HB1.out⟩
theorem node_un (h : Un w v) (a b : Int) (ha : a ≤ 9223372036854775807) (hb : b ≤ 9223372036854775807) :
    Calls Try.prog 20 #[v, .int .i64 a, .int .i64 b] w fun e w' => e = .returned (.int .i64 0) ∧ Below w.heap.size w w' := by
  have HL := Lib.hid (nodebytes_any w a b ha hb)
  have HT := Lib.hid h
  clear h ha hb
  go_enter Try.func20, Try.ntmps20
  go_wp2_with fail
  refine HL.out.mono ?_
  rintro e w1 ⟨v1, rfl, ho1, hb1⟩
  have HS := Lib.hid (sum_un (HT.out.after hb1) v1)
  have HB1 := Lib.hid hb1
  clear ho1 hb1
  go_wp2_with fail
  refine HS.out.mono ?_
  rintro e w2 ⟨rfl, rfl⟩
  go_wp2_with fail
  go_ret
  exact ⟨rfl, HB1.out⟩
end

/-- Root's closure over such a table. -/
def CloU (w : World) (v : Value) (Bt Bd : Nat) : Prop :=
  Blk w Bt 24 #[v] ∧ Blk w Bd 69 #[.func (.func 33) #[] #[.pointer (some ⟨Bt, 0, none⟩), .pointer (some ⟨Bd, 0, none⟩)]]
theorem CloU.after {w w' : World} {v : Value} {Bt Bd : Nat} (h : CloU w v Bt Bd) (b : Below w.heap.size w w') : CloU w' v Bt Bd := ⟨h.1.below b h.1.lt, h.2.below b h.2.lt⟩

set_option maxRecDepth 100000 in
set_option maxHeartbeats 1000000 in
theorem down_un : ∀ (f : Nat) (w : World) (X : Nat → Prop) (v : Value) (A : Option Addr) (c : Nat) (ls : List Tx) (Bt Bd : Nat), ls.length ≤ f → 1 ≤ ls.length → ls.length ≤ 140737488355328 → Un w v → Ls w X (.slice A ls.length c) ls → CloU w v Bt Bd → (∀ x ∈ ls, x.length ≤ 140737488355327) →
    Calls Try.prog 33 #[.slice A ls.length c, .pointer (some ⟨Bt, 0, none⟩), .pointer (some ⟨Bd, 0, none⟩)] w fun e w' => e = .returned (.int .i64 0) ∧ Below w.heap.size w w'
  | 0, w, X, v, A, c, ls, Bt, Bd, hf, h1, _, _, _, _, _ => by omega
  | f + 1, w, X, v, A, c, ls, Bt, Bd, hf, h1, hbig, hT, hls, hC, hall => by
    have ct : w.cell? ⟨Bt, 0, none⟩ = some v := hC.1.cell 0
    have cd : w.cell? ⟨Bd, 0, none⟩ = some (.func (.func 33) #[] #[.pointer (some ⟨Bt, 0, none⟩), .pointer (some ⟨Bd, 0, none⟩)]) := hC.2.cell 0
    by_cases hone : ls.length = 1
    · obtain ⟨x, rfl⟩ : ∃ x, ls = [x] := ⟨_, one_of hone⟩
      obtain ⟨ad, B, d, rfl, hcell, hx⟩ := hls.at_ (i := 0) (by simp)
      have hcell : w.cell? (ad.add 0) = some (.slice B x.length d) := hcell
      have hx : Sl w X 1 (.slice B x.length d) x.length (BVs x) := hx
      rw [addr_zero] at hcell
      have HL := Lib.hid (leaf_un (w := w.drew) hT X (.slice B x.length d) x.length x hx (hall x (by simp)))
      clear hf h1 hbig hT hls hC hall hone hx
      go_enter Try.func33, Try.ntmps33
      go_wp2_with fail
      go_still_tail 4, (by kernel_rfl)
      change wpList _ _ _ _ _ w.drew
      go_wp2_with fail
      refine HL.out.mono ?_
      rintro e w2 ⟨rfl, hb⟩
      have HB : Hid (Below w.heap.size w w2) := Lib.hid ⟨hb.os, hb.tape, hb.output, hb.size, hb.block⟩
      clear hb
      go_wp2_with fail
      go_ret
      exact ⟨rfl, HB.out⟩
    · obtain ⟨s1, s2, s3⟩ := split_spec (n := ls.length) (by omega)
      have hsp := split_any w ls.length (by omega)
      rw [show ((ls.length : Int)).toNat = ls.length from by omega] at hsp
      obtain ⟨hle, hcap⟩ := Ls.cap hls
      generalize hk : split ls.length = k at *
      clear hk
      have hlt : (ls.take k).length = k := by rw [List.length_take]; omega
      have hld : (ls.drop k).length = ls.length - k := List.length_drop
      have h1' := down_un f w.drew X v A c (ls.take k) Bt Bd (by omega) (by omega) (by omega) hT (Ls.upto hls (by omega)) hC (fun x hx => hall x (List.mem_of_mem_take hx))
      rw [hlt] at h1'
      have r1 := cut_upto A ls.length c k (by omega)
      obtain ⟨A', r2, a2⟩ := cut_from A ls.length c k (by omega) hcap
      have hls2 := Ls.from hls (k := k) (by omega) a2
      have H2 : Hid (∀ w1, Below w.heap.size w w1 → Calls Try.prog 33 #[.slice A' (ls.length - k) (c - k), .pointer (some ⟨Bt, 0, none⟩), .pointer (some ⟨Bd, 0, none⟩)] w1.drew fun e w' => e = .returned (.int .i64 0) ∧ Below w1.heap.size w1 w') := Lib.hid fun w1 hb => by
        have hb' : Below w.heap.size w w1.drew := below_drewN hb 1
        have := down_un f w1.drew X v A' (c - k) (ls.drop k) Bt Bd (by omega) (by omega) (by omega) (hT.after hb') (hls2.after hb') (hC.after hb') (fun x hx => hall x (List.mem_of_mem_drop hx))
        rw [hld] at this
        exact this.mono fun _ _ ⟨h1, h2⟩ => ⟨h1, ⟨h2.os, h2.tape, h2.output, h2.size, h2.block⟩⟩
      have H1 := Lib.hid h1'
      have HS := Lib.hid hsp
      have HC := Lib.hid hC
      have HT := Lib.hid hT
      have hk2 : k ≤ c := by omega
      have hk3 : k ≤ ls.length := by omega
      have h2 : 2 ≤ ls.length := by omega
      clear h1' hsp hf h1 hbig hT hls hC hall hlt hld hls2 a2 hle s1 s2 s3
      go_enter Try.func33, Try.ntmps33
      go_wp2_with fail
      refine HS.out.mono ?_
      rintro e w' ⟨rfl, rfl⟩
      go_wp2_with fail
      go_still_tail 4, (by kernel_rfl)
      change wpList _ _ _ _ _ w.drew
      go_wp2_with fail
      refine H1.out.mono ?_
      rintro e w1 ⟨rfl, hb⟩
      have hb : Below w.heap.size w w1 := ⟨hb.os, hb.tape, hb.output, hb.size, hb.block⟩
      have ct1 : w1.cell? ⟨Bt, 0, none⟩ = some v := (HC.out.after hb).1.cell 0
      have cd1 : w1.cell? ⟨Bd, 0, none⟩ = some (.func (.func 33) #[] #[.pointer (some ⟨Bt, 0, none⟩), .pointer (some ⟨Bd, 0, none⟩)]) := (HC.out.after hb).2.cell 0
      have H2C := Lib.hid (H2.out w1 hb)
      have HB1 := Lib.hid hb
      clear hb H2 ct cd
      go_wp2_with fail
      go_still_tail 4, (by kernel_rfl)
      change wpList _ _ _ _ _ w1.drew
      go_wp2_with fail
      refine H2C.out.mono ?_
      rintro e w2 ⟨rfl, hb⟩
      have hb2 := below_tr HB1.out hb
      have ct2 : w2.cell? ⟨Bt, 0, none⟩ = some v := (HC.out.after hb2).1.cell 0
      have HN := Lib.hid (node_un (HT.out.after hb2) 0 0 (by omega) (by omega))
      have HB2 := Lib.hid hb2
      clear hb hb2
      go_wp2_with fail
      refine HN.out.mono ?_
      rintro e w3 ⟨rfl, hb⟩
      have HB3 := Lib.hid (below_tr HB2.out hb)
      clear hb
      go_wp2_with fail
      go_ret
      exact ⟨rfl, HB3.out⟩

theorem clou_new (w : World) (v : Value) :
    CloU ((w.alloc (.cells #[v] 24)).alloc (.cells #[.func (.func 33) #[] #[.pointer (some ⟨w.heap.size, 0, none⟩), .pointer (some ⟨w.heap.size + 1, 0, none⟩)]] 69)) v w.heap.size (w.heap.size + 1)
    ∧ Below w.heap.size w ((w.alloc (.cells #[v] 24)).alloc (.cells #[.func (.func 33) #[] #[.pointer (some ⟨w.heap.size, 0, none⟩), .pointer (some ⟨w.heap.size + 1, 0, none⟩)]] 69)) :=
  ⟨⟨(Blk.new w _ _).alloc _, Blk.new_at (by simp) rfl⟩, ((Below.refl _ w).alloc (Nat.le_refl _) _).alloc (by simp) _⟩

set_option maxRecDepth 100000 in
set_option maxHeartbeats 1000000 in
theorem root_un (w : World) (X : Nat → Prop) (o : Option Addr) (A : Option Addr) (c : Nat) (ls : List Tx) (hbig : ls.length ≤ 140737488355328) (hT : Un w (.pointer o)) (hls : Ls w X (.slice A ls.length c) ls) (hall : ∀ x ∈ ls, x.length ≤ 140737488355327) :
    Calls Try.prog 12 #[.pointer o, .slice A ls.length c] w fun e w' => e = .returned (.int .i64 0) ∧ Below w.heap.size w w' := by
  by_cases h0 : ls.length = 0
  · have h00 : ls = [] := List.eq_nil_of_length_eq_zero h0
    subst h00
    have hb : Below w.heap.size w ((w.alloc (.cells #[.pointer o] 24)).alloc (.cells #[.int .u8 2] 5)) := ((Below.refl _ w).alloc (Nat.le_refl _) _).alloc (by simp) _
    have HS := Lib.hid (fun x => sum_un (hT.after hb) x)
    have HB := Lib.hid hb
    clear hbig hT hls hall h0 hb
    go_enter Try.func12, Try.ntmps12
    go_wp2_with fail
    refine (HS.out _).mono ?_
    rintro e w' ⟨rfl, rfl⟩
    go_wp2_with fail
    go_ret
    exact ⟨rfl, HB.out⟩
  · obtain ⟨hC, hb⟩ := clou_new w (.pointer o)
    have HD := Lib.hid (down_un ls.length _ X (.pointer o) A c ls w.heap.size (w.heap.size + 1) (Nat.le_refl _) (by omega) hbig (hT.after hb) (hls.after hb) hC hall)
    have HB := Lib.hid hb
    have h1 : 1 ≤ ls.length := by omega
    clear hbig hT hls hall h0 hb hC
    go_enter Try.func12, Try.ntmps12
    go_wp2_with fail
    refine HD.out.mono ?_
    rintro e w' ⟨rfl, hb2⟩
    have HB2 := Lib.hid (below_tr HB.out hb2)
    clear hb2
    go_wp2_with fail
    go_ret
    exact ⟨rfl, HB2.out⟩

set_option maxRecDepth 100000 in
theorem prove_un (w : World) (o : Option Addr) (i : Int) (x : Value) (hT : Un w (.pointer o)) :
    Calls Try.prog 14 #[.pointer o, .int .i64 i, x] w fun e w' => e = .returned (.tuple #[.slice none 0 0, .int .i64 2]) ∧ Below w.heap.size w w' := by
  have hb : Below w.heap.size w (w.alloc (.cells #[.pointer o] 24)) := (Below.refl _ w).alloc (Nat.le_refl _) _
  have HM := Lib.hid (made_un (hT.after hb))
  have HB := Lib.hid hb
  clear hT hb
  go_enter Try.func14, Try.ntmps14
  go_wp2_with fail
  refine HM.out.mono ?_
  rintro e w' ⟨rfl, rfl⟩
  go_wp2_with fail
  go_ret2
  exact ⟨rfl, HB.out⟩

def CloVU (w : World) (v : Value) (Bt Bl Bd : Nat) : Prop := Blk w Bt 24 #[v] ∧ Blk w Bl 41 #[.slice none 0 0]

set_option maxRecDepth 100000 in
set_option maxHeartbeats 1000000 in
theorem vdown_un (w : World) (v x : Value) (Bt Bl Bd : Nat) (hT : Un w v) (hC : CloVU w v Bt Bl Bd) :
    Calls Try.prog 44 #[.int .i64 0, .int .i64 1, x, .pointer (some ⟨Bt, 0, none⟩), .pointer (some ⟨Bl, 0, none⟩), .pointer (some ⟨Bd, 0, none⟩)] w fun e w' => e = .returned (.tuple #[.int .i64 0, .bool false]) ∧ Below w.heap.size w w' := by
  have ct : w.cell? ⟨Bt, 0, none⟩ = some v := hC.1.cell 0
  have cl : w.cell? ⟨Bl, 0, none⟩ = some (.slice none 0 0) := hC.2.cell 0
  have HLB := Lib.hid (leafbytes_any w.drew (fun _ => False) (.slice none 0 0) 0 [] (Sl.nil _ _ _) (by omega))
  have HT := Lib.hid hT
  have HC := Lib.hid hC
  clear hT hC
  go_enter Try.func44, Try.ntmps44
  go_wp2_with fail
  go_region_held3 (fun w' => w'.cell? ⟨Bt, 0, none⟩ = some v ∧ w'.cell? ⟨Bl, 0, none⟩ = some (.slice none 0 0)) (first | exact ⟨ct, cl⟩ | exact ⟨ct1, cl1⟩ | exact ⟨ct2, cl2⟩)
    (first
      | (go_at_call 38; refine HLB.out.mono ?_; rintro e w1 ⟨v1, rfl, ho1, hb1⟩; have hb1 : Below w.heap.size w w1 := ⟨hb1.os, hb1.tape, hb1.output, hb1.size, hb1.block⟩; have ct1 : w1.cell? ⟨Bt, 0, none⟩ = some v := (HC.out.1.below hb1 HC.out.1.lt).cell 0; have cl1 : w1.cell? ⟨Bl, 0, none⟩ = some (.slice none 0 0) := (HC.out.2.below hb1 HC.out.2.lt).cell 0; have HLK := Lib.hid (look_un (HT.out.after hb1) v1); have HB1 := Lib.hid hb1; clear ho1 hb1)
      | (go_at_call 45; refine HLK.out.mono ?_; rintro e w2 ⟨rfl, rfl⟩; have ct2 := ct1; have cl2 := cl1))
  go_wp2_with fail
  go_ret2
  exact ⟨rfl, HB1.out⟩

set_option maxRecDepth 100000 in
set_option maxHeartbeats 1000000 in
theorem verify_un (w : World) (o : Option Addr) (hT : Un w (.pointer o)) :
    Calls Try.prog 26 #[.pointer o, .int .i64 0, .slice none 0 0, .int .i64 0, .int .i64 1, .slice none 0 0] w fun e w' => e = .returned (.bool false) ∧ Below w.heap.size w w' := by
  have HP := fun W => isplace_any W 0 1
  rw [isPl_yes (by omega) (by omega)] at HP
  have HP := Lib.hid HP
  have HL := fun W => length_any W 0 1 (by omega)
  rw [show lenI 0 1 = 0 from by decide +kernel] at HL
  have HL := Lib.hid HL
  have hb := three_below w (.cells #[.pointer o] 24) (.cells #[.slice none 0 0] 41) (.cells #[.func (.func 44) #[] #[.pointer (some ⟨w.heap.size, 0, none⟩), .pointer (some ⟨w.heap.size + 1, 0, none⟩), .pointer (some ⟨w.heap.size + 1 + 1, 0, none⟩)]] 79)
  have ht := three w (.cells #[.pointer o] 24) (.cells #[.slice none 0 0] 41) (.cells #[.func (.func 44) #[] #[.pointer (some ⟨w.heap.size, 0, none⟩), .pointer (some ⟨w.heap.size + 1, 0, none⟩), .pointer (some ⟨w.heap.size + 1 + 1, 0, none⟩)]] 79)
  have HV := Lib.hid (vdown_un _ (.pointer o) (.slice none 0 0) w.heap.size (w.heap.size + 1) (w.heap.size + 1 + 1) (hT.after hb) ⟨ht.1, ht.2.1⟩)
  have HB := Lib.hid hb
  clear hT hb ht
  go_enter Try.func26, Try.ntmps26
  go_wp2_with fail
  refine (HP.out _).mono ?_
  rintro e w' ⟨rfl, rfl⟩
  go_wp2_with fail
  refine (HL.out _).mono ?_
  rintro e w' ⟨rfl, rfl⟩
  go_wp2_with fail
  refine HV.out.mono ?_
  rintro e w2 ⟨rfl, hb2⟩
  have HB2 := Lib.hid (below_tr HB.out hb2)
  clear hb2
  go_wp2_with fail
  go_ret
  exact ⟨rfl, HB2.out⟩

set_option maxRecDepth 100000 in
set_option maxHeartbeats 4000000 in
theorem none_any (w : World) (A : Option Addr) (c : Nat) (ls : List Tx) (i : Int) (hls : Ls w (fun k => w.heap.size ≤ k) (.slice A ls.length c) ls) (hl : ls.length ≤ 140737488355328) (hla : ∀ x ∈ ls, x.length ≤ 140737488351232) :
    Calls Try.prog 9 #[.slice A ls.length c, .int .i64 i] w fun e w' => e = .returned (.bool true) ∧ Below w.heap.size w w' := by
  have HLS := Lib.hid hls
  have HLA : Hid (∀ x ∈ ls, x.length ≤ 140737488355327) := Lib.hid fun x hx => Nat.le_trans (hla x hx) (by omega)
  clear hls hla
  go_enter Try.func9, Try.ntmps9
  go_wp2_with fail
  refine (live_any _).mono ?_
  rintro e w1 ⟨rfl, hb⟩
  have HB1 := Lib.hid hb
  clear hb
  go_wp2_with fail
  have hk0 : Blk ((w1.alloc (.cells #[.map none, .slice none 0 0] 64)).alloc (.cells #[.pointer none, .pointer (some ⟨w1.heap.size, 0, none⟩)] 24)) w1.heap.size 64 #[.map none, .slice none 0 0] := (Blk.new w1 _ _).alloc _
  have hk1 : Blk ((w1.alloc (.cells #[.map none, .slice none 0 0] 64)).alloc (.cells #[.pointer none, .pointer (some ⟨w1.heap.size, 0, none⟩)] 24)) (w1.heap.size + 1) 24 #[.pointer none, .pointer (some ⟨w1.heap.size, 0, none⟩)] := Blk.new_at (by simp) rfl
  have hb2 : Below w1.heap.size w1 ((w1.alloc (.cells #[.map none, .slice none 0 0] 64)).alloc (.cells #[.pointer none, .pointer (some ⟨w1.heap.size, 0, none⟩)] 24)) := two_below w1 _ _
  have HB2 := Lib.hid (below_tr HB1.out hb2)
  have HK0 := Lib.hid hk0
  have HK1 := Lib.hid hk1
  clear hk0 hk1 hb2
  generalize ((w1.alloc (.cells #[.map none, .slice none 0 0] 64)).alloc (.cells #[.pointer none, .pointer (some ⟨w1.heap.size, 0, none⟩)] 24)) = w2 at *
  generalize w1.heap.size = g at *
  go_loopw [15] (fun j wr => ∃ k : Nat, k ≤ 2 ∧ j = .int .i64 k ∧ Below w2.heap.size w2 wr) (fun j _ => 2 - (intOf j).toNat)
  case atStart => exact ⟨0, by omega, rfl, Below.refl _ _⟩
  case round =>
    obtain ⟨k, hk, rfl, hb⟩ := hrel
    have HBR := Lib.hid hb
    have HBW := Lib.hid (HB2.out.trans (hb.mono HB2.out.size))
    have hq := HK1.out.below hb HK1.out.lt
    have q0 := hq.cell 0
    have q1 := hq.cell 1
    simp only [List.getElem?_toArray, List.getElem?_cons_zero, List.getElem?_cons_succ] at q0 q1
    have HKU := Lib.hid (HK0.out.below hb HK0.out.lt)
    clear hb hq
    have hk3 : k = 0 ∨ k = 1 ∨ k = 2 := by omega
    rcases hk3 with rfl | rfl | rfl
    · focus
      have HU : Hid (Un wr (.pointer none)) := Lib.hid (.inl rfl)
      go_wp2_with fail
      refine (prove_un wr none i (.slice A ls.length c) HU.out).mono ?_
      rintro e w5 ⟨rfl, hb⟩
      have HB5 := Lib.hid hb
      clear hb
      go_wp2_with fail
      refine (root_un w5 (fun k => w.heap.size ≤ k) none A c ls (by omega) (HU.out.after HB5.out) (HLS.out.below (HBW.out.trans (HB5.out.mono HBW.out.size)) (fun k _ h => h)) HLA.out).mono ?_
      rintro e w6 ⟨rfl, hb⟩
      have HB6 := Lib.hid (below_tr HB5.out hb)
      clear hb
      go_wp2_with fail
      refine (leaf_un (HU.out.after HB6.out) (fun _ => False) (.slice none 0 0) 0 [] (Sl.nil _ _ _) (by omega)).mono ?_
      rintro e w7 ⟨rfl, hb⟩
      have HB7 := Lib.hid (below_tr HB6.out hb)
      clear hb
      go_wp2_with fail
      refine (node_un (HU.out.after HB7.out) 1 2 (by omega) (by omega)).mono ?_
      rintro e w8 ⟨rfl, hb⟩
      have HB8 := Lib.hid (below_tr HB7.out hb)
      clear hb
      go_wp2_with fail
      refine (verify_un w8 none (HU.out.after HB8.out)).mono ?_
      rintro e w9 ⟨rfl, hb⟩
      have HB9 := Lib.hid (below_tr HB8.out hb)
      clear hb
      go_wp2_with fail
      go_roundw
      case rel => exact ⟨1, by omega, by go_num, HBR.out.trans (HB9.out.mono HBR.out.size)⟩
      case measure => simp [intOf]
    · focus
      have HU : Hid (Un wr (.pointer (some ⟨g, 0, none⟩))) := Lib.hid (.inr ⟨g, _, rfl, HKU.out⟩)
      go_wp2_with fail
      refine (prove_un wr (some ⟨g, 0, none⟩) i (.slice A ls.length c) HU.out).mono ?_
      rintro e w5 ⟨rfl, hb⟩
      have HB5 := Lib.hid hb
      clear hb
      go_wp2_with fail
      refine (root_un w5 (fun k => w.heap.size ≤ k) (some ⟨g, 0, none⟩) A c ls (by omega) (HU.out.after HB5.out) (HLS.out.below (HBW.out.trans (HB5.out.mono HBW.out.size)) (fun k _ h => h)) HLA.out).mono ?_
      rintro e w6 ⟨rfl, hb⟩
      have HB6 := Lib.hid (below_tr HB5.out hb)
      clear hb
      go_wp2_with fail
      refine (leaf_un (HU.out.after HB6.out) (fun _ => False) (.slice none 0 0) 0 [] (Sl.nil _ _ _) (by omega)).mono ?_
      rintro e w7 ⟨rfl, hb⟩
      have HB7 := Lib.hid (below_tr HB6.out hb)
      clear hb
      go_wp2_with fail
      refine (node_un (HU.out.after HB7.out) 1 2 (by omega) (by omega)).mono ?_
      rintro e w8 ⟨rfl, hb⟩
      have HB8 := Lib.hid (below_tr HB7.out hb)
      clear hb
      go_wp2_with fail
      refine (verify_un w8 (some ⟨g, 0, none⟩) (HU.out.after HB8.out)).mono ?_
      rintro e w9 ⟨rfl, hb⟩
      have HB9 := Lib.hid (below_tr HB8.out hb)
      clear hb
      go_wp2_with fail
      go_roundw
      case rel => exact ⟨2, by omega, by go_num, HBR.out.trans (HB9.out.mono HBR.out.size)⟩
      case measure => simp [intOf]
    · focus
      go_wp2_with fail
      go_ret
      exact ⟨rfl, HBW.out⟩

end Go.Proofs.Ytepdajhgfdjklaa.Nc

/- LeSizes: the walk. -/
import Derived.Test.YtmhcihccliakaaaD
import Derived.Deep.DeepCutAuto
import Derived.Deep.LoopGhost
import Derived.Deep.DeepMust
import Derived.Deep.RegionHeld3
namespace Go.Proofs.Ytmhcihccliakaaa
open Go.RowKit
set_option linter.unusedVariables false

theorem info3 : (Try.prog.info? 3).map (fun i => (i.zero, i.size, i.bytes)) = some (some (.int .i64 0), 1, 8) := by kernel_rfl

theorem RowI_some {w w' : World} {b off : Nat} {l : List Int} (hc : ∀ i, i < l.length → w.cell? ⟨b, off + i, none⟩ = some (.int .i64 (l.getD i 0))) (hb : b < w.heap.size) (hB : Below w.heap.size w w') : RowI w' (some ⟨b, off, none⟩) l :=
  .inr ⟨b, off, rfl, fun i hi => (hB.cell (p := ⟨b, off + i, none⟩) hb).trans (hc i hi)⟩

/-- What has been turned when j are left. -/
def turnL (l : List Int) (j : Nat) : List Value := (l.drop j).reverse.map (Value.int .i64)
theorem turnL_succ (l : List Int) (j : Nat) (h : j < l.length) : turnL l j = turnL l (j + 1) ++ [.int .i64 (l.getD j 0)] := by
  unfold turnL
  rw [List.drop_eq_getElem_cons h]
  simp only [List.reverse_cons, List.map_append, List.map_cons, List.map_nil]
  rw [List.getD_eq_getElem?_getD, List.getElem?_eq_getElem h, Option.getD_some]

theorem rel_turn {w wr w2 : World} {l : List Int} {n j : Nat} {q : Int} {v v' : Value} {o : Obj} (hj : j + 1 ≤ n) (hl : l.length = n) (hq : l.getD j 0 = q)
    (hown' : w2.ownsRow w.heap.size 3 1 v' (n - (j + 1) + 1) (turnL l (j + 1) ++ [.int .i64 q])) (hgrow : (wr.alloc o).grownBy w2 v.ownBlock)
    (hown : wr.ownsRow w.heap.size 3 1 v (n - (j + 1)) (turnL l (j + 1))) (hB : Below w.heap.size w wr) :
    w2.ownsRow w.heap.size 3 1 v' (n - j) (turnL l j) ∧ Below w.heap.size w w2 := by
  rw [turnL_succ l j (by omega), hq, show n - j = n - (j + 1) + 1 from by omega]
  refine ⟨hown', ?_⟩
  exact (hB.alloc hB.size o).grown hgrow (by have := hB.size; simp; omega) (fun k hk => (hown.lt k hk).1)

/-- A row of ints that lies in w, and its block with it. -/
def RowH (w : World) (a : Option Addr) (l : List Int) : Prop :=
  l = [] ∨ ∃ b off, a = some ⟨b, off, none⟩ ∧ b < w.heap.size ∧ ∀ i, i < l.length → w.cell? ⟨b, off + i, none⟩ = some (.int .i64 (l.getD i 0))
theorem RowH.later {w w' : World} {a : Option Addr} {l : List Int} (h : RowH w a l) (hB : Below w.heap.size w w') : RowI w' a l := by
  rcases h with h | ⟨b, off, rfl, hb, hc⟩
  · exact .inl h
  · exact .inr ⟨b, off, rfl, fun i hi => (hB.cell (p := ⟨b, off + i, none⟩) hb).trans (hc i hi)⟩
theorem rowH_take {w w' : World} {b off : Nat} {l : List Int} (hc : ∀ i, i < l.length → w.cell? ⟨b, off + i, none⟩ = some (.int .i64 (l.getD i 0))) (hb : b < w.heap.size) (hB : Below w.heap.size w w') (k : Nat) : RowH w' (some ⟨b, off, none⟩) (l.take k) := by
  refine .inr ⟨b, off, rfl, by have := hB.size; omega, fun i hi => ?_⟩
  rw [hB.cell (p := ⟨b, off + i, none⟩) hb, hc i (by simp at hi; omega)]
  have : i < k := by simp at hi; omega
  simp [List.getD, this]
theorem rowH_drop {w w' : World} {b off : Nat} {l : List Int} (hc : ∀ i, i < l.length → w.cell? ⟨b, off + i, none⟩ = some (.int .i64 (l.getD i 0))) (hb : b < w.heap.size) (hB : Below w.heap.size w w') (k : Nat) : RowH w' (some ⟨b, off + k, none⟩) (l.drop k) := by
  refine .inr ⟨b, off + k, rfl, by have := hB.size; omega, fun i hi => ?_⟩
  rw [hB.cell (p := ⟨b, off + k + i, none⟩) hb, Nat.add_assoc, hc (k + i) (by simp at hi; omega)]
  simp [List.getD]
theorem plus_S (a : Option Addr) (len cap : Nat) (l : List Int) (S : Int) (w : World) (hl : len ≤ maxLen) (hlen : Hid (l.length = len)) (hS : Hid (capH (tot l) = S)) (hrow : RowI w a l) :
    Calls Try.prog 12 #[.slice a len cap] w fun e w' => e = .returned (.int .i64 S) ∧ w = w' := by
  rw [← hS.out]
  exact plus_any a len cap l w hl hlen.out hrow
theorem capH_bd {l : List Int} {S : Int} (h : capH (tot l) = S) : 0 ≤ S ∧ S ≤ 4611686018427387904 := by
  have := tot_nonneg l
  unfold capH at h
  split at h <;> omega
theorem rev_sum (l : List Int) : capH (tot l.reverse) = capH (tot l) := by
  have h : tot l.reverse = tot l := by
    induction l with
    | nil => rfl
    | cons n r ih => rw [List.reverse_cons, tot_append, ih]; simp only [tot]; omega
  rw [h]
theorem sz_cap {l : List Int} : sz (capH (tot l)) = capH (tot l) := by
  have := capH_bd (l := l) rfl
  generalize capH (tot l) = t at *
  unfold sz; split
  · omega
  · split <;> omega
theorem cut_sum {l : List Int} {k : Nat} {A D S : Int} (hA : capH (tot (l.take k)) = A) (hD : capH (tot (l.drop k)) = D) (hS : capH (tot l) = S) : capH (tot [A, D]) = S := by
  have h : tot (l.take k ++ l.drop k) = tot l := by rw [List.take_append_drop]
  rw [tot_append] at h
  have h1 := tot_nonneg (l.take k)
  have h2 := tot_nonneg (l.drop k)
  subst hA hD
  simp only [tot, sz_cap]
  rw [← hS, ← h]
  generalize tot (l.take k) = u at *
  generalize tot (l.drop k) = v at *
  unfold capH
  repeat' split
  all_goals omega

theorem own_row {w : World} {base n : Nat} {v : Value} {l : List Int} (h : w.ownsRow base 3 1 v n (l.map (Value.int .i64))) (hl : l.length = n) : ∃ a c, v = .slice a n c ∧ RowH w a l := by
  have hcells := @World.ownsRow.cells _ _ _ _ _ _ _ h
  rcases h.2 with ⟨rfl, rfl⟩ | ⟨g, cap, cur, rfl, hb, hg, _⟩
  · exact ⟨none, 0, rfl, .inl (List.length_eq_zero_iff.1 hl)⟩
  · refine ⟨_, _, rfl, .inr ⟨g, 0, rfl, (h.lt g rfl).2, fun i hi => ?_⟩⟩
    have e : (⟨g, 0, none⟩ : Addr).add i = ⟨g, 0 + i, none⟩ := by unfold Addr.add; split <;> simp_all
    rw [← e]
    refine hcells rfl i _ ?_
    rw [List.getElem?_map, List.getElem?_eq_getElem hi, List.getD_eq_getElem?_getD, List.getElem?_eq_getElem hi]
    rfl
theorem own_turn {w : World} {base n : Nat} {v : Value} {l : List Int} (h : w.ownsRow base 3 1 v (n - 0) (turnL l 0)) (hl : l.length = n) : ∃ a c, v = .slice a n c ∧ RowH w a l.reverse := by
  refine own_row (base := base) ?_ (by simpa using hl)
  simpa [turnL] using h

theorem row_two {w : World} {b : Nat} {x y : Int} (h0 : w.cell? ⟨b, 0, none⟩ = some (.int .i64 x)) (h1 : w.cell? ⟨b, 1, none⟩ = some (.int .i64 y)) : RowI w (some ⟨b, 0, none⟩) [x, y] := by
  refine .inr ⟨b, 0, rfl, fun i hi => ?_⟩
  match i, hi with
  | 0, _ => simpa using h0
  | 1, _ => simpa using h1
theorem row_one {w : World} {b : Nat} {x : Int} (h0 : w.cell? ⟨b, 0, none⟩ = some (.int .i64 x)) : RowI w (some ⟨b, 0, none⟩) [x] := by
  refine .inr ⟨b, 0, rfl, fun i hi => ?_⟩
  match i, hi with
  | 0, _ => simpa using h0

theorem one_le {l : List Int} {j : Nat} {q S T : Int} (hT : capH (tot [q]) = T) (hq : l.getD j 0 = q) (hS : capH (tot l) = S) (hj : j < l.length) : T ≤ S := by
  have h1 := tot_take_succ l j hj
  have h2 := tot_take_le l (j + 1)
  have h3 := tot_nonneg (l.take j)
  rw [hq] at h1
  simp only [tot] at hT
  subst hT hS
  generalize tot l = u at *
  generalize sz q = v at *
  unfold capH
  repeat' split
  all_goals omega

theorem times_S (a b S : Int) (w : World) (h : Hid (capH (sz a * sz b) = S)) :
    Calls Try.prog 13 #[.int .i64 a, .int .i64 b] w fun e w' => e = .returned (.int .i64 S) ∧ w = w' := by
  rw [← h.out]
  exact times_any a b w
theorem szmul_nonneg (a b : Int) : 0 ≤ sz a * sz b := Int.mul_nonneg (sz_bd a).1 (sz_bd b).1
theorem tm_bd {a b S : Int} (h : capH (sz a * sz b) = S) : 0 ≤ S ∧ S ≤ 4611686018427387904 := by
  have := szmul_nonneg a b
  unfold capH at h
  split at h <;> omega
theorem sz_in {t : Int} (h0 : 0 ≤ t) (h1 : t ≤ 4611686018427387904) : sz t = t := by unfold sz; rw [if_neg (by omega), if_pos h1]
theorem tm_comm {a b S : Int} (h : capH (sz a * sz b) = S) : capH (sz b * sz a) = S := by rw [Int.mul_comm]; exact h
theorem cap_mul (t z : Int) (ht : 0 ≤ t) (hz : 0 ≤ z) : capH (capH t * z) = capH (t * z) := by
  by_cases h : t ≤ 4611686018427387904
  · rw [show capH t = t from by unfold capH; rw [if_pos h]]
  · rw [show capH t = 4611686018427387904 from by unfold capH; rw [if_neg h]]
    by_cases hz0 : z = 0
    · subst hz0; simp
    · have h1 : 4611686018427387904 * 1 ≤ 4611686018427387904 * z := Int.mul_le_mul_of_nonneg_left (by omega) (by omega)
      have h2 : t * 1 ≤ t * z := Int.mul_le_mul_of_nonneg_left (by omega) (by omega)
      unfold capH
      rw [if_neg (show ¬ t * z ≤ 4611686018427387904 by omega)]
      split <;> omega
theorem tm_assoc {x y z P R Q : Int} (hP : capH (sz x * sz y) = P) (hR : capH (sz y * sz z) = R) (hQ : capH (sz P * sz z) = Q) : capH (sz x * sz R) = Q := by
  rw [sz_in (tm_bd hP).1 (tm_bd hP).2] at hQ
  rw [sz_in (tm_bd hR).1 (tm_bd hR).2]
  subst hP hR
  rw [cap_mul _ _ (szmul_nonneg x y) (sz_bd z).1] at hQ
  rw [Int.mul_comm, cap_mul _ _ (szmul_nonneg y z) (sz_bd x).1, ← hQ, Int.mul_comm _ (sz x), Int.mul_assoc]
theorem tm_dist {x y z P G U V : Int} (hP : capH (sz x * sz y) = P) (hG : capH (sz x * sz z) = G) (hU : capH (tot [y, z]) = U) (hV : capH (sz x * sz U) = V) : capH (tot [P, G]) = V := by
  rw [sz_in (capH_bd hU).1 (capH_bd hU).2] at hV
  have e : tot [P, G] = P + G := by simp only [tot]; rw [sz_in (tm_bd hP).1 (tm_bd hP).2, sz_in (tm_bd hG).1 (tm_bd hG).2]; omega
  rw [e]
  have h1 := szmul_nonneg x y
  have h2 := szmul_nonneg x z
  subst hU hP hG
  rw [Int.mul_comm, cap_mul _ _ (tot_nonneg _) (sz_bd x).1, Int.mul_comm] at hV
  have e2 : sz x * tot [y, z] = sz x * sz y + sz x * sz z := by simp only [tot]; rw [Int.add_zero, Int.mul_add]
  rw [e2] at hV
  subst hV
  generalize sz x * sz y = u at *
  generalize sz x * sz z = v at *
  unfold capH
  repeat' split
  all_goals omega
theorem tm_one {x X : Int} (h : capH (tot [x]) = X) : capH (sz x * sz 1) = X := by
  rw [← h, show sz 1 = 1 from by decide, Int.mul_one]
  simp only [tot, Int.add_zero]
theorem tm_zero (x : Int) : capH (sz x * sz 0) = 0 := by
  rw [show sz 0 = 0 from by decide, Int.mul_zero]
  decide
theorem tm_ge {x y P X : Int} (hP : capH (sz x * sz y) = P) (hX : capH (tot [x]) = X) (hy : 1 ≤ y) : X ≤ P := by
  simp only [tot, Int.add_zero] at hX
  have hb := sz_bd x
  have hy1 : 1 ≤ sz y := by unfold sz; split; omega; split <;> omega
  have h2 : sz x * 1 ≤ sz x * sz y := Int.mul_le_mul_of_nonneg_left hy1 hb.1
  subst hP hX
  generalize sz x * sz y = u at *
  generalize sz x = v at *
  unfold capH
  repeat' split
  all_goals omega

theorem take_row {w : World} {b off n cap : Nat} {zs : List Int} (hl : zs.length = cap) (hc : ∀ i, i < zs.length → w.cell? ⟨b, off + i, none⟩ = some (.int .i64 (zs.getD i 0))) (hn : n ≤ cap) :
    ∃ l : List Int, l.length = n ∧ ∀ i, i < l.length → w.cell? ⟨b, off + i, none⟩ = some (.int .i64 (l.getD i 0)) := by
  refine ⟨zs.take n, by simp; omega, fun i hi => ?_⟩
  have h1 : i < n := by simp at hi; omega
  rw [hc i (by omega)]
  simp [List.getD, h1]

set_option maxRecDepth 100000 in
set_option maxHeartbeats 8000000 in
theorem sizes_some (b off len cap : Nat) (zs : List Int) (p x y z : Int) (w : World) (hn0 : 0 < len) (hcap : len ≤ cap) (hcm : cap ≤ maxLen) (hl : Hid (zs.length = cap)) (hb : b < w.heap.size)
    (hc : Hid (∀ i, i < zs.length → w.cell? ⟨b, off + i, none⟩ = some (.int .i64 (zs.getD i 0)))) :
    Calls Try.prog 4 #[.slice (some ⟨b, off, none⟩) len cap, .int .i64 p, .int .i64 x, .int .i64 y, .int .i64 z] w fun e w' => e = .returned (.bool true) ∧ Below w.heap.size w w' := by
  obtain ⟨i0, hi, hz0, hz1, hz2⟩ := info_parts info3
  unfold maxLen at hcm
  go_enter Try.func4, Try.ntmps4
  go_wp2_with fail
  refine (awake_any w).mono ?_; rintro e w1 ⟨rfl, hB1⟩
  go_upto_if 21 with fail
  go_cut [0] (fun s wc => ∃ n, 0 < n ∧ n ≤ 2000 ∧ n ≤ len ∧ s = .slice (some ⟨b, off, none⟩) n cap ∧ w1 = wc)
  case first =>
    by_cases h : 2000 < (len : Int)
    · go_wp2
      go_meet
      case rel => exact ⟨2000, by omega, by omega, by omega, rfl, rfl⟩
    · go_wp2
      go_meet
      case rel => exact ⟨len, by omega, by omega, by omega, rfl, rfl⟩
  case rest =>
    obtain ⟨n, hn1, hn2, hn3, rfl, rfl⟩ := hcut
    obtain ⟨l, hl1, hl2⟩ := take_row hl.out hc.out (show n ≤ cap by omega)
    have HL : Hid (l.length = n) := hl1
    have HC : Hid (∀ i, i < l.length → w.cell? ⟨b, off + i, none⟩ = some (.int .i64 (l.getD i 0))) := hl2
    clear hl1 hl2 hl hc
    have hnm : n ≤ maxLen := by unfold maxLen; omega
    go_wp2_with fail
    refine (rest_any _ _ _ _ (by omega) (by omega) (by omega)).mono ?_; rintro e w' ⟨⟨r, hr0, hr1, rfl⟩, rfl⟩
    obtain ⟨k, rfl⟩ := Int.eq_ofNat_of_zero_le hr0
    go_wp2_with fail
    refine (plus_any _ _ _ l _ hnm HL.out (RowI_some HC.out hb hB1)).mono ?_; rintro e w' ⟨rfl, rfl⟩
    obtain ⟨S, HS⟩ : ∃ S, Hid (capH (tot l) = S) := ⟨_, rfl⟩
    rw [HS.out]
    go_wp2_with fail
    go_loopw [13, 14] (fun v i wr => ∃ j : Nat, j ≤ n ∧ i = .int .i64 ((j : Int) - 1) ∧ wr.ownsRow w.heap.size 3 1 v (n - j) (turnL l j) ∧ Below w.heap.size w wr) (fun _ i _ => (intOf i + 1).toNat)
    case atStart => exact ⟨n, Nat.le_refl _, rfl, by rw [turnL, List.drop_of_length_le (by have := HL.out; omega), Nat.sub_self]; exact World.ownsRow_nil _ _ _ _, hB1⟩
    case round =>
      obtain ⟨j, hj, rfl, hown, hBr⟩ := hrel
      cases j with
      | zero =>
        rw [show (((0 : Nat) : Int) - 1) = -1 from rfl]
        go_wp2
        clear hi hz0 hz1 hz2
        obtain ⟨ta, tc, htv, htr⟩ := own_turn hown HL.out
        subst htv
        have hkn : k ≤ n := by omega
        obtain ⟨A, HA⟩ : ∃ A, Hid (capH (tot (l.take k)) = A) := ⟨_, rfl⟩
        obtain ⟨D, HD⟩ : ∃ D, Hid (capH (tot (l.drop k)) = D) := ⟨_, rfl⟩
        have HAD : Hid (capH (tot [A, D]) = S) := cut_sum HA.out HD.out HS.out
        have HR : Hid (capH (tot l.reverse) = S) := (rev_sum l).trans HS.out
        have hS := capH_bd HS.out
        have hS0 : decide (S < 0) = false := by simp; omega
        have hS1 : decide (4611686018427387904 < S) = false := by simp; omega
        have h1m : 1 ≤ maxLen := by unfold maxLen; omega
        have h2m : 2 ≤ maxLen := by unfold maxLen; omega
        have r1 : RowH wr (some ⟨b, off, none⟩) (l.take k) := rowH_take HC.out hb hBr k
        have r2 : RowH wr (some ⟨b, off + k, none⟩) (l.drop k) := rowH_drop HC.out hb hBr k
        have ht : Hid (l.reverse.length = n) := by show l.reverse.length = n; rw [List.length_reverse]; exact HL.out
        have ht1 : Hid ((l.take k).length = k) := by show (l.take k).length = k; have := HL.out; simp; omega
        have ht2 : Hid ((l.drop k).length = n - k) := by show (l.drop k).length = n - k; have := HL.out; simp; omega
        have hkc : (k : Int) ≤ cap := by omega
        go_cut [69] (fun s wc => s = .bool false ∧ Below w.heap.size w wc)
        case first =>
          by_cases hck : cap = k
          · have HD0 : Hid (capH (tot []) = D) := by rw [← HD.out, List.drop_of_length_le (by have := HL.out; omega)]; rfl
            have hnk : n = k := by omega
            clear hkc hkn hr0 hr1 r2 HD ht2
            subst hnk
            subst hck
            have hB0 := Below.refl wr.heap.size wr
            go_region_held3 (fun w' => Below wr.heap.size wr w') (first | assumption | exact hB0.drew | exact Below.alloc (by assumption) (by simp) _)
              (first
                | (go_at_call_of 12 (Value.slice ta cap tc); refine (plus_S _ _ _ _ _ _ hnm ht HR (htr.later (by assumption))).mono ?_; rintro e w' ⟨rfl, rfl⟩)
                | (go_at_call_of 12 (Value.slice (some ⟨b, off, none⟩) cap cap); refine (plus_S _ _ _ _ _ _ hnm ht1 HA (r1.later (by assumption))).mono ?_; rintro e w' ⟨rfl, rfl⟩)
                | (go_at_call_of 12 (Value.slice (some ⟨b, off, none⟩) 0 0); refine (plus_S _ 0 _ [] D _ (Nat.zero_le _) rfl HD0 (.inl rfl)).mono ?_; rintro e w' ⟨rfl, rfl⟩)
                | (go_at_call 12; refine (plus_S _ 2 _ [A, D] _ _ h2m rfl HAD (row_two (by simp [go_sem]) (by simp [go_sem]))).mono ?_; rintro e w' ⟨rfl, rfl⟩))
            go_wp2_with fail
            go_meet
            case rel => exact ⟨rfl, hBr.trans ((by assumption : Below wr.heap.size wr _).mono hBr.size)⟩
          · have hB0 := Below.refl wr.heap.size wr
            go_region_held3 (fun w' => Below wr.heap.size wr w') (first | assumption | exact hB0.drew | exact Below.alloc (by assumption) (by simp) _)
              (first
                | (go_at_call_of 12 (Value.slice ta n tc); refine (plus_S _ _ _ _ _ _ hnm ht HR (htr.later (by assumption))).mono ?_; rintro e w' ⟨rfl, rfl⟩)
                | (go_at_call_of 12 (Value.slice (some ⟨b, off, none⟩) k cap); refine (plus_S _ _ _ _ _ _ (by omega) ht1 HA (r1.later (by assumption))).mono ?_; rintro e w' ⟨rfl, rfl⟩)
                | (go_at_call_of 12 (Value.slice (some ⟨b, off + k, none⟩) (n - k) (cap - k)); refine (plus_S _ _ _ _ _ _ (by omega) ht2 HD (r2.later (by assumption))).mono ?_; rintro e w' ⟨rfl, rfl⟩)
                | (go_at_call 12; refine (plus_S _ 2 _ [A, D] _ _ h2m rfl HAD (row_two (by simp [go_sem]) (by simp [go_sem]))).mono ?_; rintro e w' ⟨rfl, rfl⟩))
            go_wp2_with fail
            go_meet
            case rel => exact ⟨rfl, hBr.trans ((by assumption : Below wr.heap.size wr _).mono hBr.size)⟩
        case rest =>
          obtain ⟨rfl, hBc⟩ := hcut
          clear r1 r2 htr hBr hown HA HD HAD HR ht ht1 ht2
          go_wp2_with fail
          go_loopw [15] (fun i wr => ∃ j : Nat, j ≤ n ∧ i = .int .i64 j ∧ Below w.heap.size w wr) (fun i _ => n - (intOf i).toNat)
          case atStart => exact ⟨0, Nat.zero_le _, rfl, hBc⟩
          case round =>
            obtain ⟨j, hj, rfl, hBr⟩ := hrel
            by_cases hlt : j < n
            · have hcx : wr.cell? ⟨b, off + j, none⟩ = some (.int .i64 (l.getD j 0)) := (hBr.cell (p := ⟨b, off + j, none⟩) hb).trans (HC.out j (by have := HL.out; omega))
              obtain ⟨q, HQ⟩ : ∃ q, Hid (l.getD j 0 = q) := ⟨_, rfl⟩
              rw [HQ.out] at hcx
              obtain ⟨T, HT⟩ : ∃ T, Hid (capH (tot [q]) = T) := ⟨_, rfl⟩
              have hTS : T ≤ S := one_le HT.out HQ.out HS.out (by have := HL.out; omega)
              have hlt' : (j : Int) < n := by omega
              go_wp2_with fail
              refine (plus_S _ 1 _ [q] T _ h1m rfl HT (row_one (by simp [go_sem]))).mono ?_; rintro e w' ⟨rfl, rfl⟩
              go_wp2
              go_roundw
              case rel => exact ⟨j + 1, by omega, by go_num, hBr.alloc hBr.size _⟩
              case measure => simp [intOf]; omega
            · clear HC HL HS
              obtain ⟨P, HP⟩ : ∃ P, Hid (capH (sz x * sz y) = P) := ⟨_, rfl⟩
              obtain ⟨Q1, HQ1⟩ : ∃ Q, Hid (capH (sz P * sz z) = Q) := ⟨_, rfl⟩
              obtain ⟨R, HR⟩ : ∃ R, Hid (capH (sz y * sz z) = R) := ⟨_, rfl⟩
              obtain ⟨U, HU⟩ : ∃ U, Hid (capH (tot [y, z]) = U) := ⟨_, rfl⟩
              obtain ⟨V, HV⟩ : ∃ V, Hid (capH (sz x * sz U) = V) := ⟨_, rfl⟩
              obtain ⟨G, HG⟩ : ∃ G, Hid (capH (sz x * sz z) = G) := ⟨_, rfl⟩
              obtain ⟨X1, HX1⟩ : ∃ X1, Hid (capH (tot [x]) = X1) := ⟨_, rfl⟩
              have m1 : Hid (capH (sz y * sz x) = P) := tm_comm HP.out
              have m2 : Hid (capH (sz x * sz R) = Q1) := tm_assoc HP.out HR.out HQ1.out
              have m3 : Hid (capH (tot [P, G]) = V) := tm_dist HP.out HG.out HU.out HV.out
              have m4 : Hid (capH (sz x * sz 1) = X1) := tm_one HX1.out
              have m5 : Hid (capH (sz x * sz 0) = 0) := tm_zero x
              have m6 := tm_bd HP.out
              have p0 : decide (P < 0) = false := by simp; omega
              have p1 : decide (4611686018427387904 < P) = false := by simp; omega
              by_cases hy : y < 1
              · have hy' : decide (y < 1) = true := by simpa using hy
                clear hy
                go_wp2_with fail
                refine (times_S _ _ P _ HP).mono ?_; rintro e w' ⟨rfl, rfl⟩
                go_wp2_with fail
                refine (times_S _ _ P _ m1).mono ?_; rintro e w' ⟨rfl, rfl⟩
                go_wp2_with fail
                refine (times_S _ _ Q1 _ HQ1).mono ?_; rintro e w' ⟨rfl, rfl⟩
                go_wp2_with fail
                refine (times_S _ _ R _ HR).mono ?_; rintro e w' ⟨rfl, rfl⟩
                go_wp2_with fail
                refine (times_S _ _ Q1 _ m2).mono ?_; rintro e w' ⟨rfl, rfl⟩
                go_wp2_with fail
                refine (plus_S _ 2 _ [y, z] U _ h2m rfl HU (row_two (by simp [go_sem]) (by simp [go_sem]))).mono ?_; rintro e w' ⟨rfl, rfl⟩
                go_wp2_with fail
                refine (times_S _ _ V _ HV).mono ?_; rintro e w' ⟨rfl, rfl⟩
                go_wp2_with fail
                refine (times_S _ _ G _ HG).mono ?_; rintro e w' ⟨rfl, rfl⟩
                go_wp2_with fail
                refine (plus_S _ 2 _ [P, G] V _ h2m rfl m3 (row_two (by simp [go_sem]) (by simp [go_sem]))).mono ?_; rintro e w' ⟨rfl, rfl⟩
                go_wp2_with fail
                refine (times_S _ _ X1 _ m4).mono ?_; rintro e w' ⟨rfl, rfl⟩
                go_wp2_with fail
                refine (plus_S _ 1 _ [x] X1 _ h1m rfl HX1 (row_one (by simp [go_sem]))).mono ?_; rintro e w' ⟨rfl, rfl⟩
                go_wp2_with fail
                refine (times_S _ _ 0 _ m5).mono ?_; rintro e w' ⟨rfl, rfl⟩
                go_wp2
                go_ret
                exact ⟨rfl, ((hBr.alloc hBr.size _).alloc (by have := hBr.size; simp; omega) _).alloc (by have := hBr.size; simp; omega) _⟩
              · have hy' : decide (y < 1) = false := by simpa using hy
                have hle : X1 ≤ P := tm_ge HP.out HX1.out (by omega)
                clear hy
                go_wp2_with fail
                refine (times_S _ _ P _ HP).mono ?_; rintro e w' ⟨rfl, rfl⟩
                go_wp2_with fail
                refine (times_S _ _ P _ m1).mono ?_; rintro e w' ⟨rfl, rfl⟩
                go_wp2_with fail
                refine (times_S _ _ Q1 _ HQ1).mono ?_; rintro e w' ⟨rfl, rfl⟩
                go_wp2_with fail
                refine (times_S _ _ R _ HR).mono ?_; rintro e w' ⟨rfl, rfl⟩
                go_wp2_with fail
                refine (times_S _ _ Q1 _ m2).mono ?_; rintro e w' ⟨rfl, rfl⟩
                go_wp2_with fail
                refine (plus_S _ 2 _ [y, z] U _ h2m rfl HU (row_two (by simp [go_sem]) (by simp [go_sem]))).mono ?_; rintro e w' ⟨rfl, rfl⟩
                go_wp2_with fail
                refine (times_S _ _ V _ HV).mono ?_; rintro e w' ⟨rfl, rfl⟩
                go_wp2_with fail
                refine (times_S _ _ G _ HG).mono ?_; rintro e w' ⟨rfl, rfl⟩
                go_wp2_with fail
                refine (plus_S _ 2 _ [P, G] V _ h2m rfl m3 (row_two (by simp [go_sem]) (by simp [go_sem]))).mono ?_; rintro e w' ⟨rfl, rfl⟩
                go_wp2_with fail
                refine (times_S _ _ X1 _ m4).mono ?_; rintro e w' ⟨rfl, rfl⟩
                go_wp2_with fail
                refine (plus_S _ 1 _ [x] X1 _ h1m rfl HX1 (row_one (by simp [go_sem]))).mono ?_; rintro e w' ⟨rfl, rfl⟩
                go_wp2_with fail
                refine (times_S _ _ 0 _ m5).mono ?_; rintro e w' ⟨rfl, rfl⟩
                go_wp2_with fail
                refine (plus_S _ 1 _ [x] X1 _ h1m rfl HX1 (row_one (by simp [go_sem]))).mono ?_; rintro e w' ⟨rfl, rfl⟩
                go_wp2
                go_ret
                exact ⟨rfl, (((hBr.alloc hBr.size _).alloc (by have := hBr.size; simp; omega) _).alloc (by have := hBr.size; simp; omega) _).alloc (by have := hBr.size; simp; omega) _⟩
      | succ j =>
        have hcx : wr.cell? ⟨b, off + j, none⟩ = some (.int .i64 (l.getD j 0)) := (hBr.cell (p := ⟨b, off + j, none⟩) hb).trans (HC.out j (by have := HL.out; omega))
        rw [show (((j + 1 : Nat) : Int) - 1) = (j : Int) from by omega]
        obtain ⟨q, HQ⟩ : ∃ q, Hid (l.getD j 0 = q) := ⟨_, rfl⟩
        rw [HQ.out] at hcx
        go_wp2_with (first | (at_builtin; refine wpList_append_own _ rfl _ _ 33 rfl w.heap.size 3 i0 (.int .i64 0) 1 8 Try.underlying33 hi hz0 hz1 hz2 rfl (by decide) _ _ _ rfl (hown.alloc _) ⟨wr.heap.size, 0, none⟩ 1 1 [.int .i64 q] rfl rfl ?c1 ?c2 ?c3 ?c4 ?c5 ?_) | go_in)
        case c1 =>
          intro t u ht
          match t, ht with
          | 0, ht => simp at ht; subst ht; simp [Addr.add]
        case c2 => intro u hu; simp at hu; subst hu; rfl
        case c3 => unfold maxLen; omega
        case c4 => omega
        case c5 => have := hBr.size; simp; omega
        intro v' w2 hown' hgrow _
        have R := rel_turn hj HL.out HQ.out hown' hgrow hown hBr
        clear hown' hgrow hown hcx hBr
        go_wp2
        go_roundw
        case rel => exact ⟨j, by omega, rfl, R.1, R.2⟩
        case measure => simp [intOf]
end Go.Proofs.Ytmhcihccliakaaa

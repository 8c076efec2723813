import Derived.Test.YtlbgdgobhiokpaaDoorPart14
import Derived.Test.YtlbgdgobhiokpaaDoorPart02

/- What the document's arena tells is the program's value, plain. -/
namespace Go.Proofs.YtlbgdgobhiokpaaDoor
open Go.RowKit
set_option linter.unusedVariables false

section
variable {N : List Nd} {S G : Stk} {R : List Md}
/-- A kid is there just if the program's arena has it. -/
theorem kid_there (hi : Inv N S G) (hr : Rel N S R) {p k : Nat} (hp : p < N.length) : 0 ≤ kidD R p k ↔ (((p : Int), (k : Int)) ∈ G ∨ (k : Int) < (N.getD p nil0).2.2) := by
  rw [hi.taken hp]
  constructor
  · intro h
    rcases kidD_is R p k with ⟨h1, _⟩ | ⟨j, h1, h2, h3, h4, h5⟩
    · omega
    · rw [hr.len] at h3
      exact ⟨j, h2, h3, by rw [hr.sp j h2 h3, h4, h5]⟩
  · rintro ⟨j, h1, h2, h3⟩
    rcases kidD_is R p k with ⟨_, h4⟩ | ⟨j', h4, _⟩
    · rw [hr.sp j h1 h2] at h3
      obtain ⟨e1, e2⟩ := Prod.mk.inj h3
      exact absurd ⟨e1, e2⟩ (h4 j h1 (by rw [hr.len]; exact h2))
    · omega
theorem kid_ch (hi : Inv N S G) (hr : Rel N S R) {p k : Nat} (h : 0 ≤ kidD R p k) : kidD R p k = (chS N S p k : Int) := by
  rcases kidD_is R p k with ⟨h1, _⟩ | ⟨j, h1, h2, h3, h4, h5⟩
  · omega
  · rw [hr.len] at h3
    rw [h1, chS_is hi h2 h3 (by rw [hr.sp j h2 h3, h4, h5])]
theorem toldK_some (T : Nat → Option (List Nd)) (R : List Md) (p : Nat) (V : Nat → List Nd) : ∀ (j k : Nat), (∀ i, k ≤ i → i < k + j → 0 ≤ kidD R p i ∧ T (kidD R p i).toNat = some (V i)) → toldK T R p j k = some ((List.range j).flatMap fun i => V (k + i))
  | 0, k, _ => rfl
  | j + 1, k, h => by
    obtain ⟨h1, h2⟩ := h k (Nat.le_refl _) (by omega)
    rw [toldK, if_pos h1, h2]
    simp only
    rw [toldK_some T R p V j (k + 1) (fun i a b => h i (by omega) (by omega)), List.range_succ_eq_map, List.flatMap_cons, Option.map_some]
    congr 2
    rw [List.flatMap_map]
    simp only [Nat.succ_eq_add_one]
    congr 1
    funext i
    rw [show k + 1 + i = k + (i + 1) by omega]
theorem toldK_all {T : Nat → Option (List Nd)} {R : List Md} {p : Nat} : ∀ {j k : Nat} {l : List Nd}, toldK T R p j k = some l → ∀ i, k ≤ i → i < k + j → 0 ≤ kidD R p i ∧ ∃ l', T (kidD R p i).toNat = some l'
  | 0, k, l, _, i, h1, h2 => by omega
  | j + 1, k, l, h, i, h1, h2 => by
    rw [toldK] at h
    split at h
    · rename_i h0
      cases hT : T (kidD R p k).toNat with
      | none => rw [hT] at h; simp at h
      | some l' =>
        rw [hT] at h
        simp only [Option.map_eq_some_iff] at h
        obtain ⟨l2, h3, _⟩ := h
        by_cases e : i = k
        · subst e; exact ⟨h0, l', hT⟩
        · exact toldK_all h3 i (by omega) (by omega)
    · simp at h
theorem cnt_nd (hc : Cnt N G R) (hr : Rel N S R) {p : Nat} (hp : p < N.length) (hg : gcnt G p = 0) : ndD R p = N.getD p nil0 := by
  have h := hc p hp
  rw [hg] at h
  obtain ⟨a, b⟩ := hr.nd p hp
  refine Prod.ext a (Prod.ext b ?_)
  show (cntD R (p : Int) : Int) = _
  omega
theorem told_of (hi : Inv N S G) (hr : Rel N S R) (hc : Cnt N G R) (hw : wholeB N G = true) : ∀ (f p : Nat), p < N.length → N.length ≤ p + f → toldD R f p = some (vOf N (chS N S) p)
  | 0, p, hp, hf => by omega
  | f + 1, p, hp, hf => by
    have hw' := hw
    unfold wholeB at hw'
    simp only [Bool.and_eq_true, decide_eq_true_eq] at hw'
    obtain ⟨w1, w2, w3⟩ := hw'
    have hG := List.length_eq_zero_iff.1 w3
    have hg : ∀ q, gcnt G q = 0 := fun q => by rw [hG]; rfl
    have hnd := cnt_nd hc hr hp (hg p)
    have hR : right (ndD R p) = true := by
      rw [hnd]
      exact List.all_eq_true.1 w1 _ (by rw [List.getD_eq_getElem?_getD, List.getElem?_eq_getElem hp]; exact List.getElem_mem hp)
    have hcn : cntD R (p : Int) = kN (N.getD p nil0) := by
      have h := hc p hp
      rw [hg] at h
      unfold kN
      omega
    rw [toldD, if_pos hR, vOf_step hi.kids hp, hnd, hcn]
    rw [toldK_some _ R p (fun k => vOf N (chS N S) (chS N S p k)) _ 0 (fun i h1 h2 => ?_)]
    · simp only [Option.map_some, Nat.zero_add]
    · have hk : i < kN (N.getD p nil0) := by omega
      have h0 : 0 ≤ kidD R p i := (kid_there hi hr hp).2 (.inr (by unfold kN at hk; omega))
      obtain ⟨a1, a2, a3⟩ := hi.kids p hp i hk
      refine ⟨h0, ?_⟩
      rw [kid_ch hi hr h0, Int.toNat_natCast]
      exact told_of hi hr hc hw f _ a2 (by omega)
/-- What is told is whole at each node that is reached. -/
theorem told_reach (h : Rok R) : ∀ (f p : Nat) (l : List Nd), p < R.length → toldD R f p = some l → ∀ i ∈ ids R f p, right (ndD R i) = true ∧ ∀ k : Nat, k < cntD R (i : Int) → 0 ≤ kidD R i k
  | 0, p, l, _, ht, i, hm => by simp [ids] at hm
  | f + 1, p, l, hp, ht, i, hm => by
    rw [toldD] at ht
    split at ht
    · rename_i hR
      rw [Option.map_eq_some_iff] at ht
      obtain ⟨l2, h2, _⟩ := ht
      have hall := toldK_all h2
      rw [ids, List.mem_cons] at hm
      rcases hm with rfl | hm
      · exact ⟨hR, fun k hk => (hall k (Nat.zero_le _) (by omega)).1⟩
      · obtain ⟨k, hk, hm⟩ := List.mem_flatMap.1 hm
        have hk := List.mem_range.1 hk
        obtain ⟨h0, l', hT⟩ := hall k (Nat.zero_le _) (by omega)
        rw [if_pos h0] at hm
        obtain ⟨j, hj⟩ := Int.eq_ofNat_of_zero_le h0
        obtain ⟨a1, a2, a3, a4, a5⟩ := kid_nat h hj
        rw [hj, Int.toNat_natCast] at hm hT
        exact told_reach h f j l' a2 hT i hm
    · simp at ht
theorem ids_self (f p : Nat) (hf : 0 < f) : p ∈ ids R f p := by
  obtain ⟨m, rfl⟩ : ∃ m, f = m + 1 := ⟨f - 1, by omega⟩
  rw [ids]
  exact List.mem_cons_self
theorem ids_close (h : Rok R) : ∀ (f p i k j : Nat), p < R.length → R.length ≤ p + f → i ∈ ids R f p → k < cntD R (i : Int) → kidD R i k = (j : Int) → j ∈ ids R f p
  | 0, p, i, k, j, _, _, hm, _, _ => by simp [ids] at hm
  | f + 1, p, i, k, j, hp, hf, hm, hk, hj => by
    obtain ⟨a1, a2, a3, a4, a5⟩ := kid_nat h hj
    rw [ids, List.mem_cons] at hm ⊢
    rcases hm with rfl | hm
    · refine .inr (List.mem_flatMap.2 ⟨k, List.mem_range.2 hk, ?_⟩)
      rw [if_pos (by omega), hj, Int.toNat_natCast]
      exact ids_self f j (by omega)
    · obtain ⟨k', hk', hm⟩ := List.mem_flatMap.1 hm
      refine .inr (List.mem_flatMap.2 ⟨k', hk', ?_⟩)
      split at hm
      · rename_i h0
        rw [if_pos h0]
        obtain ⟨q, hq⟩ := Int.eq_ofNat_of_zero_le h0
        obtain ⟨b1, b2, b3, b4, b5⟩ := kid_nat h hq
        rw [hq, Int.toNat_natCast] at hm ⊢
        exact ids_close h f q i k j b2 (by omega) hm hk hj
      · simp at hm
theorem told_back (hi : Inv N S G) (hr : Rel N S R) (hc : Cnt N G R) (h0 : 0 < N.length) (f : Nat) (hf : N.length ≤ f) (l : List Nd) (ht : toldD R f 0 = some l) : wholeB N G = true := by
  have hok := hr.ok hi
  have hre := told_reach hok f 0 l (by rw [hr.len]; exact h0) ht
  -- no node that is reached has a gap
  have hno : ∀ i, i < N.length → i ∈ ids R f 0 → gcnt G i = 0 := fun i hl hm => by
    rcases Nat.eq_zero_or_pos (gcnt G i) with e | e
    · exact e
    · have h1 := hc i hl
      have h2 := hi.pos i hl
      obtain ⟨c, hcc⟩ := Int.eq_ofNat_of_zero_le h2
      have h3 := (hre i hm).2 c (by omega)
      rcases (kid_there hi hr hl).1 h3 with h4 | h4
      · obtain ⟨j, j1, j2, j3, p, j4, j5⟩ := (hi.gap _).1 h4
        have j4' : (i : Int) = p := j4
        obtain rfl : i = p := by omega
        have j5' : (N.getD i nil0).2.2 < (c : Int) := j5
        omega
      · omega
  have hall : ∀ n i, i ≤ n → i < N.length → i ∈ ids R f 0 := by
    intro n
    induction n with
    | zero =>
      intro i h1 h2
      obtain rfl : i = 0 := by omega
      exact ids_self f 0 (by omega)
    | succ n ih =>
      intro i h1 h2
      by_cases e : i = 0
      · subst e; exact ids_self f 0 (by omega)
      · obtain ⟨p, k, h3, h4⟩ := hi.spt i (by omega) h2
        have hpm := ih p (by omega) (by omega)
        have hpl : p < N.length := by omega
        have hg := hno p hpl hpm
        have h5 : ((p : Int), (k : Int)) ∉ G := fun hm => by
          unfold gcnt at hg
          rw [List.countP_eq_zero] at hg
          exact hg _ hm (by simp)
        have hth := (hi.taken hpl).2 ⟨i, by omega, h2, h3⟩
        rcases hth with h6 | h6
        · exact absurd h6 h5
        · have h7 := hc p hpl
          rw [hg] at h7
          have h8 : 0 ≤ kidD R p k := (kid_there hi hr hpl).2 (.inr h6)
          have h9 := kid_ch hi hr h8
          rw [chS_is hi (by omega) h2 h3] at h9
          exact ids_close hok f 0 p k i (by rw [hr.len]; exact h0) (by rw [hr.len]; omega) hpm (by omega) h9
  have hgap : G = [] := by
    cases hg : G with
    | nil => rfl
    | cons e G' =>
      obtain ⟨i, h1, h2, h3, p, h4, h5⟩ := (hi.gap e).1 (by rw [hg]; simp)
      obtain ⟨p', k', h6, h7⟩ := hi.spt i h1 h2
      rw [h3] at h6
      have h8 : e.1 = (p' : Int) := by rw [h6]
      have h9 := hno p' (by omega) (hall p' p' (Nat.le_refl _) (by omega))
      unfold gcnt at h9
      rw [List.countP_eq_zero] at h9
      exact absurd (by simpa using h8) (h9 e (by rw [hg]; simp))
  have hR : N.all right = true := all_of fun j hj => by
    have hm := hall j j (Nat.le_refl _) hj
    rw [← cnt_nd hc hr hj (hno j hj hm)]
    exact (hre j hm).1
  rw [wholeB, hR, hgap]
  simp
  omega
/-- The list of what is told is no longer than the arena. -/
theorem toldK_len {T : Nat → Option (List Nd)} {R : List Md} {f p : Nat} (hT : ∀ i l, T i = some l → l.length = (ids R f i).length) : ∀ {j k : Nat} {l : List Nd}, toldK T R p j k = some l → l.length = idsK R f p j k
  | 0, k, l, h => by simp [toldK] at h; subst h; rfl
  | j + 1, k, l, h => by
    rw [toldK] at h
    split at h
    · rename_i h0
      cases hT1 : T (kidD R p k).toNat with
      | none => rw [hT1] at h; simp at h
      | some l' =>
        rw [hT1] at h
        simp only [Option.map_eq_some_iff] at h
        obtain ⟨l2, h3, rfl⟩ := h
        rw [List.length_append, idsK, if_pos h0, hT _ _ hT1, toldK_len hT h3]
    · simp at h
theorem toldD_len : ∀ {f p : Nat} {l : List Nd}, toldD R f p = some l → l.length = (ids R f p).length
  | 0, p, l, h => by simp [toldD] at h
  | f + 1, p, l, h => by
    rw [toldD] at h
    split at h
    · rw [Option.map_eq_some_iff] at h
      obtain ⟨l2, h2, rfl⟩ := h
      rw [ids_step, List.length_cons, toldK_len (fun i l hl => toldD_len hl) h2]
      omega
    · simp at h
theorem vOf_len (hi : Inv N S G) (hr : Rel N S R) (hc : Cnt N G R) (hw : wholeB N G = true) : (vOf N (chS N S) 0).length ≤ N.length := by
  have h0 : 0 < N.length := by
    unfold wholeB at hw
    simp only [Bool.and_eq_true, decide_eq_true_eq] at hw
    exact hw.2.1
  have h := told_of hi hr hc hw N.length 0 h0 (by omega)
  rw [toldD_len h, ← hr.len]
  exact ids_len (hr.ok hi) _ _ (by rw [hr.len]; exact h0)
end
end Go.Proofs.YtlbgdgobhiokpaaDoor

/- The document's Number, Right, Check, Next. -/
namespace Go.Proofs.YtlbgdgobhiokpaaDoor
open Go.RowKit
set_option linter.unusedVariables false
set_option linter.unusedSimpArgs false

def numB (k n : Int) : Bool := decide ((1 ≤ k ∧ k ≤ 6) ∧ n ≤ mostN k)
theorem kind_cases (k : Int) : k = 1 ∨ k = 2 ∨ k = 3 ∨ k = 4 ∨ k = 5 ∨ k = 6 ∨ (k ≠ 1 ∧ k ≠ 2 ∧ k ≠ 3 ∧ k ≠ 4 ∧ k ≠ 5 ∧ k ≠ 6) := by omega
set_option maxRecDepth 100000 in
set_option maxHeartbeats 4000000 in
theorem numberD_any (k n : Int) (w : World) (h0 : 0 ≤ n ∧ n ≤ 18446744073709551615) : Calls Tryd.prog 49 #[.int .i64 k, .int .u64 n] w fun e w' => e = .returned (.bool (numB k n)) ∧ w = w' := by
  go_enter Tryd.func49, Tryd.ntmps49
  rcases kind_cases k with rfl | rfl | rfl | rfl | rfl | rfl | ⟨k1, k2, k3, k4, k5, k6⟩
  · have hn : numB 1 n = true := by simp [numB, mostN]; omega
    rw [hn]
    go_wp2
    go_ret
    exact ⟨rfl, rfl⟩
  · by_cases h : n ≤ 1
    · have hn : numB 2 n = true := by simp [numB, mostN]; omega
      rw [hn]
      go_wp2
      go_ret
      exact ⟨by first | rfl | (simp [h]), rfl⟩
    · have hn : numB 2 n = false := by simp [numB, mostN]; omega
      rw [hn]
      go_wp2
      go_ret
      exact ⟨by first | rfl | (simp [h]), rfl⟩
  · by_cases h : n = 0
    · subst h
      go_wp2
      go_ret
      exact ⟨rfl, rfl⟩
    · have hn : numB 3 n = false := by simp [numB, mostN]; omega
      have hb : (n == 0) = false := by simpa using h
      rw [hn]
      go_wp2
      go_ret
      exact ⟨rfl, rfl⟩
  · by_cases h : n = 0
    · subst h
      go_wp2
      go_ret
      exact ⟨rfl, rfl⟩
    · have hn : numB 4 n = false := by simp [numB, mostN]; omega
      have hb : (n == 0) = false := by simpa using h
      rw [hn]
      go_wp2
      go_ret
      exact ⟨rfl, rfl⟩
  · by_cases h : n = 0
    · subst h
      go_wp2
      go_ret
      exact ⟨rfl, rfl⟩
    · have hn : numB 5 n = false := by simp [numB, mostN]; omega
      have hb : (n == 0) = false := by simpa using h
      rw [hn]
      go_wp2
      go_ret
      exact ⟨rfl, rfl⟩
  · by_cases h : n ≤ 255
    · have hn : numB 6 n = true := by simp [numB, mostN]; omega
      rw [hn]
      go_wp2
      go_ret
      exact ⟨by first | rfl | (simp [h]), rfl⟩
    · have hn : numB 6 n = false := by simp [numB, mostN]; omega
      rw [hn]
      go_wp2
      go_ret
      exact ⟨by first | rfl | (simp [h]), rfl⟩
  · have hn : numB k n = false := by simp [numB]; intros; omega
    rw [hn]
    have b1 : (k == 1) = false := by simpa using k1
    have b2 : (k == 2) = false := by simpa using k2
    have b3 : (k == 3) = false := by simpa using k3
    have b4 : (k == 4) = false := by simpa using k4
    have b5 : (k == 5) = false := by simpa using k5
    have b6 : (k == 6) = false := by simpa using k6
    by_cases h : n = 0
    · subst h
      go_wp2
      go_ret
      exact ⟨rfl, rfl⟩
    · have hb : (n == 0) = false := by simpa using h
      go_wp2
      go_ret
      exact ⟨rfl, rfl⟩
set_option maxRecDepth 100000 in
set_option maxHeartbeats 4000000 in
theorem rightD_any (x : Nd) (w : World) (h0 : 0 ≤ x.2.1 ∧ x.2.1 ≤ 18446744073709551615) : Calls Tryd.prog 65 #[ndv x] w fun e w' => e = .returned (.bool (right x)) ∧ Below w.heap.size w w' := by
  obtain ⟨k, n, c⟩ := x
  simp only at h0
  unfold ndv
  obtain ⟨wA, hwA⟩ : ∃ wA, wA = w.alloc (.cells #[.int .i64 k, .int .u64 n, .int .i64 c] 37) := ⟨_, rfl⟩
  have HB : Hid (Below w.heap.size w wA) := by rw [hwA]; exact (Below.refl _ _).alloc (Nat.le_refl _) _
  have K := Blk.newA w #[.int .i64 k, .int .u64 n, .int .i64 c] 37
  rw [← hwA] at K
  have c0 : wA.cell? ⟨w.heap.size, 0, none⟩ = some (.int .i64 k) := K.cell 0
  have c1 : wA.cell? ⟨w.heap.size, 1, none⟩ = some (.int .u64 n) := K.cell 1
  have c2 : wA.cell? ⟨w.heap.size, 2, none⟩ = some (.int .i64 c) := K.cell 2
  go_enter Tryd.func65, Tryd.ntmps65
  go_upto_region 1 with fail
  rw [← hwA]
  clear hwA K
  go_wp2_with fail
  refine (numberD_any k n wA h0).mono ?_; rintro e w1 ⟨rfl, rfl⟩
  cases hnb : numB k n
  · have hr : right (k, n, c) = false := by simp [numB] at hnb; simp [right]; intros; omega
    go_wp2
    go_ret
    exact ⟨by rw [hr]; rfl, HB.out⟩
  · have hnb' : (1 ≤ k ∧ k ≤ 6) ∧ n ≤ mostN k := by simpa [numB] using hnb
    clear hnb
    rcases kind_cases k with rfl | rfl | rfl | rfl | rfl | rfl | ⟨k1, k2, k3, k4, k5, k6⟩
    · by_cases h : c = 0
      · subst h
        have hr : right (1, n, 0) = true := (right_iff _).2 ⟨hnb'.1, hnb'.2, by simp [leastK], by simp [mostK]⟩
        go_wp2
        go_ret
        exact ⟨by rw [hr]; rfl, HB.out⟩
      · have hr : right (1, n, c) = false := by simp [right, leastK, mostK]; intros; omega
        have hb : (c == 0) = false := by simpa using h
        go_wp2
        go_ret
        exact ⟨by rw [hr]; rfl, HB.out⟩
    · by_cases h : c = 0
      · subst h
        have hr : right (2, n, 0) = true := (right_iff _).2 ⟨hnb'.1, hnb'.2, by simp [leastK], by simp [mostK]⟩
        go_wp2
        go_ret
        exact ⟨by rw [hr]; rfl, HB.out⟩
      · have hr : right (2, n, c) = false := by simp [right, leastK, mostK]; intros; omega
        have hb : (c == 0) = false := by simpa using h
        go_wp2
        go_ret
        exact ⟨by rw [hr]; rfl, HB.out⟩
    · by_cases h : 0 ≤ c
      · by_cases h2 : c ≤ 1048576
        · have hr : right (3, n, c) = true := (right_iff _).2 ⟨hnb'.1, hnb'.2, by simpa [leastK] using h, by simpa [mostK] using h2⟩
          go_wp2
          go_ret
          exact ⟨by first | (rw [hr]; rfl) | (rw [hr]; simp [h2]; done) | rfl | (simp [h2]; done), HB.out⟩
        · have hr : right (3, n, c) = false := by simp [right, leastK, mostK]; intros; omega
          go_wp2
          go_ret
          exact ⟨by first | (rw [hr]; rfl) | (rw [hr]; simp [h2]; done) | rfl | (simp [h2]; done), HB.out⟩
      · have hr : right (3, n, c) = false := by simp [right, leastK, mostK]; intros; omega
        go_wp2
        go_ret
        exact ⟨by first | (rw [hr]; rfl) | (rw [hr]; simp [h]; done) | rfl | (simp [h]; done), HB.out⟩
    · by_cases h : 1 ≤ c
      · by_cases h2 : c ≤ 64
        · have hr : right (4, n, c) = true := (right_iff _).2 ⟨hnb'.1, hnb'.2, by simpa [leastK] using h, by simpa [mostK] using h2⟩
          go_wp2
          go_ret
          exact ⟨by first | (rw [hr]; rfl) | (rw [hr]; simp [h2]; done) | rfl | (simp [h2]; done), HB.out⟩
        · have hr : right (4, n, c) = false := by simp [right, leastK, mostK]; intros; omega
          go_wp2
          go_ret
          exact ⟨by first | (rw [hr]; rfl) | (rw [hr]; simp [h2]; done) | rfl | (simp [h2]; done), HB.out⟩
      · have hr : right (4, n, c) = false := by simp [right, leastK, mostK]; intros; omega
        go_wp2
        go_ret
        exact ⟨by first | (rw [hr]; rfl) | (rw [hr]; simp [h]; done) | rfl | (simp [h]; done), HB.out⟩
    · by_cases h : c = 0
      · subst h
        have hr : right (5, n, 0) = true := (right_iff _).2 ⟨hnb'.1, hnb'.2, by simp [leastK], by simp [mostK]⟩
        go_wp2
        go_ret
        exact ⟨by rw [hr]; rfl, HB.out⟩
      · have hb : (c == 0) = false := by simpa using h
        by_cases h2 : c = 1
        · subst h2
          have hr : right (5, n, 1) = true := (right_iff _).2 ⟨hnb'.1, hnb'.2, by simp [leastK], by simp [mostK]⟩
          go_wp2
          go_ret
          exact ⟨by rw [hr]; rfl, HB.out⟩
        · have hb2 : (c == 1) = false := by simpa using h2
          have hr : right (5, n, c) = false := by simp [right, leastK, mostK]; intros; omega
          go_wp2
          go_ret
          exact ⟨by rw [hr]; rfl, HB.out⟩
    · by_cases h : c = 1
      · subst h
        have hr : right (6, n, 1) = true := (right_iff _).2 ⟨hnb'.1, hnb'.2, by simp [leastK], by simp [mostK]⟩
        go_wp2
        go_ret
        exact ⟨by rw [hr]; rfl, HB.out⟩
      · have hr : right (6, n, c) = false := by simp [right, leastK, mostK]; intros; omega
        have hb : (c == 1) = false := by simpa using h
        go_wp2
        go_ret
        exact ⟨by rw [hr]; rfl, HB.out⟩
    · omega
end Go.Proofs.YtlbgdgobhiokpaaDoor

/- The document's Check, Next. -/
namespace Go.Proofs.YtlbgdgobhiokpaaDoor
open Go.RowKit
set_option linter.unusedVariables false

/-- Numbers that a memory holds. -/
def NatN (l : List Nd) : Prop := ∀ x ∈ l, 0 ≤ x.2.1 ∧ x.2.1 ≤ 18446744073709551615
theorem NatN.at {l : List Nd} (h : NatN l) {k : Nat} (hk : k < l.length) : 0 ≤ (l.getD k nil0).2.1 ∧ (l.getD k nil0).2.1 ≤ 18446744073709551615 :=
  h _ (by rw [List.getD_eq_getElem?_getD, List.getElem?_eq_getElem hk]; exact List.getElem_mem hk)
set_option maxRecDepth 100000 in
set_option maxHeartbeats 4000000 in
theorem checkD_any (a : Option Addr) (len cap : Nat) (l : List Nd) (w : World) (hl : l.length = len) (hs : len ≤ 1000000) (hr : Hid (NRow w a l)) (hn : Hid (NatN l)) :
    Calls Tryd.prog 42 #[.slice a len cap] w fun e w' => e = .returned (pairv (chk 1 0 l)) ∧ Below w.heap.size w w' := by
  go_enter Tryd.func42, Tryd.ntmps42
  go_wp2_with fail
  go_loopw [4, 5] (fun m i wr => ∃ (M : Int) (k : Nat), k ≤ len ∧ i = .int .i64 k ∧ m = .int .i64 M ∧ 0 ≤ M ∧ M ≤ 1 + 1048576 * (k : Int) ∧ Hid (chk M k (l.drop k) = chk 1 0 l) ∧ Hid (Below w.heap.size w wr)) (fun _ i _ => len - (intOf i).toNat)
  case atStart => exact ⟨1, 0, Nat.zero_le _, rfl, rfl, by omega, by omega, rfl, Below.refl _ _⟩
  case round =>
    obtain ⟨M, k, hk, rfl, rfl, hM0, hM1, HC, HB⟩ := hrel
    by_cases hlt : k < len
    · obtain ⟨b, off, rfl, hb, hc⟩ := hr.out.open (by omega)
      obtain ⟨c0, c1, c2⟩ := hc k (by omega)
      have hlt' : (k : Int) < len := by omega
      have d0 := (HB.out.cell (p := ⟨b, off + k * 3, none⟩) hb).trans c0
      have d1 := (HB.out.cell (p := ⟨b, off + k * 3 + 1, none⟩) hb).trans c1
      have d2 := (HB.out.cell (p := ⟨b, off + k * 3 + 2, none⟩) hb).trans c2
      have HC1 : Hid (chk M k (l.getD k nil0 :: l.drop (k + 1)) = chk 1 0 l) := by
        have := HC.out
        rw [drop_at l k (by omega)] at this
        exact this
      have hnk := hn.out.at (k := k) (by omega)
      clear hc c0 c1 c2 HC
      generalize l.getD k nil0 = x at *
      obtain ⟨xk, xn, xc⟩ := x
      simp only at hnk
      by_cases hM : M = 0
      · subst hM
        have HE : Hid (chk 1 0 l = (40, (k : Int))) := by
          have := HC1.out
          rw [chk, if_pos (.inl rfl)] at this
          exact this.symm
        go_wp2
        go_ret2
        exact ⟨ret_pair HE.out, HB.out⟩
      · have hbM : (M == 0) = false := by simpa using hM
        go_wp2_with fail
        refine (rightD_any (xk, xn, xc) _ hnk).mono ?_; rintro e w1 ⟨rfl, hB1⟩
        have HB1 : Hid (Below w.heap.size w w1) := HB.out.trans (hB1.mono HB.out.size)
        have f2 : w1.cell? ⟨b, off + k * 3 + 2, none⟩ = some (.int .i64 xc) := (HB1.out.cell (p := ⟨b, off + k * 3 + 2, none⟩) hb).trans ((HB.out.cell (p := ⟨b, off + k * 3 + 2, none⟩) hb).symm.trans d2)
        clear hB1 d0 d1 d2
        by_cases hx : right (xk, xn, xc) = true
        · have HC2 : Hid (chk (M + (xc - 1)) (k + 1) (l.drop (k + 1)) = chk 1 0 l) := by
            have := HC1.out
            rw [chk, if_neg (by simp [hM, hx])] at this
            exact this
          have hxc := right_kids hx
          simp only at hxc
          clear HC1 HB hr
          rw [hx]
          go_wp2
          go_roundw
          case rel => exact ⟨M + (xc - 1), k + 1, by omega, by go_num, by go_num, by omega, by omega, by simpa using HC2, HB1⟩
          case measure => simp [intOf]; omega
        · have hx' : right (xk, xn, xc) = false := by simpa using hx
          have HE : Hid (chk 1 0 l = (40, (k : Int))) := by
            have := HC1.out
            rw [chk, if_pos (.inr hx')] at this
            exact this.symm
          rw [hx']
          go_wp2
          go_ret2
          exact ⟨ret_pair HE.out, HB1.out⟩
    · obtain rfl : k = len := by omega
      have HC1 := HC.out
      rw [List.drop_eq_nil_of_le (by omega), chk] at HC1
      have hnl : ¬ ((k : Int) < (k : Int)) := by omega
      by_cases hM : 0 < M
      · rw [if_pos hM] at HC1
        have HC2 : Hid (chk 1 0 l = (40, (k : Int))) := HC1.symm
        clear HC1
        go_wp2
        go_ret2
        exact ⟨ret_pair HC2.out, HB.out⟩
      · rw [if_neg hM] at HC1
        have HC2 : Hid (chk 1 0 l = (0, 0)) := HC1.symm
        clear HC1
        go_wp2
        go_ret2
        exact ⟨ret_pair HC2.out, HB.out⟩
set_option maxRecDepth 100000 in
set_option maxHeartbeats 4000000 in
theorem behindD_any (a : Option Addr) (len cap p : Nat) (l : List Nd) (w : World) (hl : l.length = len) (hs : len ≤ 1000000) (hp : p ≤ len) (hr : Hid (NRow w a l)) (he : Hid (Enough 1 (l.drop p))) :
    Calls Tryd.prog 43 #[.slice a len cap, .int .i64 p] w fun e w' => e = .returned (.int .i64 ((p + bh 1 (l.drop p) : Nat) : Int)) ∧ w = w' := by
  go_enter Tryd.func43, Tryd.ntmps43
  go_wp2_with fail
  go_loopw [1, 5] (fun i m wr => ∃ (q u : Nat), q ≤ len ∧ p ≤ q ∧ i = .int .i64 q ∧ m = .int .i64 u ∧ u ≤ 1048576 * (q + 1) ∧ Hid (Enough u (l.drop q)) ∧ Hid (q + bh u (l.drop q) = p + bh 1 (l.drop p)) ∧ w = wr) (fun i _ _ => len - (intOf i).toNat)
  case atStart => exact ⟨p, 1, hp, Nat.le_refl _, rfl, rfl, by omega, he, rfl, rfl⟩
  case round =>
    clear he
    obtain ⟨q, u, hq, hpq, rfl, rfl, hu, HE, HQ, rfl⟩ := hrel
    cases u with
    | zero =>
      go_wp2
      go_ret
      refine ⟨?_, rfl⟩
      have := HQ.out
      rw [bh_zero, Nat.add_zero] at this
      exact ret_int (congrArg Nat.cast this)
    | succ u =>
      have hlt : q < len := by
        rcases Nat.lt_or_ge q len with h | h
        · exact h
        · have := HE.out
          rw [List.drop_eq_nil_of_le (by omega)] at this
          exact this.elim
      obtain ⟨b, off, rfl, hb, hc⟩ := hr.out.open (by omega)
      obtain ⟨-, -, c2⟩ := hc q (by omega)
      have HE1 := HE.out
      have HQ1 := HQ.out
      rw [drop_at l q (by omega)] at HE1 HQ1
      obtain ⟨x0, x1, HE2⟩ := HE1
      rw [bh] at HQ1
      generalize (l.getD q nil0).2.2 = xc at *
      obtain ⟨xc, rfl⟩ := Int.eq_ofNat_of_zero_le x0
      simp only [Int.toNat_natCast] at *
      have HE3 : Hid (Enough (u + xc) (l.drop (q + 1))) := HE2
      have HQ3 : Hid (q + 1 + bh (u + xc) (l.drop (q + 1)) = p + bh 1 (l.drop p)) := by show _ = _; omega
      clear HE2 HQ1 hc HE HQ
      go_wp2
      go_roundw
      case rel => exact ⟨q + 1, u + xc, by omega, by omega, by go_num, by go_num, by omega, HE3, HQ3, trivial⟩
      case measure => simp [intOf]; omega
set_option maxRecDepth 100000 in
set_option maxHeartbeats 4000000 in
theorem nextD_any (a : Option Addr) (len cap : Nat) (p : Int) (l : List Nd) (w : World) (hl : l.length = len) (hs : len ≤ 1000000) (hr : Hid (NRow w a l)) (hn : Hid (NatN l)) :
    Calls Tryd.prog 22 #[.slice a len cap, .int .i64 p] w fun e w' => e = .returned (pairv (nextR l p)) ∧ Below w.heap.size w w' := by
  go_enter Tryd.func22, Tryd.ntmps22
  go_wp2_with fail
  refine (checkD_any a len cap l w hl hs hr hn).mono ?_; rintro e w1 ⟨rfl, hB1⟩
  unfold pairv
  rcases chk_err l 1 0 with hc | hc
  · obtain ⟨hen, _, _⟩ := chk_enough l 1 0 hc
    by_cases h1 : p < 0
    · have hpl : place l p = 3 := by rw [place, if_pos hc, if_pos (.inl h1)]
      have HE : Hid (nextR l p = (0, 3)) := by show _ = _; rw [nextR, hpl, if_neg (by omega)]
      clear hpl
      rw [hc]
      go_wp2
      go_ret2
      exact ⟨ret_pair HE.out, hB1⟩
    · by_cases h2 : (len : Int) ≤ p
      · have hpl : place l p = 3 := by rw [place, if_pos hc, if_pos (.inr (by omega))]
        have HE : Hid (nextR l p = (0, 3)) := by show _ = _; rw [nextR, hpl, if_neg (by omega)]
        clear hpl
        rw [hc]
        go_wp2
        go_ret2
        exact ⟨ret_pair HE.out, hB1⟩
      · obtain ⟨q, rfl⟩ := Int.eq_ofNat_of_zero_le (show 0 ≤ p by omega)
        have HE : Hid (nextR l (q : Int) = (((q + bh 1 (l.drop q) : Nat) : Int), 0)) := by
          show _ = _
          have hpl : place l (q : Int) = 0 := by rw [place, if_pos hc, if_neg (by omega)]
          rw [nextR, if_pos hpl, Int.toNat_natCast]
          simp
        have hen2 : Hid (Enough 1 (l.drop q)) := chk_at l 1 0 q hc (by omega)
        have hr1 : Hid (NRow w1 a l) := hr.out.later hB1
        rw [hc]
        go_wp2_with fail
        refine (behindD_any a len cap q l w1 hl hs (by omega) hr1 hen2).mono ?_; rintro e w2 ⟨rfl, rfl⟩
        go_wp2
        go_ret2
        exact ⟨ret_pair HE.out, hB1⟩
  · have HE : Hid (nextR l p = (0, 40)) := by
      show _ = _
      have hpl : place l p = 40 := by rw [place, if_neg (by rw [hc]; omega)]
      rw [nextR, hpl, if_neg (by omega)]
    rw [hc]
    go_wp2
    go_ret2
    exact ⟨ret_pair HE.out, hB1⟩
end Go.Proofs.YtlbgdgobhiokpaaDoor

/- The document's arena in memory: most, kid, Count, Add. -/
namespace Go.Proofs.YtlbgdgobhiokpaaDoor
open Go.RowKit
set_option linter.unusedVariables false
set_option linter.unusedSimpArgs false

def mdc (x : Md) : List Value := [.int .i64 x.1, .int .u64 x.2.1, .int .i64 x.2.2.1, .int .i64 x.2.2.2]
def cellsM (R : List Md) : List Value := R.flatMap mdc
theorem cellsM_append (R R' : List Md) : cellsM (R ++ R') = cellsM R ++ cellsM R' := by simp [cellsM]
theorem cellsM_at : ∀ (R : List Md) (i : Nat), i < R.length → (cellsM R)[i * 4]? = some (.int .i64 (R.getD i md0).1) ∧ (cellsM R)[i * 4 + 1]? = some (.int .u64 (R.getD i md0).2.1) ∧ (cellsM R)[i * 4 + 2]? = some (.int .i64 (R.getD i md0).2.2.1) ∧ (cellsM R)[i * 4 + 3]? = some (.int .i64 (R.getD i md0).2.2.2)
  | [], i, h => by simp at h
  | x :: R, 0, h => by simp [cellsM, mdc]
  | x :: R, i + 1, h => by
    obtain ⟨h0, h1, h2, h3⟩ := cellsM_at R i (by simpa using h)
    have e : cellsM (x :: R) = mdc x ++ cellsM R := by simp [cellsM]
    have hl : (mdc x).length = 4 := rfl
    rw [e, List.getD_cons_succ]
    refine ⟨?_, ?_, ?_, ?_⟩ <;> rw [List.getElem?_append_right (by rw [hl]; omega), hl]
    · rw [show (i + 1) * 4 - 4 = i * 4 by omega]; exact h0
    · rw [show (i + 1) * 4 + 1 - 4 = i * 4 + 1 by omega]; exact h1
    · rw [show (i + 1) * 4 + 2 - 4 = i * 4 + 2 by omega]; exact h2
    · rw [show (i + 1) * 4 + 3 - 4 = i * 4 + 3 by omega]; exact h3
structure RA (B : Nat) (w : World) (b : Nat) (vl : Value) (R : List Md) : Prop where
  blk : Blk w b 64 [vl]
  hb : B ≤ b
  row : w.ownsRow B 113 4 vl R.length (cellsM R)
def FtR (b : Nat) (vl : Value) (k : Nat) : Prop := k = b ∨ vl.ownBlock = some k
section
variable {B b : Nat} {w w' : World} {vl : Value} {R : List Md}
theorem RA.upd {T : Nat → Prop} (h : RA B w b vl R) (hu : Upd T w w') (hd : ∀ k, FtR b vl k → ¬ T k) : RA B w' b vl R :=
  ⟨h.blk.upd hu (hd b (.inl rfl)), h.hb, ownS_upd h.row hu fun k hk => hd k (.inr hk)⟩
theorem RA.later (h : RA B w b vl R) (hB : Below w.heap.size w w') : RA B w' b vl R := h.upd (Upd.of_below (S := fun _ => False) hB) (fun _ _ h => h)
theorem RA.feet (h : RA B w b vl R) {k : Nat} (hk : FtR b vl k) : B ≤ k ∧ k < w.heap.size := by
  rcases hk with rfl | hk
  · exact ⟨h.hb, h.blk.lt⟩
  · exact h.row.lt k hk
theorem RA.base (h : RA B w b vl R) : B ≤ w.heap.size := Nat.le_of_lt (Nat.lt_of_le_of_lt h.hb h.blk.lt)
theorem RA.c0 (h : RA B w b vl R) : w.cell? ⟨b, 0, none⟩ = some vl := h.blk.cell 0
theorem RA.vl_is (h : RA B w b vl R) : ∃ a c, vl = .slice a R.length c ∧ c ≤ 9223372036854775807 := by
  rcases h.row.2 with ⟨e, h0⟩ | ⟨g, cap, cur, e, _, _, _, hm, _⟩
  · exact ⟨none, 0, by rw [e, h0], by omega⟩
  · unfold maxLen at hm; exact ⟨_, _, e, hm⟩
theorem RA.node (h : RA B w b vl R) {o : Nat} (ho : o < R.length) : ∃ gn cn, vl = .slice (some ⟨gn, 0, none⟩) R.length cn ∧ R.length ≤ cn ∧ cn ≤ maxLen ∧ gn < w.heap.size ∧
    w.cell? ⟨gn, o * 4, none⟩ = some (.int .i64 (R.getD o md0).1) ∧ w.cell? ⟨gn, o * 4 + 1, none⟩ = some (.int .u64 (R.getD o md0).2.1) ∧ w.cell? ⟨gn, o * 4 + 2, none⟩ = some (.int .i64 (mpar R o)) ∧ w.cell? ⟨gn, o * 4 + 3, none⟩ = some (.int .i64 (mkid R o)) := by
  obtain ⟨g, cap, ys, e, hb, hn, hm, hl, ht, hK⟩ := ownS_blk h.row (by omega)
  have hat : ∀ i, i < R.length * 4 → ys[i]? = (cellsM R)[i]? := fun i hi => by rw [← ht, List.getElem?_take, if_pos hi]
  obtain ⟨c0, c1, c2, c3⟩ := cellsM_at R o ho
  exact ⟨g, cap, e, hn, hm, hK.lt, by rw [hK.cell, hat _ (by omega), c0], by rw [hK.cell, hat _ (by omega), c1], by rw [hK.cell, hat _ (by omega), c2]; rfl, by rw [hK.cell, hat _ (by omega), c3]; rfl⟩
theorem RA.push (h : RA B w b vl R) (x : Md) (hR : R.length ≤ 2000000) :
    ∃ g cap w', (Builtin.append_ #[62, 62] 62 #[vl, .slice (some ⟨w.heap.size, 0, none⟩) 1 1]).run Tryd.prog (w.alloc (.cells #[.int .i64 x.1, .int .u64 x.2.1, .int .i64 x.2.2.1, .int .i64 x.2.2.2] 113)) = .ok (.slice (some ⟨g, 0, none⟩) (R.length + 1) cap) w' ∧ w'.cell? ⟨b, 0, none⟩ = some vl ∧ w'.frozen? ⟨b, 0, none⟩ = false ∧
      RA B (w'.setCell ⟨b, 0, none⟩ (.slice (some ⟨g, 0, none⟩) (R.length + 1) cap)) b (.slice (some ⟨g, 0, none⟩) (R.length + 1) cap) (R ++ [x]) ∧
      Upd (FtR b vl) w (w'.setCell ⟨b, 0, none⟩ (.slice (some ⟨g, 0, none⟩) (R.length + 1) cap)) ∧ ∀ k, FtR b (.slice (some ⟨g, 0, none⟩) (R.length + 1) cap) k → FtR b vl k ∨ w.heap.size ≤ k := by
  have hB := h.base
  obtain ⟨g, cap, w', r1, o1, u1, l1⟩ := run_pushS (P := Tryd.prog) (t := 62) (e := 113) (z := .agg #[.int .i64 0, .int .u64 0, .int .i64 0, .int .i64 0]) (bytes := 32) Tryd.underlying62 (by kernel_rfl) rfl (by decide) w 62 h.row (mdc x) rfl (by intro u hu; simp [mdc] at hu; rcases hu with rfl | rfl | rfl | rfl <;> rfl) (by unfold maxLen; omega) (by omega) hB
  have hb1 : Blk w' b 64 [vl] := h.blk.upd u1 fun hk => by
    obtain ⟨ys, hy⟩ := ownS_type h.row hk
    exact absurd (blk_type h.blk hy) (by decide)
  refine ⟨g, cap, w', r1, hb1.cell 0, hb1.frozen 0, ⟨hb1.set 0 _, h.hb, ?_⟩, (u1.mono fun k _ hk => .inr hk).set _ _ (.inl (.inl rfl)), ?_⟩
  · have h2 := own_far (i := 0) (u := .slice (some ⟨g, 0, none⟩) (R.length + 1) cap) o1 hb1 (by decide)
    rw [List.length_append, cellsM_append]
    have e : cellsM [x] = mdc x := by simp [cellsM]
    rw [e]
    exact h2
  · rintro q (rfl | hq)
    · exact .inl (.inl rfl)
    · have e : g = q := own_is hq
      subst e
      rcases l1 with l1 | l1
      · exact .inl (.inr l1)
      · exact .inr l1
end
set_option maxRecDepth 100000 in
set_option maxHeartbeats 4000000 in
theorem mostD_any (k : Int) (w : World) : Calls Tryd.prog 50 #[.int .i64 k] w fun e w' => e = .returned (.int .i64 (mostK k)) ∧ w = w' := by
  go_enter Tryd.func50, Tryd.ntmps50
  rcases kind_cases k with rfl | rfl | rfl | rfl | rfl | rfl | ⟨k1, k2, k3, k4, k5, k6⟩
  iterate 6
    · go_wp2
      go_ret
      exact ⟨rfl, rfl⟩
  · have hk : mostK k = 0 := by unfold mostK; rw [if_neg k3, if_neg k4, if_neg k5, if_neg k6]
    have b3 : (k == 3) = false := by simpa using k3
    have b4 : (k == 4) = false := by simpa using k4
    have b5 : (k == 5) = false := by simpa using k5
    have b6 : (k == 6) = false := by simpa using k6
    rw [hk]
    go_wp2
    go_ret
    exact ⟨rfl, rfl⟩
theorem countD_any (B b : Nat) (vl : Value) (R : List Md) (w : World) (hA : Hid (RA B w b vl R)) : Calls Tryd.prog 29 #[.pointer (some ⟨b, 0, none⟩)] w fun e w' => e = .returned (.int .i64 (R.length : Int)) ∧ w = w' := by
  obtain ⟨an, cn, rfl, h1⟩ := hA.out.vl_is
  have c0 := hA.out.c0
  go_enter Tryd.func29, Tryd.ntmps29
  go_wp2
  go_ret
  exact ⟨rfl, rfl⟩
set_option maxRecDepth 100000 in
set_option maxHeartbeats 4000000 in
theorem kidD_any (B b : Nat) (p k : Int) (vl : Value) (R : List Md) (w : World) (hA : Hid (RA B w b vl R)) (hR : R.length ≤ 1000000) :
    Calls Tryd.prog 51 #[.pointer (some ⟨b, 0, none⟩), .int .i64 p, .int .i64 k] w fun e w' => e = .returned (.int .i64 (kidD R p k)) ∧ w = w' := by
  obtain ⟨an, cn, rfl, h1⟩ := hA.out.vl_is
  have c0 := hA.out.c0
  go_enter Tryd.func51, Tryd.ntmps51
  go_wp2_with fail
  go_loopw [7] (fun xi wr => ∃ (i f : Nat), xi = .int .i64 i ∧ i ≤ R.length + 1 ∧ 1 ≤ i ∧ f = R.length - i ∧ Hid (kidG R p k f i = kidD R p k) ∧ w = wr) (fun xi _ => R.length + 1 - (intOf xi).toNat)
  case atStart => exact ⟨1, R.length - 1, rfl, by omega, Nat.le_refl _, rfl, rfl, rfl⟩
  case round =>
    obtain ⟨i, f, rfl, hi, hi1, hf, HK, rfl⟩ := hrel
    by_cases hlt : i < R.length
    · have hlt' : (i : Int) < R.length := by omega
      obtain ⟨f, rfl⟩ : ∃ f', f = f' + 1 := ⟨f - 1, by omega⟩
      obtain ⟨gn, cn', hv, hn1, hn2, hgn, -, -, n2, n3⟩ := hA.out.node hlt
      have e1 : an = some ⟨gn, 0, none⟩ ∧ cn = cn' := by simpa using hv
      obtain ⟨rfl, rfl⟩ := e1
      have HK1 := HK.out
      rw [kidG] at HK1
      clear hv HK
      by_cases hp : mpar R i = p
      · rw [hp] at n2
        by_cases hk : mkid R i = k
        · rw [hk] at n3
          have HE : Hid (kidD R p k = (i : Int)) := by
            rw [if_pos ⟨hp, hk⟩] at HK1
            exact HK1.symm
          clear HK1 hp hk
          go_wp2
          go_ret
          exact ⟨ret_int HE.out.symm, rfl⟩
        · have hbk : (mkid R i == k) = false := by simpa using hk
          have HE : Hid (kidG R p k f (i + 1) = kidD R p k) := by
            rw [if_neg (fun h => hk h.2)] at HK1
            exact HK1
          clear HK1 hp hk
          generalize mkid R i = mk at *
          go_wp2
          go_roundw
          case rel => exact ⟨i + 1, f, by go_num, by omega, by omega, by omega, HE, trivial⟩
          case measure => simp [intOf]; omega
      · have hbp : (mpar R i == p) = false := by simpa using hp
        have HE : Hid (kidG R p k f (i + 1) = kidD R p k) := by
          rw [if_neg (fun h => hp h.1)] at HK1
          exact HK1
        clear HK1 hp
        generalize mpar R i = mp at *
        go_wp2
        go_roundw
        case rel => exact ⟨i + 1, f, by go_num, by omega, by omega, by omega, HE, trivial⟩
        case measure => simp [intOf]; omega
    · have hnl : ¬ ((i : Int) < R.length) := by omega
      obtain rfl : f = 0 := by omega
      have HE : Hid (kidD R p k = -1) := HK.out.symm
      clear HK hf
      go_wp2
      go_ret
      exact ⟨ret_int HE.out.symm, rfl⟩
/-- Why no node may be added. -/
def refD (R : List Md) (p k : Int) : Int :=
  if R.length = 0 then (if p = -1 then 0 else 3)
  else if p < 0 ∨ (R.length : Int) ≤ p ∨ k < 0 then 3
  else if mostK (R.getD p.toNat md0).1 ≤ k then 40 else if 0 ≤ kidD R p k then 40 else 0
def addDE (R : List Md) (p k kind n : Int) : Int := if numB kind n = true then refD R p k else 40
def addM (R : List Md) (p k kind n : Int) : Md := if R.length = 0 then (kind, n, -1, 0) else (kind, n, p, k)
theorem addE_is {N : List Nd} {S G : Stk} {R : List Md} (hi : Inv N S G) (hr : Rel N S R) (p k kind n : Int) : addDE R p k kind n = addGE N G p k kind n := by
  have href : refD R p k = refuseG N G p k := by
    unfold refD refuseG
    rw [hr.len]
    by_cases h0 : N.length = 0
    · rw [if_pos h0, if_pos h0]
    · rw [if_neg h0, if_neg h0]
      by_cases h1 : p < 0 ∨ (N.length : Int) ≤ p ∨ k < 0
      · rw [if_pos h1, if_pos h1]
      · rw [if_neg h1, if_neg h1]
        obtain ⟨o, rfl⟩ := Int.eq_ofNat_of_zero_le (show 0 ≤ p by omega)
        obtain ⟨q, rfl⟩ := Int.eq_ofNat_of_zero_le (show 0 ≤ k by omega)
        rw [Int.toNat_natCast, (hr.nd o (by omega)).1]
        by_cases h2 : mostK (N.getD o nil0).1 ≤ (q : Int)
        · rw [if_pos h2, if_pos h2]
        · rw [if_neg h2, if_neg h2]
          have h3 := kid_there hi hr (p := o) (k := q) (by omega)
          by_cases h4 : 0 ≤ kidD R (o : Int) (q : Int)
          · rw [if_pos h4, if_pos ((h3.1 h4).imp (fun h => by simpa using h) id)]
          · rw [if_neg h4, if_neg (fun h => h4 (h3.2 (h.imp (fun h => by simpa using h) id)))]
  unfold addDE addGE
  by_cases h : isK kind = true ∧ n ≤ mostN kind
  · rw [if_pos h, if_pos (by unfold numB; unfold isK at h; simpa using h), href]
  · rw [if_neg h, if_neg (by unfold numB; unfold isK at h; simpa using h)]
end Go.Proofs.YtlbgdgobhiokpaaDoor

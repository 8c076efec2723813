import Derived.Test.YtdpkmkhflgmioaaPart11
import Derived.Test.YtdpkmkhflgmioaaPart07
import Derived.Test.YtdpkmkhflgmioaaPart14
import Derived.Deep.OwnRows
import Derived.BigQuiet

/- Of typing's texts what the document's walk needs, in a seat without package typing. -/
namespace Go.Proofs.Ytdpkmkhflgmioaa
open Go.RowKit
set_option linter.unusedVariables false

def nvv (x : Nv) : Value := .agg #[.int .i64 x.k, .int .u64 x.n, .int .i64 x.kids]
theorem retTF {fn : Func} {u p : Tmp} (h : fn.results = #[.tmp u, .cell p 34]) {R : Ending → World → Prop} {tmps : Array Value} {g : Nat} {w : World} {v : Value} {x y : Int} (hu : tmps.getD u undef = v) (hp : tmps.getD p undef = .pointer (some ⟨g, 0, none⟩)) (hK : Blk w g 34 [.int .i64 x, .int .i64 y]) (hR : R (.returned (.tuple #[v, .agg #[.int .i64 x, .int .i64 y]])) w) :
    bodyPost Try.prog fn R Exit.ret ⟨tmps, []⟩ w :=
  bodyPost_ret (results_tmp_cell_row h _ _ _ _ #[.int .i64 x, .int .i64 y] _ _ hp (show w.heap[g]? = some (.cells #[.int .i64 x, .int .i64 y] 34 (0, 0)) from hK) Try.underlying34 rfl (by show _ = some 2; kernel_rfl)) rfl (by rw [hu]; exact hR)
theorem IOwn.base {w : World} {B B' : Nat} {v : Value} {l : List Int} (h : IOwn w B v l) (hb : B' ≤ B) : IOwn w B' v l := own_base h hb
theorem below_to3 {B : Nat} {a b c : World} {S : Nat → Prop} (h : Below B a b) (hu : Upd S b c) (hs : ∀ k, S k → B ≤ k) (hB : B ≤ a.heap.size := by exact Nat.le_refl _) : Below B a c := h.trans (hu.below B (Nat.le_trans hB h.size) hs)
theorem wrapU (x : Int) : IntKind.u64.wrap x = x % 18446744073709551616 := by rw [IntKind.wrap_u64]
theorem tyOk_some {t : Ty} {i : Int} (h : tyOk t i = true) (hk : t.k = 7 ∨ t.k = 8) : 0 < t.ps.length := by
  have h3 := (tyOk_parts h).2.2
  have key : ∀ r, allP r t.ps i = true → 0 < t.ps.length := fun r hr => by
    unfold allP at hr
    rw [Bool.and_eq_true, decide_eq_true_eq] at hr
    omega
  unfold partsOk at h3
  split at h3
  · exact key _ h3
  · rw [if_pos (by omega)] at h3
    exact key _ h3
theorem wr3 {w : World} {g : Nat} {t : TypeId} {x0 x1 x2 : Value} (h : Blk w g t [x0, x1, x2]) (y0 y1 y2 : Value) :
    Blk (((w.setCell ⟨g, 0, none⟩ y0).setCell ⟨g, 1, none⟩ y1).setCell ⟨g, 2, none⟩ y2) g t [y0, y1, y2] := by
  have h1 := ((h.set 0 y0).set 1 y1).set 2 y2
  simpa using h1
theorem below_wr3 {B : Nat} {w w' : World} (h : Below B w w') (b : Nat) (hb : B ≤ b) (y0 y1 y2 : Value) : Below B w (((w'.setCell ⟨b, 0, none⟩ y0).setCell ⟨b, 1, none⟩ y1).setCell ⟨b, 2, none⟩ y2) :=
  below_set (below_set (below_set h b 0 y0 hb) b 1 y1 hb) b 2 y2 hb

theorem infoN : (Try.prog.info? 58).map (fun i => (i.zero, i.size, i.bytes)) = some (some (.agg #[.int .i64 0, .int .u64 0, .int .i64 0]), 3, 24) := by kernel_rfl
def NOwn (w : World) (B : Nat) (v : Value) (l : List Nv) : Prop := w.ownsRow B 58 3 v l.length (cellsG nvc l)
theorem NOwn.upd {w w' : World} {B : Nat} {v : Value} {l : List Nv} {S : Nat → Prop} (h : NOwn w B v l) (hu : Upd S w w') (hs : ∀ k, v.ownBlock = some k → ¬ S k) : NOwn w' B v l := ownS_upd h hu hs
theorem NOwn.later {w w' : World} {B : Nat} {v : Value} {l : List Nv} (h : NOwn w B v l) (hB : Below w.heap.size w w') : NOwn w' B v l := h.upd (Upd.of_below (S := fun _ => False) hB) (fun _ _ h => h)
theorem NOwn.nil (w : World) (B : Nat) : NOwn w B (.slice none 0 0) [] := World.ownsRow_nil _ _ _ _
theorem NOwn.ne {w : World} {B : Nat} {v : Value} {l : List Nv} (h : NOwn w B v l) {k : Nat} {t : TypeId} {ys : List Value} (hb : Blk w k t ys) (ht : t ≠ 58) : ¬ v.ownBlock = some k := fun e => by
  obtain ⟨zs, hz⟩ := ownS_type h e
  exact ht (blk_type hb hz)
theorem NOwn.push {w : World} {B : Nat} {v : Value} {l : List Nv} (h : NOwn w B v l) (x : Nv) (hl : l.length ≤ 1000000000) (hB : B ≤ w.heap.size) :
    ∃ g cap w', (Builtin.append_ #[38, 38] 38 #[v, .slice (some ⟨w.heap.size, 0, none⟩) 1 1]).run Try.prog (w.alloc (.cells #[.int .i64 x.k, .int .u64 x.n, .int .i64 x.kids] 58)) = .ok (.slice (some ⟨g, 0, none⟩) (l.length + 1) cap) w' ∧
      NOwn w' B (.slice (some ⟨g, 0, none⟩) (l.length + 1) cap) (l ++ [x]) ∧ Upd (fun k => v.ownBlock = some k) w w' ∧ (v.ownBlock = some g ∨ w.heap.size ≤ g) := by
  obtain ⟨g, cap, w', h1, h2, h3, h4⟩ := run_pushS (P := Try.prog) (t := 38) (e := 58) (c := 3) Try.underlying38 infoN rfl (by decide) w 38 h (nvc x) rfl (fun u hu => by simp [nvc] at hu; rcases hu with rfl | rfl | rfl <;> rfl) (by unfold maxLen; omega) (by omega) hB
  refine ⟨g, cap, w', h1, ?_, h3, h4⟩
  unfold NOwn
  rw [cellsG_app, cellsG_one, List.length_append, List.length_singleton]
  exact h2
theorem NOwn.row {w : World} {B : Nat} {v : Value} {l : List Nv} (h : NOwn w B v l) : ∃ a cap, v = .slice a l.length cap ∧ VRow w a l := by
  obtain ⟨a, cap, e, -, -, hr⟩ := own_grow nvc_len h
  exact ⟨a, cap, e, hr⟩
end Go.Proofs.Ytdpkmkhflgmioaa

/- The document's Number, Right, Check of nodes. -/
namespace Go.Proofs.Ytdpkmkhflgmioaa
open Go.RowKit
set_option linter.unusedVariables false
set_option linter.unusedSimpArgs false

def numV (k n : Int) : Bool := decide ((1 ≤ k ∧ k ≤ 6) ∧ n ≤ mostN k)
theorem kind_cases (k : Int) : k = 1 ∨ k = 2 ∨ k = 3 ∨ k = 4 ∨ k = 5 ∨ k = 6 ∨ (k ≠ 1 ∧ k ≠ 2 ∧ k ≠ 3 ∧ k ≠ 4 ∧ k ≠ 5 ∧ k ≠ 6) := by omega
set_option maxRecDepth 100000 in
set_option maxHeartbeats 4000000 in
theorem numberD_any (k n : Int) (w : World) (h0 : 0 ≤ n ∧ n ≤ 18446744073709551615) : Calls Try.prog 79 #[.int .i64 k, .int .u64 n] w fun e w' => e = .returned (.bool (numV k n)) ∧ w = w' := by
  go_enter Try.func79, Try.ntmps79
  rcases kind_cases k with rfl | rfl | rfl | rfl | rfl | rfl | ⟨k1, k2, k3, k4, k5, k6⟩
  · have hn : numV 1 n = true := by simp [numV, mostN]; omega
    rw [hn]
    go_wp2
    go_ret
    exact ⟨rfl, rfl⟩
  · by_cases h : n ≤ 1
    · have hn : numV 2 n = true := by simp [numV, mostN]; omega
      rw [hn]
      go_wp2
      go_ret
      exact ⟨by first | rfl | (simp [h]), rfl⟩
    · have hn : numV 2 n = false := by simp [numV, mostN]; omega
      rw [hn]
      go_wp2
      go_ret
      exact ⟨by first | rfl | (simp [h]), rfl⟩
  · by_cases h : n = 0
    · subst h
      go_wp2
      go_ret
      exact ⟨rfl, rfl⟩
    · have hn : numV 3 n = false := by simp [numV, mostN]; omega
      have hb : (n == 0) = false := by simpa using h
      rw [hn]
      go_wp2
      go_ret
      exact ⟨rfl, rfl⟩
  · by_cases h : n = 0
    · subst h
      go_wp2
      go_ret
      exact ⟨rfl, rfl⟩
    · have hn : numV 4 n = false := by simp [numV, mostN]; omega
      have hb : (n == 0) = false := by simpa using h
      rw [hn]
      go_wp2
      go_ret
      exact ⟨rfl, rfl⟩
  · by_cases h : n = 0
    · subst h
      go_wp2
      go_ret
      exact ⟨rfl, rfl⟩
    · have hn : numV 5 n = false := by simp [numV, mostN]; omega
      have hb : (n == 0) = false := by simpa using h
      rw [hn]
      go_wp2
      go_ret
      exact ⟨rfl, rfl⟩
  · by_cases h : n ≤ 255
    · have hn : numV 6 n = true := by simp [numV, mostN]; omega
      rw [hn]
      go_wp2
      go_ret
      exact ⟨by first | rfl | (simp [h]), rfl⟩
    · have hn : numV 6 n = false := by simp [numV, mostN]; omega
      rw [hn]
      go_wp2
      go_ret
      exact ⟨by first | rfl | (simp [h]), rfl⟩
  · have hn : numV k n = false := by simp [numV]; intros; omega
    rw [hn]
    have b1 : (k == 1) = false := by simpa using k1
    have b2 : (k == 2) = false := by simpa using k2
    have b3 : (k == 3) = false := by simpa using k3
    have b4 : (k == 4) = false := by simpa using k4
    have b5 : (k == 5) = false := by simpa using k5
    have b6 : (k == 6) = false := by simpa using k6
    by_cases h : n = 0
    · subst h
      go_wp2
      go_ret
      exact ⟨rfl, rfl⟩
    · have hb : (n == 0) = false := by simpa using h
      go_wp2
      go_ret
      exact ⟨rfl, rfl⟩
set_option maxRecDepth 100000 in
set_option maxHeartbeats 4000000 in
theorem rightD_any (x : Nv) (w : World) (h0 : 0 ≤ x.n ∧ x.n ≤ 18446744073709551615) : Calls Try.prog 58 #[nvv x] w fun e w' => e = .returned (.bool (rightV x)) ∧ Below w.heap.size w w' := by
  obtain ⟨k, n, c⟩ := x
  simp only at h0
  unfold nvv
  obtain ⟨wA, hwA⟩ : ∃ wA, wA = w.alloc (.cells #[.int .i64 k, .int .u64 n, .int .i64 c] 58) := ⟨_, rfl⟩
  have HB : Hid (Below w.heap.size w wA) := by rw [hwA]; exact (Below.refl _ _).alloc (Nat.le_refl _) _
  have K := Blk.newA w #[.int .i64 k, .int .u64 n, .int .i64 c] 58
  rw [← hwA] at K
  have c0 : wA.cell? ⟨w.heap.size, 0, none⟩ = some (.int .i64 k) := K.cell 0
  have c1 : wA.cell? ⟨w.heap.size, 1, none⟩ = some (.int .u64 n) := K.cell 1
  have c2 : wA.cell? ⟨w.heap.size, 2, none⟩ = some (.int .i64 c) := K.cell 2
  go_enter Try.func58, Try.ntmps58
  go_upto_region 1 with fail
  rw [← hwA]
  clear hwA K
  go_wp2_with fail
  refine (numberD_any k n wA h0).mono ?_; rintro e w1 ⟨rfl, rfl⟩
  cases hnb : numV k n
  · have hr : rightV ⟨k, n, c⟩ = false := by simp [numV] at hnb; simp [rightV]; intros; omega
    go_wp2
    go_ret
    exact ⟨by rw [hr]; rfl, HB.out⟩
  · have hnb' : (1 ≤ k ∧ k ≤ 6) ∧ n ≤ mostN k := by simpa [numV] using hnb
    clear hnb
    rcases kind_cases k with rfl | rfl | rfl | rfl | rfl | rfl | ⟨k1, k2, k3, k4, k5, k6⟩
    · by_cases h : c = 0
      · subst h
        have hr : rightV ⟨1, n, 0⟩ = true := (rightV_iff _).2 ⟨hnb'.1, hnb'.2, by simp [leastK], by simp [mostK]⟩
        go_wp2
        go_ret
        exact ⟨by rw [hr]; rfl, HB.out⟩
      · have hr : rightV ⟨1, n, c⟩ = false := by simp [rightV, leastK, mostK]; intros; omega
        have hb : (c == 0) = false := by simpa using h
        go_wp2
        go_ret
        exact ⟨by rw [hr]; rfl, HB.out⟩
    · by_cases h : c = 0
      · subst h
        have hr : rightV ⟨2, n, 0⟩ = true := (rightV_iff _).2 ⟨hnb'.1, hnb'.2, by simp [leastK], by simp [mostK]⟩
        go_wp2
        go_ret
        exact ⟨by rw [hr]; rfl, HB.out⟩
      · have hr : rightV ⟨2, n, c⟩ = false := by simp [rightV, leastK, mostK]; intros; omega
        have hb : (c == 0) = false := by simpa using h
        go_wp2
        go_ret
        exact ⟨by rw [hr]; rfl, HB.out⟩
    · by_cases h : 0 ≤ c
      · by_cases h2 : c ≤ 1048576
        · have hr : rightV ⟨3, n, c⟩ = true := (rightV_iff _).2 ⟨hnb'.1, hnb'.2, by simpa [leastK] using h, by simpa [mostK] using h2⟩
          go_wp2
          go_ret
          exact ⟨by first | (rw [hr]; rfl) | (rw [hr]; simp [h2]; done) | rfl | (simp [h2]; done), HB.out⟩
        · have hr : rightV ⟨3, n, c⟩ = false := by simp [rightV, leastK, mostK]; intros; omega
          go_wp2
          go_ret
          exact ⟨by first | (rw [hr]; rfl) | (rw [hr]; simp [h2]; done) | rfl | (simp [h2]; done), HB.out⟩
      · have hr : rightV ⟨3, n, c⟩ = false := by simp [rightV, leastK, mostK]; intros; omega
        go_wp2
        go_ret
        exact ⟨by first | (rw [hr]; rfl) | (rw [hr]; simp [h]; done) | rfl | (simp [h]; done), HB.out⟩
    · by_cases h : 1 ≤ c
      · by_cases h2 : c ≤ 64
        · have hr : rightV ⟨4, n, c⟩ = true := (rightV_iff _).2 ⟨hnb'.1, hnb'.2, by simpa [leastK] using h, by simpa [mostK] using h2⟩
          go_wp2
          go_ret
          exact ⟨by first | (rw [hr]; rfl) | (rw [hr]; simp [h2]; done) | rfl | (simp [h2]; done), HB.out⟩
        · have hr : rightV ⟨4, n, c⟩ = false := by simp [rightV, leastK, mostK]; intros; omega
          go_wp2
          go_ret
          exact ⟨by first | (rw [hr]; rfl) | (rw [hr]; simp [h2]; done) | rfl | (simp [h2]; done), HB.out⟩
      · have hr : rightV ⟨4, n, c⟩ = false := by simp [rightV, leastK, mostK]; intros; omega
        go_wp2
        go_ret
        exact ⟨by first | (rw [hr]; rfl) | (rw [hr]; simp [h]; done) | rfl | (simp [h]; done), HB.out⟩
    · by_cases h : c = 0
      · subst h
        have hr : rightV ⟨5, n, 0⟩ = true := (rightV_iff _).2 ⟨hnb'.1, hnb'.2, by simp [leastK], by simp [mostK]⟩
        go_wp2
        go_ret
        exact ⟨by rw [hr]; rfl, HB.out⟩
      · have hb : (c == 0) = false := by simpa using h
        by_cases h2 : c = 1
        · subst h2
          have hr : rightV ⟨5, n, 1⟩ = true := (rightV_iff _).2 ⟨hnb'.1, hnb'.2, by simp [leastK], by simp [mostK]⟩
          go_wp2
          go_ret
          exact ⟨by rw [hr]; rfl, HB.out⟩
        · have hb2 : (c == 1) = false := by simpa using h2
          have hr : rightV ⟨5, n, c⟩ = false := by simp [rightV, leastK, mostK]; intros; omega
          go_wp2
          go_ret
          exact ⟨by rw [hr]; rfl, HB.out⟩
    · by_cases h : c = 1
      · subst h
        have hr : rightV ⟨6, n, 1⟩ = true := (rightV_iff _).2 ⟨hnb'.1, hnb'.2, by simp [leastK], by simp [mostK]⟩
        go_wp2
        go_ret
        exact ⟨by rw [hr]; rfl, HB.out⟩
      · have hr : rightV ⟨6, n, c⟩ = false := by simp [rightV, leastK, mostK]; intros; omega
        have hb : (c == 1) = false := by simpa using h
        go_wp2
        go_ret
        exact ⟨by rw [hr]; rfl, HB.out⟩
    · omega
set_option maxRecDepth 100000 in
set_option maxHeartbeats 4000000 in
theorem checkN_any (a : Option Addr) (len cap : Nat) (l : List Nv) (w : World) (hl : l.length = len) (hs : len ≤ 2000000) (hr : Hid (VRow w a l)) (hn : Hid (∀ x ∈ l, NvOk x)) :
    Calls Try.prog 32 #[.slice a len cap] w fun e w' => e = .returned (.tuple #[.int .i64 (chkV 1 0 l).1, .int .i64 (chkV 1 0 l).2]) ∧ Below w.heap.size w w' := by
  obtain ⟨E, hE⟩ : ∃ E, (chkV 1 0 l).1 = E := ⟨_, rfl⟩
  obtain ⟨A, hA⟩ : ∃ A, (chkV 1 0 l).2 = A := ⟨_, rfl⟩
  rw [hE, hA]
  have HEA : Hid (chkV 1 0 l = (E, A)) := hide_ (by rw [← hE, ← hA])
  clear hE hA
  go_enter Try.func32, Try.ntmps32
  go_wp2_with fail
  go_loopw [4, 5] (fun m i wr => ∃ (M : Int) (k : Nat), k ≤ len ∧ i = .int .i64 k ∧ m = .int .i64 M ∧ 0 ≤ M ∧ M ≤ 1 + 1048576 * (k : Int) ∧ Hid (chkV M k (l.drop k) = (E, A)) ∧ Hid (Below w.heap.size w wr)) (fun _ i _ => len - (intOf i).toNat)
  case atStart => exact ⟨1, 0, Nat.zero_le _, rfl, rfl, by omega, by omega, hide_ (by simpa using HEA.out), hide_ (Below.refl _ _)⟩
  case round =>
    obtain ⟨M, k, hk, rfl, rfl, hM0, hM1, HC, HB⟩ := hrel
    generalize wr = wq at *
    clear HEA
    by_cases hlt : k < len
    · have hlt' : (k : Int) < len := by omega
      have hkl : k < l.length := by omega
      obtain ⟨b, off, rfl, hb, hc⟩ := (hr.out.later HB.out).open (by omega)
      have hx : l[k]? = some (l[k]'hkl) := List.getElem?_eq_getElem hkl
      have d0 := hc k _ hx 0 (by decide); have d1 := hc k _ hx 1 (by decide); have d2 := hc k _ hx 2 (by decide)
      have HC1 : Hid (chkV M k ((l[k]'hkl) :: l.drop (k + 1)) = (E, A)) := hide_ (by
        have := HC.out
        rw [List.drop_eq_getElem_cons hkl] at this
        exact this)
      have hnk := hn.out _ (List.mem_of_getElem? hx)
      simp [nvc] at d0 d1 d2
      generalize l[k]'hkl = x at *
      obtain ⟨xk, xn, xc⟩ := x
      simp only at d0 d1 d2
      have hnk' : 0 ≤ xn ∧ xn ≤ 18446744073709551615 := ⟨hnk.1, by have := hnk.2; simp only at this; omega⟩
      have HRt := hide_ (rightD_any ⟨xk, xn, xc⟩ wq hnk')
      have hbq := hb
      clear hc hx HC hnk hnk'
      by_cases hM : M = 0
      · subst hM
        have HE : Hid ((E, A) = (40, (k : Int))) := hide_ (by
          have := HC1.out
          rw [chkV, if_pos (.inl rfl)] at this
          exact this.symm)
        have hE1 : E = 40 := (Prod.mk.inj HE.out).1
        have hA1 : A = (k : Int) := (Prod.mk.inj HE.out).2
        subst hE1 hA1
        go_wp2
        go_ret2
        exact ⟨rfl, HB.out⟩
      · have hbM : (M == 0) = false := by simpa using hM
        unfold nvv at HRt
        go_wp2_with fail
        refine HRt.out.mono ?_; rintro e w1 ⟨rfl, hB1⟩
        have HB1 := hide_ (below_to HB.out hB1)
        have f2 := (hB1.cell (p := ⟨b, off + k * 3 + 2, none⟩) hbq).trans d2
        clear hB1 d0 d1 d2
        by_cases hxr : rightV ⟨xk, xn, xc⟩ = true
        · have HC2 : Hid (chkV (M + (xc - 1)) ((k : Int) + 1) (l.drop (k + 1)) = (E, A)) := hide_ (by
            have := HC1.out
            rw [chkV, if_neg (by simp [hM, hxr])] at this
            exact this)
          have hxc := rightV_kids hxr
          simp only at hxc
          clear HC1 HB
          rw [hxr]
          have hw1 : wrap64 (M - 1) = M - 1 := w64 _ (by omega)
          have hw2 : wrap64 (M - 1 + xc) = M - 1 + xc := w64 _ (by clear hw1; omega)
          go_wp2
          clear hw1 hw2
          go_roundw
          case rel => exact ⟨M + (xc - 1), k + 1, by omega, by go_num, by first | rfl | (congr 1; omega), by omega, by omega, hide_ (by have := HC2.out; push_cast; exact this), HB1⟩
          case measure => simp [intOf]; omega
        · have hx' : rightV ⟨xk, xn, xc⟩ = false := by simpa using hxr
          have HE : Hid ((E, A) = (40, (k : Int))) := hide_ (by
            have := HC1.out
            rw [chkV, if_pos (.inr hx')] at this
            exact this.symm)
          have hE1 : E = 40 := (Prod.mk.inj HE.out).1
          have hA1 : A = (k : Int) := (Prod.mk.inj HE.out).2
          subst hE1 hA1
          rw [hx']
          go_wp2
          go_ret2
          exact ⟨rfl, HB1.out⟩
    · obtain rfl : k = len := by omega
      have HC1 := HC.out
      rw [List.drop_eq_nil_of_le (by omega), chkV] at HC1
      have hnl : ¬ ((k : Int) < (k : Int)) := by omega
      by_cases hM : 0 < M
      · rw [if_pos hM] at HC1
        have hE1 : E = 40 := (Prod.mk.inj HC1).1.symm
        have hA1 : A = (k : Int) := (Prod.mk.inj HC1).2.symm
        subst hE1 hA1
        clear HC1
        go_wp2
        go_ret2
        exact ⟨rfl, HB.out⟩
      · rw [if_neg hM] at HC1
        have hE1 : E = 0 := (Prod.mk.inj HC1).1.symm
        have hA1 : A = 0 := (Prod.mk.inj HC1).2.symm
        subst hE1 hA1
        clear HC1
        go_wp2
        go_ret2
        exact ⟨rfl, HB.out⟩
end Go.Proofs.Ytdpkmkhflgmioaa

/- The document's Elem and Fits. -/
namespace Go.Proofs.Ytdpkmkhflgmioaa
open Go.RowKit
set_option linter.unusedVariables false

/-- The type of a kid. -/
def elemP (t : Ty) (x : Nv) (j : Nat) : Int :=
  if t.k = 8 then (t.ps.getD j pt0).ty else
  if t.k = 7 then (match armI t.ps x.n with | some i => (t.ps.getD i pt0).ty | none => -1) else t.e
set_option maxRecDepth 100000 in
set_option maxHeartbeats 4000000 in
theorem elem4_any (n el : Int) (ps : List Pt) (va : Option Addr) (vc : Nat) (xk xn xd : Int) (j : Int) (w : World) : Calls Try.prog 60 #[.agg #[.int .i64 4, .int .i64 n, .int .i64 el, .slice va ps.length vc], .agg #[.int .i64 xk, .int .u64 xn, .int .i64 xd], .int .i64 j] w fun e w' => e = .returned (.int .i64 el) ∧ Below w.heap.size w w' := by
  have hB := below2 w (.cells #[.int .i64 4, .int .i64 n, .int .i64 el, .slice va ps.length vc] 62) (.cells #[.int .i64 xk, .int .u64 xn, .int .i64 xd] 58)
  obtain ⟨k1, k2⟩ := blk2 w #[.int .i64 4, .int .i64 n, .int .i64 el, .slice va ps.length vc] #[.int .i64 xk, .int .u64 xn, .int .i64 xd] 62 58
  obtain ⟨w0, hw0⟩ : ∃ wx, wx = (w.alloc (.cells #[.int .i64 4, .int .i64 n, .int .i64 el, .slice va ps.length vc] 62)).alloc (.cells #[.int .i64 xk, .int .u64 xn, .int .i64 xd] 58) := ⟨_, rfl⟩
  rw [← hw0] at hB k1 k2
  have K1 := hide_ k1
  have K2 := hide_ k2
  have HB := hide_ hB
  have i0 := k1.cell 0; have i1 := k1.cell 1; have i2 := k1.cell 2; have i3 := k1.cell 3
  have j0 := k2.cell 0; have j1 := k2.cell 1; have j2 := k2.cell 2
  simp at i0 i1 i2 i3 j0 j1 j2
  clear hB k1 k2
  go_enter Try.func60, Try.ntmps60
  go_upto_region 1 with fail
  rw [← hw0]
  clear hw0
  go_wp2
  go_ret
  exact ⟨rfl, HB.out⟩
set_option maxRecDepth 100000 in
set_option maxHeartbeats 4000000 in
theorem elem5_any (n el : Int) (ps : List Pt) (va : Option Addr) (vc : Nat) (xk xn xd : Int) (j : Int) (w : World) : Calls Try.prog 60 #[.agg #[.int .i64 5, .int .i64 n, .int .i64 el, .slice va ps.length vc], .agg #[.int .i64 xk, .int .u64 xn, .int .i64 xd], .int .i64 j] w fun e w' => e = .returned (.int .i64 el) ∧ Below w.heap.size w w' := by
  have hB := below2 w (.cells #[.int .i64 5, .int .i64 n, .int .i64 el, .slice va ps.length vc] 62) (.cells #[.int .i64 xk, .int .u64 xn, .int .i64 xd] 58)
  obtain ⟨k1, k2⟩ := blk2 w #[.int .i64 5, .int .i64 n, .int .i64 el, .slice va ps.length vc] #[.int .i64 xk, .int .u64 xn, .int .i64 xd] 62 58
  obtain ⟨w0, hw0⟩ : ∃ wx, wx = (w.alloc (.cells #[.int .i64 5, .int .i64 n, .int .i64 el, .slice va ps.length vc] 62)).alloc (.cells #[.int .i64 xk, .int .u64 xn, .int .i64 xd] 58) := ⟨_, rfl⟩
  rw [← hw0] at hB k1 k2
  have K1 := hide_ k1
  have K2 := hide_ k2
  have HB := hide_ hB
  have i0 := k1.cell 0; have i1 := k1.cell 1; have i2 := k1.cell 2; have i3 := k1.cell 3
  have j0 := k2.cell 0; have j1 := k2.cell 1; have j2 := k2.cell 2
  simp at i0 i1 i2 i3 j0 j1 j2
  clear hB k1 k2
  go_enter Try.func60, Try.ntmps60
  go_upto_region 1 with fail
  rw [← hw0]
  clear hw0
  go_wp2
  go_ret
  exact ⟨rfl, HB.out⟩
set_option maxRecDepth 100000 in
set_option maxHeartbeats 4000000 in
theorem elem6_any (n el : Int) (ps : List Pt) (va : Option Addr) (vc : Nat) (xk xn xd : Int) (j : Int) (w : World) : Calls Try.prog 60 #[.agg #[.int .i64 6, .int .i64 n, .int .i64 el, .slice va ps.length vc], .agg #[.int .i64 xk, .int .u64 xn, .int .i64 xd], .int .i64 j] w fun e w' => e = .returned (.int .i64 el) ∧ Below w.heap.size w w' := by
  have hB := below2 w (.cells #[.int .i64 6, .int .i64 n, .int .i64 el, .slice va ps.length vc] 62) (.cells #[.int .i64 xk, .int .u64 xn, .int .i64 xd] 58)
  obtain ⟨k1, k2⟩ := blk2 w #[.int .i64 6, .int .i64 n, .int .i64 el, .slice va ps.length vc] #[.int .i64 xk, .int .u64 xn, .int .i64 xd] 62 58
  obtain ⟨w0, hw0⟩ : ∃ wx, wx = (w.alloc (.cells #[.int .i64 6, .int .i64 n, .int .i64 el, .slice va ps.length vc] 62)).alloc (.cells #[.int .i64 xk, .int .u64 xn, .int .i64 xd] 58) := ⟨_, rfl⟩
  rw [← hw0] at hB k1 k2
  have K1 := hide_ k1
  have K2 := hide_ k2
  have HB := hide_ hB
  have i0 := k1.cell 0; have i1 := k1.cell 1; have i2 := k1.cell 2; have i3 := k1.cell 3
  have j0 := k2.cell 0; have j1 := k2.cell 1; have j2 := k2.cell 2
  simp at i0 i1 i2 i3 j0 j1 j2
  clear hB k1 k2
  go_enter Try.func60, Try.ntmps60
  go_upto_region 1 with fail
  rw [← hw0]
  clear hw0
  go_wp2
  go_ret
  exact ⟨rfl, HB.out⟩
set_option maxRecDepth 100000 in
set_option maxHeartbeats 4000000 in
theorem elem8_any (n el : Int) (ps : List Pt) (va : Option Addr) (vc : Nat) (xk xn xd : Int) (j : Nat) (p : Pt) (w : World) (hp : ps[j]? = some p) (hP : Hid (PRow w va ps)) : Calls Try.prog 60 #[.agg #[.int .i64 8, .int .i64 n, .int .i64 el, .slice va ps.length vc], .agg #[.int .i64 xk, .int .u64 xn, .int .i64 xd], .int .i64 (j : Int)] w fun e w' => e = .returned (.int .i64 p.ty) ∧ Below w.heap.size w w' := by
  have hB := below2 w (.cells #[.int .i64 8, .int .i64 n, .int .i64 el, .slice va ps.length vc] 62) (.cells #[.int .i64 xk, .int .u64 xn, .int .i64 xd] 58)
  obtain ⟨k1, k2⟩ := blk2 w #[.int .i64 8, .int .i64 n, .int .i64 el, .slice va ps.length vc] #[.int .i64 xk, .int .u64 xn, .int .i64 xd] 62 58
  obtain ⟨w0, hw0⟩ : ∃ wx, wx = (w.alloc (.cells #[.int .i64 8, .int .i64 n, .int .i64 el, .slice va ps.length vc] 62)).alloc (.cells #[.int .i64 xk, .int .u64 xn, .int .i64 xd] 58) := ⟨_, rfl⟩
  rw [← hw0] at hB k1 k2
  have K1 := hide_ k1
  have K2 := hide_ k2
  have HB := hide_ hB
  have i0 := k1.cell 0; have i1 := k1.cell 1; have i2 := k1.cell 2; have i3 := k1.cell 3
  have j0 := k2.cell 0; have j1 := k2.cell 1; have j2 := k2.cell 2
  simp at i0 i1 i2 i3 j0 j1 j2
  clear hB k1 k2
  have hj := (List.getElem?_eq_some_iff.1 hp).1
  have hj' : (j : Int) < ps.length := by omega
  obtain ⟨b, off, rfl, hb, hc⟩ := (hP.out.later HB.out).open (by omega)
  have c2 := hc j p hp 2 (by decide)
  simp [ptc] at c2
  clear hc hp
  go_enter Try.func60, Try.ntmps60
  go_upto_region 1 with fail
  rw [← hw0]
  clear hw0
  go_wp2
  go_ret
  exact ⟨rfl, HB.out⟩
set_option maxRecDepth 100000 in
set_option maxHeartbeats 4000000 in
theorem elem7_any (n el : Int) (ps : List Pt) (va : Option Addr) (vc : Nat) (xk xn xd : Int) (j : Int) (w : World) (hpl : ps.length ≤ 9223372036854775806) (htg : Hid (∀ p ∈ ps, 0 ≤ p.tag ∧ p.tag ≤ 255)) (hP : Hid (PRow w va ps)) : Calls Try.prog 60 #[.agg #[.int .i64 7, .int .i64 n, .int .i64 el, .slice va ps.length vc], .agg #[.int .i64 xk, .int .u64 xn, .int .i64 xd], .int .i64 j] w fun e w' => e = .returned (.int .i64 (match armI ps xn with | some i => (ps.getD i pt0).ty | none => -1)) ∧ Below w.heap.size w w' := by
  obtain ⟨r, hr⟩ : ∃ r, (match armI ps xn with | some i => (ps.getD i pt0).ty | none => -1) = r := ⟨_, rfl⟩
  rw [hr]
  have HR := hide_ hr
  clear hr
  have hB := below2 w (.cells #[.int .i64 7, .int .i64 n, .int .i64 el, .slice va ps.length vc] 62) (.cells #[.int .i64 xk, .int .u64 xn, .int .i64 xd] 58)
  obtain ⟨k1, k2⟩ := blk2 w #[.int .i64 7, .int .i64 n, .int .i64 el, .slice va ps.length vc] #[.int .i64 xk, .int .u64 xn, .int .i64 xd] 62 58
  obtain ⟨w0, hw0⟩ : ∃ wx, wx = (w.alloc (.cells #[.int .i64 7, .int .i64 n, .int .i64 el, .slice va ps.length vc] 62)).alloc (.cells #[.int .i64 xk, .int .u64 xn, .int .i64 xd] 58) := ⟨_, rfl⟩
  rw [← hw0] at hB k1 k2
  have K1 := hide_ k1
  have K2 := hide_ k2
  have HB := hide_ hB
  have i0 := k1.cell 0; have i1 := k1.cell 1; have i2 := k1.cell 2; have i3 := k1.cell 3
  have j0 := k2.cell 0; have j1 := k2.cell 1; have j2 := k2.cell 2
  simp at i0 i1 i2 i3 j0 j1 j2
  clear hB k1 k2
  go_enter Try.func60, Try.ntmps60
  go_upto_region 1 with fail
  rw [← hw0]
  clear hw0
  go_wp2_with fail
  go_loopw [7] (fun x7 wr => ∃ (i : Nat), i ≤ ps.length ∧ x7 = .int .i64 (i : Int) ∧ Hid (∀ (q : Nat) (p : Pt), q < i → ps[q]? = some p → ¬ p.tag = xn) ∧ Hid (Below w0.heap.size w0 wr)) (fun x7 _ => ps.length - (intOf x7).toNat)
  case atStart => exact ⟨0, Nat.zero_le _, rfl, hide_ (fun q p hq => by omega), hide_ (Below.refl _ _)⟩
  case round =>
    obtain ⟨i, hi, rfl, HN, HC⟩ := hrel
    generalize wr = wq at *
    clear i0 i1 i2 i3 j0 j1 j2
    have i3 := (K1.out.later HC.out).cell 3; have j1 := (K2.out.later HC.out).cell 1
    simp at i3 j1
    by_cases hlt : i < ps.length
    · have hlt' : (i : Int) < ps.length := by omega
      have hp : ps[i]? = some (ps[i]'hlt) := List.getElem?_eq_getElem hlt
      obtain ⟨b, off, rfl, hb, hc⟩ := (hP.out.later (below_to HB.out HC.out)).open (by omega)
      have c1 := hc i _ hp 1 (by decide); have c2 := hc i _ hp 2 (by decide)
      obtain ⟨t0, t1⟩ := htg.out _ (List.mem_of_getElem? hp)
      have hw1 : IntKind.u64.wrap (ps[i]'hlt).tag = (ps[i]'hlt).tag := by rw [IntKind.wrap_u64]; omega
      have HP := hide_ hp
      simp [ptc] at c1 c2
      generalize ps[i]'hlt = p at *
      obtain ⟨pl, pt, py⟩ := p
      simp only at c1 c2 hw1 t0 t1
      clear hc hp
      by_cases he : pt = xn
      · have he' : (pt == xn) = true := by simp [he]
        have HV : Hid (py = r) := hide_ (by
          have ha := armI_at (n := xn) HP.out (by simp only; exact he) (fun q p hq hp => HN.out q p hq hp)
          have h1 := HR.out
          rw [ha] at h1
          simp only at h1
          rw [← h1]
          simp [List.getD, HP.out])
        go_wp2_with fail
        go_quiet (fail)
        have HCq : Hid (Below w.heap.size w (wq.drewN nq)) := hide_ (below_to HB.out (below_drewN HC.out nq))
        have i3' := (Blk.drewN (K1.out.later HC.out) nq).cell 3
        have c2' : (wq.drewN nq).cell? ⟨b, off + i * 3 + 2, none⟩ = some (.int .i64 py) := c2
        simp at i3'
        go_wp2
        go_ret
        exact ⟨ret_int HV.out, HCq.out⟩
      · have he' : (pt == xn) = false := by simpa using he
        have HNn : Hid (∀ (q : Nat) (p : Pt), q < i + 1 → ps[q]? = some p → ¬ p.tag = xn) := hide_ (fun q p hq hp => by
          rcases Nat.lt_or_ge q i with h | h
          · exact HN.out q p h hp
          · obtain rfl : q = i := by omega
            rw [HP.out] at hp
            injection hp with hp
            subst hp
            exact he)
        go_wp2_with fail
        go_quiet (fail)
        have HCq : ∀ q, Hid (Below w0.heap.size w0 (wq.drewN q)) := fun q => hide_ (below_drewN HC.out q)
        clear hw1
        go_wp2_with fail
        go_roundw
        case rel => exact ⟨i + 1, by omega, by go_num, HNn, HCq _⟩
        case measure => simp [intOf]; omega
    · have hlt' : ¬ (i : Int) < ps.length := by omega
      have HV : Hid (-1 = r) := hide_ (by
        have ha := armI_none (ps := ps) (n := xn) (fun q p hp => HN.out q p (by have := (List.getElem?_eq_some_iff.1 hp).1; omega) hp)
        have h1 := HR.out
        rw [ha] at h1
        exact h1)
      have HBf := hide_ (below_to HB.out HC.out)
      go_wp2
      go_ret
      exact ⟨ret_int HV.out, HBf.out⟩
set_option maxRecDepth 100000 in
set_option maxHeartbeats 4000000 in
theorem fitsR2_any (n el : Int) (ps : List Pt) (va : Option Addr) (vc : Nat) (xk xn xd : Int) (w : World)  : Calls Try.prog 59 #[.agg #[.int .i64 2, .int .i64 n, .int .i64 el, .slice va ps.length vc], .agg #[.int .i64 xk, .int .u64 xn, .int .i64 xd]] w fun e w' => e = .returned (.int .i64 (misP ⟨2, n, el, ps⟩ ⟨xk, xn, xd⟩)) ∧ Below w.heap.size w w' := by
  have hB := below2 w (.cells #[.int .i64 2, .int .i64 n, .int .i64 el, .slice va ps.length vc] 62) (.cells #[.int .i64 xk, .int .u64 xn, .int .i64 xd] 58)
  obtain ⟨k1, k2⟩ := blk2 w #[.int .i64 2, .int .i64 n, .int .i64 el, .slice va ps.length vc] #[.int .i64 xk, .int .u64 xn, .int .i64 xd] 62 58
  obtain ⟨w0, hw0⟩ : ∃ wx, wx = (w.alloc (.cells #[.int .i64 2, .int .i64 n, .int .i64 el, .slice va ps.length vc] 62)).alloc (.cells #[.int .i64 xk, .int .u64 xn, .int .i64 xd] 58) := ⟨_, rfl⟩
  rw [← hw0] at hB k1 k2
  have K1 := hide_ k1
  have K2 := hide_ k2
  have HB := hide_ hB
  have i0 := k1.cell 0; have i1 := k1.cell 1; have i2 := k1.cell 2; have i3 := k1.cell 3
  have j0 := k2.cell 0; have j1 := k2.cell 1; have j2 := k2.cell 2
  simp at i0 i1 i2 i3 j0 j1 j2
  clear hB k1 k2
  go_enter Try.func59, Try.ntmps59
  go_upto_region 1 with fail
  rw [← hw0]
  clear hw0
  by_cases hk : xk = 2
  · have hkb : (xk == 2) = true := by simp [hk]
    have hkn : (xk != 2) = false := by simp [hk]
    have HV : Hid (misP ⟨2, n, el, ps⟩ ⟨xk, xn, xd⟩ = 0) := hide_ (by simp [misP, nkind, nkT, hk])
    go_wp2_with fail
    go_quiet (fail)
    have HBq := hide_ (below_drewN HB.out nq)
    go_wp2
    go_ret
    exact ⟨by rw [HV.out]; rfl, HBq.out⟩
  · have hkn : (xk != 2) = true := by simpa using hk
    have HV : Hid (misP ⟨2, n, el, ps⟩ ⟨xk, xn, xd⟩ = 110) := hide_ (by simp [misP, nkind, nkT, hk])
    go_wp2
    go_ret
    exact ⟨by rw [HV.out]; rfl, HB.out⟩
set_option maxRecDepth 100000 in
set_option maxHeartbeats 4000000 in
theorem fitsR3_any (n el : Int) (ps : List Pt) (va : Option Addr) (vc : Nat) (xk xn xd : Int) (w : World)  : Calls Try.prog 59 #[.agg #[.int .i64 3, .int .i64 n, .int .i64 el, .slice va ps.length vc], .agg #[.int .i64 xk, .int .u64 xn, .int .i64 xd]] w fun e w' => e = .returned (.int .i64 (misP ⟨3, n, el, ps⟩ ⟨xk, xn, xd⟩)) ∧ Below w.heap.size w w' := by
  have hB := below2 w (.cells #[.int .i64 3, .int .i64 n, .int .i64 el, .slice va ps.length vc] 62) (.cells #[.int .i64 xk, .int .u64 xn, .int .i64 xd] 58)
  obtain ⟨k1, k2⟩ := blk2 w #[.int .i64 3, .int .i64 n, .int .i64 el, .slice va ps.length vc] #[.int .i64 xk, .int .u64 xn, .int .i64 xd] 62 58
  obtain ⟨w0, hw0⟩ : ∃ wx, wx = (w.alloc (.cells #[.int .i64 3, .int .i64 n, .int .i64 el, .slice va ps.length vc] 62)).alloc (.cells #[.int .i64 xk, .int .u64 xn, .int .i64 xd] 58) := ⟨_, rfl⟩
  rw [← hw0] at hB k1 k2
  have K1 := hide_ k1
  have K2 := hide_ k2
  have HB := hide_ hB
  have i0 := k1.cell 0; have i1 := k1.cell 1; have i2 := k1.cell 2; have i3 := k1.cell 3
  have j0 := k2.cell 0; have j1 := k2.cell 1; have j2 := k2.cell 2
  simp at i0 i1 i2 i3 j0 j1 j2
  clear hB k1 k2
  go_enter Try.func59, Try.ntmps59
  go_upto_region 1 with fail
  rw [← hw0]
  clear hw0
  by_cases hk : xk = 1
  · have hkb : (xk == 1) = true := by simp [hk]
    have hkn : (xk != 1) = false := by simp [hk]
    have HV : Hid (misP ⟨3, n, el, ps⟩ ⟨xk, xn, xd⟩ = 0) := hide_ (by simp [misP, nkind, nkT, hk])
    go_wp2_with fail
    go_quiet (fail)
    have HBq := hide_ (below_drewN HB.out nq)
    go_wp2
    go_ret
    exact ⟨by rw [HV.out]; rfl, HBq.out⟩
  · have hkn : (xk != 1) = true := by simpa using hk
    have HV : Hid (misP ⟨3, n, el, ps⟩ ⟨xk, xn, xd⟩ = 110) := hide_ (by simp [misP, nkind, nkT, hk])
    go_wp2
    go_ret
    exact ⟨by rw [HV.out]; rfl, HB.out⟩
set_option maxRecDepth 100000 in
set_option maxHeartbeats 4000000 in
theorem fitsR6_any (n el : Int) (ps : List Pt) (va : Option Addr) (vc : Nat) (xk xn xd : Int) (w : World)  : Calls Try.prog 59 #[.agg #[.int .i64 6, .int .i64 n, .int .i64 el, .slice va ps.length vc], .agg #[.int .i64 xk, .int .u64 xn, .int .i64 xd]] w fun e w' => e = .returned (.int .i64 (misP ⟨6, n, el, ps⟩ ⟨xk, xn, xd⟩)) ∧ Below w.heap.size w w' := by
  have hB := below2 w (.cells #[.int .i64 6, .int .i64 n, .int .i64 el, .slice va ps.length vc] 62) (.cells #[.int .i64 xk, .int .u64 xn, .int .i64 xd] 58)
  obtain ⟨k1, k2⟩ := blk2 w #[.int .i64 6, .int .i64 n, .int .i64 el, .slice va ps.length vc] #[.int .i64 xk, .int .u64 xn, .int .i64 xd] 62 58
  obtain ⟨w0, hw0⟩ : ∃ wx, wx = (w.alloc (.cells #[.int .i64 6, .int .i64 n, .int .i64 el, .slice va ps.length vc] 62)).alloc (.cells #[.int .i64 xk, .int .u64 xn, .int .i64 xd] 58) := ⟨_, rfl⟩
  rw [← hw0] at hB k1 k2
  have K1 := hide_ k1
  have K2 := hide_ k2
  have HB := hide_ hB
  have i0 := k1.cell 0; have i1 := k1.cell 1; have i2 := k1.cell 2; have i3 := k1.cell 3
  have j0 := k2.cell 0; have j1 := k2.cell 1; have j2 := k2.cell 2
  simp at i0 i1 i2 i3 j0 j1 j2
  clear hB k1 k2
  go_enter Try.func59, Try.ntmps59
  go_upto_region 1 with fail
  rw [← hw0]
  clear hw0
  by_cases hk : xk = 5
  · have hkb : (xk == 5) = true := by simp [hk]
    have hkn : (xk != 5) = false := by simp [hk]
    have HV : Hid (misP ⟨6, n, el, ps⟩ ⟨xk, xn, xd⟩ = 0) := hide_ (by simp [misP, nkind, nkT, hk])
    go_wp2_with fail
    go_quiet (fail)
    have HBq := hide_ (below_drewN HB.out nq)
    go_wp2
    go_ret
    exact ⟨by rw [HV.out]; rfl, HBq.out⟩
  · have hkn : (xk != 5) = true := by simpa using hk
    have HV : Hid (misP ⟨6, n, el, ps⟩ ⟨xk, xn, xd⟩ = 110) := hide_ (by simp [misP, nkind, nkT, hk])
    go_wp2
    go_ret
    exact ⟨by rw [HV.out]; rfl, HB.out⟩
set_option maxRecDepth 100000 in
set_option maxHeartbeats 4000000 in
theorem fitsR4_any (n el : Int) (ps : List Pt) (va : Option Addr) (vc : Nat) (xk xn xd : Int) (w : World)  : Calls Try.prog 59 #[.agg #[.int .i64 4, .int .i64 n, .int .i64 el, .slice va ps.length vc], .agg #[.int .i64 xk, .int .u64 xn, .int .i64 xd]] w fun e w' => e = .returned (.int .i64 (misP ⟨4, n, el, ps⟩ ⟨xk, xn, xd⟩)) ∧ Below w.heap.size w w' := by
  have hB := below2 w (.cells #[.int .i64 4, .int .i64 n, .int .i64 el, .slice va ps.length vc] 62) (.cells #[.int .i64 xk, .int .u64 xn, .int .i64 xd] 58)
  obtain ⟨k1, k2⟩ := blk2 w #[.int .i64 4, .int .i64 n, .int .i64 el, .slice va ps.length vc] #[.int .i64 xk, .int .u64 xn, .int .i64 xd] 62 58
  obtain ⟨w0, hw0⟩ : ∃ wx, wx = (w.alloc (.cells #[.int .i64 4, .int .i64 n, .int .i64 el, .slice va ps.length vc] 62)).alloc (.cells #[.int .i64 xk, .int .u64 xn, .int .i64 xd] 58) := ⟨_, rfl⟩
  rw [← hw0] at hB k1 k2
  have K1 := hide_ k1
  have K2 := hide_ k2
  have HB := hide_ hB
  have i0 := k1.cell 0; have i1 := k1.cell 1; have i2 := k1.cell 2; have i3 := k1.cell 3
  have j0 := k2.cell 0; have j1 := k2.cell 1; have j2 := k2.cell 2
  simp at i0 i1 i2 i3 j0 j1 j2
  clear hB k1 k2
  go_enter Try.func59, Try.ntmps59
  go_upto_region 1 with fail
  rw [← hw0]
  clear hw0
  by_cases hk : xk = 3
  · have hkb : (xk == 3) = true := by simp [hk]
    have hkn : (xk != 3) = false := by simp [hk]
    by_cases hc : xd = n
    · have hcn : (xd != n) = false := by simp [hc]
      have HV : Hid (misP ⟨4, n, el, ps⟩ ⟨xk, xn, xd⟩ = 0) := hide_ (by simp [misP, nkind, nkT, hk, hc])
      go_wp2_with fail
      go_quiet (fail)
      have HBq := hide_ (below_drewN HB.out nq)
      go_wp2
      go_ret
      exact ⟨by rw [HV.out]; rfl, HBq.out⟩
    · have hcn : (xd != n) = true := by simpa using hc
      have HV : Hid (misP ⟨4, n, el, ps⟩ ⟨xk, xn, xd⟩ = 112) := hide_ (by simp [misP, nkind, nkT, hk]; omega)
      go_wp2_with fail
      go_quiet (fail)
      have HBq := hide_ (below_drewN HB.out nq)
      go_wp2
      go_ret
      exact ⟨by rw [HV.out]; rfl, HBq.out⟩
  · have hkn : (xk != 3) = true := by simpa using hk
    have HV : Hid (misP ⟨4, n, el, ps⟩ ⟨xk, xn, xd⟩ = 110) := hide_ (by simp [misP, nkind, nkT, hk])
    go_wp2
    go_ret
    exact ⟨by rw [HV.out]; rfl, HB.out⟩
set_option maxRecDepth 100000 in
set_option maxHeartbeats 4000000 in
theorem fitsR5_any (n el : Int) (ps : List Pt) (va : Option Addr) (vc : Nat) (xk xn xd : Int) (w : World) (hd : 0 ≤ xd) : Calls Try.prog 59 #[.agg #[.int .i64 5, .int .i64 n, .int .i64 el, .slice va ps.length vc], .agg #[.int .i64 xk, .int .u64 xn, .int .i64 xd]] w fun e w' => e = .returned (.int .i64 (misP ⟨5, n, el, ps⟩ ⟨xk, xn, xd⟩)) ∧ Below w.heap.size w w' := by
  have hB := below2 w (.cells #[.int .i64 5, .int .i64 n, .int .i64 el, .slice va ps.length vc] 62) (.cells #[.int .i64 xk, .int .u64 xn, .int .i64 xd] 58)
  obtain ⟨k1, k2⟩ := blk2 w #[.int .i64 5, .int .i64 n, .int .i64 el, .slice va ps.length vc] #[.int .i64 xk, .int .u64 xn, .int .i64 xd] 62 58
  obtain ⟨w0, hw0⟩ : ∃ wx, wx = (w.alloc (.cells #[.int .i64 5, .int .i64 n, .int .i64 el, .slice va ps.length vc] 62)).alloc (.cells #[.int .i64 xk, .int .u64 xn, .int .i64 xd] 58) := ⟨_, rfl⟩
  rw [← hw0] at hB k1 k2
  have K1 := hide_ k1
  have K2 := hide_ k2
  have HB := hide_ hB
  have i0 := k1.cell 0; have i1 := k1.cell 1; have i2 := k1.cell 2; have i3 := k1.cell 3
  have j0 := k2.cell 0; have j1 := k2.cell 1; have j2 := k2.cell 2
  simp at i0 i1 i2 i3 j0 j1 j2
  clear hB k1 k2
  go_enter Try.func59, Try.ntmps59
  go_upto_region 1 with fail
  rw [← hw0]
  clear hw0
  by_cases hk : xk = 3
  · have hkb : (xk == 3) = true := by simp [hk]
    have hkn : (xk != 3) = false := by simp [hk]
    by_cases hc : n < xd
    · skip
      have HV : Hid (misP ⟨5, n, el, ps⟩ ⟨xk, xn, xd⟩ = 112) := hide_ (by simp [misP, nkind, nkT, hk]; omega)
      go_wp2_with fail
      go_quiet (fail)
      have HBq := hide_ (below_drewN HB.out nq)
      go_wp2
      go_ret
      exact ⟨by rw [HV.out]; rfl, HBq.out⟩
    · skip
      have HV : Hid (misP ⟨5, n, el, ps⟩ ⟨xk, xn, xd⟩ = 0) := hide_ (by simp [misP, nkind, nkT, hk]; omega)
      go_wp2_with fail
      go_quiet (fail)
      have HBq := hide_ (below_drewN HB.out nq)
      go_wp2
      go_ret
      exact ⟨by rw [HV.out]; rfl, HBq.out⟩
  · have hkn : (xk != 3) = true := by simpa using hk
    have HV : Hid (misP ⟨5, n, el, ps⟩ ⟨xk, xn, xd⟩ = 110) := hide_ (by simp [misP, nkind, nkT, hk])
    go_wp2
    go_ret
    exact ⟨by rw [HV.out]; rfl, HB.out⟩
set_option maxRecDepth 100000 in
set_option maxHeartbeats 4000000 in
theorem fitsR8_any (n el : Int) (ps : List Pt) (va : Option Addr) (vc : Nat) (xk xn xd : Int) (w : World)  : Calls Try.prog 59 #[.agg #[.int .i64 8, .int .i64 n, .int .i64 el, .slice va ps.length vc], .agg #[.int .i64 xk, .int .u64 xn, .int .i64 xd]] w fun e w' => e = .returned (.int .i64 (misP ⟨8, n, el, ps⟩ ⟨xk, xn, xd⟩)) ∧ Below w.heap.size w w' := by
  have hB := below2 w (.cells #[.int .i64 8, .int .i64 n, .int .i64 el, .slice va ps.length vc] 62) (.cells #[.int .i64 xk, .int .u64 xn, .int .i64 xd] 58)
  obtain ⟨k1, k2⟩ := blk2 w #[.int .i64 8, .int .i64 n, .int .i64 el, .slice va ps.length vc] #[.int .i64 xk, .int .u64 xn, .int .i64 xd] 62 58
  obtain ⟨w0, hw0⟩ : ∃ wx, wx = (w.alloc (.cells #[.int .i64 8, .int .i64 n, .int .i64 el, .slice va ps.length vc] 62)).alloc (.cells #[.int .i64 xk, .int .u64 xn, .int .i64 xd] 58) := ⟨_, rfl⟩
  rw [← hw0] at hB k1 k2
  have K1 := hide_ k1
  have K2 := hide_ k2
  have HB := hide_ hB
  have i0 := k1.cell 0; have i1 := k1.cell 1; have i2 := k1.cell 2; have i3 := k1.cell 3
  have j0 := k2.cell 0; have j1 := k2.cell 1; have j2 := k2.cell 2
  simp at i0 i1 i2 i3 j0 j1 j2
  clear hB k1 k2
  go_enter Try.func59, Try.ntmps59
  go_upto_region 1 with fail
  rw [← hw0]
  clear hw0
  by_cases hk : xk = 4
  · have hkb : (xk == 4) = true := by simp [hk]
    have hkn : (xk != 4) = false := by simp [hk]
    by_cases hc : xd = (ps.length : Int)
    · have hcn : (xd != (ps.length : Int)) = false := by simp [hc]
      have HV : Hid (misP ⟨8, n, el, ps⟩ ⟨xk, xn, xd⟩ = 0) := hide_ (by simp [misP, nkind, nkT, hk, hc])
      go_wp2_with fail
      go_quiet (fail)
      have HBq := hide_ (below_drewN HB.out nq)
      go_wp2
      go_ret
      exact ⟨by rw [HV.out]; rfl, HBq.out⟩
    · have hcn : (xd != (ps.length : Int)) = true := by simpa using hc
      have HV : Hid (misP ⟨8, n, el, ps⟩ ⟨xk, xn, xd⟩ = 112) := hide_ (by simp [misP, nkind, nkT, hk]; omega)
      go_wp2_with fail
      go_quiet (fail)
      have HBq := hide_ (below_drewN HB.out nq)
      go_wp2
      go_ret
      exact ⟨by rw [HV.out]; rfl, HBq.out⟩
  · have hkn : (xk != 4) = true := by simpa using hk
    have HV : Hid (misP ⟨8, n, el, ps⟩ ⟨xk, xn, xd⟩ = 110) := hide_ (by simp [misP, nkind, nkT, hk])
    go_wp2
    go_ret
    exact ⟨by rw [HV.out]; rfl, HB.out⟩
set_option maxRecDepth 100000 in
set_option maxHeartbeats 4000000 in
theorem fitsR7_any (n el : Int) (ps : List Pt) (va : Option Addr) (vc : Nat) (xk xn xd : Int) (w : World) (hpl : ps.length ≤ 9223372036854775806) (htg : Hid (∀ p ∈ ps, 0 ≤ p.tag ∧ p.tag ≤ 255)) (hpt : Hid (∀ (m : Nat) (p : Pt), ps[m]? = some p → 0 ≤ p.ty)) (hP : Hid (PRow w va ps)) : Calls Try.prog 59 #[.agg #[.int .i64 7, .int .i64 n, .int .i64 el, .slice va ps.length vc], .agg #[.int .i64 xk, .int .u64 xn, .int .i64 xd]] w fun e w' => e = .returned (.int .i64 (misP ⟨7, n, el, ps⟩ ⟨xk, xn, xd⟩)) ∧ Below w.heap.size w w' := by
  have hB := below2 w (.cells #[.int .i64 7, .int .i64 n, .int .i64 el, .slice va ps.length vc] 62) (.cells #[.int .i64 xk, .int .u64 xn, .int .i64 xd] 58)
  obtain ⟨k1, k2⟩ := blk2 w #[.int .i64 7, .int .i64 n, .int .i64 el, .slice va ps.length vc] #[.int .i64 xk, .int .u64 xn, .int .i64 xd] 62 58
  obtain ⟨w0, hw0⟩ : ∃ wx, wx = (w.alloc (.cells #[.int .i64 7, .int .i64 n, .int .i64 el, .slice va ps.length vc] 62)).alloc (.cells #[.int .i64 xk, .int .u64 xn, .int .i64 xd] 58) := ⟨_, rfl⟩
  rw [← hw0] at hB k1 k2
  have K1 := hide_ k1
  have K2 := hide_ k2
  have HB := hide_ hB
  have i0 := k1.cell 0; have i1 := k1.cell 1; have i2 := k1.cell 2; have i3 := k1.cell 3
  have j0 := k2.cell 0; have j1 := k2.cell 1; have j2 := k2.cell 2
  simp at i0 i1 i2 i3 j0 j1 j2
  clear hB k1 k2
  have HEl : Hid (∀ w', Below w0.heap.size w0 w' → Calls Try.prog 60 #[.agg #[.int .i64 7, .int .i64 n, .int .i64 el, .slice va ps.length vc], .agg #[.int .i64 xk, .int .u64 xn, .int .i64 xd], .int .i64 0] w' fun e w'' => e = .returned (.int .i64 (match armI ps xn with | some i => (ps.getD i pt0).ty | none => -1)) ∧ Below w'.heap.size w' w'') := hide_ (fun w' hB' => elem7_any n el ps va vc xk xn xd 0 w' hpl htg (hide_ (hP.out.later (below_to HB.out hB'))))
  go_enter Try.func59, Try.ntmps59
  go_upto_region 1 with fail
  rw [← hw0]
  clear hw0
  by_cases hk : xk = 6
  · have hkb : (xk == 6) = true := by simp [hk]
    have hkn : (xk != 6) = false := by simp [hk]
    subst hk
    clear hkb hkn
    cases ha : armI ps xn with
    | none =>
      have HV : Hid (misP ⟨7, n, el, ps⟩ ⟨6, xn, xd⟩ = 113) := hide_ (by simp [misP, nkind, nkT, ha])
      rw [ha] at HEl
      simp only at HEl
      go_wp2_with fail
      go_quiet (fail)
      have HBq := hide_ (below_drewN HB.out nq)
      have HEq := hide_ (HEl.out (w0.drewN nq) (below_drewN (Below.refl _ _) nq))
      have K15 := hide_ (K1.out.drewN nq)
      have K25 := hide_ (K2.out.drewN nq)
      clear i0 i1 i2 i3 j0 j1 j2
      generalize w0.drewN nq = w5 at *
      have i0 := K15.out.cell 0; have i1 := K15.out.cell 1; have i2 := K15.out.cell 2; have i3 := K15.out.cell 3
      have j0 := K25.out.cell 0; have j1 := K25.out.cell 1; have j2 := K25.out.cell 2
      simp at i0 i1 i2 i3 j0 j1 j2
      go_wp2_with fail
      refine HEq.out.mono ?_; rintro e w6 ⟨rfl, hB6⟩
      have HBf := hide_ (below_to HBq.out hB6)
      clear hB6
      go_wp2
      go_ret
      exact ⟨by rw [HV.out]; rfl, HBf.out⟩
    | some m =>
      obtain ⟨p, hp, -⟩ := armI_some ha
      have hp0 := hpt.out m p hp
      have HV : Hid (misP ⟨7, n, el, ps⟩ ⟨6, xn, xd⟩ = 0) := hide_ (by simp [misP, nkind, nkT, ha])
      rw [ha] at HEl
      simp only at HEl
      rw [show ps.getD m pt0 = p by simp [List.getD, hp]] at HEl
      obtain ⟨y, hy⟩ : ∃ y, p.ty = y := ⟨_, rfl⟩
      rw [hy] at HEl hp0
      clear hy hp
      go_wp2_with fail
      go_quiet (fail)
      have HBq := hide_ (below_drewN HB.out nq)
      have HEq := hide_ (HEl.out (w0.drewN nq) (below_drewN (Below.refl _ _) nq))
      have K15 := hide_ (K1.out.drewN nq)
      have K25 := hide_ (K2.out.drewN nq)
      clear i0 i1 i2 i3 j0 j1 j2
      generalize w0.drewN nq = w5 at *
      have i0 := K15.out.cell 0; have i1 := K15.out.cell 1; have i2 := K15.out.cell 2; have i3 := K15.out.cell 3
      have j0 := K25.out.cell 0; have j1 := K25.out.cell 1; have j2 := K25.out.cell 2
      simp at i0 i1 i2 i3 j0 j1 j2
      have hy0 : ¬ y < 0 := by omega
      go_wp2_with fail
      refine HEq.out.mono ?_; rintro e w6 ⟨rfl, hB6⟩
      have HBf := hide_ (below_to HBq.out hB6)
      clear hB6
      go_wp2
      go_ret
      exact ⟨by rw [HV.out]; rfl, HBf.out⟩
  · have hkn : (xk != 6) = true := by simpa using hk
    have HV : Hid (misP ⟨7, n, el, ps⟩ ⟨xk, xn, xd⟩ = 110) := hide_ (by simp [misP, nkind, nkT, hk])
    go_wp2
    go_ret
    exact ⟨by rw [HV.out]; rfl, HB.out⟩
set_option maxRecDepth 100000 in
set_option maxHeartbeats 4000000 in
theorem fitsR1_1 (el : Int) (ps : List Pt) (va : Option Addr) (vc : Nat) (xk xn xd : Int) (w : World) : Calls Try.prog 59 #[.agg #[.int .i64 1, .int .i64 1, .int .i64 el, .slice va ps.length vc], .agg #[.int .i64 xk, .int .u64 xn, .int .i64 xd]] w fun e w' => e = .returned (.int .i64 (misP ⟨1, 1, el, ps⟩ ⟨xk, xn, xd⟩)) ∧ Below w.heap.size w w' := by
  have hB := below2 w (.cells #[.int .i64 1, .int .i64 1, .int .i64 el, .slice va ps.length vc] 62) (.cells #[.int .i64 xk, .int .u64 xn, .int .i64 xd] 58)
  obtain ⟨k1, k2⟩ := blk2 w #[.int .i64 1, .int .i64 1, .int .i64 el, .slice va ps.length vc] #[.int .i64 xk, .int .u64 xn, .int .i64 xd] 62 58
  obtain ⟨w0, hw0⟩ : ∃ wx, wx = (w.alloc (.cells #[.int .i64 1, .int .i64 1, .int .i64 el, .slice va ps.length vc] 62)).alloc (.cells #[.int .i64 xk, .int .u64 xn, .int .i64 xd] 58) := ⟨_, rfl⟩
  rw [← hw0] at hB k1 k2
  have K1 := hide_ k1
  have K2 := hide_ k2
  have HB := hide_ hB
  have i0 := k1.cell 0; have i1 := k1.cell 1; have i2 := k1.cell 2; have i3 := k1.cell 3
  have j0 := k2.cell 0; have j1 := k2.cell 1; have j2 := k2.cell 2
  simp at i0 i1 i2 i3 j0 j1 j2
  clear hB k1 k2
  go_enter Try.func59, Try.ntmps59
  go_upto_region 1 with fail
  rw [← hw0]
  clear hw0
  by_cases hk : xk = 1
  · have hkb : (xk == 1) = true := by simp [hk]
    have hkn : (xk != 1) = false := by simp [hk]
    by_cases hc : 256 ≤ xn
    · skip
      have HV : Hid (misP ⟨1, 1, el, ps⟩ ⟨xk, xn, xd⟩ = 111) := hide_ (by simp [misP, nkind, nkT, hk, gr]; omega)
      go_wp2_with fail
      go_quiet (fail)
      have HBq := hide_ (below_drewN HB.out nq)
      go_wp2
      go_ret
      exact ⟨by rw [HV.out]; rfl, HBq.out⟩
    · skip
      have HV : Hid (misP ⟨1, 1, el, ps⟩ ⟨xk, xn, xd⟩ = 0) := hide_ (by simp [misP, nkind, nkT, hk, gr]; omega)
      go_wp2_with fail
      go_quiet (fail)
      have HBq := hide_ (below_drewN HB.out nq)
      go_wp2
      go_ret
      exact ⟨by rw [HV.out]; rfl, HBq.out⟩
  · have hkn : (xk != 1) = true := by simpa using hk
    have HV : Hid (misP ⟨1, 1, el, ps⟩ ⟨xk, xn, xd⟩ = 110) := hide_ (by simp [misP, nkind, nkT, hk])
    go_wp2
    go_ret
    exact ⟨by rw [HV.out]; rfl, HB.out⟩
set_option maxRecDepth 100000 in
set_option maxHeartbeats 4000000 in
theorem fitsR1_2 (el : Int) (ps : List Pt) (va : Option Addr) (vc : Nat) (xk xn xd : Int) (w : World) : Calls Try.prog 59 #[.agg #[.int .i64 1, .int .i64 2, .int .i64 el, .slice va ps.length vc], .agg #[.int .i64 xk, .int .u64 xn, .int .i64 xd]] w fun e w' => e = .returned (.int .i64 (misP ⟨1, 2, el, ps⟩ ⟨xk, xn, xd⟩)) ∧ Below w.heap.size w w' := by
  have hB := below2 w (.cells #[.int .i64 1, .int .i64 2, .int .i64 el, .slice va ps.length vc] 62) (.cells #[.int .i64 xk, .int .u64 xn, .int .i64 xd] 58)
  obtain ⟨k1, k2⟩ := blk2 w #[.int .i64 1, .int .i64 2, .int .i64 el, .slice va ps.length vc] #[.int .i64 xk, .int .u64 xn, .int .i64 xd] 62 58
  obtain ⟨w0, hw0⟩ : ∃ wx, wx = (w.alloc (.cells #[.int .i64 1, .int .i64 2, .int .i64 el, .slice va ps.length vc] 62)).alloc (.cells #[.int .i64 xk, .int .u64 xn, .int .i64 xd] 58) := ⟨_, rfl⟩
  rw [← hw0] at hB k1 k2
  have K1 := hide_ k1
  have K2 := hide_ k2
  have HB := hide_ hB
  have i0 := k1.cell 0; have i1 := k1.cell 1; have i2 := k1.cell 2; have i3 := k1.cell 3
  have j0 := k2.cell 0; have j1 := k2.cell 1; have j2 := k2.cell 2
  simp at i0 i1 i2 i3 j0 j1 j2
  clear hB k1 k2
  go_enter Try.func59, Try.ntmps59
  go_upto_region 1 with fail
  rw [← hw0]
  clear hw0
  by_cases hk : xk = 1
  · have hkb : (xk == 1) = true := by simp [hk]
    have hkn : (xk != 1) = false := by simp [hk]
    by_cases hc : 65536 ≤ xn
    · skip
      have HV : Hid (misP ⟨1, 2, el, ps⟩ ⟨xk, xn, xd⟩ = 111) := hide_ (by simp [misP, nkind, nkT, hk, gr]; omega)
      go_wp2_with fail
      go_quiet (fail)
      have HBq := hide_ (below_drewN HB.out nq)
      go_wp2
      go_ret
      exact ⟨by rw [HV.out]; rfl, HBq.out⟩
    · skip
      have HV : Hid (misP ⟨1, 2, el, ps⟩ ⟨xk, xn, xd⟩ = 0) := hide_ (by simp [misP, nkind, nkT, hk, gr]; omega)
      go_wp2_with fail
      go_quiet (fail)
      have HBq := hide_ (below_drewN HB.out nq)
      go_wp2
      go_ret
      exact ⟨by rw [HV.out]; rfl, HBq.out⟩
  · have hkn : (xk != 1) = true := by simpa using hk
    have HV : Hid (misP ⟨1, 2, el, ps⟩ ⟨xk, xn, xd⟩ = 110) := hide_ (by simp [misP, nkind, nkT, hk])
    go_wp2
    go_ret
    exact ⟨by rw [HV.out]; rfl, HB.out⟩
set_option maxRecDepth 100000 in
set_option maxHeartbeats 4000000 in
theorem fitsR1_4 (el : Int) (ps : List Pt) (va : Option Addr) (vc : Nat) (xk xn xd : Int) (w : World) : Calls Try.prog 59 #[.agg #[.int .i64 1, .int .i64 4, .int .i64 el, .slice va ps.length vc], .agg #[.int .i64 xk, .int .u64 xn, .int .i64 xd]] w fun e w' => e = .returned (.int .i64 (misP ⟨1, 4, el, ps⟩ ⟨xk, xn, xd⟩)) ∧ Below w.heap.size w w' := by
  have hB := below2 w (.cells #[.int .i64 1, .int .i64 4, .int .i64 el, .slice va ps.length vc] 62) (.cells #[.int .i64 xk, .int .u64 xn, .int .i64 xd] 58)
  obtain ⟨k1, k2⟩ := blk2 w #[.int .i64 1, .int .i64 4, .int .i64 el, .slice va ps.length vc] #[.int .i64 xk, .int .u64 xn, .int .i64 xd] 62 58
  obtain ⟨w0, hw0⟩ : ∃ wx, wx = (w.alloc (.cells #[.int .i64 1, .int .i64 4, .int .i64 el, .slice va ps.length vc] 62)).alloc (.cells #[.int .i64 xk, .int .u64 xn, .int .i64 xd] 58) := ⟨_, rfl⟩
  rw [← hw0] at hB k1 k2
  have K1 := hide_ k1
  have K2 := hide_ k2
  have HB := hide_ hB
  have i0 := k1.cell 0; have i1 := k1.cell 1; have i2 := k1.cell 2; have i3 := k1.cell 3
  have j0 := k2.cell 0; have j1 := k2.cell 1; have j2 := k2.cell 2
  simp at i0 i1 i2 i3 j0 j1 j2
  clear hB k1 k2
  go_enter Try.func59, Try.ntmps59
  go_upto_region 1 with fail
  rw [← hw0]
  clear hw0
  by_cases hk : xk = 1
  · have hkb : (xk == 1) = true := by simp [hk]
    have hkn : (xk != 1) = false := by simp [hk]
    by_cases hc : 4294967296 ≤ xn
    · skip
      have HV : Hid (misP ⟨1, 4, el, ps⟩ ⟨xk, xn, xd⟩ = 111) := hide_ (by simp [misP, nkind, nkT, hk, gr]; omega)
      go_wp2_with fail
      go_quiet (fail)
      have HBq := hide_ (below_drewN HB.out nq)
      go_wp2
      go_ret
      exact ⟨by rw [HV.out]; rfl, HBq.out⟩
    · skip
      have HV : Hid (misP ⟨1, 4, el, ps⟩ ⟨xk, xn, xd⟩ = 0) := hide_ (by simp [misP, nkind, nkT, hk, gr]; omega)
      go_wp2_with fail
      go_quiet (fail)
      have HBq := hide_ (below_drewN HB.out nq)
      go_wp2
      go_ret
      exact ⟨by rw [HV.out]; rfl, HBq.out⟩
  · have hkn : (xk != 1) = true := by simpa using hk
    have HV : Hid (misP ⟨1, 4, el, ps⟩ ⟨xk, xn, xd⟩ = 110) := hide_ (by simp [misP, nkind, nkT, hk])
    go_wp2
    go_ret
    exact ⟨by rw [HV.out]; rfl, HB.out⟩
set_option maxRecDepth 100000 in
set_option maxHeartbeats 4000000 in
theorem fitsR1_8 (el : Int) (ps : List Pt) (va : Option Addr) (vc : Nat) (xk xn xd : Int) (w : World) (hx : xn < 18446744073709551616) : Calls Try.prog 59 #[.agg #[.int .i64 1, .int .i64 8, .int .i64 el, .slice va ps.length vc], .agg #[.int .i64 xk, .int .u64 xn, .int .i64 xd]] w fun e w' => e = .returned (.int .i64 (misP ⟨1, 8, el, ps⟩ ⟨xk, xn, xd⟩)) ∧ Below w.heap.size w w' := by
  have hB := below2 w (.cells #[.int .i64 1, .int .i64 8, .int .i64 el, .slice va ps.length vc] 62) (.cells #[.int .i64 xk, .int .u64 xn, .int .i64 xd] 58)
  obtain ⟨k1, k2⟩ := blk2 w #[.int .i64 1, .int .i64 8, .int .i64 el, .slice va ps.length vc] #[.int .i64 xk, .int .u64 xn, .int .i64 xd] 62 58
  obtain ⟨w0, hw0⟩ : ∃ wx, wx = (w.alloc (.cells #[.int .i64 1, .int .i64 8, .int .i64 el, .slice va ps.length vc] 62)).alloc (.cells #[.int .i64 xk, .int .u64 xn, .int .i64 xd] 58) := ⟨_, rfl⟩
  rw [← hw0] at hB k1 k2
  have K1 := hide_ k1
  have K2 := hide_ k2
  have HB := hide_ hB
  have i0 := k1.cell 0; have i1 := k1.cell 1; have i2 := k1.cell 2; have i3 := k1.cell 3
  have j0 := k2.cell 0; have j1 := k2.cell 1; have j2 := k2.cell 2
  simp at i0 i1 i2 i3 j0 j1 j2
  clear hB k1 k2
  go_enter Try.func59, Try.ntmps59
  go_upto_region 1 with fail
  rw [← hw0]
  clear hw0
  by_cases hk : xk = 1
  · have hkb : (xk == 1) = true := by simp [hk]
    have hkn : (xk != 1) = false := by simp [hk]
    have HV : Hid (misP ⟨1, 8, el, ps⟩ ⟨xk, xn, xd⟩ = 0) := hide_ (by simp [misP, nkind, nkT, hk, gr]; omega)
    go_wp2_with fail
    go_quiet (fail)
    have HBq := hide_ (below_drewN HB.out nq)
    go_wp2
    go_ret
    exact ⟨by rw [HV.out]; rfl, HBq.out⟩
  · have hkn : (xk != 1) = true := by simpa using hk
    have HV : Hid (misP ⟨1, 8, el, ps⟩ ⟨xk, xn, xd⟩ = 110) := hide_ (by simp [misP, nkind, nkT, hk])
    go_wp2
    go_ret
    exact ⟨by rw [HV.out]; rfl, HB.out⟩
end Go.Proofs.Ytdpkmkhflgmioaa

/- The document's Fits and Elem, whatever the kind; the memory of its walk. -/
namespace Go.Proofs.Ytdpkmkhflgmioaa
open Go.RowKit
set_option linter.unusedVariables false

theorem fitsR_any (t : Ty) (x : Nv) (va : Option Addr) (vc : Nat) (i : Int) (w : World) (hok : Hid (tyOk t i = true)) (hr : rightV x = true) (hx : NvOk x) (hP : Hid (PRow w va t.ps)) :
    Calls Try.prog 59 #[.agg #[.int .i64 t.k, .int .i64 t.n, .int .i64 t.e, .slice va t.ps.length vc], .agg #[.int .i64 x.k, .int .u64 x.n, .int .i64 x.kids]] w fun e w' => e = .returned (.int .i64 (misP t x)) ∧ Below w.heap.size w w' := by
  obtain ⟨k, n, el, ps⟩ := t
  obtain ⟨xk, xn, xd⟩ := x
  have hk := tyOk_kind hok.out
  have hps := tyOk_len hok.out
  have hd := (rightV_kids hr).1
  have hn := nOk_of hok.out
  have hpt : Hid (∀ (m : Nat) (p : Pt), ps[m]? = some p → 0 ≤ p.ty) := hide_ (fun m p hp => (tyOk_part hok.out hp).1)
  simp only at hk hps hd hn
  have hx2 := hx.2
  simp only at hx2
  rcases hk with rfl | rfl | rfl | rfl | rfl | rfl | rfl | rfl
  · have h4 : n = 1 ∨ n = 2 ∨ n = 4 ∨ n = 8 := by omega
    rcases h4 with rfl | rfl | rfl | rfl
    · exact fitsR1_1 el ps va vc xk xn xd w
    · exact fitsR1_2 el ps va vc xk xn xd w
    · exact fitsR1_4 el ps va vc xk xn xd w
    · exact fitsR1_8 el ps va vc xk xn xd w hx2
  · exact fitsR2_any n el ps va vc xk xn xd w
  · exact fitsR3_any n el ps va vc xk xn xd w
  · exact fitsR4_any n el ps va vc xk xn xd w
  · exact fitsR5_any n el ps va vc xk xn xd w hd
  · exact fitsR6_any n el ps va vc xk xn xd w
  · exact fitsR7_any n el ps va vc xk xn xd w (by omega) (hide_ (tyOk_tags hok.out)) hpt hP
  · exact fitsR8_any n el ps va vc xk xn xd w
/-- Elem, of a node that fits: the kid's type. -/
theorem elemR_any (t : Ty) (x : Nv) (va : Option Addr) (vc : Nat) (i : Int) (j : Nat) (w : World) (hok : Hid (tyOk t i = true)) (hm : misP t x = 0) (hr : rightV x = true) (hj : (j : Int) < x.kids) (hP : Hid (PRow w va t.ps)) :
    ∃ s, (kidsT t x)[j]? = some s ∧ Calls Try.prog 60 #[.agg #[.int .i64 t.k, .int .i64 t.n, .int .i64 t.e, .slice va t.ps.length vc], .agg #[.int .i64 x.k, .int .u64 x.n, .int .i64 x.kids], .int .i64 (j : Int)] w fun e w' => e = .returned (.int .i64 s) ∧ Below w.heap.size w w' := by
  have hl := kidsT_len hok.out hm hr
  have hkd := misP_kind hm
  have hps := tyOk_len hok.out
  have hr0 := (rightV_kids hr).1
  have h0 : x.k = 1 ∨ x.k = 2 → x.kids = 0 := kid0 hr
  have h8 : t.k = 8 → x.kids = t.ps.length := fun h => misP_struct hm h
  have h7 : t.k = 7 → ∃ m p, armI t.ps x.n = some m ∧ t.ps[m]? = some p ∧ p.tag = x.n := fun h => misP_arm hm h
  obtain ⟨k, n, el, ps⟩ := t
  obtain ⟨xk, xn, xd⟩ := x
  have hk := tyOk_kind hok.out
  simp only at hk hps hkd h0 h7 h8 hj hr0 hl
  have hrep : k = 4 ∨ k = 5 ∨ k = 6 → (kidsT ⟨k, n, el, ps⟩ ⟨xk, xn, xd⟩)[j]? = some el := fun h => by
    unfold kidsT
    simp only
    rw [if_neg (by omega), if_neg (by omega), List.getElem?_replicate, if_pos (by omega)]
  rcases hk with rfl | rfl | rfl | rfl | rfl | rfl | rfl | rfl
  · have := h0 (.inl hkd); omega
  · have := h0 (.inr hkd); omega
  · have := h0 (.inl hkd); omega
  · exact ⟨el, hrep (by omega), elem4_any n el ps va vc xk xn xd j w⟩
  · exact ⟨el, hrep (by omega), elem5_any n el ps va vc xk xn xd j w⟩
  · exact ⟨el, hrep (by omega), elem6_any n el ps va vc xk xn xd j w⟩
  · obtain ⟨m, p, ha, hp, -⟩ := h7 rfl
    have e1 : kidsT ⟨7, n, el, ps⟩ ⟨xk, xn, xd⟩ = [p.ty] := by
      unfold kidsT
      simp only
      rw [if_pos trivial, ha]
      simp [List.getD, hp]
    rw [e1] at hl
    have hj0 : j = 0 := by simp at hl; omega
    subst hj0
    refine ⟨p.ty, by rw [e1]; rfl, ?_⟩
    have h := elem7_any n el ps va vc xk xn xd ((0 : Nat) : Int) w (by omega) (hide_ (tyOk_tags hok.out)) hP
    rw [ha] at h
    simp only at h
    rw [show ps.getD m pt0 = p by simp [List.getD, hp]] at h
    exact h
  · have hjl : j < ps.length := by have := h8 rfl; omega
    have hp : ps[j]? = some (ps[j]'hjl) := List.getElem?_eq_getElem hjl
    refine ⟨(ps[j]'hjl).ty, ?_, elem8_any n el ps va vc xk xn xd j _ w hp hP⟩
    unfold kidsT
    simp only
    rw [if_neg (by decide), if_pos trivial, List.getElem?_map, hp]
    rfl
theorem retTTF {fn : Func} {u1 u2 p : Tmp} (h : fn.results = #[.tmp u1, .tmp u2, .cell p 34]) {R : Ending → World → Prop} {tmps : Array Value} {g : Nat} {w : World} {v1 v2 x y : Value} (h1 : tmps.getD u1 undef = v1) (h2 : tmps.getD u2 undef = v2) (hp : tmps.getD p undef = .pointer (some ⟨g, 0, none⟩)) (hK : Blk w g 34 [x, y]) (hR : R (.returned (.tuple #[v1, v2, .agg #[x, y]])) w) :
    bodyPost Try.prog fn R Exit.ret ⟨tmps, []⟩ w := by
  have hp' : tmps[p]?.getD undef = .pointer (some ⟨g, 0, none⟩) := by simpa using hp
  have h1' : tmps[u1]?.getD undef = v1 := by simpa using h1
  have h2' : tmps[u2]?.getD undef = v2 := by simpa using h2
  refine bodyPost_ret (v := .tuple #[v1, v2, .agg #[x, y]]) ?_ rfl hR
  simp only [results, h]
  simp [hp', h1', h2', asAddr, Result.andThen, run_loadVar_row w g 34 34 #[x, y] (0, 0) _ hK Try.underlying34 rfl (by show _ = some 2; kernel_rfl)]
/-- What the document's walk answers: the fault, or the types so far and the place behind the value. -/
def WalkTo (T : List Ty) (t0 : Int) (V : List Nv) (st : List Int) (B i : Nat) (v : Value) (w : World) (e : Ending) (w' : World) : Prop :=
  ∃ (v2 : Value) (p : Nat) (E A : Int), e = .returned (.tuple #[v2, .int .i64 (p : Int), .agg #[.int .i64 E, .int .i64 A]]) ∧ Hid (Upd (fun k => v.ownBlock = some k) w w') ∧
    Hid ((E ≠ 0 ∧ wkT T [t0] V 0 = ([], E, A) ∧ v2 = .slice none 0 0) ∨ (E = 0 ∧ A = 0 ∧ i < p ∧ ∃ nums2, WkI T t0 V p st nums2 ∧ IOwn w' B v2 nums2 ∧ ∀ k, v2.ownBlock = some k → v.ownBlock = some k ∨ w.heap.size ≤ k))
end Go.Proofs.Ytdpkmkhflgmioaa

/- Lists of integers of the call's own, in a seat without package typing. -/
namespace Go.Proofs.Ytdpkmkhflgmioaa
open Go.RowKit
set_option linter.unusedVariables false

theorem IOwn.at {w : World} {B g n cap i : Nat} {l : List Int} (h : IOwn w B (.slice (some ⟨g, 0, none⟩) n cap) l) (hi : i < l.length) : w.cell? ⟨g, i, none⟩ = some (.int .i64 (l.getD i 0)) := by
  obtain ⟨a, c, e, -, -, -, -, hx⟩ := own_open h rfl
  obtain ⟨g', e2, -, -, hc, -⟩ := hx (by omega)
  injection e with e _ _
  rw [← e] at e2
  injection e2 with e2
  injection e2 with e2 _ _
  subst e2
  exact hc i hi
theorem IOwn.ne {w : World} {B : Nat} {v : Value} {l : List Int} (h : IOwn w B v l) {k : Nat} {t : TypeId} {ys : List Value} (hb : Blk w k t ys) (ht : t ≠ 3) : ¬ v.ownBlock = some k := fun e => by
  obtain ⟨zs, hz⟩ := ownS_type h e
  exact ht (blk_type hb hz)
end Go.Proofs.Ytdpkmkhflgmioaa

/- TypingFirst: what Some answers; nodes written over. -/
namespace Go.Proofs.Ytdpkmkhflgmioaa
open Go.RowKit
set_option linter.unusedVariables false

theorem mkT_ok {T : List Ty} {R : List Rt} {t : Int} {p : List Int} (hS : OkS T R) : ∀ (f : Nat) (st : List Int) (V W : List Nv), MkI T t p st V → mkT T p f st V = some W → W.length ≤ 1048576 ∧ (∀ x ∈ W, NvOk x) ∧ V.length ≤ W.length ∧ (st ≠ [] → V.length < W.length)
  | 0, st, V, W, h, e => by rw [mkT] at e; cases e
  | f + 1, [], V, W, h, e => by
    rw [mkT] at e
    injection e with e
    subst e
    have := h.len
    simp at this
    exact ⟨this, h.ok, Nat.le_refl _, fun hn => absurd rfl hn⟩
  | f + 1, s :: st, V, W, h, e => by
    rw [mkT] at e
    obtain ⟨-, -, -, -, -, hn⟩ := h.next hS
    split at e
    · cases e
    · rename_i hg
      obtain ⟨h1, h2, h3, h4⟩ := mkT_ok hS f _ _ W (hn hg) e
      simp only [List.length_append, List.length_singleton] at h3
      exact ⟨h1, h2, by omega, fun _ => by omega⟩
theorem someT_ok {T : List Ty} {R : List Rt} {t : Int} {p : List Int} (hS : OkS T R) (h0 : 0 ≤ t) (h1 : t < T.length) : someT T R t p = ([], 5) ∨ ∃ V, someT T R t p = (V, 0) ∧ 0 < V.length ∧ V.length ≤ 1048576 ∧ ∀ x ∈ V, NvOk x := by
  have hc : (chk T R).1 = 0 := by rw [hS.chk]
  have e : someT T R t p = match mkT T p 1048578 [t] [] with | some v => (v, 0) | none => ([], 5) := by
    unfold someT
    rw [if_neg (by simp [hc]), if_neg (by omega)]
    generalize mkT T p 1048578 [t] [] = z
    cases z <;> rfl
  cases hm : mkT T p 1048578 [t] [] with
  | none => rw [hm] at e; exact .inl e
  | some V =>
    rw [hm] at e
    obtain ⟨h1, h2, h3, h4⟩ := mkT_ok hS 1048578 [t] [] V (MkI.start h0 h1) hm
    exact .inr ⟨V, e, h4 (by simp), h1, h2⟩
theorem cellsG_set {α : Type} {c : Nat} {f : α → List Value} (hf : ∀ x, (f x).length = c) (l : List α) (i : Nat) (y : α) (hi : i < l.length) (j : Nat) (hj : j < l.length * c) : (cellsG f (l.set i y))[j]? = if i * c ≤ j ∧ j < i * c + c then (f y)[j - i * c]? else (cellsG f l)[j]? := by
  rcases Nat.eq_zero_or_pos c with h0 | h0
  · subst h0; simp at hj
  have hq : j / c < l.length := Nat.div_lt_of_lt_mul (by rw [Nat.mul_comm]; exact hj)
  have hjm : j = j / c * c + j % c := by rw [Nat.mul_comm]; exact (Nat.div_add_mod j c).symm
  have hml := Nat.mod_lt j h0
  by_cases he : j / c = i
  · have hx : (l.set i y)[j / c]? = some y := by rw [he, List.getElem?_set_self hi]
    have h := cellsG_at hf (l.set i y) (j / c) (j % c) y hx hml
    rw [← hjm] at h
    rw [h, if_pos (by rw [← he]; omega)]
    congr 1
    rw [← he]
    omega
  · have hx : (l.set i y)[j / c]? = some (l[j / c]'hq) := by rw [List.getElem?_set_ne (fun h => he h.symm)]; exact List.getElem?_eq_getElem hq
    have h := cellsG_at hf (l.set i y) (j / c) (j % c) _ hx hml
    have h2 := cellsG_at hf l (j / c) (j % c) _ (List.getElem?_eq_getElem hq) hml
    rw [← hjm] at h h2
    rw [h, h2, if_neg]
    intro ⟨h3, h4⟩
    apply he
    refine Nat.div_eq_of_lt_le h3 ?_
    rw [Nat.add_mul, Nat.one_mul]
    exact h4
/-- A node written over in a list of the call's own. -/
theorem NOwn.set3 {w : World} {B g n cap i : Nat} {l : List Nv} (h : NOwn w B (.slice (some ⟨g, 0, none⟩) n cap) l) (hi : i < l.length) (y : Nv) : NOwn (((w.setCell ⟨g, i * 3, none⟩ (.int .i64 y.k)).setCell ⟨g, i * 3 + 1, none⟩ (.int .u64 y.n)).setCell ⟨g, i * 3 + 2, none⟩ (.int .i64 y.kids)) B (.slice (some ⟨g, 0, none⟩) n cap) (l.set i y) := by
  obtain ⟨g', cap', ys, e, hb, hn, hm, hys, ht, hk⟩ := ownS_blk h (by omega)
  injection e with e1 e2 e3
  injection e1 with e1
  injection e1 with e1 _ _
  subst e1 e2 e3
  have hk2 := ((hk.set (i * 3) (.int .i64 y.k)).set (i * 3 + 1) (.int .u64 y.n)).set (i * 3 + 2) (.int .i64 y.kids)
  have h2 := ownS_of_blk (B := B) (n := l.length) (c := 3) (cap := cap) hk2 hb (by simp [hys]) hn hm
  have e4 : (((ys.set (i * 3) (.int .i64 y.k)).set (i * 3 + 1) (.int .u64 y.n)).set (i * 3 + 2) (.int .i64 y.kids)).take (l.length * 3) = cellsG nvc (l.set i y) := by
    apply List.ext_getElem?
    intro j
    by_cases hj : j < l.length * 3
    · rw [cellsG_set nvc_len l i y hi j hj, List.getElem?_take, if_pos hj, ← ht]
      have hjy : j < ys.length := by rw [hys]; have := Nat.mul_le_mul_right 3 hn; omega
      by_cases h0 : j = i * 3
      · subst h0
        rw [if_pos (by omega), List.getElem?_set_ne (by omega), List.getElem?_set_ne (by omega), List.getElem?_set_self hjy]
        simp [nvc]
      · by_cases h1 : j = i * 3 + 1
        · subst h1
          rw [if_pos (by omega), List.getElem?_set_ne (by omega), List.getElem?_set_self (by simpa using hjy)]
          simp [nvc]
        · by_cases h2 : j = i * 3 + 2
          · subst h2
            rw [if_pos (by omega), List.getElem?_set_self (by simpa using hjy)]
            simp [nvc]
          · rw [if_neg (by omega), List.getElem?_set_ne (by omega), List.getElem?_set_ne (by omega), List.getElem?_set_ne (by omega), List.getElem?_take, if_pos hj]
    · rw [List.getElem?_eq_none (by simp; omega), List.getElem?_eq_none (by rw [cellsG_len nvc_len]; simp; omega)]
  unfold NOwn
  rw [List.length_set, ← e4]
  exact h2
theorem NOwn.at3 {w : World} {B g n cap i : Nat} {l : List Nv} {x : Nv} (h : NOwn w B (.slice (some ⟨g, 0, none⟩) n cap) l) (hx : l[i]? = some x) : w.cell? ⟨g, i * 3, none⟩ = some (.int .i64 x.k) ∧ w.cell? ⟨g, i * 3 + 1, none⟩ = some (.int .u64 x.n) ∧ w.cell? ⟨g, i * 3 + 2, none⟩ = some (.int .i64 x.kids) := by
  obtain ⟨a, c, e, -, -, hr⟩ := own_grow nvc_len h
  injection e with e1 _ _
  subst e1
  obtain ⟨b, off, e2, -, hc⟩ := hr.open (by have := (List.getElem?_eq_some_iff.1 hx).1; omega)
  injection e2 with e2
  injection e2 with e3 e4 _
  subst e3 e4
  have h0 := hc i x hx 0 (by decide); have h1 := hc i x hx 1 (by decide); have h2 := hc i x hx 2 (by decide)
  simp only [Nat.zero_add, Nat.add_zero] at h0 h1 h2
  exact ⟨h0, h1, h2⟩
/-- A node's number written over in a list of the call's own. -/
theorem NOwn.setN {w : World} {B g n cap i : Nat} {l : List Nv} {x : Nv} (h : NOwn w B (.slice (some ⟨g, 0, none⟩) n cap) l) (hx : l[i]? = some x) (n' : Int) : NOwn (w.setCell ⟨g, i * 3 + 1, none⟩ (.int .u64 n')) B (.slice (some ⟨g, 0, none⟩) n cap) (l.set i ⟨x.k, n', x.kids⟩) := by
  have hi := (List.getElem?_eq_some_iff.1 hx).1
  obtain ⟨g', cap', ys, e, hb, hn, hm, hys, ht, hk⟩ := ownS_blk h (by omega)
  injection e with e1 e2 e3
  injection e1 with e1
  injection e1 with e1 _ _
  subst e1 e2 e3
  have hk2 := hk.set (i * 3 + 1) (.int .u64 n')
  have h2 := ownS_of_blk (B := B) (n := l.length) (c := 3) (cap := cap) hk2 hb (by simp [hys]) hn hm
  have c0 := cellsG_at nvc_len l i 0 x hx (by decide)
  have c2 := cellsG_at nvc_len l i 2 x hx (by decide)
  have e4 : (ys.set (i * 3 + 1) (.int .u64 n')).take (l.length * 3) = cellsG nvc (l.set i ⟨x.k, n', x.kids⟩) := by
    apply List.ext_getElem?
    intro j
    by_cases hj : j < l.length * 3
    · rw [cellsG_set nvc_len l i _ hi j hj, List.getElem?_take, if_pos hj]
      have hjy : j < ys.length := by rw [hys]; have := Nat.mul_le_mul_right 3 hn; omega
      have hyj : ys[j]? = (cellsG nvc l)[j]? := by rw [← ht, List.getElem?_take, if_pos hj]
      by_cases h1 : j = i * 3 + 1
      · subst h1
        rw [if_pos (by omega), List.getElem?_set_self hjy]
        simp [nvc]
      · rw [List.getElem?_set_ne (by omega), hyj]
        by_cases h0 : j = i * 3
        · subst h0
          rw [if_pos (by omega)]
          simp only [Nat.add_zero] at c0
          rw [c0]
          simp [nvc]
        · by_cases h2 : j = i * 3 + 2
          · subst h2
            rw [if_pos (by omega), c2]
            simp [nvc]
          · rw [if_neg (by omega)]
    · rw [List.getElem?_eq_none (by simp; omega), List.getElem?_eq_none (by rw [cellsG_len nvc_len]; simp; omega)]
  unfold NOwn
  rw [List.length_set, ← e4]
  exact h2
theorem NOwn.fr {w : World} {B g n cap : Nat} {l : List Nv} (h : NOwn w B (.slice (some ⟨g, 0, none⟩) n cap) l) (i : Nat) : w.frozen? ⟨g, i, none⟩ = false := by
  obtain ⟨zs, hz⟩ := ownS_type h (k := g) rfl
  exact hz.frozen i
end Go.Proofs.Ytdpkmkhflgmioaa

/- The law's small functions: num, rest, sameInts, Equal; a list written over. -/
namespace Go.Proofs.Ytdpkmkhflgmioaa
open Go.RowKit
set_option linter.unusedVariables false

set_option maxRecDepth 100000 in
set_option maxHeartbeats 4000000 in
theorem equal_yes (a b : Option Addr) (c d n : Nat) (l : List Nv) (w : World) (hl : Hid (l.length = n)) (hn : n ≤ 9223372036854775806) (hr : Hid (VRow w a l)) (hs : Hid (VRow w b l)) :
    Calls Try.prog 37 #[.slice a n c, .slice b n d] w fun e w' => e = .returned (.bool true) ∧ Below w.heap.size w w' := by
  go_enter Try.func37, Try.ntmps37
  go_wp2_with fail
  go_loopw [5] (fun x5 wr => ∃ i : Nat, i ≤ n ∧ x5 = .int .i64 (i : Int) ∧ Hid (Below w.heap.size w wr)) (fun x5 _ => n - (intOf x5).toNat)
  case atStart => exact ⟨0, Nat.zero_le _, rfl, hide_ (Below.refl _ _)⟩
  case round =>
    obtain ⟨i, hi, rfl, HB⟩ := hrel
    generalize wr = wq at *
    by_cases hlt : i < n
    · have hlt' : (i : Int) < n := by omega
      have hil : i < l.length := by have := hl.out; omega
      obtain ⟨b1, o1, rfl, -, h1⟩ := (hr.out.later HB.out).open (by omega)
      obtain ⟨b2, o2, rfl, -, h2⟩ := (hs.out.later HB.out).open (by omega)
      have hx : l[i]? = some (l[i]'hil) := List.getElem?_eq_getElem hil
      have u0 := h1 i _ hx 0 (by decide); have u1 := h1 i _ hx 1 (by decide); have u2 := h1 i _ hx 2 (by decide)
      have t0 := h2 i _ hx 0 (by decide); have t1 := h2 i _ hx 1 (by decide); have t2 := h2 i _ hx 2 (by decide)
      simp [nvc] at u0 u1 u2 t0 t1 t2
      generalize l[i]'hil = x at *
      clear h1 h2 hx hil
      go_wp2_with fail
      go_quiet (fail)
      have HBq : ∀ q, Hid (Below w.heap.size w (wq.drewN q)) := fun q => hide_ (below_drewN HB.out q)
      go_wp2
      go_roundw
      case rel => exact ⟨i + 1, by omega, by go_num, HBq _⟩
      case measure => simp [intOf]; omega
    · obtain rfl : i = n := by omega
      go_wp2
      go_ret
      exact ⟨rfl, HB.out⟩
end Go.Proofs.Ytdpkmkhflgmioaa

/- layout.Of. -/
import Derived.Test.YtncndgfaalojpaaEf
import Derived.Test.YtncndgfaalojpaaZp
namespace Go.Proofs.Ytncndgfaalojpaa
open Go.RowKit
set_option linter.unusedVariables false

theorem infoL : (Try.prog.info? 70).map (fun i => (i.zero, i.size, i.bytes)) = some (some (.agg #[.int .i64 0, .slice none 0 0]), 2, 32) := by kernel_rfl
def lyc (p : Ly × Value) : List Value := [.int .i64 p.1.sz, p.2]
theorem lyc_len (p : Ly × Value) : (lyc p).length = 2 := rfl
/-- A list of layouts of the call's own, each with a list of slots of its own. -/
structure LOwn (w : World) (B : Nat) (v : Value) (P : List (Ly × Value)) : Prop where
  row : w.ownsRow B 70 2 v P.length (cellsG lyc P)
  sl : ∀ p ∈ P, SOwn w B p.2 p.1.sl
  ap : P.Pairwise (fun p q => ∀ k, p.2.ownBlock = some k → q.2.ownBlock = some k → False)
theorem LOwn.nil (w : World) (B : Nat) : LOwn w B (.slice none 0 0) [] := ⟨World.ownsRow_nil _ _ _ _, fun p hp => (by cases hp), List.Pairwise.nil⟩
theorem LOwn.upd {w w' : World} {B : Nat} {v : Value} {P : List (Ly × Value)} {S : Nat → Prop} (h : LOwn w B v P) (hu : Upd S w w') (hs : ∀ k, v.ownBlock = some k → ¬ S k) (hp : ∀ p ∈ P, ∀ k, p.2.ownBlock = some k → ¬ S k) : LOwn w' B v P :=
  ⟨ownS_upd h.row hu hs, fun p hm => (h.sl p hm).upd hu (hp p hm), h.ap⟩
theorem LOwn.later {w w' : World} {B : Nat} {v : Value} {P : List (Ly × Value)} (h : LOwn w B v P) (hB : Below w.heap.size w w') : LOwn w' B v P := h.upd (Upd.of_below (S := fun _ => False) hB) (fun _ _ h => h) (fun _ _ _ _ h => h)
theorem LOwn.base {w : World} {B B' : Nat} {v : Value} {P : List (Ly × Value)} (h : LOwn w B v P) (hb : B' ≤ B) : LOwn w B' v P := ⟨own_base h.row hb, fun p hp => own_base (h.sl p hp) hb, h.ap⟩
theorem LOwn.ne {w : World} {B : Nat} {v : Value} {P : List (Ly × Value)} (h : LOwn w B v P) {p : Ly × Value} (hp : p ∈ P) {k : Nat} (hk : p.2.ownBlock = some k) : ¬ v.ownBlock = some k := fun e => by
  obtain ⟨ys, hy⟩ := ownS_type h.row e
  exact (h.sl p hp).ne hy (by decide) hk
theorem LOwn.push {w : World} {B : Nat} {v : Value} {P : List (Ly × Value)} (h : LOwn w B v P) (y : Ly) {a : Option Addr} {n c : Nat} (ho : SOwn w B (.slice a n c) y.sl) (hap : ∀ p ∈ P, ∀ k, p.2.ownBlock = some k → (Value.slice a n c).ownBlock = some k → False) (hl : P.length ≤ 4000000000000) (hB : B ≤ w.heap.size) :
    ∃ g cap w', (Builtin.append_ #[48, 48] 48 #[v, .slice (some ⟨w.heap.size, 0, none⟩) 1 1]).run Try.prog (w.alloc (.cells #[.int .i64 y.sz, .slice a n c] 70)) = .ok (.slice (some ⟨g, 0, none⟩) (P.length + 1) cap) w' ∧ LOwn w' B (.slice (some ⟨g, 0, none⟩) (P.length + 1) cap) (P ++ [(y, .slice a n c)]) ∧ Upd (fun k => v.ownBlock = some k) w w' ∧ (v.ownBlock = some g ∨ w.heap.size ≤ g) := by
  obtain ⟨g, cap, w', h1, h2, h3, h4⟩ := run_pushS (P := Try.prog) (t := 48) (e := 70) (c := 2) Try.underlying48 infoL rfl (by decide) w 48 h.row (lyc (y, .slice a n c)) rfl (fun u hu => by simp [lyc] at hu; rcases hu with rfl | rfl <;> rfl) (by unfold maxLen; omega) (by omega) hB
  refine ⟨g, cap, w', h1, ⟨?_, ?_, ?_⟩, h3, h4⟩
  · rw [cellsG_app, cellsG_one, List.length_append, List.length_singleton]
    exact h2
  · intro p hp
    rcases List.mem_append.1 hp with hp | hp
    · exact (h.sl p hp).upd h3 (fun k hk e => h.ne hp hk e)
    · simp only [List.mem_singleton] at hp
      subst hp
      refine ho.upd h3 (fun k hk e => ?_)
      obtain ⟨ys, hy⟩ := ownS_type h.row e
      exact ho.ne hy (by decide) hk
  · rw [List.pairwise_append]
    refine ⟨h.ap, List.pairwise_singleton _ _, fun p hp q hq => ?_⟩
    simp only [List.mem_singleton] at hq
    subst hq
    exact hap p hp
theorem LOwn.slice {w : World} {B : Nat} {v : Value} {P : List (Ly × Value)} (h : LOwn w B v P) : ∃ a c, v = .slice a P.length c ∧ P.length ≤ c ∧ GRow 2 lyc w a P := by
  obtain ⟨a, c, e, h1, _, h2⟩ := own_grow lyc_len h.row
  exact ⟨a, c, e, h1, h2⟩
theorem LOwn.lies {w : World} {B : Nat} {v : Value} {P : List (Ly × Value)} (h : LOwn w B v P) {k : Nat} (hk : v.ownBlock = some k) : B ≤ k ∧ k < w.heap.size := h.row.lt k hk
theorem makeL (n : Nat) (hn : n ≤ 3000000000000) (w : World) : (Instr.makeSlice 48 (.int .i64 0) (.int .i64 (n : Int))).run Try.prog w = .ok (.slice (some ⟨w.heap.size, 0, none⟩) 0 n) (w.alloc (.cells (madeCells #[.int .i64 0, .slice none 0 0] (n * 2)) 70)) := by
  obtain ⟨i0, hi, hz0, hz1, hz2⟩ := info_parts infoL
  have hb : (i0.bytes : Int) * (n : Int) ≤ 281474976710656 := by rw [hz2]; omega
  have hr := run_make (P := Try.prog) w 48 70 i0 (.agg #[.int .i64 0, .slice none 0 0]) Try.underlying48 hi hz0 .i64 .i64 0 n (by omega) (by omega) hb (by omega)
  rw [Int.toNat_natCast, hz1] at hr
  exact hr
theorem LOwn.made (w : World) (n : Nat) (hn : n ≤ 3000000000000) : LOwn (w.alloc (.cells (madeCells #[.int .i64 0, .slice none 0 0] (n * 2)) 70)) w.heap.size (.slice (some ⟨w.heap.size, 0, none⟩) 0 n) [] := by
  have h := ownS_of_blk (c := 2) (n := 0) (cap := n) (Blk.newA w (madeCells #[.int .i64 0, .slice none 0 0] (n * 2)) 70) (Nat.le_refl _) (by simp [size_madeCells]) (Nat.zero_le _) (by unfold maxLen; omega)
  exact ⟨by simpa [cellsG] using h, fun p hp => (by cases hp), List.Pairwise.nil⟩
/-- What Of answers. -/
def LOfTo (T : List Ty) (R : List Rt) (w : World) (e : Ending) (w' : World) : Prop :=
  ((chk T R).1 ≠ 0 ∧ e = .returned (.tuple #[.slice none 0 0, .int .i64 92]) ∧ Below w.heap.size w w') ∨
  (OkS T R ∧ ∃ v P, e = .returned (.tuple #[v, .int .i64 0]) ∧ P.map (·.1) = T.map (layP (extL T)) ∧ LOwn w' w.heap.size v P ∧ Below w.heap.size w w')
theorem take_map_succ {T : List Ty} {P : List (Ly × Value)} {f : Ty → Ly} {i : Nat} (hi : i < T.length) (h : P.map (·.1) = (T.take i).map f) (u : Value) : (P ++ [(f (T[i]'hi), u)]).map (·.1) = (T.take (i + 1)).map f := by
  rw [List.take_succ_eq_append_getElem hi, List.map_append, List.map_append, h]
  rfl
theorem map_len {T : List Ty} {P : List (Ly × Value)} {f : Ty → Ly} {i : Nat} (hi : i ≤ T.length) (h : P.map (·.1) = (T.take i).map f) : P.length = i := by
  have := congrArg List.length h
  simp at this
  omega
set_option maxRecDepth 100000 in
set_option maxHeartbeats 8000000 in
theorem lof_any (a : Option Addr) (c : Nat) (T : List Ty) (ar : Option Addr) (cr : Nat) (R : List Rt) (w : World) (hn : T.length ≤ 3000000000000) (hm : R.length ≤ 10000000000000) (hL : Hid (LensT T)) (hT : Hid (TRow w a T)) (hR : Hid (RRow w ar R)) :
    Calls Try.prog 13 #[.agg #[.slice a T.length c, .slice ar R.length cr]] w fun e w' => LOfTo T R w e w' := by
  have hB := below1 w (.cells #[.slice a T.length c, .slice ar R.length cr] 25)
  have k1 := Blk.newA w #[.slice a T.length c, .slice ar R.length cr] 25
  obtain ⟨w0, hw0⟩ : ∃ wx, wx = w.alloc (.cells #[.slice a T.length c, .slice ar R.length cr] 25) := ⟨_, rfl⟩
  rw [← hw0] at hB k1
  have HB0 := hide_ hB
  have K1 := hide_ k1
  have hs1 : w.heap.size < w0.heap.size := k1.lt
  have i0 := k1.cell 0; have i1 := k1.cell 1
  simp at i0 i1
  have HCo := hide_ (of_any a c T ar cr R w0 hn hm hL (hide_ (hT.out.later hB)) (hide_ (hR.out.later hB)))
  clear hB k1
  go_enter Try.func13, Try.ntmps13
  go_upto_region 1 with fail
  rw [← hw0]
  clear hw0
  go_wp2_with fail
  refine HCo.out.mono ?_; rintro e w1 hOf
  rcases hOf with ⟨hne, rfl, hB1⟩ | ⟨hok, vx, rfl, hXo, hB1⟩
  · have hE1 : ((chk T R).1 != 0) = true := by simpa using hne
    have HNe := hide_ hne
    have HBf := hide_ (below_to HB0.out hB1)
    clear hne hB1 HCo
    obtain ⟨vE, hvE⟩ : ∃ vE, (chk T R).1 = vE := ⟨_, rfl⟩
    rw [hvE] at hE1 ⊢
    clear hvE
    go_wp2
    go_ret2
    exact .inl ⟨HNe.out, rfl, HBf.out⟩
  · have HOK := hide_ hok
    have HB1 := hide_ hB1
    have hXl := extL_len T
    have hbd := extL_ok hok T.length (Nat.le_refl _)
    rw [List.take_length] at hbd
    have HBd : Hid (∀ x ∈ extL T, XOk x) := hide_ (fun x hx => (hbd x hx).1)
    obtain ⟨ax, cx, hvx, -, -, hXr⟩ := hXo.row
    subst hvx
    have HXr := hide_ hXr
    have K2 := hide_ (K1.out.later hB1)
    have l0 := K2.out.cell 0
    simp at l0
    have hmk := makeL T.length hn
    have HLm := hide_ (LOwn.made w1 T.length hn)
    have hB3 := below1 w1 (.cells (madeCells #[.int .i64 0, .slice none 0 0] (T.length * 2)) 70)
    obtain ⟨w3, hw3⟩ : ∃ w3, w3 = w1.alloc (.cells (madeCells #[.int .i64 0, .slice none 0 0] (T.length * 2)) 70) := ⟨_, rfl⟩
    rw [← hw3] at HLm hB3
    have HB3 := hide_ hB3
    have HXL := hide_ hXl
    obtain ⟨X, hX⟩ : ∃ X, extL T = X := ⟨_, rfl⟩
    rw [hX] at HXL HBd HXr
    have HXe := hide_ hX
    have hz1 : w0.heap.size ≤ w1.heap.size := hB1.size
    have K3 := K2.out.later hB3
    have m0 := K3.cell 0
    simp at m0
    have hxlen : X.length = T.length := HXL.out
    have HT1 := hide_ (hT.out.later (below_to HB0.out hB1))
    clear hX hXl hbd hok hXo hXr hB1 hB3 HCo K3
    rw [HXe.out]
    rw [hxlen]
    go_upto_region 5 with fail
    rw [← hw3]
    clear hw3 hmk l0 i0 i1
    go_wp2_with fail
    go_loopw [6, 23] (fun x6 x23 wr => ∃ (v : Value) (i : Nat) (P : List (Ly × Value)), v = x6 ∧ i ≤ T.length ∧ x23 = .int .i64 (i : Int) ∧ Hid (P.map (·.1) = (T.take i).map (layP X)) ∧ Hid (LOwn wr w1.heap.size v P) ∧ Hid (Below w1.heap.size w1 wr)) (fun _ x23 _ => T.length - (intOf x23).toNat)
    case atStart => exact ⟨_, 0, [], rfl, Nat.zero_le _, rfl, hide_ rfl, HLm, HB3⟩
    case round =>
      obtain ⟨v, i, P, rfl, hi, rfl, HM, HO, HB⟩ := hrel
      generalize wr = wq at *
      clear HLm HB3 m0 K2
      by_cases hlt : i < T.length
      · have hlt' : (i : Int) < T.length := by omega
        obtain ⟨b, o, rfl, hb, hc⟩ := (HT1.out.later HB.out).open (by omega)
        have hx : T[i]? = some (T[i]'hlt) := List.getElem?_eq_getElem hlt
        obtain ⟨va, vc, hcx, hvc, -, hP⟩ := hc i _ hx
        have hok1 := HOK.out.ty i hlt
        rw [show T.getD i ty0 = T[i]'hlt by simp [List.getD, hlt]] at hok1
        have HS := hide_ (fun u => take_map_succ hlt HM.out u)
        have hpl := map_len hi HM.out
        generalize T[i]'hlt = t at *
        obtain ⟨k, n, el, ps⟩ := t
        simp only at hvc hP
        have i0 := hcx 0 (by decide); have i1 := hcx 1 (by decide); have i2 := hcx 2 (by decide); have i3 := hcx 3 (by decide)
        simp [tyc] at i0 i1 i2 i3
        have kt := Blk.newA wq #[.int .i64 k, .int .i64 n, .int .i64 el, .slice va ps.length vc] 43
        have hBx := below1 wq (.cells #[.int .i64 k, .int .i64 n, .int .i64 el, .slice va ps.length vc] 43)
        obtain ⟨wx, hwx⟩ : ∃ wx, wx = wq.alloc (.cells #[.int .i64 k, .int .i64 n, .int .i64 el, .slice va ps.length vc] 43) := ⟨_, rfl⟩
        rw [← hwx] at kt hBx
        have HBx := hide_ (below_to HB.out hBx)
        have HOx := hide_ (HO.out.later hBx)
        have HCe := hide_ (layoutOf_any k n el ps va vc X ax cx wx (by omega) HBd i (by omega) (hide_ hok1) (hide_ (hP.later hBx)) (hide_ (HXr.out.later HBx.out)))
        obtain ⟨y, hy⟩ : ∃ y, layP X ⟨k, n, el, ps⟩ = y := ⟨_, rfl⟩
        rw [hy] at HCe
        rw [hy] at HS
        have j0 := kt.cell 0; have j1 := kt.cell 1; have j2 := kt.cell 2; have j3 := kt.cell 3
        simp at j0 j1 j2 j3
        obtain ⟨av, cv, hav, -, -⟩ := HO.out.slice
        rw [hxlen] at HCe
        subst hav
        have hPle : P.length ≤ 4000000000000 := by omega
        have HPL := hide_ hpl
        have hqx : wq.heap.size ≤ wx.heap.size := hBx.size
        clear hc hx hcx hP kt hBx hok1 hb HO hy hpl
        go_upto_region 8 with fail
        rw [← hwx]
        clear hwx i0 i1 i2 i3
        go_wp2_with fail
        refine HCe.out.mono ?_; rintro e w4 ⟨u, rfl, hU, hB4⟩
        obtain ⟨au, cu, hau, -, -, -⟩ := hU.row
        subst hau
        have HO4 := hide_ (HOx.out.later hB4)
        have HB4 := hide_ (below_to HBx.out hB4)
        have hz4 : w1.heap.size ≤ wx.heap.size := HBx.out.size
        obtain ⟨g, cap, w5, hrun, hO5, hU5, -⟩ := HO4.out.push y (own_base hU hz4) (fun p hp k hk hk2 => by
          have h1 := (HOx.out.sl p hp).lies hk
          have h2 := hU.lies hk2
          omega) hPle HB4.out.size
        have HRun := hide_ hrun
        have HO5 := hide_ hO5
        have HB5 := hide_ (HB4.out.trans (hU5.below _ HB4.out.size (fun k hk => (HO4.out.lies hk).1)))
        have HS5 := hide_ (HS.out (.slice au y.sl.length cu))
        clear hB4 hrun hO5 hU5 HO4 HB4 HOx HBx j0 j1 j2 j3 HCe hU HS
        go_wp2_with (first | (at_builtin; refine wpList_append_run rfl (.tmp 27) (.tmp 31) 48 48 rfl rfl rfl HRun.out ?_; clear HRun) | fail)
        go_roundw
        case rel => exact ⟨_, i + 1, _, rfl, by omega, by go_num, HS5, HO5, HB5⟩
        case measure => simp [intOf]; omega
      · obtain rfl : i = T.length := by omega
        have HV : Hid (P.map (·.1) = T.map (layP (extL T))) := hide_ (by have h := HM.out; rw [List.take_length] at h; rw [HXe.out]; exact h)
        have HO2 := hide_ (HO.out.base (Nat.le_trans HB0.out.size hz1))
        go_wp2
        go_ret2
        exact .inr ⟨HOK.out, v, P, rfl, HV.out, HO2.out, below_to HB0.out (below_to HB1.out HB.out)⟩
end Go.Proofs.Ytncndgfaalojpaa

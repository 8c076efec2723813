import Derived.Test.YtcmkdkocponpiaaPart12
import Derived.Test.YtcmkdkocponpiaaPart01
import Derived.Test.YtcmkdkocponpiaaPart16
import Derived.Laws.EntriesVeiled

/- Frames: bytes under way; Save's closure; plain: a stack's bytes. -/
namespace Go.Proofs.Ytcmkdkocponpiaa
open Go.RowKit
set_option linter.unusedVariables false

/-- A box of bytes of the call's own. -/
def Bx (w : World) (B gb : Nat) (l : List Int) : Prop := B ≤ gb ∧ ∃ v, Blk w gb 23 [v] ∧ w.ownsRow B 5 1 v l.length (cellsL .u8 l)
/-- What a call leaves alone. -/
def Kb (B : Nat) (w w' : World) : Prop := Below B w w' ∧ ∀ (k : Nat) (t : TypeId) (ys : List Value), t ≠ 5 → t ≠ 23 → Blk w k t ys → Blk w' k t ys
theorem Kb.refl (B : Nat) (w : World) : Kb B w w := ⟨Below.refl _ _, fun _ _ _ _ _ h => h⟩
theorem Kb.trans {B : Nat} {w w' w'' : World} (h : Kb B w w') (k : Kb B w' w'') : Kb B w w'' := ⟨h.1.trans k.1, fun j t ys h1 h2 h4 => k.2 j t ys h1 h2 (h.2 j t ys h1 h2 h4)⟩
theorem Kb.of_below {B : Nat} {w w' : World} (hB : B ≤ w.heap.size) (h : Below w.heap.size w w') : Kb B w w' := ⟨h.mono hB, fun j t ys _ _ h4 => h4.later h⟩
theorem Kb.of_upd {B : Nat} {S : Nat → Prop} {w w' : World} (hB : B ≤ w.heap.size) (h : Upd S w w') (hs : ∀ k, S k → B ≤ k) (ht : ∀ k, S k → ∃ t ys, Blk w k t ys ∧ (t = 5 ∨ t = 23)) : Kb B w w' := by
  refine ⟨h.below B hB hs, fun j t ys h1 h2 h4 => h4.upd h (fun hj => ?_)⟩
  obtain ⟨t', ys', k1, k2⟩ := ht j hj
  have := blk_type h4 k1
  subst this
  rcases k2 with k2 | k2
  · exact h1 k2
  · exact h2 k2
theorem Bx.later {w w' : World} {B gb : Nat} {l : List Int} (h : Bx w B gb l) (hB : Below w.heap.size w w') : Bx w' B gb l := by
  obtain ⟨h1, v, k1, k2⟩ := h
  exact ⟨h1, v, k1.later hB, ownS_upd k2 (Upd.of_below (S := fun _ => False) hB) (fun _ _ h => h)⟩
theorem Bx.size {w : World} {B gb : Nat} {l : List Int} (h : Bx w B gb l) : B ≤ w.heap.size := by
  obtain ⟨h1, v, k1, _⟩ := h
  exact Nat.le_trans h1 (Nat.le_of_lt k1.lt)
/-- Bytes appended, out of the memory of a row. -/
theorem Bx.app {w w1 : World} {B gb : Nat} {l r : List Int} {v : Value} (hB : B ≤ gb) (k1 : Blk w gb 23 [v]) (k2 : w.ownsRow B 5 1 v l.length (cellsL .u8 l)) (hb : Below w.heap.size w w1) (a : Option Addr) (m cap : Nat) (hr : r.length = m) (hrow : Row .u8 w1 a r) (hnil : a = none → cap = 0) (hl : l.length + r.length ≤ 100000000000000) :
    ∃ v' w2, (Builtin.append_ #[23, 23] 23 #[v, .slice a m cap]).run Try.prog w1 = .ok v' w2 ∧ (∃ a' n' c', v' = .slice a' n' c') ∧ Blk w2 gb 23 [v] ∧ Bx (w2.setCell ⟨gb, 0, none⟩ v') B gb (l ++ r) ∧ Kb B w (w2.setCell ⟨gb, 0, none⟩ v') := by
  have hBw : B ≤ w.heap.size := Nat.le_trans hB (Nat.le_of_lt k1.lt)
  have j1 := k1.later hb
  have j2 := ownS_upd k2 (Upd.of_below (S := fun _ => False) hb) (fun _ _ h => h)
  obtain ⟨v', w2, h1, h2, h3⟩ := run_app E23 w1 23 B v l.length l j2 a m cap r hr hrow hnil (by unfold maxLen; omega) (by omega) (Nat.le_trans hBw hb.size)
  have hnb : ¬ v.ownBlock = some gb := fun e => by
    obtain ⟨zs, hz⟩ := ownS_type j2 e
    exact absurd (blk_type j1 hz) (by decide)
  have hu : Upd (fun k => v.ownBlock = some k) w1 w2 := (Upd.refl (fun k => v.ownBlock = some k) w1).grown h3 (fun k e => .inl e)
  have i1 := j1.upd hu hnb
  have e2 : w2.ownsRow B 5 1 v' (l ++ r).length (cellsL .u8 (l ++ r)) := by rw [List.length_append, hr]; exact h2
  have hU3 : Upd (fun k => k = gb) w2 (w2.setCell ⟨gb, 0, none⟩ v') := (Upd.refl _ w2).set _ _ (.inl rfl)
  obtain ⟨a', c', e', -⟩ := own_open e2 rfl
  refine ⟨v', w2, h1, ⟨a', _, c', e'⟩, i1, ⟨hB, v', by have := i1.set 0 v'; simpa using this, ownS_upd e2 hU3 (fun k hk e => ?_)⟩, ?_⟩
  · subst e
    obtain ⟨zs, hz⟩ := ownS_type e2 hk
    exact absurd (blk_type i1 hz) (by decide)
  · refine (Kb.of_below hBw hb).trans (Kb.trans (w' := w2) ?_ ?_)
    · refine Kb.of_upd (Nat.le_trans hBw hb.size) hu (fun k e => (World.ownsRow.lt j2 k e).1) (fun k e => ?_)
      obtain ⟨zs, hz⟩ := ownS_type j2 e
      exact ⟨_, _, hz, .inl rfl⟩
    · exact Kb.of_upd (Nat.le_trans hBw (Nat.le_trans hb.size hu.size)) hU3 (fun k e => by subst e; exact hB) (fun k e => by subst e; exact ⟨_, _, i1, .inr rfl⟩)
set_option maxRecDepth 100000 in
set_option maxHeartbeats 4000000 in
theorem put_c (B gb : Nat) (l : List Int) (n : Nat) (w : World) (hn : n ≤ 4611686018427387905) (hl : l.length ≤ 50000000000000) (H : Hid (Bx w B gb l)) :
    Calls Try.prog 29 #[.int .i64 (n : Int), .pointer (some ⟨gb, 0, none⟩)] w fun e w' => e = .returned (.tuple #[]) ∧ Hid (Bx w' B gb (l ++ form n)) ∧ Hid (Kb B w w') := by
  obtain ⟨hB, v, k1, k2⟩ := H.out
  have hu : IntKind.u64.wrap (n : Int) = n := by rw [IntKind.wrap_u64]; omega
  have HPut : Hid (∀ w', Calls Try.prog 30 #[.int .u64 (n : Int)] w' fun e w'' => ∃ g, e = .returned (.slice (some ⟨g, 0, none⟩) (form n).length (form n).length) ∧ w'.heap.size ≤ g ∧ Blk w'' g 5 (cellsL .u8 (form n)) ∧ Below w'.heap.size w' w'') := hide_ (fun w' => put_any n w' (by omega))
  have hf10 := form_ten n (by omega)
  have K1 := hide_ k1
  have K2 := hide_ k2
  obtain ⟨av, cv, hv, -⟩ := own_open k2 rfl
  subst hv
  have HSS : Hid (∀ w', Below w.heap.size w w' → (fun w' => w'.cell? ⟨gb, 0, none⟩ = some (.slice av l.length cv)) w') := hide_ (fun w' hb => by have := (K1.out.later hb).cell 0; simpa using this)
  clear k1 k2
  go_enter Try.func29, Try.ntmps29
  go_upto_region 0 with fail
  --R0
  refine wp_region_last 5 (fun w' => w'.cell? ⟨gb, 0, none⟩ = some (.slice av l.length cv)) (by kernel_rfl) (HSS.out _ ((Below.refl w.heap.size w).drew)) (fun hHeld => ?_)
  refine wpAnyF_take [5] (by kernel_rfl) (i := 0) (v := ?vf1) rfl (by kernel_rfl) (by kernel_rfl) (by kernel_rfl) (fun _ _ _ h => h) (Or.inl ⟨by kernel_rfl, ?hyf1⟩) hHeld ?restf1
  case hyf1 => intro w' hSw; (try dsimp only at hSw); go_simp; try with_reducible rfl
  simp only [Act.put]
  refine wpAnyF_take [5] (by kernel_rfl) (i := 1) (v := ?vf2) rfl (by kernel_rfl) (by kernel_rfl) (by kernel_rfl) (fun _ _ _ h => h) (Or.inl ⟨by kernel_rfl, ?hyf2⟩) hHeld ?restf2
  case hyf2 => intro w' hSw; (try dsimp only at hSw); go_simp; try with_reducible rfl
  simp only [Act.put]
  refine wpAnyF_take [5] (by kernel_rfl) (i := 2) (v := ?vf3) rfl (by kernel_rfl) (by kernel_rfl) (by kernel_rfl) (fun _ _ _ h => h) (Or.inl ⟨by kernel_rfl, ?hyf3⟩) hHeld ?restf3
  case hyf3 => intro w' hSw; (try dsimp only at hSw); go_simp; try with_reducible rfl
  simp only [Act.put]
  refine wpAnyF_ready (rs := [3]) (by kernel_rfl) (by simp) ?_
  refine AllReadyF.cons rfl (fun K hK => ?_) AllReadyF.nil
  go_simp
  refine (HPut.out _).mono ?_
  rintro e wC ⟨g, rfl, hg, hbk, hbC⟩
  dsimp only
  have HBC := hide_ (below_to ((Below.refl w.heap.size w).drew) hbC)
  have HRow : Hid (Row .u8 wC (some ⟨g, 0, none⟩) (form n)) := hide_ hbk.row
  clear hbC hbk hg
  refine hK.out _ _ (HSS.out _ HBC.out) (fun hHeld => ?_)
  clear hK K
  refine wpAnyF_ready (rs := [4]) (by kernel_rfl) (by simp) ?_
  refine AllReadyF.cons rfl (fun K hK => ?_) AllReadyF.nil
  obtain ⟨v', w2, hr, ⟨a', n', c', hv'⟩, i1, hx, hk⟩ := Bx.app hB K1.out K2.out HBC.out (some ⟨g, 0, none⟩) (form n).length (form n).length rfl HRow.out (fun h => by cases h) (by omega)
  subst hv'
  have HR := hide_ hr
  have HX := hide_ hx
  have HK := hide_ hk
  have I1 := hide_ i1
  clear hr hx hk i1
  refine step_append_run rfl (.tmp 3) (.tmp 6) 23 23 rfl (v := .slice av l.length cv) (u := .slice (some ⟨g, 0, none⟩) (form n).length (form n).length) (by kernel_rfl) (by kernel_rfl) HR.out ?_
  simp only [Act.put]
  refine hK.out _ _ (by have := I1.out.cell 0; simpa using this) (fun hHeld => ?_)
  clear hK K
  refine wpAnyF_ready (rs := [5]) (by kernel_rfl) (by simp) ?_
  refine AllReadyF.last rfl (fun K hK => ?_)
  have c0 := I1.out.cell 0; have z0 := I1.out.frozen 0
  simp at c0
  go_simp
  refine hK.out _ _ ?_
  clear hK K
  refine wpAnyF_done (by kernel_rfl) ?_ _
  clear HSS
  go_wp2
  exact bodyPost_end (results_none rfl _ _ _) rfl ⟨rfl, HX, HK⟩
  --/R0
/-- A number's form. -/
def fm (x : Int) : List Int := form x.toNat
theorem fm_len (x : Int) (h : x ≤ 4611686018427387905) : (fm x).length ≤ 10 := form_ten _ (by omega)
theorem putx (B gb : Nat) (l : List Int) (x : Int) (w : World) (h0 : 0 ≤ x) (hx : x ≤ 4611686018427387905) (hl : l.length ≤ 50000000000000) (H : Hid (Bx w B gb l)) :
    Calls Try.prog 29 #[.int .i64 x, .pointer (some ⟨gb, 0, none⟩)] w fun e w' => e = .returned (.tuple #[]) ∧ Hid (Bx w' B gb (l ++ fm x)) ∧ Hid (Kb B w w') := by
  obtain ⟨n, rfl⟩ := Int.eq_ofNat_of_zero_le h0
  exact put_c B gb l n w (by omega) hl H
/-! ### A stack's bytes -/
def hd6 (f : Fr) : List Int := [f.r, f.a, f.b, f.e + 1, f.n + 1, f.x, (f.T.length : Int)]
def svF (f : Fr) : List Int := (hd6 f).flatMap fm ++ f.T.flatMap fm
def svH (k : Nat) (m h : Int) : List Int := [102] ++ fm m ++ fm k ++ fm h
def sv (fs : List Fr) (m h : Int) : List Int := svH fs.length m h ++ fs.flatMap svF
theorem flat_len (l : List Int) (hl : ∀ x ∈ l, x ≤ 4611686018427387905) : (l.flatMap fm).length ≤ l.length * 10 := by
  induction l with
  | nil => simp
  | cons x l ih =>
    have h1 := fm_len x (hl x (by simp))
    have h2 := ih (fun y hy => hl y (by simp [hy]))
    rw [List.flatMap_cons, List.length_append, List.length_cons]
    omega
theorem hd6_in {f : Fr} (h : frB f = true) : ∀ x ∈ hd6 f, 0 ≤ x ∧ x ≤ 4611686018427387905 := by
  obtain ⟨h1, -, h3⟩ := frB_is h
  obtain ⟨a1, a2, a3, a4, a5, a6⟩ := hdB_is h3
  have b1 := posB_is a1; have b2 := posB_is a2; have b3 := posB_is a3; have b4 := ponB_is a4; have b5 := ponB_is a5; have b6 := posB_is a6
  intro x hx
  simp only [hd6, List.mem_cons, List.not_mem_nil, or_false] at hx
  rcases hx with rfl | rfl | rfl | rfl | rfl | rfl | rfl <;> omega
theorem tab_in {f : Fr} (h : frB f = true) : ∀ x ∈ f.T, 0 ≤ x ∧ x ≤ 4611686018427387905 := fun x hx => by
  have := posB_is ((frB_is h).2.1 x hx)
  omega
theorem svF_len {f : Fr} (h : frB f = true) : (svF f).length ≤ 10485830 := by
  have h1 := flat_len (hd6 f) (fun x hx => (hd6_in h x hx).2)
  have h2 := flat_len f.T (fun x hx => (tab_in h x hx).2)
  have h3 := (frB_is h).1
  have h4 : (hd6 f).length = 7 := rfl
  unfold svF
  rw [List.length_append]
  omega
theorem svs_len (fs : List Fr) (h : ∀ f ∈ fs, frB f = true) : (fs.flatMap svF).length ≤ fs.length * 10485830 := by
  induction fs with
  | nil => simp
  | cons f fs ih =>
    have h1 := svF_len (h f (by simp))
    have h2 := ih (fun g hg => h g (by simp [hg]))
    rw [List.flatMap_cons, List.length_append, List.length_cons]
    omega
theorem svH_len (k : Nat) (m h : Int) (hk : k ≤ 1048576) (hm : m ≤ 1048576) (hh : h ≤ 1048576) : (svH k m h).length ≤ 31 := by
  have h1 := fm_len m (by omega)
  have h2 := fm_len (k : Int) (by omega)
  have h3 := fm_len h (by omega)
  simp only [svH, List.length_append, List.length_singleton]
  omega
end Go.Proofs.Ytcmkdkocponpiaa

/- Frames: Save. -/
namespace Go.Proofs.Ytcmkdkocponpiaa
open Go.RowKit
set_option linter.unusedVariables false

theorem upd_of_below {B : Nat} {w w' : World} (h : Below B w w') : Upd (fun k => B ≤ k) w w' := ⟨h.os, h.tape, h.output, h.size, fun k hk hn => h.block k (by omega)⟩
/-- Bytes of the call's own. -/
def BOwn (w : World) (B : Nat) (v : Value) (l : List Int) : Prop := w.ownsRow B 5 1 v l.length (cellsL .u8 l)
theorem BOwn.later {w w' : World} {B : Nat} {v : Value} {l : List Int} (h : BOwn w B v l) (hB : Below w.heap.size w w') : BOwn w' B v l := ownS_upd h (Upd.of_below (S := fun _ => False) hB) (fun _ _ h => h)
theorem BOwn.row {w : World} {B : Nat} {v : Value} {l : List Int} (h : BOwn w B v l) : ∃ a c, v = .slice a l.length c ∧ Row .u8 w a l ∧ (a = none → c = 0) ∧ l.length ≤ c ∧ c ≤ maxLen := by
  obtain ⟨a, c, h1, h2, h3, h4, h5, -⟩ := own_open h rfl
  exact ⟨a, c, h1, h2, h3, h4, h5⟩
theorem hd6_at (f : Fr) (i : Nat) (h : i < 7) : ∃ x, (hd6 f)[i]? = some x := ⟨(hd6 f)[i]'h, List.getElem?_eq_getElem h⟩
theorem take_one {l : List Int} {i : Nat} {x : Int} (h : l[i]? = some x) : (l.take (i + 1)).flatMap fm = (l.take i).flatMap fm ++ fm x := by
  obtain ⟨hi, rfl⟩ := List.getElem?_eq_some_iff.1 h
  rw [List.take_succ_eq_append_getElem hi, List.flatMap_append]
  simp
theorem take_frs {P : List (Fr × Value)} {i : Nat} {p : Fr × Value} (h : P[i]? = some p) : ((P.take (i + 1)).map (·.1)).flatMap svF = ((P.take i).map (·.1)).flatMap svF ++ svF p.1 := by
  obtain ⟨hi, rfl⟩ := List.getElem?_eq_some_iff.1 h
  rw [List.take_succ_eq_append_getElem hi, List.map_append, List.flatMap_append]
  simp
theorem flat_take_le (l : List Int) (hl : ∀ x ∈ l, x ≤ 4611686018427387905) (i : Nat) : ((l.take i).flatMap fm).length ≤ l.length * 10 := by
  have h1 := flat_len (l.take i) (fun x hx => hl x (List.mem_of_mem_take hx))
  have h2 : (l.take i).length ≤ l.length := by simp; omega
  omega
theorem idx7 (f : Fr) (j : Nat) (x : Int) (hx : (hd6 f)[j]? = some x) (w : World) :
    (Instr.index 72 (.agg #[.int .i64 f.r, .int .i64 f.a, .int .i64 f.b, .int .i64 (f.e + 1), .int .i64 (f.n + 1), .int .i64 f.x, .int .i64 (f.T.length : Int)]) (.int .i64 (j : Int))).run Try.prog w = .ok (.int .i64 x) w := by
  have hj := (List.getElem?_eq_some_iff.1 hx).1
  have hj7 : j < 7 := hj
  rcases (show j = 0 ∨ j = 1 ∨ j = 2 ∨ j = 3 ∨ j = 4 ∨ j = 5 ∨ j = 6 by omega) with rfl | rfl | rfl | rfl | rfl | rfl | rfl
  all_goals
    simp [hd6] at hx
    subst hx
    show _ = _
    kernel_rfl
/-- What Save answers. -/
def SaveTo (w : World) (fs : List Fr) (m h : Int) (e : Ending) (w' : World) : Prop :=
  ∃ v, e = .returned v ∧ BOwn w' w.heap.size v (sv fs m h) ∧ Below w.heap.size w w'
set_option maxRecDepth 100000 in
set_option maxHeartbeats 16000000 in
theorem save_any (w : World) (B : Nat) (F : Nat → Prop) (g : Nat) (fs : List Fr) (m h : Int) (hS : Hid (Stk w B F g fs m h)) :
    Calls Try.prog 8 #[.pointer (some ⟨g, 0, none⟩)] w fun e w' => SaveTo w fs m h e w' := by
  have hmf : ∀ (fn : Fn) (first cap : Array Value) (w : World), (Instr.makeFunc fn first cap).run Try.prog w = .ok (.func fn first cap) w := fun _ _ _ _ => rfl
  obtain ⟨v, P, hM, hP, hF, hFl⟩ := hS.out
  obtain ⟨av, cv, rfl, hcv, -, hG⟩ := hM.own.slice
  have HGW : Hid (∀ k, skB g (.slice av P.length cv) P k → k < w.heap.size) := hide_ (fun k hk => (hFl k (hF k hk)).2)
  have HM := hide_ hM
  have HPm := hide_ hP
  have HPl : Hid (P.length = fs.length) := hide_ (by rw [← hP]; simp)
  have hrt : ∀ f ∈ fs, frB f = true := fun f hf => by
    rw [← hP] at hf
    obtain ⟨p, hp, rfl⟩ := List.mem_map.1 hf
    exact hM.rt p hp
  have HRt := hide_ hrt
  have hm0 := hM.hm
  have hl0 := hM.hl
  have hh0 := hM.hh
  obtain ⟨w1, hw1⟩ : ∃ wx, wx = (w.alloc (.cells #[.int .u8 102] 5)).alloc (.cells #[.slice (some ⟨w.heap.size, 0, none⟩) 1 1] 23) := ⟨_, rfl⟩
  have hB1 : Below w.heap.size w w1 := by rw [hw1]; exact below2 _ _ _
  have hbx : Bx w1 w.heap.size (w.heap.size + 1) [102] := by
    obtain ⟨k1, k2⟩ := blk2 w #[.int .u8 102] #[.slice (some ⟨w.heap.size, 0, none⟩) 1 1] 5 23
    rw [hw1]
    refine ⟨by omega, _, k2, ?_⟩
    have := Blk.owns k1 w.heap.size 1 1 (Nat.le_refl _) rfl (Nat.le_refl _) (by unfold maxLen; omega)
    exact this
  have HBx := hide_ hbx
  have HB1 := hide_ hB1
  have hgw : g < w.heap.size := HGW.out g (.inl rfl)
  -- the stack stays
  have HSt : Hid (∀ w', Below w.heap.size w w' → StM w' B g (.slice av P.length cv) P m h) := hide_ (fun w' hb => HM.out.upd (upd_of_below hb) (fun k hk => by have := HGW.out k hk; omega))
  have HPut : Hid (∀ (l : List Int) (x : Int) (w' : World), 0 ≤ x → x ≤ 4611686018427387905 → l.length ≤ 50000000000000 → Hid (Bx w' w.heap.size (w.heap.size + 1) l) → Calls Try.prog 29 #[.int .i64 x, .pointer (some ⟨w.heap.size + 1, 0, none⟩)] w' fun e w'' => e = .returned (.tuple #[]) ∧ Hid (Bx w'' w.heap.size (w.heap.size + 1) (l ++ fm x)) ∧ Hid (Kb w.heap.size w' w'')) :=
    hide_ (fun l x w' h0 hx hl H => putx w.heap.size (w.heap.size + 1) l x w' h0 hx hl H)
  have HC : Hid (∀ w', Below w.heap.size w w' → w'.cell? ⟨g, 0, none⟩ = some (.slice av P.length cv) ∧ w'.cell? ⟨g, 1, none⟩ = some (.int .i64 m) ∧ w'.cell? ⟨g, 2, none⟩ = some (.int .i64 h)) := hide_ (fun w' hb => ⟨(HSt.out w' hb).box.cell 0, (HSt.out w' hb).box.cell 1, (HSt.out w' hb).box.cell 2⟩)
  obtain ⟨c0, c1, c2⟩ := HC.out w1 hB1
  have HHd : Hid ((svH P.length m h).length ≤ 31) := hide_ (svH_len _ _ _ (by omega) (by omega) (by omega))
  have HL1 : Hid (([102] ++ fm m).length ≤ 11) := hide_ (by have := fm_len m (by omega); simp; omega)
  have HL2 : Hid (([102] ++ fm m ++ fm (P.length : Int)).length ≤ 21) := hide_ (by have := HL1.out; have := fm_len (P.length : Int) (by omega); rw [List.length_append]; omega)
  clear hS hM hF hFl hP hG hB1 hbx hrt
  go_enter Try.func8, Try.ntmps8
  go_upto_region 2 with fail
  rw [← hw1]
  clear hw1
  go_wp2_with fail
  refine (HPut.out [102] m w1 (by omega) (by omega) (by decide) HBx).mono ?_
  rintro e w2 ⟨rfl, HX2, HK2⟩
  have HB2 := hide_ (HB1.out.trans HK2.out.1)
  clear c0 c1 c2
  obtain ⟨c0, c1, c2⟩ := HC.out w2 HB2.out
  go_wp2_with fail
  refine (HPut.out _ (P.length : Int) w2 (by omega) (by omega) (by have := HL1.out; omega) HX2).mono ?_
  rintro e w3 ⟨rfl, HX3, HK3⟩
  have HB3 := hide_ (HB2.out.trans HK3.out.1)
  clear c0 c1 c2
  obtain ⟨c0, c1, c2⟩ := HC.out w3 HB3.out
  go_wp2_with fail
  refine (HPut.out _ h w3 (by omega) (by omega) (by have := HL2.out; omega) HX3).mono ?_
  rintro e w4 ⟨rfl, HX4, HK4⟩
  have HB4 := hide_ (HB3.out.trans HK4.out.1)
  clear c0 c1 c2
  obtain ⟨c0, c1, c2⟩ := HC.out w4 HB4.out
  go_wp2_with fail
  have HX5 : Hid (Bx w4 w.heap.size (w.heap.size + 1) (svH P.length m h)) := HX4
  have hpl' : Hid (P.length ≤ 1048576) := hide_ (by omega)
  have HRp : Hid (∀ p ∈ P, frB p.1 = true) := hide_ HM.out.rt
  clear HX2 HX3 HX4 HK2 HK3 HK4 HL1 HL2 c0 c1 c2 HBx HB1 HB2 HB3
  go_loopw [37] (fun x37 wr => ∃ i : Nat, i ≤ P.length ∧ x37 = .int .i64 (i : Int) ∧ Hid (Bx wr w.heap.size (w.heap.size + 1) (svH P.length m h ++ ((P.take i).map (·.1)).flatMap svF)) ∧ Hid (Below w.heap.size w wr)) (fun x37 _ => P.length - (intOf x37).toNat)
  case atStart => exact ⟨0, Nat.zero_le _, rfl, by simpa using HX5, HB4⟩
  case round =>
    obtain ⟨i, hi, rfl, HX, HB⟩ := hrel
    generalize wr = wq at *
    clear HX5 HB4
    by_cases hlt : i < P.length
    · have hlt' : (i : Int) < P.length := by omega
      have hx : P[i]? = some (P[i]'hlt) := List.getElem?_eq_getElem hlt
      obtain ⟨p, hp⟩ : ∃ p, P[i]'hlt = p := ⟨_, rfl⟩
      rw [hp] at hx
      obtain ⟨f, pv⟩ := p
      have hmem : (f, pv) ∈ P := List.mem_of_getElem? hx
      have hMq := HSt.out wq HB.out
      obtain ⟨at_, ct, hpv, hfa⟩ := (hMq.own.tb (f, pv) hmem).fra
      have hpv' : pv = .slice at_ f.T.length ct := hpv
      subst hpv'
      have HFr : Hid (frB f = true) := hide_ (hMq.rt _ hmem)
      obtain ⟨av', cv', he, -, -, hG⟩ := hMq.own.slice
      injection he with he1 he2 he3
      subst he1
      obtain ⟨b, o, rfl, hbl, hc⟩ := hG.open (by omega)
      have hcx := hc i _ hx
      have i0 := hcx 0 (by decide); have i1 := hcx 1 (by decide); have i2 := hcx 2 (by decide); have i3 := hcx 3 (by decide); have i4 := hcx 4 (by decide); have i5 := hcx 5 (by decide); have i6 := hcx 6 (by decide)
      simp [frc] at i0 i1 i2 i3 i4 i5 i6
      have HNx : Hid (svH P.length m h ++ ((P.take (i + 1)).map (·.1)).flatMap svF = (svH P.length m h ++ ((P.take i).map (·.1)).flatMap svF) ++ ((hd6 f).flatMap fm ++ f.T.flatMap fm)) := hide_ (by rw [take_frs hx, List.append_assoc]; rfl)
      have HMem := hide_ hmem
      have HLq : Hid ((svH P.length m h ++ ((P.take i).map (·.1)).flatMap svF).length ≤ 31 + 1048576 * 10485830) := hide_ (by
        have h1 := svs_len ((P.take i).map (·.1)) (fun y hy => by
          obtain ⟨q, hq, rfl⟩ := List.mem_map.1 hy
          exact HRp.out q (List.mem_of_mem_take hq))
        have h2 : ((P.take i).map (·.1)).length ≤ 1048576 := by have := hpl'.out; simp; omega
        have h3 := Nat.mul_le_mul_right 10485830 h2
        have h4 := HHd.out
        rw [List.length_append]
        omega)
      obtain ⟨L, hL⟩ : ∃ L, svH P.length m h ++ ((P.take i).map (·.1)).flatMap svF = L := ⟨_, rfl⟩
      rw [hL] at HX HNx HLq
      obtain ⟨we, hwe⟩ : ∃ wx, wx = wq.alloc (.cells #[.int .i64 f.r, .int .i64 f.a, .int .i64 f.b, .int .i64 f.e, .int .i64 f.n, .int .i64 f.x, .slice at_ f.T.length ct] 39) := ⟨_, rfl⟩
      have hBe : Below wq.heap.size wq we := by rw [hwe]; exact below1 _ _
      have ke : Blk we wq.heap.size 39 (frc (f, .slice at_ f.T.length ct)) := by rw [hwe]; exact Blk.newA wq _ _
      have HKe := hide_ ke
      have HXe := hide_ (HX.out.later hBe)
      have HBe := hide_ (below_to HB.out hBe)
      have HFa := hide_ hfa
      have e0 := ke.cell 0; have e1 := ke.cell 1; have e2 := ke.cell 2; have e3 := ke.cell 3; have e4 := ke.cell 4; have e5 := ke.cell 5; have e6 := ke.cell 6
      simp [frc] at e0 e1 e2 e3 e4 e5 e6
      have hr6 := hdB_is (frB_is HFr.out).2.2
      have be := ponB_is hr6.2.2.2.1
      have bn := ponB_is hr6.2.2.2.2.1
      have we1 := i64w (f.e + 1) (by omega)
      have we2 := i64w (f.n + 1) (by omega)
      clear hL hp hx hmem hMq hpv hfa hG hc hcx hbl hBe ke hr6 he3
      go_upto_region 9 with fail
      rw [← hwe]
      clear hwe i0 i1 i2 i3 i4 i5 i6
      go_wp2_with fail
      go_loopw [59] (fun x59 wr => ∃ j : Nat, j ≤ 7 ∧ x59 = .int .i64 (j : Int) ∧ Hid (Bx wr w.heap.size (w.heap.size + 1) (L ++ ((hd6 f).take j).flatMap fm)) ∧ Hid (Kb w.heap.size we wr)) (fun x59 _ => 7 - (intOf x59).toNat)
      case atStart => exact ⟨0, by decide, rfl, by simpa using HXe, hide_ (Kb.refl _ _)⟩
      case round =>
        obtain ⟨j, hj, rfl, HXj, HKj⟩ := hrel
        generalize wr = wj at *
        by_cases hjl : j < 7
        · have hjl' : (j : Int) < 7 := by omega
          obtain ⟨x, hx⟩ := hd6_at f j hjl
          have hxin := hd6_in HFr.out x (List.mem_of_getElem? hx)
          have HXx := hide_ hx
          have hidx := idx7 f j x hx wj
          have HLj : Hid ((L ++ ((hd6 f).take j).flatMap fm).length ≤ 50000000000000) := hide_ (by
            have h1 := flat_take_le (hd6 f) (fun y hy => (hd6_in HFr.out y hy).2) j
            have h2 : (hd6 f).length = 7 := rfl
            have h3 := HLq.out
            rw [List.length_append]
            omega)
          have HTo : Hid (L ++ ((hd6 f).take (j + 1)).flatMap fm = (L ++ ((hd6 f).take j).flatMap fm) ++ fm x) := hide_ (by rw [take_one hx, List.append_assoc])
          clear hx
          go_wp2_with fail
          refine (HPut.out _ x wj hxin.1 hxin.2 HLj.out HXj).mono ?_
          rintro e wk ⟨rfl, HXk, HKk⟩
          go_wp2_with fail
          go_roundw
          case rel => exact ⟨j + 1, by omega, by go_num, hide_ (by rw [HTo.out]; exact HXk.out), hide_ (HKj.out.trans HKk.out)⟩
          case measure => simp [intOf]; omega
        · have hjl' : ¬ ((j : Int) < 7) := by omega
          have HJ7 : Hid (j = 7) := hide_ (by omega)
          clear hjl hj
          have hk7 := HKj.out.2 _ _ _ (by decide) (by decide) HKe.out
          have HK7 := hide_ hk7
          have e6' := hk7.cell 6
          simp [frc] at e6'
          have HX7 : Hid (Bx wj w.heap.size (w.heap.size + 1) (L ++ (hd6 f).flatMap fm)) := by rw [HJ7.out] at HXj; exact HXj
          have HB7 := hide_ (HBe.out.trans HKj.out.1)
          clear hk7 e0 e1 e2 e3 e4 e5 e6 HXj
          have hml := HFa.out.2.2
          unfold maxLen at hml
          have HRw : Hid (∀ w', Below w.heap.size w w' → Row .i64 w' at_ f.T) := hide_ (fun w' hb => by
            obtain ⟨a9, c9, h9, r9, -⟩ := ((HSt.out w' hb).own.tb (f, .slice at_ f.T.length ct) HMem.out).row
            injection h9 with h9 _ _
            rw [h9]
            exact r9)
          go_wp2_with fail
          go_loopw [69] (fun x69 wr => ∃ j : Nat, j ≤ f.T.length ∧ x69 = .int .i64 (j : Int) ∧ Hid (Bx wr w.heap.size (w.heap.size + 1) ((L ++ (hd6 f).flatMap fm) ++ (f.T.take j).flatMap fm)) ∧ Hid (Below w.heap.size w wr)) (fun x69 _ => f.T.length - (intOf x69).toNat)
          case atStart => exact ⟨0, Nat.zero_le _, rfl, by simpa using HX7, HB7⟩
          case round =>
            obtain ⟨k, hk, rfl, HXk, HBk⟩ := hrel
            generalize wr = wk at *
            by_cases hkl : k < f.T.length
            · have hkl' : (k : Int) < f.T.length := by omega
              obtain ⟨x, hx⟩ : ∃ x, f.T[k]? = some x := ⟨_, List.getElem?_eq_getElem hkl⟩
              have hxin := tab_in HFr.out x (List.mem_of_getElem? hx)
              obtain ⟨bt, ot, rfl, hbt, hct⟩ := Row.open (HRw.out wk HBk.out) (show 0 < f.T.length by omega)
              have hcell := hct k hkl
              have hxd : f.T.getD k 0 = x := by simp [List.getD, hx]
              rw [hxd] at hcell
              have HLk : Hid (((L ++ (hd6 f).flatMap fm) ++ (f.T.take k).flatMap fm).length ≤ 50000000000000) := hide_ (by
                have h1 := flat_take_le f.T (fun y hy => (tab_in HFr.out y hy).2) k
                have h2 := flat_len (hd6 f) (fun y hy => (hd6_in HFr.out y hy).2)
                have h2' : (hd6 f).length = 7 := rfl
                have h3 := HLq.out
                have h4 := (frB_is HFr.out).1
                rw [List.length_append, List.length_append]
                omega)
              have HTo : Hid ((L ++ (hd6 f).flatMap fm) ++ (f.T.take (k + 1)).flatMap fm = ((L ++ (hd6 f).flatMap fm) ++ (f.T.take k).flatMap fm) ++ fm x) := hide_ (by rw [take_one hx]; simp only [List.append_assoc])
              clear hx hct hbt hxd
              go_wp2_with fail
              refine (HPut.out _ x wk hxin.1 hxin.2 HLk.out HXk).mono ?_
              rintro e wl ⟨rfl, HXl, HKl⟩
              go_wp2_with fail
              go_roundw
              case rel => exact ⟨k + 1, by omega, by go_num, hide_ (by rw [HTo.out]; exact HXl.out), hide_ (HBk.out.trans HKl.out.1)⟩
              case measure => simp [intOf]; omega
            · obtain rfl : k = f.T.length := by omega
              go_wp2_with fail
              go_roundw
              case rel => exact ⟨i + 1, by omega, by go_num, hide_ (by
                have h := HXk.out
                rw [List.take_length] at h
                rw [HNx.out, ← List.append_assoc]
                exact h), HBk⟩
              case measure => simp [intOf]; omega
    · obtain rfl : i = P.length := by omega
      have HE : Hid (svH P.length m h ++ ((P.take P.length).map (·.1)).flatMap svF = sv fs m h) := hide_ (by rw [List.take_length, HPm.out, HPl.out]; rfl)
      rw [HE.out] at HX
      obtain ⟨L, hL⟩ : ∃ L, sv fs m h = L := ⟨_, rfl⟩
      rw [hL] at HX
      have HL := hide_ hL
      clear hL HE
      obtain ⟨hgl, vx, kx, ox⟩ := HX.out
      obtain ⟨a', c', hv', -⟩ := own_open ox rfl
      subst hv'
      have q0 := kx.cell 0
      simp at q0
      have HO := hide_ ox
      clear kx ox
      go_wp2_with fail
      go_ret
      exact ⟨_, rfl, by rw [HL.out]; exact HO.out, HB.out⟩
end Go.Proofs.Ytcmkdkocponpiaa

/- Frames, plain: what Load reads; there and back; cut. -/
namespace Go.Proofs.Ytcmkdkocponpiaa
open Go.RowKit
set_option linter.unusedVariables false

/-- What Get finds at place k of a number. -/
def getA : Nat → List Int → Int × Nat × Int
  | k, [] => (0, 0, 20)
  | k, c :: l => if flt k c then (0, 0, 21) else if c < 128 then (c % 128, 1, 0) else
    let r := getA (k + 1) l
    if r.2.2 = 0 then (c % 128 + 128 * r.1, r.2.1 + 1, 0) else (0, r.2.1 + 1, r.2.2)
def getF (l : List Int) : Int × Nat × Int := getA 0 l
theorem getA_spec : ∀ (l : List Int) (k : Nat), k ≤ 9 →
    ((k + l.length ≤ 9 ∧ (∀ j, j < l.length → 128 ≤ l.getD j 0) ∧ getA k l = (0, l.length, 20)) ∨
    (∃ j, j < l.length ∧ k + j ≤ 9 ∧ (∀ i, i < j → 128 ≤ l.getD i 0) ∧ flt (k + j) (l.getD j 0) = true ∧ getA k l = (0, j, 21)) ∨
    (∃ j, j < l.length ∧ k + j ≤ 9 ∧ (∀ i, i < j → 128 ≤ l.getD i 0) ∧ flt (k + j) (l.getD j 0) = false ∧ l.getD j 0 < 128 ∧ getA k l = (val (l.take (j + 1)), j + 1, 0)))
  | [], k, hk => .inl ⟨by simpa using hk, fun j hj => by simp at hj, rfl⟩
  | c :: l, k, hk => by
    by_cases hf : flt k c = true
    · refine .inr (.inl ⟨0, by simp, by omega, fun i hi => by omega, by simpa using hf, ?_⟩)
      rw [getA, if_pos hf]
    · have hf0 : flt k c = false := by simpa using hf
      by_cases h128 : c < 128
      · refine .inr (.inr ⟨0, by simp, by omega, fun i hi => by omega, by simpa using hf0, by simpa using h128, ?_⟩)
        rw [getA, if_neg hf, if_pos h128]
        simp [val]
      · have hk9 : k ≠ 9 := fun e => by subst e; rw [flt_no] at hf0; omega
        have ih := getA_spec l (k + 1) (by omega)
        rw [getA, if_neg hf, if_neg h128]
        rcases ih with ⟨a, b, e⟩ | ⟨j, a, b, d, f, e⟩ | ⟨j, a, b, d, f, g, e⟩
        · left
          rw [e]
          refine ⟨by simp; omega, fun j hj => ?_, by simp⟩
          cases j with
          | zero => simp; omega
          | succ j => simpa using b j (by simpa using hj)
        · right; left
          rw [e]
          refine ⟨j + 1, by simp; omega, by omega, fun i hi => ?_, by rw [show k + (j + 1) = k + 1 + j by omega]; simpa using f, by simp⟩
          cases i with
          | zero => simp; omega
          | succ i => simpa using d i (by omega)
        · right; right
          rw [e]
          refine ⟨j + 1, by simp; omega, by omega, fun i hi => ?_, by rw [show k + (j + 1) = k + 1 + j by omega]; simpa using f, by simpa using g, by simp [val]⟩
          cases i with
          | zero => simp; omega
          | succ i => simpa using d i (by omega)
theorem getF_R (l : List Int) : GetR l (getF l).1 (getF l).2.1 (getF l).2.2 := by
  rcases getA_spec l 0 (by omega) with ⟨a, b, e⟩ | ⟨j, a, b, d, f, e⟩ | ⟨j, a, b, d, f, g, e⟩
  · unfold getF; rw [e]; exact .inl ⟨⟨by omega, by omega, b⟩, rfl, rfl, rfl⟩
  · unfold getF; rw [e]; rw [Nat.zero_add] at f; exact .inr (.inl ⟨j, a, ⟨by omega, by omega, d⟩, f, rfl, rfl, rfl⟩)
  · unfold getF; rw [e]; rw [Nat.zero_add] at f; exact .inr (.inr ⟨j, a, ⟨by omega, by omega, d⟩, f, g, rfl, rfl, rfl⟩)
theorem GetR.getF {l : List Int} {n e : Int} {u : Nat} (h : GetR l n u e) : getF l = (n, u, e) := by
  obtain ⟨h1, h2, h3⟩ := (getF_R l).det h
  exact Prod.ext h1 (Prod.ext h2 h3)
/-! ### What Load reads -/
def bnd {α β : Type} (x : Except (Int × Int) α) (f : α → Except (Int × Int) β) : Except (Int × Int) β := match x with
  | .error e => .error e
  | .ok a => f a
theorem bnd_ok {α β : Type} (a : α) (f : α → Except (Int × Int) β) : bnd (.ok a) f = f a := rfl
theorem bnd_err {α β : Type} (e : Int × Int) (f : α → Except (Int × Int) β) : bnd (.error e) f = .error e := rfl
theorem bnd_is {α β : Type} {x : Except (Int × Int) α} {f : α → Except (Int × Int) β} {b : β} (h : bnd x f = .ok b) : ∃ a, x = .ok a ∧ f a = .ok b := by
  cases x with
  | error e => cases h
  | ok a => exact ⟨a, rfl, h⟩
theorem bnd_er {α β : Type} {x : Except (Int × Int) α} {f : α → Except (Int × Int) β} {e : Int × Int} (h : bnd x f = .error e) : x = .error e ∨ ∃ a, x = .ok a ∧ f a = .error e := by
  cases x with
  | error e' => left; rw [bnd_err] at h; injection h with h; rw [h]
  | ok a => exact .inr ⟨a, rfl, h⟩
def numP (b : List Int) (lo hi : Int) (p : Nat) : Except (Int × Int) (Int × Nat) :=
  if (getF (b.drop p)).2.2 = 0 then
    if lo ≤ (getF (b.drop p)).1 ∧ (getF (b.drop p)).1 ≤ hi then .ok ((getF (b.drop p)).1, p + (getF (b.drop p)).2.1) else .error (221, p)
  else .error ((getF (b.drop p)).2.2, ((p + (getF (b.drop p)).2.1 : Nat) : Int))
def posP (b : List Int) (p : Nat) : Except (Int × Int) (Int × Nat) := numP b 0 4611686018427387904 p
def ponP (b : List Int) (p : Nat) : Except (Int × Int) (Int × Nat) := bnd (numP b 0 4611686018427387905 p) fun x => .ok (x.1 - 1, x.2)
def tabP (b : List Int) : Nat → Nat → Except (Int × Int) (List Int × Nat)
  | 0, p => .ok ([], p)
  | k + 1, p => bnd (posP b p) fun x => bnd (tabP b k x.2) fun y => .ok (x.1 :: y.1, y.2)
def frP (b : List Int) (p : Nat) : Except (Int × Int) (Fr × Nat) :=
  bnd (posP b p) fun r => bnd (posP b r.2) fun a => bnd (posP b a.2) fun s => bnd (ponP b s.2) fun e => bnd (ponP b e.2) fun n => bnd (posP b n.2) fun x =>
    bnd (numP b 0 1048576 x.2) fun k => bnd (tabP b k.1.toNat k.2) fun t => .ok (⟨r.1, a.1, s.1, e.1, n.1, x.1, t.1⟩, t.2)
def frsP (b : List Int) : Nat → Nat → Except (Int × Int) (List Fr × Nat)
  | 0, p => .ok ([], p)
  | k + 1, p => bnd (frP b p) fun x => bnd (frsP b k x.2) fun y => .ok (x.1 :: y.1, y.2)
def ldP (b : List Int) : Except (Int × Int) (List Fr × Int × Int) :=
  if b = [] then .error (20, 0) else if b.getD 0 0 ≠ 102 then .error (221, 0) else
    bnd (numP b 1 1048576 1) fun m => bnd (numP b 0 m.1 m.2) fun k => bnd (numP b k.1 m.1 k.2) fun h => bnd (frsP b k.1.toNat h.2) fun f =>
      if f.2 < b.length then .error (124, (f.2 : Int)) else .ok (f.1, m.1, h.1)
/-! ### Cut anywhere -/
def CutR {α : Type} (x : Except (Int × Int) (α × Nat)) (a : α) (q k : Nat) : Prop := (x = .ok (a, q) ∧ q ≤ k) ∨ (x = .error (20, (k : Int)) ∧ k < q)
theorem CutR.bnd {α β : Type} {x : Except (Int × Int) (α × Nat)} {a : α} {q k : Nat} (h : CutR x a q k) {f : α × Nat → Except (Int × Int) (β × Nat)} {c : β} {s : Nat} (hf : q ≤ k → CutR (f (a, q)) c s k) (hs : q ≤ s) : CutR (bnd x f) c s k := by
  rcases h with ⟨rfl, h⟩ | ⟨rfl, h⟩
  · exact hf h
  · exact .inr ⟨rfl, by omega⟩
theorem drop_len {W r l : List Int} {p : Nat} (h : W.drop p = l ++ r) : W.drop (p + l.length) = r := by
  rw [← List.drop_drop, h, List.drop_left]
theorem numC {W r : List Int} {p k : Nat} {x lo hi : Int} (h : W.drop p = fm x ++ r) (hp : p ≤ k) (h0 : 0 ≤ x) (hx : x ≤ 4611686018427387905) (hl : lo ≤ x) (hh : x ≤ hi) : CutR (numP (W.take k) lo hi p) x (p + (fm x).length) k := by
  have e1 : (W.take k).drop p = (fm x ++ r).take (k - p) := by rw [List.drop_take, h]
  have hn : x.toNat < 18446744073709551616 := by omega
  have hc : ((x.toNat : Nat) : Int) = x := Int.toNat_of_nonneg h0
  by_cases hk : p + (fm x).length ≤ k
  · left
    have e2 : (W.take k).drop p = form x.toNat ++ r.take (k - p - (fm x).length) := by
      rw [e1, List.take_append, List.take_of_length_le (by omega)]; rfl
    have hg := (get_form x.toNat hn (r.take (k - p - (fm x).length))).getF
    unfold numP
    rw [e2, hg]
    refine ⟨?_, hk⟩
    rw [if_pos rfl, hc, if_pos ⟨hl, hh⟩]
    rfl
  · right
    have hi' : k - p < (form x.toNat).length := by have : (fm x).length = (form x.toNat).length := rfl; omega
    have e2 : (W.take k).drop p = (form x.toNat).take (k - p) := by
      rw [e1, List.take_append, show k - p - (fm x).length = 0 by omega, List.take_zero, List.append_nil]; rfl
    have hg := (get_cut x.toNat hn (k - p) hi').getF
    unfold numP
    rw [e2, hg]
    refine ⟨?_, by omega⟩
    rw [if_neg (show ¬ (20 : Int) = 0 by decide), show p + (k - p) = k by omega]
theorem posC {W r : List Int} {p k : Nat} {x : Int} (h : W.drop p = fm x ++ r) (hp : p ≤ k) (hx : posB x = true) : CutR (posP (W.take k) p) x (p + (fm x).length) k := by
  have := posB_is hx
  exact numC h hp (by omega) (by omega) (by omega) (by omega)
theorem ponC {W r : List Int} {p k : Nat} {x : Int} (h : W.drop p = fm (x + 1) ++ r) (hp : p ≤ k) (hx : ponB x = true) : CutR (ponP (W.take k) p) x (p + (fm (x + 1)).length) k := by
  have := ponB_is hx
  refine (numC h hp (by omega) (by omega) (by omega) (by omega)).bnd (fun hq => ?_) (Nat.le_refl _)
  refine .inl ⟨?_, hq⟩
  show Except.ok (x + 1 - 1, _) = _
  rw [Int.add_sub_cancel]
theorem tabC {W : List Int} {k : Nat} : ∀ (T : List Int) (r : List Int) (p : Nat), W.drop p = T.flatMap fm ++ r → p ≤ k → (∀ y ∈ T, posB y = true) → CutR (tabP (W.take k) T.length p) T (p + (T.flatMap fm).length) k
  | [], r, p, h, hp, hT => .inl ⟨rfl, by simpa using hp⟩
  | y :: T, r, p, h, hp, hT => by
    rw [List.flatMap_cons, List.append_assoc] at h
    have h2 := drop_len h
    refine (posC h hp (hT y (by simp))).bnd (fun hq => ?_) (by rw [List.flatMap_cons, List.length_append]; omega)
    have ih := tabC T r _ h2 hq (fun z hz => hT z (by simp [hz]))
    rw [List.flatMap_cons, List.length_append, ← Nat.add_assoc]
    exact ih.bnd (fun hs => .inl ⟨rfl, hs⟩) (Nat.le_refl _)
theorem svF_is (f : Fr) (r : List Int) : svF f ++ r = fm f.r ++ (fm f.a ++ (fm f.b ++ (fm (f.e + 1) ++ (fm (f.n + 1) ++ (fm f.x ++ (fm (f.T.length : Int) ++ (f.T.flatMap fm ++ r))))))) := by
  simp [svF, hd6]
theorem frC {W r : List Int} {p k : Nat} {f : Fr} (h : W.drop p = svF f ++ r) (hp : p ≤ k) (hf : frB f = true) : CutR (frP (W.take k) p) f (p + (svF f).length) k := by
  obtain ⟨hl, hT, hh⟩ := frB_is hf
  obtain ⟨a1, a2, a3, a4, a5, a6⟩ := hdB_is hh
  have hlen : (svF f).length = (fm f.r).length + ((fm f.a).length + ((fm f.b).length + ((fm (f.e + 1)).length + ((fm (f.n + 1)).length + ((fm f.x).length + ((fm (f.T.length : Int)).length + (f.T.flatMap fm).length)))))) := by
    have := congrArg List.length (svF_is f [])
    simpa using this
  rw [svF_is] at h
  have h1 := drop_len h
  have h2 := drop_len h1
  have h3 := drop_len h2
  have h4 := drop_len h3
  have h5 := drop_len h4
  have h6 := drop_len h5
  have h7 := drop_len h6
  rw [hlen]
  refine (posC h hp a1).bnd (fun q1 => ?_) (by omega)
  refine (posC h1 q1 a2).bnd (fun q2 => ?_) (by omega)
  refine (posC h2 q2 a3).bnd (fun q3 => ?_) (by omega)
  refine (ponC h3 q3 a4).bnd (fun q4 => ?_) (by omega)
  refine (ponC h4 q4 a5).bnd (fun q5 => ?_) (by omega)
  refine (posC h5 q5 a6).bnd (fun q6 => ?_) (by omega)
  refine (numC h6 q6 (by omega) (by omega) (by omega) (by omega)).bnd (fun q7 => ?_) (by omega)
  have ht := tabC f.T r _ h7 q7 hT
  dsimp only
  rw [Int.toNat_natCast]
  refine ht.bnd (fun q8 => ?_) (by omega)
  exact .inl ⟨by rw [show ∀ a b c d e f' g' h' i' : Nat, a + b + c + d + e + f' + g' + h' + i' = a + (b + (c + (d + (e + (f' + (g' + (h' + i'))))))) from fun _ _ _ _ _ _ _ _ _ => by omega], by omega⟩
theorem frsC {W : List Int} {k : Nat} : ∀ (fs : List Fr) (r : List Int) (p : Nat), W.drop p = fs.flatMap svF ++ r → p ≤ k → (∀ y ∈ fs, frB y = true) → CutR (frsP (W.take k) fs.length p) fs (p + (fs.flatMap svF).length) k
  | [], r, p, h, hp, hT => .inl ⟨rfl, by simpa using hp⟩
  | y :: fs, r, p, h, hp, hT => by
    rw [List.flatMap_cons, List.append_assoc] at h
    have h2 := drop_len h
    refine (frC h hp (hT y (by simp))).bnd (fun hq => ?_) (by rw [List.flatMap_cons, List.length_append]; omega)
    have ih := frsC fs r _ h2 hq (fun z hz => hT z (by simp [hz]))
    rw [List.flatMap_cons, List.length_append, ← Nat.add_assoc]
    exact ih.bnd (fun hs => .inl ⟨rfl, hs⟩) (Nat.le_refl _)
/-- What a stack may be. -/
structure SkOk (fs : List Fr) (m h : Int) : Prop where
  hm : 1 ≤ m ∧ m ≤ 1048576
  hl : (fs.length : Int) ≤ m
  hh : (fs.length : Int) ≤ h ∧ h ≤ m
  rt : ∀ f ∈ fs, frB f = true
/-- A stack's bytes, with more behind them, cut anywhere. -/
theorem ldC {fs : List Fr} {m h : Int} (ok : SkOk fs m h) (more : List Int) (k : Nat) (hk : k ≤ (sv fs m h ++ more).length) :
    ldP ((sv fs m h ++ more).take k) = if k < (sv fs m h).length then .error (20, (k : Int)) else if (sv fs m h).length < k then .error (124, ((sv fs m h).length : Int)) else .ok (fs, m, h) := by
  have e0 : sv fs m h ++ more = [102] ++ (fm m ++ (fm (fs.length : Int) ++ (fm h ++ (fs.flatMap svF ++ more)))) := by simp [sv, svH]
  have hlen : (sv fs m h).length = 1 + ((fm m).length + ((fm (fs.length : Int)).length + ((fm h).length + (fs.flatMap svF).length))) := by simp [sv, svH]; omega
  obtain ⟨W, hW⟩ : ∃ W, sv fs m h ++ more = W := ⟨_, rfl⟩
  rw [hW] at hk e0 ⊢
  have h1 := ok.hm; have h2 := ok.hl; have h3 := ok.hh
  cases k with
  | zero =>
    rw [if_pos (by omega)]
    simp [ldP]
  | succ k =>
    have d0 : W.drop 1 = fm m ++ (fm (fs.length : Int) ++ (fm h ++ (fs.flatMap svF ++ more))) := by rw [e0]; rfl
    have d1 := drop_len d0
    have d2 := drop_len d1
    have d3 := drop_len d2
    have hne : ¬ W.take (k + 1) = [] := by rw [e0]; simp
    have hhd : ¬ (W.take (k + 1)).getD 0 0 ≠ 102 := by rw [e0]; simp
    have hb : CutR (bnd (numP (W.take (k + 1)) 1 1048576 1) fun m' => bnd (numP (W.take (k + 1)) 0 m'.1 m'.2) fun k' => bnd (numP (W.take (k + 1)) k'.1 m'.1 k'.2) fun h' => bnd (frsP (W.take (k + 1)) k'.1.toNat h'.2) fun f => .ok ((f.1, m'.1, h'.1), f.2)) (fs, m, h) (sv fs m h).length (k + 1) := by
      rw [hlen]
      refine (numC d0 (by omega) (by omega) (by omega) (by omega) (by omega)).bnd (fun q1 => ?_) (by omega)
      refine (numC d1 q1 (by omega) (by omega) (by omega) (by omega)).bnd (fun q2 => ?_) (by omega)
      refine (numC d2 q2 (by omega) (by omega) (by omega) (by omega)).bnd (fun q3 => ?_) (by omega)
      dsimp only
      rw [Int.toNat_natCast]
      refine (frsC fs more _ d3 q3 ok.rt).bnd (fun q4 => ?_) (by omega)
      exact .inl ⟨by rw [show ∀ a b c d e : Nat, a + b + c + d + e = a + (b + (c + (d + e))) from fun _ _ _ _ _ => by omega], by omega⟩
    have hl : (W.take (k + 1)).length = k + 1 := by simp; omega
    unfold ldP
    rw [if_neg hne, if_neg hhd]
    have key : ∀ (x : Except (Int × Int) (Int × Nat)) (F : Int × Nat → Except (Int × Int) (Int × Nat)) (G : Int × Nat → Int × Nat → Except (Int × Int) (Int × Nat)) (H : Int × Nat → Int × Nat → Except (Int × Int) (List Fr × Nat)),
        (bnd x fun m' => bnd (F m') fun k' => bnd (G m' k') fun h' => bnd (H k' h') fun f => if f.2 < (W.take (k + 1)).length then .error (124, (f.2 : Int)) else .ok (f.1, m'.1, h'.1)) =
        bnd (bnd x fun m' => bnd (F m') fun k' => bnd (G m' k') fun h' => bnd (H k' h') fun f => .ok ((f.1, m'.1, h'.1), f.2)) fun z => if z.2 < (W.take (k + 1)).length then .error (124, (z.2 : Int)) else .ok z.1 := by
      intro x F G H
      cases x with
      | error e => rfl
      | ok a =>
        simp only [bnd_ok]
        cases F a with
        | error e => rfl
        | ok b =>
          simp only [bnd_ok]
          cases G a b with
          | error e => rfl
          | ok c =>
            simp only [bnd_ok]
            cases H b c with
            | error e => rfl
            | ok d => rfl
    rw [key (numP (W.take (k + 1)) 1 1048576 1) (fun m' => numP (W.take (k + 1)) 0 m'.1 m'.2) (fun m' k' => numP (W.take (k + 1)) k'.1 m'.1 k'.2) (fun k' h' => frsP (W.take (k + 1)) k'.1.toNat h'.2)]
    rcases hb with ⟨e, hq⟩ | ⟨e, hq⟩
    · rw [e, bnd_ok, hl, if_neg (show ¬ k + 1 < (sv fs m h).length by omega)]
    · rw [e, bnd_err, if_pos hq]
/-! ### Back -/
theorem numB {b : List Int} {lo hi : Int} {p q : Nat} {x : Int} (hb : Bys b) (hp : p ≤ b.length) (h : numP b lo hi p = .ok (x, q)) : lo ≤ x ∧ x ≤ hi ∧ 0 ≤ x ∧ p ≤ q ∧ q ≤ b.length ∧ b.drop p = fm x ++ b.drop q := by
  unfold numP at h
  split at h
  · rename_i h0
    split at h
    · rename_i h1
      injection h with h
      injection h with hx hq
      have hg := get_back (getF_R (b.drop p)) (hb.drop p) h0
      rw [List.length_drop] at hg
      subst hx hq
      refine ⟨h1.1, h1.2, hg.2.2.1, by omega, by omega, ?_⟩
      unfold fm
      rw [hg.2.2.2.2, ← List.drop_drop, List.take_append_drop]
    · cases h
  · cases h
theorem posBk {b : List Int} {p q : Nat} {x : Int} (hb : Bys b) (hp : p ≤ b.length) (h : posP b p = .ok (x, q)) : posB x = true ∧ p ≤ q ∧ q ≤ b.length ∧ b.drop p = fm x ++ b.drop q := by
  obtain ⟨h1, h2, h3, h4, h5, h6⟩ := numB hb hp h
  exact ⟨posB_of h1 h2, h4, h5, h6⟩
theorem ponBk {b : List Int} {p q : Nat} {x : Int} (hb : Bys b) (hp : p ≤ b.length) (h : ponP b p = .ok (x, q)) : ponB x = true ∧ p ≤ q ∧ q ≤ b.length ∧ b.drop p = fm (x + 1) ++ b.drop q := by
  obtain ⟨⟨y, r⟩, h1, h2⟩ := bnd_is h
  injection h2 with h2
  injection h2 with h2 h3
  dsimp only at h2 h3
  subst h3
  obtain ⟨a1, a2, a3, a4, a5, a6⟩ := numB hb hp h1
  have e : x + 1 = y := by omega
  rw [e]
  exact ⟨ponB_of (by omega) (by omega), a4, a5, a6⟩
theorem tabBk {b : List Int} (hb : Bys b) : ∀ (k : Nat) (p : Nat) (T : List Int) (q : Nat), p ≤ b.length → tabP b k p = .ok (T, q) → T.length = k ∧ (∀ y ∈ T, posB y = true) ∧ p ≤ q ∧ q ≤ b.length ∧ b.drop p = T.flatMap fm ++ b.drop q
  | 0, p, T, q, hp, h => by
    injection h with h
    injection h with h1 h2
    subst h1 h2
    exact ⟨rfl, fun y hy => (by cases hy), Nat.le_refl _, hp, by simp⟩
  | k + 1, p, T, q, hp, h => by
    obtain ⟨⟨x, r⟩, h1, h2⟩ := bnd_is h
    obtain ⟨⟨T', s⟩, h3, h4⟩ := bnd_is h2
    injection h4 with h4
    injection h4 with h5 h6
    dsimp only at h5 h6 h3
    subst h5 h6
    obtain ⟨a1, a2, a3, a4⟩ := posBk hb hp h1
    obtain ⟨b1, b2, b3, b4, b5⟩ := tabBk hb k r T' s a3 h3
    exact ⟨by simp [b1], fun y hy => by
      rcases List.mem_cons.1 hy with rfl | hy
      · exact a1
      · exact b2 y hy, by omega, b4, by rw [a4, b5, List.flatMap_cons, List.append_assoc]⟩
theorem frBk {b : List Int} (hb : Bys b) {p q : Nat} {f : Fr} (hp : p ≤ b.length) (h : frP b p = .ok (f, q)) : frB f = true ∧ p ≤ q ∧ q ≤ b.length ∧ b.drop p = svF f ++ b.drop q := by
  obtain ⟨⟨x1, p1⟩, h1, h⟩ := bnd_is h
  obtain ⟨⟨x2, p2⟩, h2, h⟩ := bnd_is h
  obtain ⟨⟨x3, p3⟩, h3, h⟩ := bnd_is h
  obtain ⟨⟨x4, p4⟩, h4, h⟩ := bnd_is h
  obtain ⟨⟨x5, p5⟩, h5, h⟩ := bnd_is h
  obtain ⟨⟨x6, p6⟩, h6, h⟩ := bnd_is h
  obtain ⟨⟨x7, p7⟩, h7, h⟩ := bnd_is h
  obtain ⟨⟨x8, p8⟩, h8, h⟩ := bnd_is h
  injection h with h
  injection h with hf hq
  dsimp only at hf hq h2 h3 h4 h5 h6 h7 h8
  subst hf hq
  obtain ⟨a1, b1, c1, d1⟩ := posBk hb hp h1
  obtain ⟨a2, b2, c2, d2⟩ := posBk hb c1 h2
  obtain ⟨a3, b3, c3, d3⟩ := posBk hb c2 h3
  obtain ⟨a4, b4, c4, d4⟩ := ponBk hb c3 h4
  obtain ⟨a5, b5, c5, d5⟩ := ponBk hb c4 h5
  obtain ⟨a6, b6, c6, d6⟩ := posBk hb c5 h6
  obtain ⟨a7, a7', z7, b7, c7, d7⟩ := numB hb c6 h7
  obtain ⟨l8, a8, b8, c8, d8⟩ := tabBk hb _ _ _ _ c7 h8
  have hl : (x8.length : Int) = x7 := by rw [l8, Int.toNat_of_nonneg z7]
  refine ⟨frB_of (by show x8.length ≤ _; omega) a8 (by simp [hdB, a1, a2, a3, a4, a5, a6]), by omega, c8, ?_⟩
  rw [svF_is]
  dsimp only
  rw [hl, d1, d2, d3, d4, d5, d6, d7, d8]
theorem frsBk {b : List Int} (hb : Bys b) : ∀ (k : Nat) (p : Nat) (T : List Fr) (q : Nat), p ≤ b.length → frsP b k p = .ok (T, q) → T.length = k ∧ (∀ y ∈ T, frB y = true) ∧ p ≤ q ∧ q ≤ b.length ∧ b.drop p = T.flatMap svF ++ b.drop q
  | 0, p, T, q, hp, h => by
    injection h with h
    injection h with h1 h2
    subst h1 h2
    exact ⟨rfl, fun y hy => (by cases hy), Nat.le_refl _, hp, by simp⟩
  | k + 1, p, T, q, hp, h => by
    obtain ⟨⟨x, r⟩, h1, h2⟩ := bnd_is h
    obtain ⟨⟨T', s⟩, h3, h4⟩ := bnd_is h2
    injection h4 with h4
    injection h4 with h5 h6
    dsimp only at h5 h6 h3
    subst h5 h6
    obtain ⟨a1, a2, a3, a4⟩ := frBk hb hp h1
    obtain ⟨b1, b2, b3, b4, b5⟩ := frsBk hb k r T' s a3 h3
    exact ⟨by simp [b1], fun y hy => by
      rcases List.mem_cons.1 hy with rfl | hy
      · exact a1
      · exact b2 y hy, by omega, b4, by rw [a4, b5, List.flatMap_cons, List.append_assoc]⟩
/-- What is loaded is a stack, and the bytes are its own. -/
theorem ldB {b : List Int} (hb : Bys b) {fs : List Fr} {m h : Int} (hd : ldP b = .ok (fs, m, h)) : SkOk fs m h ∧ sv fs m h = b := by
  unfold ldP at hd
  split at hd
  · cases hd
  rename_i hne
  split at hd
  · cases hd
  rename_i hh
  have hh' : b.getD 0 0 = 102 := by omega
  obtain ⟨⟨x1, p1⟩, h1, hd⟩ := bnd_is hd
  obtain ⟨⟨x2, p2⟩, h2, hd⟩ := bnd_is hd
  obtain ⟨⟨x3, p3⟩, h3, hd⟩ := bnd_is hd
  obtain ⟨⟨x4, p4⟩, h4, hd⟩ := bnd_is hd
  dsimp only at h2 h3 h4 hd
  split at hd
  · cases hd
  rename_i hend
  injection hd with hd
  injection hd with e1 hd
  injection hd with e2 e3
  subst e1 e2 e3
  have hl1 : 1 ≤ b.length := by
    cases b with
    | nil => exact absurd rfl hne
    | cons c l => simp
  obtain ⟨a1, b1, z1, l1, c1, d1⟩ := numB hb hl1 h1
  obtain ⟨a2, b2, z2, l2, c2, d2⟩ := numB hb c1 h2
  obtain ⟨a3, b3, z3, l3, c3, d3⟩ := numB hb c2 h3
  obtain ⟨l4, a4, b4, c4, d4⟩ := frsBk hb _ _ _ _ c3 h4
  have hk : (x4.length : Int) = x2 := by rw [l4, Int.toNat_of_nonneg z2]
  refine ⟨⟨⟨a1, b1⟩, by omega, ⟨by omega, b3⟩, a4⟩, ?_⟩
  have e0 : b = [102] ++ b.drop 1 := by
    cases b with
    | nil => exact absurd rfl hne
    | cons c l => simp at hh'; subst hh'; rfl
  have hz : b.drop p4 = [] := List.drop_eq_nil_of_le (by omega)
  rw [hz, List.append_nil] at d4
  rw [e0, d1, d2, d3, d4]
  simp [sv, svH, hk]
theorem numE {b : List Int} {lo hi : Int} {p : Nat} {e a : Int} (h : numP b lo hi p = .error (e, a)) : e ≠ 0 := by
  unfold numP at h
  split at h
  · split at h
    · cases h
    · injection h with h
      injection h with h1 h2
      omega
  · rename_i h0
    injection h with h
    injection h with h1 h2
    omega
theorem ponE {b : List Int} {p : Nat} {e a : Int} (h : ponP b p = .error (e, a)) : e ≠ 0 := by
  rcases bnd_er h with h | ⟨_, _, h⟩
  · exact numE h
  · cases h
theorem tabE {b : List Int} : ∀ (k : Nat) (p : Nat) (e a : Int), tabP b k p = .error (e, a) → e ≠ 0
  | 0, p, e, a, h => by cases h
  | k + 1, p, e, a, h => by
    rcases bnd_er h with h | ⟨_, _, h⟩
    · exact numE h
    rcases bnd_er h with h | ⟨_, _, h⟩
    · exact tabE k _ e a h
    · cases h
theorem frE {b : List Int} {p : Nat} {e a : Int} (h : frP b p = .error (e, a)) : e ≠ 0 := by
  rcases bnd_er h with h | ⟨_, _, h⟩
  · exact numE h
  rcases bnd_er h with h | ⟨_, _, h⟩
  · exact numE h
  rcases bnd_er h with h | ⟨_, _, h⟩
  · exact numE h
  rcases bnd_er h with h | ⟨_, _, h⟩
  · exact ponE h
  rcases bnd_er h with h | ⟨_, _, h⟩
  · exact ponE h
  rcases bnd_er h with h | ⟨_, _, h⟩
  · exact numE h
  rcases bnd_er h with h | ⟨_, _, h⟩
  · exact numE h
  rcases bnd_er h with h | ⟨_, _, h⟩
  · exact tabE _ _ _ _ h
  · cases h
theorem frsE {b : List Int} : ∀ (k : Nat) (p : Nat) (e a : Int), frsP b k p = .error (e, a) → e ≠ 0
  | 0, p, e, a, h => by cases h
  | k + 1, p, e, a, h => by
    rcases bnd_er h with h | ⟨_, _, h⟩
    · exact frE h
    rcases bnd_er h with h | ⟨_, _, h⟩
    · exact frsE k _ e a h
    · cases h
theorem ldE {b : List Int} {e a : Int} (h : ldP b = .error (e, a)) : e ≠ 0 := by
  unfold ldP at h
  split at h
  · injection h with h; injection h with h1 h2; omega
  split at h
  · injection h with h; injection h with h1 h2; omega
  rcases bnd_er h with h | ⟨_, _, h⟩
  · exact numE h
  rcases bnd_er h with h | ⟨_, _, h⟩
  · exact numE h
  rcases bnd_er h with h | ⟨_, _, h⟩
  · exact numE h
  rcases bnd_er h with h | ⟨_, _, h⟩
  · exact frsE _ _ _ _ h
  split at h
  · injection h with h; injection h with h1 h2; omega
  · cases h
end Go.Proofs.Ytcmkdkocponpiaa

/- Frames: the reader: giveUp, number, position, positionOrNone, mark. -/
namespace Go.Proofs.Ytcmkdkocponpiaa
open Go.RowKit
set_option linter.unusedVariables false

def Flt (c a : Int) : Ending := .panicked [{ v := .iface 31 (.agg #[.int .i64 c, .int .i64 a]), recovered := false }]
set_option maxRecDepth 100000 in
set_option maxHeartbeats 4000000 in
theorem giveUp_any (c a : Int) (w : World) : Calls Try.prog 51 #[.int .i64 c, .int .i64 a] w fun e w' => e = Flt c a ∧ w = w' := by
  go_enter Try.func51, Try.ntmps51
  go_wp2
  exact ⟨rfl, rfl, rfl⟩
theorem Row.upd0 {k : IntKind} {w w' : World} {a : Option Addr} {l : List Int} {S : Nat → Prop} (h : Row k w a l) (hu : Upd S w w') (hg : 0 < l.length → ∀ x, a = some x → ¬ S x.block) : Row k w' a l := by
  rcases Nat.eq_zero_or_pos l.length with h0 | h0
  · rcases h with ⟨rfl, h⟩ | ⟨x, rfl, hc⟩
    · exact .inl ⟨rfl, h⟩
    · exact .inr ⟨x, rfl, fun i hi => by omega⟩
  · exact h.upd hu (hg h0)
/-- A reader lies at g, over these bytes, at this place. -/
structure RdM (w : World) (g : Nat) (a : Option Addr) (c : Nat) (b : List Int) (p : Nat) : Prop where
  box : Blk w g 74 [.slice a b.length c, .int .i64 (p : Int)]
  row : Row .u8 w a b
  nil : a = none → c = 0
  at_ : p ≤ b.length
  bys : Bys b
  cap : b.length ≤ c
  max : c ≤ 9223372036854775807
  ap : 0 < b.length → ∀ x, a = some x → x.block ≠ g
theorem RdM.upd {w w' : World} {g : Nat} {a : Option Addr} {c : Nat} {b : List Int} {p : Nat} {S : Nat → Prop} (h : RdM w g a c b p) (hu : Upd S w w') (hg : ¬ S g) (ha : 0 < b.length → ∀ x, a = some x → ¬ S x.block) : RdM w' g a c b p :=
  ⟨h.box.upd hu hg, h.row.upd0 hu ha, h.nil, h.at_, h.bys, h.cap, h.max, h.ap⟩
theorem RdM.later {w w' : World} {g : Nat} {a : Option Addr} {c : Nat} {b : List Int} {p : Nat} (h : RdM w g a c b p) (hB : Below w.heap.size w w') : RdM w' g a c b p := ⟨h.box.later hB, h.row.later hB, h.nil, h.at_, h.bys, h.cap, h.max, h.ap⟩
/-- It stands elsewhere. -/
theorem RdM.step {w : World} {g : Nat} {a : Option Addr} {c : Nat} {b : List Int} {p : Nat} (h : RdM w g a c b p) (q : Nat) (hq : q ≤ b.length) : RdM (w.setCell ⟨g, 1, none⟩ (.int .i64 (q : Int))) g a c b q := by
  have hu := (Upd.refl (fun k => k = g) w).set ⟨g, 1, none⟩ (.int .i64 (q : Int)) (.inl rfl)
  exact ⟨h.box.set 1 _, h.row.upd0 hu h.ap, h.nil, hq, h.bys, h.cap, h.max, h.ap⟩
/-- What the reader's number answers. -/
def NumTo (w : World) (g : Nat) (a : Option Addr) (c : Nat) (b : List Int) (R : Except (Int × Int) (Int × Nat)) (e : Ending) (w' : World) : Prop :=
  (∃ x q, R = .ok (x, q) ∧ e = .returned (.int .i64 x) ∧ Hid (RdM w' g a c b q) ∧ Hid (Upd (fun k => k = g) w w')) ∨
  (∃ er at_, R = .error (er, at_) ∧ e = Flt er at_ ∧ Hid (Upd (fun k => k = g) w w'))
set_option maxRecDepth 100000 in
set_option maxHeartbeats 16000000 in
theorem number_any (w : World) (g : Nat) (a : Option Addr) (c : Nat) (b : List Int) (p : Nat) (lo hi : Int) (hR : Hid (RdM w g a c b p)) (hne : 0 < b.length) (h0 : 0 ≤ lo) (hlo : lo ≤ 4611686018427387905) (h1 : 0 ≤ hi) (hhi : hi ≤ 4611686018427387905) :
    Calls Try.prog 49 #[.pointer (some ⟨g, 0, none⟩), .int .i64 lo, .int .i64 hi] w fun e w' => NumTo w g a c b (numP b lo hi p) e w' := by
  obtain ⟨R, hRd⟩ : ∃ R, numP b lo hi p = R := ⟨_, rfl⟩
  have HR := hide_ hRd
  rw [hRd]
  unfold numP at hRd
  obtain ⟨gb, off, rfl, hgb, hcb⟩ := hR.out.row.open hne
  have hpb := hR.out.at_
  have hbc := hR.out.cap
  have hcm := hR.out.max
  obtain ⟨A, hA⟩ : ∃ A : Option Addr, A = (if c = p then some ⟨gb, off, none⟩ else some ⟨gb, off + p, none⟩) := ⟨_, rfl⟩
  have hrow : Row .u8 w A (b.drop p) := by
    rw [hA]
    by_cases e : c = p
    · rw [if_pos e, List.drop_eq_nil_of_le (by omega)]
      exact .inr ⟨_, rfl, fun i hi => by simp at hi⟩
    · rw [if_neg e]
      exact hR.out.row.drop p
  have hld : (b.drop p).length = b.length - p := List.length_drop
  have hG : ∀ w', Row .u8 w' A (b.drop p) → Calls Try.prog 70 #[.slice A (b.length - p) (c - p)] w' fun e w'' => e = .returned (.tuple #[.int .u64 (getF (b.drop p)).1, .int .i64 ((getF (b.drop p)).2.1 : Int), .int .i64 (getF (b.drop p)).2.2]) ∧ w' = w'' := fun w' hr =>
    (get_any A (b.length - p) (c - p) (b.drop p) w' hld (by unfold maxLen; omega) hr (hR.out.bys.drop p)).mono (by
      rintro e w'' ⟨n, u, r, hg, rfl, rfl⟩
      rw [hg.getF]
      exact ⟨rfl, rfl⟩)
  have hu64 := get_u64 (getF_R (b.drop p)) (hR.out.bys.drop p)
  obtain ⟨n, hn⟩ : ∃ n, (getF (b.drop p)).1 = n := ⟨_, rfl⟩
  obtain ⟨u, hu⟩ : ∃ u, (getF (b.drop p)).2.1 = u := ⟨_, rfl⟩
  obtain ⟨r, hr⟩ : ∃ r, (getF (b.drop p)).2.2 = r := ⟨_, rfl⟩
  rw [hn, hu, hr] at hRd hG
  rw [hn, hu, hld] at hu64
  obtain ⟨hn0, hn1, hu1, -⟩ := hu64
  have HG := hide_ (hG w.drew hrow.drew)
  have HRd := hide_ hRd
  have q0 := hR.out.box.cell 0; have q1 := hR.out.box.cell 1; have z1 := hR.out.box.frozen 1
  simp at q0 q1
  have hw := i64w ((p : Int) + u) (by omega)
  have hwl : IntKind.u64.wrap lo = lo := by rw [IntKind.wrap_u64]; omega
  have hwh : IntKind.u64.wrap hi = hi := by rw [IntKind.wrap_u64]; omega
  have HS1 : Hid ((fun w' => w'.cell? ⟨g, 0, none⟩ = some (.slice (some ⟨gb, off, none⟩) b.length c) ∧ w'.cell? ⟨g, 1, none⟩ = some (.int .i64 (p : Int))) w.drew) := hide_ ⟨q0, q1⟩
  have HA := hide_ hA
  have hud : Upd (fun k => k = g) w w.drew := (Upd.refl _ w).drew
  clear hn hu hr hrow hG hRd hld hA hcb
  go_enter Try.func49, Try.ntmps49
  go_upto_region 1 with fail
  refine wp_region_last 16 (fun w' => w'.cell? ⟨g, 0, none⟩ = some (.slice (some ⟨gb, off, none⟩) b.length c) ∧ w'.cell? ⟨g, 1, none⟩ = some (.int .i64 (p : Int))) (by kernel_rfl) (HS1.out) (fun hHeld => ?_)
  refine wpAnyF_take [16] (by kernel_rfl) (i := 0) (v := ?vf1) rfl (by kernel_rfl) (by kernel_rfl) (by kernel_rfl) (fun _ _ _ h => h) (Or.inl ⟨by kernel_rfl, ?hyf1⟩) hHeld ?restf1
  case hyf1 => intro w' hSw; (try dsimp only at hSw); go_simp; try with_reducible rfl
  simp only [Act.put]
  try dsimp only
  refine wpAnyF_take [16] (by kernel_rfl) (i := 1) (v := ?vf2) rfl (by kernel_rfl) (by kernel_rfl) (by kernel_rfl) (fun _ _ _ h => h) (Or.inl ⟨by kernel_rfl, ?hyf2⟩) hHeld ?restf2
  case hyf2 => intro w' hSw; (try dsimp only at hSw); go_simp; try with_reducible rfl
  simp only [Act.put]
  try dsimp only
  refine wpAnyF_take [16] (by kernel_rfl) (i := 2) (v := ?vf3) rfl (by kernel_rfl) (by kernel_rfl) (by kernel_rfl) (fun _ _ _ h => h) (Or.inl ⟨by kernel_rfl, ?hyf3⟩) hHeld ?restf3
  case hyf3 => intro w' hSw; (try dsimp only at hSw); go_simp; try with_reducible rfl
  simp only [Act.put]
  try dsimp only
  refine wpAnyF_take [16] (by kernel_rfl) (i := 3) (v := ?vf4) rfl (by kernel_rfl) (by kernel_rfl) (by kernel_rfl) (fun _ _ _ h => h) (Or.inl ⟨by kernel_rfl, ?hyf4⟩) hHeld ?restf4
  case hyf4 => intro w' hSw; (try dsimp only at hSw); go_simp; try with_reducible rfl
  simp only [Act.put]
  try dsimp only
  refine wpAnyF_take [16] (by kernel_rfl) (i := 4) (v := ?vf5) rfl (by kernel_rfl) (by kernel_rfl) (by kernel_rfl) (fun _ _ _ h => h) (Or.inl ⟨by kernel_rfl, ?hyf5⟩) hHeld ?restf5
  case hyf5 => intro w' hSw; (try dsimp only at hSw); go_simp; try with_reducible rfl
  simp only [Act.put]
  try dsimp only
  refine wpAnyF_take [16] (by kernel_rfl) (i := 5) (v := ?vf6) rfl (by kernel_rfl) (by kernel_rfl) (by kernel_rfl) (fun _ _ _ h => h) (Or.inl ⟨by kernel_rfl, ?hyf6⟩) hHeld ?restf6
  case hyf6 => intro w' hSw; (try dsimp only at hSw); go_simp; try with_reducible rfl
  simp only [Act.put]
  try dsimp only
  refine wpAnyF_take [16] (by kernel_rfl) (i := 6) (v := ?vf7) rfl (by kernel_rfl) (by kernel_rfl) (by kernel_rfl) (fun _ _ _ h => h) (Or.inl ⟨by kernel_rfl, ?hyf7⟩) hHeld ?restf7
  case hyf7 => intro w' hSw; (try dsimp only at hSw); go_simp; try with_reducible rfl
  simp only [Act.put]
  try dsimp only
  refine wpAnyF_take [16] (by kernel_rfl) (i := 7) (v := ?vf8) rfl (by kernel_rfl) (by kernel_rfl) (by kernel_rfl) (fun _ _ _ h => h) (Or.inl ⟨by kernel_rfl, ?hyf8⟩) hHeld ?restf8
  case hyf8 => intro w' hSw; (try dsimp only at hSw); go_simp; try with_reducible rfl
  simp only [Act.put]
  try dsimp only
  refine wpAnyF_take [16] (by kernel_rfl) (i := 8) (v := ?vf9) rfl (by kernel_rfl) (by kernel_rfl) (by kernel_rfl) (fun _ _ _ h => h) (Or.inl ⟨by kernel_rfl, ?hyf9⟩) hHeld ?restf9
  case hyf9 => intro w' hSw; (try dsimp only at hSw); go_simp; try with_reducible rfl
  simp only [Act.put]
  try dsimp only
  refine wpAnyF_ready (rs := [9]) (by kernel_rfl) (by simp) ?_
  refine AllReadyF.cons rfl (fun K hK => ?_) AllReadyF.nil
  go_simp
  rw [← HA.out]
  refine HG.out.mono ?_
  rintro e w' ⟨rfl, rfl⟩
  dsimp only
  refine hK.out _ _ (HS1.out) (fun hHeld => ?_)
  clear hK K
  refine wpAnyF_take [16] (by kernel_rfl) (i := 10) (v := ?vf10) rfl (by kernel_rfl) (by kernel_rfl) (by kernel_rfl) (fun _ _ _ h => h) (Or.inl ⟨by kernel_rfl, ?hyf10⟩) hHeld ?restf10
  case hyf10 => intro w' hSw; (try dsimp only at hSw); go_simp; try with_reducible rfl
  simp only [Act.put]
  try dsimp only
  refine wpAnyF_take [16] (by kernel_rfl) (i := 11) (v := ?vf11) rfl (by kernel_rfl) (by kernel_rfl) (by kernel_rfl) (fun _ _ _ h => h) (Or.inl ⟨by kernel_rfl, ?hyf11⟩) hHeld ?restf11
  case hyf11 => intro w' hSw; (try dsimp only at hSw); go_simp; try with_reducible rfl
  simp only [Act.put]
  try dsimp only
  refine wpAnyF_take [16] (by kernel_rfl) (i := 12) (v := ?vf12) rfl (by kernel_rfl) (by kernel_rfl) (by kernel_rfl) (fun _ _ _ h => h) (Or.inl ⟨by kernel_rfl, ?hyf12⟩) hHeld ?restf12
  case hyf12 => intro w' hSw; (try dsimp only at hSw); go_simp; try with_reducible rfl
  simp only [Act.put]
  try dsimp only
  refine wpAnyF_take [16] (by kernel_rfl) (i := 13) (v := ?vf13) rfl (by kernel_rfl) (by kernel_rfl) (by kernel_rfl) (fun _ _ _ h => h) (Or.inl ⟨by kernel_rfl, ?hyf13⟩) hHeld ?restf13
  case hyf13 => intro w' hSw; (try dsimp only at hSw); go_simp; try with_reducible rfl
  simp only [Act.put]
  try dsimp only
  refine wpAnyF_take [16] (by kernel_rfl) (i := 14) (v := ?vf14) rfl (by kernel_rfl) (by kernel_rfl) (by kernel_rfl) (fun _ _ _ h => h) (Or.inl ⟨by kernel_rfl, ?hyf14⟩) hHeld ?restf14
  case hyf14 => intro w' hSw; (try dsimp only at hSw); go_simp; try with_reducible rfl
  simp only [Act.put]
  try dsimp only
  refine wpAnyF_take [16] (by kernel_rfl) (i := 15) (v := ?vf15) rfl (by kernel_rfl) (by kernel_rfl) (by kernel_rfl) (fun _ _ _ h => h) (Or.inl ⟨by kernel_rfl, ?hyf15⟩) hHeld ?restf15
  case hyf15 => intro w' hSw; (try dsimp only at hSw); go_simp; try with_reducible rfl
  simp only [Act.put]
  try dsimp only
  refine wpAnyF_ready (rs := [16]) (by kernel_rfl) (by simp) ?_
  refine AllReadyF.last rfl (fun K hK => ?_)
  go_simp
  refine hK.out _ _ ?_
  clear hK K
  refine wpAnyF_done (by kernel_rfl) ?_ _
  by_cases he : r = 0
  · have he' : (r != 0) = false := by rw [he]; rfl
    by_cases hin : lo ≤ n ∧ n ≤ hi
    · have hRe : R = .ok (n, p + u) := by rw [← HRd.out, if_pos he, if_pos hin]
      have HRe := hide_ hRe
      have hlt1 : decide (n < lo) = false := decide_eq_false (by omega)
      have hlt2 : decide (hi < n) = false := decide_eq_false (by omega)
      have hwn := i64w n (by omega)
      have HRs : Hid (RdM (w.setCell ⟨g, 1, none⟩ (.int .i64 ((p : Int) + u))).drew g (some ⟨gb, off, none⟩) c b (p + u)) := hide_ (by
        have h := hR.out.step (p + u) (by omega)
        rw [Int.natCast_add] at h
        exact h.later ((Below.refl _ _).drew))
      have HU2 : Hid (Upd (fun k => k = g) w (w.setCell ⟨g, 1, none⟩ (.int .i64 ((p : Int) + u))).drew) := hide_ ((Upd.refl (fun k => k = g) w).set ⟨g, 1, none⟩ (.int .i64 ((p : Int) + u)) (.inl rfl)).drew
      clear he hin hRe hHeld
      go_wp2_with fail
      go_ret
      exact .inl ⟨n, p + u, HRe.out, rfl, HRs, HU2⟩
    · have hRe : R = .error (221, (p : Int)) := by rw [← HRd.out, if_pos he, if_neg hin]
      have HRe := hide_ hRe
      have HU2 := hide_ hud
      have HGu := hide_ (giveUp_any 221 (p : Int) w.drew)
      clear he hRe hHeld hud
      by_cases hlt : n < lo
      · have hlt1 : decide (n < lo) = true := decide_eq_true hlt
        clear hlt hin
        go_wp2_with fail
        refine HGu.out.mono ?_
        rintro e w' ⟨rfl, rfl⟩
        unfold Flt
        go_wp2
        exact ⟨rfl, .inr ⟨_, _, HRe.out, rfl, HU2⟩⟩
      · have hlt1 : decide (n < lo) = false := decide_eq_false hlt
        have hlt2 : decide (hi < n) = true := decide_eq_true (by omega)
        clear hlt hin
        go_wp2_with fail
        refine HGu.out.mono ?_
        rintro e w' ⟨rfl, rfl⟩
        unfold Flt
        go_wp2
        exact ⟨rfl, .inr ⟨_, _, HRe.out, rfl, HU2⟩⟩
  · have he' : (r != 0) = true := by simpa using he
    have hRe : R = .error (r, (p : Int) + u) := by rw [← HRd.out, if_neg he, Int.natCast_add]
    have HRe := hide_ hRe
    have HU2 := hide_ hud
    have HGu := hide_ (giveUp_any r ((p : Int) + u) w.drew)
    clear he hRe hHeld hud
    go_wp2_with fail
    refine HGu.out.mono ?_
    rintro e w' ⟨rfl, rfl⟩
    unfold Flt
    go_wp2
    exact ⟨rfl, .inr ⟨_, _, HRe.out, rfl, HU2⟩⟩
set_option maxRecDepth 100000 in
set_option maxHeartbeats 8000000 in
theorem position_any (w : World) (g : Nat) (a : Option Addr) (c : Nat) (b : List Int) (p : Nat) (hR : Hid (RdM w g a c b p)) (hne : 0 < b.length) :
    Calls Try.prog 71 #[.pointer (some ⟨g, 0, none⟩)] w fun e w' => NumTo w g a c b (posP b p) e w' := by
  have HN := hide_ (number_any w g a c b p 0 4611686018427387904 hR hne (by decide) (by decide) (by decide) (by decide))
  obtain ⟨R, hRd⟩ : ∃ R, posP b p = R := ⟨_, rfl⟩
  have HN2 : Hid (Calls Try.prog 49 #[.pointer (some ⟨g, 0, none⟩), .int .i64 0, .int .i64 4611686018427387904] w fun e w' => NumTo w g a c b R e w') := by rw [← hRd]; exact HN
  rw [hRd]
  clear hRd HN hR
  go_enter Try.func71, Try.ntmps71
  go_wp2_with fail
  refine HN2.out.mono ?_
  rintro e w' (⟨x, q, hx, rfl, HRq, HU⟩ | ⟨er, at_, hx, rfl, HU⟩)
  · have HX := hide_ hx
    clear hx
    go_wp2_with fail
    go_ret
    exact .inl ⟨x, q, HX.out, rfl, HRq, HU⟩
  · have HX := hide_ hx
    clear hx
    unfold Flt
    go_wp2
    exact ⟨rfl, .inr ⟨er, at_, HX.out, rfl, HU⟩⟩
set_option maxRecDepth 100000 in
set_option maxHeartbeats 8000000 in
theorem positionOr_any (w : World) (g : Nat) (a : Option Addr) (c : Nat) (b : List Int) (p : Nat) (hR : Hid (RdM w g a c b p)) (hne : 0 < b.length) :
    Calls Try.prog 72 #[.pointer (some ⟨g, 0, none⟩)] w fun e w' => NumTo w g a c b (ponP b p) e w' := by
  have HN := hide_ (number_any w g a c b p 0 4611686018427387905 hR hne (by decide) (by decide) (by decide) (by decide))
  have HIn : Hid (∀ x q, numP b 0 4611686018427387905 p = .ok (x, q) → 0 ≤ x ∧ x ≤ 4611686018427387905) := hide_ (fun x q h => by
    have := numB hR.out.bys hR.out.at_ h
    omega)
  have HE : Hid (∀ x q, numP b 0 4611686018427387905 p = .ok (x, q) → ponP b p = .ok (x - 1, q)) := hide_ (fun x q h => by unfold ponP; rw [h]; rfl)
  have HF : Hid (∀ e, numP b 0 4611686018427387905 p = .error e → ponP b p = .error e) := hide_ (fun e h => by unfold ponP; rw [h]; rfl)
  obtain ⟨R, hRd⟩ : ∃ R, numP b 0 4611686018427387905 p = R := ⟨_, rfl⟩
  obtain ⟨R2, hRd2⟩ : ∃ R, ponP b p = R := ⟨_, rfl⟩
  rw [hRd] at HN HIn HE HF
  rw [hRd2] at HE HF
  rw [hRd2]
  clear hRd hRd2 hR
  go_enter Try.func72, Try.ntmps72
  go_wp2_with fail
  refine HN.out.mono ?_
  rintro e w' (⟨x, q, hx, rfl, HRq, HU⟩ | ⟨er, at_, hx, rfl, HU⟩)
  · have HX := hide_ hx
    have hin := HIn.out x q hx
    have hw := i64w (x - 1) (by omega)
    clear hx
    go_wp2_with fail
    go_ret
    exact .inl ⟨x - 1, q, HE.out x q HX.out, rfl, HRq, HU⟩
  · have HX := hide_ hx
    clear hx
    unfold Flt
    go_wp2
    exact ⟨rfl, .inr ⟨er, at_, HF.out _ HX.out, rfl, HU⟩⟩
end Go.Proofs.Ytcmkdkocponpiaa

/- Frames: the reader's frame. -/
namespace Go.Proofs.Ytcmkdkocponpiaa
open Go.RowKit
set_option linter.unusedVariables false

/-- What the reader's frame answers. -/
def FrmTo (w : World) (g : Nat) (a : Option Addr) (c : Nat) (b : List Int) (R : Except (Int × Int) (Fr × Nat)) (e : Ending) (w' : World) : Prop :=
  (∃ f q a' c', R = .ok (f, q) ∧ e = .returned (.agg #[.int .i64 f.r, .int .i64 f.a, .int .i64 f.b, .int .i64 f.e, .int .i64 f.n, .int .i64 f.x, .slice a' f.T.length c']) ∧ Hid (RdM w' g a c b q) ∧ Hid (IOwn w' w.heap.size (.slice a' f.T.length c') f.T) ∧ Hid (Upd (fun k => k = g) w w')) ∨
  (∃ er at_, R = .error (er, at_) ∧ e = Flt er at_ ∧ Hid (Upd (fun k => k = g) w w'))
theorem tab_next {b : List Int} {n q q' : Nat} {x : Int} {β : Type} (F : List Int × Nat → Except (Int × Int) β) (hx : posP b q = .ok (x, q')) : bnd (tabP b (n + 1) q) F = bnd (tabP b n q') fun y => F (x :: y.1, y.2) := by
  rw [tabP, hx, bnd_ok]
  dsimp only
  cases tabP b n q' with
  | error e => rfl
  | ok y => rfl
theorem tab_err {b : List Int} {n q : Nat} {e : Int × Int} {β : Type} (F : List Int × Nat → Except (Int × Int) β) (hx : posP b q = .error e) : bnd (tabP b (n + 1) q) F = .error e := by
  rw [tabP, hx, bnd_err, bnd_err]
set_option maxRecDepth 100000 in
set_option maxHeartbeats 16000000 in
theorem frame_any (w : World) (g : Nat) (a : Option Addr) (c : Nat) (b : List Int) (p : Nat) (hR : Hid (RdM w g a c b p)) (hne : 0 < b.length) :
    Calls Try.prog 50 #[.pointer (some ⟨g, 0, none⟩)] w fun e w' => FrmTo w g a c b (frP b p) e w' := by
  obtain ⟨R, hRd⟩ : ∃ R, frP b p = R := ⟨_, rfl⟩
  rw [hRd]
  unfold frP at hRd
  have HZ := hide_ hRd
  have HPos : Hid (∀ (w' : World) (q : Nat), Hid (RdM w' g a c b q) → Calls Try.prog 71 #[.pointer (some ⟨g, 0, none⟩)] w' fun e w'' => NumTo w' g a c b (posP b q) e w'') := hide_ (fun w' q h => position_any w' g a c b q h hne)
  have HPon : Hid (∀ (w' : World) (q : Nat), Hid (RdM w' g a c b q) → Calls Try.prog 72 #[.pointer (some ⟨g, 0, none⟩)] w' fun e w'' => NumTo w' g a c b (ponP b q) e w'') := hide_ (fun w' q h => positionOr_any w' g a c b q h hne)
  have HNum : Hid (∀ (w' : World) (q : Nat), Hid (RdM w' g a c b q) → Calls Try.prog 49 #[.pointer (some ⟨g, 0, none⟩), .int .i64 0, .int .i64 1048576] w' fun e w'' => NumTo w' g a c b (numP b 0 1048576 q) e w'') := hide_ (fun w' q h => number_any w' g a c b q 0 1048576 h hne (by decide) (by decide) (by decide) (by decide))
  have hgw : g < w.heap.size := hR.out.box.lt
  have HA : Hid (∀ x, a = some x → x.block < w.heap.size) := hide_ (fun x hx => by
    obtain ⟨gb, off, e, hgb, -⟩ := hR.out.row.open hne
    rw [e] at hx
    injection hx with hx
    subst hx
    exact hgb)
  obtain ⟨w0, hw0⟩ : ∃ wx, wx = w.alloc (.cells #[.int .i64 0, .int .i64 0, .int .i64 0, .int .i64 0, .int .i64 0, .int .i64 0, .slice none 0 0] 39) := ⟨_, rfl⟩
  have hB0 : Below w.heap.size w w0 := by rw [hw0]; exact below1 _ _
  have HK0 : Hid (Blk w0 w.heap.size 39 (frc frz)) := hide_ (by rw [hw0]; exact Blk.newA w _ _)
  have HR0 := hide_ (hR.out.later hB0)
  have HU0 : Hid (Upd (fun k => k = g) w w0) := hide_ (Upd.of_below hB0)
  clear hRd hB0 hR
  go_enter Try.func50, Try.ntmps50
  go_upto_region 1 with fail
  rw [← hw0]
  clear hw0
  go_wp2_with fail
  refine (HPos.out w0 p HR0).mono ?_
  rintro e w1 (⟨x1, q1, hx, rfl, HR1, HV1⟩ | ⟨er, at_, hx, rfl, HV1⟩)
  case inr =>
    have h := HZ.out
    rw [hx, bnd_err] at h
    have HE := hide_ h
    clear h hx
    unfold Flt
    go_wp2
    exact ⟨rfl, .inr ⟨er, at_, HE.out.symm, rfl, hide_ (HU0.out.to HV1.out)⟩⟩
  have h := HZ.out
  rw [hx, bnd_ok] at h
  dsimp only at h
  clear HZ
  have HZ := hide_ h
  have HU1 := hide_ (HU0.out.to HV1.out)
  have HK1 := hide_ (HK0.out.upd HV1.out (show ¬ w.heap.size = g by omega))
  clear h hx HR0 HU0 HK0 HV1
  go_wp2_with fail
  refine (HPos.out w1 q1 HR1).mono ?_
  rintro e w2 (⟨x2, q2, hx, rfl, HR2, HV2⟩ | ⟨er, at_, hx, rfl, HV2⟩)
  case inr =>
    have h := HZ.out
    rw [hx, bnd_err] at h
    have HE := hide_ h
    clear h hx
    unfold Flt
    go_wp2
    exact ⟨rfl, .inr ⟨er, at_, HE.out.symm, rfl, hide_ (HU1.out.to HV2.out)⟩⟩
  have h := HZ.out
  rw [hx, bnd_ok] at h
  dsimp only at h
  clear HZ
  have HZ := hide_ h
  have HU2 := hide_ (HU1.out.to HV2.out)
  have HK2 := hide_ (HK1.out.upd HV2.out (show ¬ w.heap.size = g by omega))
  clear h hx HR1 HU1 HK1 HV2
  go_wp2_with fail
  refine (HPos.out w2 q2 HR2).mono ?_
  rintro e w3 (⟨x3, q3, hx, rfl, HR3, HV3⟩ | ⟨er, at_, hx, rfl, HV3⟩)
  case inr =>
    have h := HZ.out
    rw [hx, bnd_err] at h
    have HE := hide_ h
    clear h hx
    unfold Flt
    go_wp2
    exact ⟨rfl, .inr ⟨er, at_, HE.out.symm, rfl, hide_ (HU2.out.to HV3.out)⟩⟩
  have h := HZ.out
  rw [hx, bnd_ok] at h
  dsimp only at h
  clear HZ
  have HZ := hide_ h
  have HU3 := hide_ (HU2.out.to HV3.out)
  have HK3 := hide_ (HK2.out.upd HV3.out (show ¬ w.heap.size = g by omega))
  clear h hx HR2 HU2 HK2 HV3
  go_wp2_with fail
  refine (HPon.out w3 q3 HR3).mono ?_
  rintro e w4 (⟨x4, q4, hx, rfl, HR4, HV4⟩ | ⟨er, at_, hx, rfl, HV4⟩)
  case inr =>
    have h := HZ.out
    rw [hx, bnd_err] at h
    have HE := hide_ h
    clear h hx
    unfold Flt
    go_wp2
    exact ⟨rfl, .inr ⟨er, at_, HE.out.symm, rfl, hide_ (HU3.out.to HV4.out)⟩⟩
  have h := HZ.out
  rw [hx, bnd_ok] at h
  dsimp only at h
  clear HZ
  have HZ := hide_ h
  have HU4 := hide_ (HU3.out.to HV4.out)
  have HK4 := hide_ (HK3.out.upd HV4.out (show ¬ w.heap.size = g by omega))
  clear h hx HR3 HU3 HK3 HV4
  go_wp2_with fail
  refine (HPon.out w4 q4 HR4).mono ?_
  rintro e w5 (⟨x5, q5, hx, rfl, HR5, HV5⟩ | ⟨er, at_, hx, rfl, HV5⟩)
  case inr =>
    have h := HZ.out
    rw [hx, bnd_err] at h
    have HE := hide_ h
    clear h hx
    unfold Flt
    go_wp2
    exact ⟨rfl, .inr ⟨er, at_, HE.out.symm, rfl, hide_ (HU4.out.to HV5.out)⟩⟩
  have h := HZ.out
  rw [hx, bnd_ok] at h
  dsimp only at h
  clear HZ
  have HZ := hide_ h
  have HU5 := hide_ (HU4.out.to HV5.out)
  have HK5 := hide_ (HK4.out.upd HV5.out (show ¬ w.heap.size = g by omega))
  clear h hx HR4 HU4 HK4 HV5
  go_wp2_with fail
  refine (HPos.out w5 q5 HR5).mono ?_
  rintro e w6 (⟨x6, q6, hx, rfl, HR6, HV6⟩ | ⟨er, at_, hx, rfl, HV6⟩)
  case inr =>
    have h := HZ.out
    rw [hx, bnd_err] at h
    have HE := hide_ h
    clear h hx
    unfold Flt
    go_wp2
    exact ⟨rfl, .inr ⟨er, at_, HE.out.symm, rfl, hide_ (HU5.out.to HV6.out)⟩⟩
  have h := HZ.out
  rw [hx, bnd_ok] at h
  dsimp only at h
  clear HZ
  have HZ := hide_ h
  have HU6 := hide_ (HU5.out.to HV6.out)
  have HK6 := hide_ (HK5.out.upd HV6.out (show ¬ w.heap.size = g by omega))
  clear h hx HR5 HU5 HK5 HV6
  obtain ⟨w7, hw7⟩ : ∃ wx, wx = w6.alloc (.cells #[.int .i64 x1, .int .i64 x2, .int .i64 x3, .int .i64 x4, .int .i64 x5, .int .i64 x6, .slice none 0 0] 39) := ⟨_, rfl⟩
  have hB7 : Below w6.heap.size w6 w7 := by rw [hw7]; exact below1 _ _
  obtain ⟨gf, hgf⟩ : ∃ gf, gf = w6.heap.size := ⟨_, rfl⟩
  have HF7 : Hid (Blk w7 gf 39 (frc (⟨x1, x2, x3, x4, x5, x6, []⟩, .slice none 0 0))) := hide_ (by rw [hw7, hgf]; exact Blk.newA w6 _ _)
  have HR7 := hide_ (HR6.out.later hB7)
  have HU7 := hide_ (HU6.out.then hB7)
  have HK7 := hide_ (HK6.out.later hB7)
  have hgfw : w.heap.size < gf := by rw [hgf]; exact HK6.out.lt
  clear hB7 HR6 HU6 HK6
  go_upto_region 2 with fail
  rw [← hw7]
  clear hw7
  rw [← hgf]
  clear hgf
  go_wp2_with fail
  refine (HNum.out w7 q6 HR7).mono ?_
  rintro e w8 (⟨x7, q7, hx, rfl, HR8, HV8⟩ | ⟨er, at_, hx, rfl, HV8⟩)
  case inr =>
    have h := HZ.out
    rw [hx, bnd_err] at h
    have HE := hide_ h
    clear h hx
    unfold Flt
    go_wp2
    exact ⟨rfl, .inr ⟨er, at_, HE.out.symm, rfl, hide_ (HU7.out.to HV8.out)⟩⟩
  have h := HZ.out
  rw [hx, bnd_ok] at h
  dsimp only at h
  have hx7 := numB HR7.out.bys HR7.out.at_ hx
  obtain ⟨K, rfl⟩ := Int.eq_ofNat_of_zero_le hx7.2.2.1
  rw [Int.toNat_natCast] at h
  have hK : K ≤ 1048576 := by omega
  clear HZ
  have HZ := hide_ h
  have HU8 := hide_ (HU7.out.to HV8.out)
  have HK8 := hide_ (HK7.out.upd HV8.out (show ¬ w.heap.size = g by omega))
  have HF8 := hide_ (HF7.out.upd HV8.out (show ¬ gf = g by omega))
  clear h hx hx7 HR7 HU7 HK7 HF7 HV8 HNum HPon
  go_wp2_with fail
  go_loopw [19] (fun x19 wr => ∃ (i : Nat) (q : Nat) (T : List Int) (v : Value), i ≤ K ∧ x19 = .int .i64 (i : Int) ∧ Hid (T.length = i) ∧ Hid (bnd (tabP b (K - i) q) (fun t => Except.ok (⟨x1, x2, x3, x4, x5, x6, T ++ t.1⟩, t.2)) = R) ∧ Hid (RdM wr g a c b q) ∧ Hid (Blk wr gf 39 (frc (⟨x1, x2, x3, x4, x5, x6, []⟩, v))) ∧ Hid (IOwn wr w.heap.size v T) ∧ Hid (Blk wr w.heap.size 39 (frc frz)) ∧ Hid (Upd (fun k => k = g) w wr)) (fun x19 _ => K - (intOf x19).toNat)
  case atStart => exact ⟨0, q7, [], .slice none 0 0, Nat.zero_le _, rfl, hide_ rfl, HZ, HR8, HF8, hide_ (IOwn.nil _ _), HK8, HU8⟩
  case round =>
    clear HZ HR8 HF8 HK8 HU8
    obtain ⟨i, q, T, v, hi, rfl, HTl, HZ, HRq, HF, HI, HK, HU⟩ := hrel
    generalize wr = wq at *
    obtain ⟨av, cv, rfl⟩ := HI.out.slice
    have hTl := HTl.out
    by_cases hlt : i < K
    · have hlt' : (i : Int) < K := by omega
      obtain ⟨n, hn⟩ : ∃ n, K - i = n + 1 := ⟨K - i - 1, by omega⟩
      have hn' : K - (i + 1) = n := by omega
      have HN := hide_ hn'
      rw [hn] at HZ
      have HP := hide_ (HPos.out wq.drew q (hide_ (HRq.out.later ((Below.refl wq.heap.size wq).drew))))
      have HS1 : Hid ((fun w' => w'.cell? ⟨gf, 6, none⟩ = some (.slice av T.length cv)) wq.drew) := hide_ (by have := HF.out.drew.cell 6; exact this)
      have l6 := HF.out.cell 6
      simp [frc] at l6
      have hIl : ∀ k, (Value.slice av T.length cv).ownBlock = some k → ¬ k = g := fun k hk e => by
        subst e
        exact absurd hk (HI.out.notF HRq.out.box (by decide))
      have hIf : ∀ k, (Value.slice av T.length cv).ownBlock = some k → ¬ k = gf := fun k hk e => by
        subst e
        exact absurd hk (HI.out.notF HF.out (by decide))
      have HIl := hide_ hIl
      have HIf := hide_ hIf
      clear hn hn' hIl hIf hTl
      go_wp2_with fail
      refine wp_region_last 7 (fun w' => w'.cell? ⟨gf, 6, none⟩ = some (.slice av T.length cv)) (by kernel_rfl) (HS1.out) (fun hHeld => ?_)
      refine wpAnyF_take [7] (by kernel_rfl) (i := 0) (v := ?vf1) rfl (by kernel_rfl) (by kernel_rfl) (by kernel_rfl) (fun _ _ _ h => h) (Or.inl ⟨by kernel_rfl, ?hyf1⟩) hHeld ?restf1
      case hyf1 => intro w' hSw; (try dsimp only at hSw); go_simp; try with_reducible rfl
      simp only [Act.put]
      try dsimp only
      refine wpAnyF_take [7] (by kernel_rfl) (i := 1) (v := ?vf2) rfl (by kernel_rfl) (by kernel_rfl) (by kernel_rfl) (fun _ _ _ h => h) (Or.inl ⟨by kernel_rfl, ?hyf2⟩) hHeld ?restf2
      case hyf2 => intro w' hSw; (try dsimp only at hSw); go_simp; try with_reducible rfl
      simp only [Act.put]
      try dsimp only
      refine wpAnyF_take [7] (by kernel_rfl) (i := 2) (v := ?vf3) rfl (by kernel_rfl) (by kernel_rfl) (by kernel_rfl) (fun _ _ _ h => h) (Or.inl ⟨by kernel_rfl, ?hyf3⟩) hHeld ?restf3
      case hyf3 => intro w' hSw; (try dsimp only at hSw); go_simp; try with_reducible rfl
      simp only [Act.put]
      try dsimp only
      refine wpAnyF_ready (rs := [3]) (by kernel_rfl) (by simp) ?_
      refine AllReadyF.cons rfl (fun K hK => ?_) AllReadyF.nil
      go_simp
      refine HP.out.mono ?_
      rintro e w4 hto
      rcases hto with ⟨x, q', hx, rfl, HR4, HU4⟩ | ⟨er, at_, hx, rfl, HU4⟩
      rotate_left
      · unfold Flt
        dsimp only
        have h := HZ.out
        rw [tab_err _ hx] at h
        have HE := hide_ h
        have HUe := hide_ (HU.out.to (((Upd.refl (fun k => k = g) wq).drew).to HU4.out))
        clear h hx
        exact ⟨rfl, .inr ⟨er, at_, HE.out.symm, rfl, HUe⟩⟩
      have h := HZ.out
      rw [tab_next _ hx] at h
      dsimp only at h
      rw [← HN.out] at h
      have HZ4 := hide_ h
      have hu4 : Upd (fun k => k = g) wq w4 := ((Upd.refl (fun k => k = g) wq).drew).to HU4.out
      have HF4 := hide_ (HF.out.upd hu4 (show ¬ gf = g by omega))
      have HK4 := hide_ (HK.out.upd hu4 (show ¬ w.heap.size = g by omega))
      have HI4 := hide_ (HI.out.upd hu4 HIl.out)
      have HUa := hide_ (HU.out.to hu4)
      have hs4 : w.heap.size ≤ w4.heap.size := HUa.out.size
      obtain ⟨gT, capT, w5', hr, ho, hu, hgT⟩ := HI4.out.push x (by have := HTl.out; omega) hs4
      have HAp := hide_ hr
      have HI5 := hide_ ho
      have HU5 := hide_ hu
      have hvl : ∀ k, (Value.slice av T.length cv).ownBlock = some k → w.heap.size ≤ k := fun k hk => (HI4.out.lies hk).1
      have HF5 := hide_ (HF4.out.upd hu (fun e => HIf.out _ e rfl))
      have HK5 := hide_ (HK4.out.upd hu (fun e => HI4.out.notF HK4.out (by decide) e))
      have HR5 := hide_ (HR4.out.upd hu (fun e => HIl.out _ e rfl) (fun _ y hy e => by
        have h1 := hvl _ e
        have h2 := HA.out y hy
        omega))
      have HUb := hide_ (HUa.out.trans hu (fun k hk e => by have := hvl k e; omega))
      have HS3 : Hid ((fun w' => w'.cell? ⟨gf, 6, none⟩ = some (.slice av T.length cv)) w4) := hide_ (HF4.out.cell 6)
      have HS4 : Hid ((fun w' => w'.cell? ⟨gf, 6, none⟩ = some (.slice av T.length cv)) (w4.alloc (.cells #[.int .i64 x] 3))) := hide_ ((HF4.out.alloc _).cell 6)
      have HS5 : Hid ((fun w' => w'.cell? ⟨gf, 6, none⟩ = some (.slice av T.length cv)) w5') := hide_ (HF5.out.cell 6)
      clear h hx hr ho hu hgT hu4 hs4 hvl
      dsimp only
      refine hK.out _ _ (HS3.out) (fun hHeld => ?_)
      clear hK K
      refine wpAnyF_ready (rs := [4]) (by kernel_rfl) (by simp) ?_
      refine AllReadyF.cons rfl (fun K hK => ?_) AllReadyF.nil
      go_simp
      refine hK.out _ _ (HS4.out) (fun hHeld => ?_)
      clear hK K
      refine wpAnyF_ready (rs := [5]) (by kernel_rfl) (by simp) ?_
      refine AllReadyF.cons rfl (fun K hK => ?_) AllReadyF.nil
      refine step_append_run rfl (.tmp 22) (.tmp 25) 37 37 rfl (v := .slice av T.length cv) (u := .slice (some ⟨w4.heap.size, 0, none⟩) 1 1) (by kernel_rfl) (by kernel_rfl) HAp.out ?_
      simp only [Act.put]
      refine hK.out _ _ (HS5.out) (fun hHeld => ?_)
      clear hK K
      refine wpAnyF_take [7] (by kernel_rfl) (i := 6) (v := ?vf4) rfl (by kernel_rfl) (by kernel_rfl) (by kernel_rfl) (fun _ _ _ h => h) (Or.inl ⟨by kernel_rfl, ?hyf4⟩) hHeld ?restf4
      case hyf4 => intro w' hSw; (try dsimp only at hSw); go_simp; try with_reducible rfl
      simp only [Act.put]
      try dsimp only
      refine wpAnyF_ready (rs := [7]) (by kernel_rfl) (by simp) ?_
      refine AllReadyF.last rfl (fun K hK => ?_)
      have l6 := HF5.out.cell 6; have z6 := HF5.out.frozen 6
      simp [frc] at l6
      go_simp
      refine hK.out _ _ ?_
      clear hK K
      refine wpAnyF_done (by kernel_rfl) ?_ _
      go_wp2_with fail
      have hset := (Upd.refl (fun k => k = gf) w5').set ⟨gf, 6, none⟩ (.slice (some ⟨gT, 0, none⟩) (T.length + 1) capT) (.inl rfl)
      have hr6 := HR5.out.upd hset (show ¬ g = gf by omega) (fun _ y hy e => by have := HA.out y hy; omega)
      have hk6 := HK5.out.upd hset (show ¬ w.heap.size = gf by omega)
      have hi6 := HI5.out.upd hset (fun k hk e => by subst e; exact absurd hk (HI5.out.notF HF5.out (by decide)))
      have hf6 := HF5.out.set 6 (.slice (some ⟨gT, 0, none⟩) (T.length + 1) capT)
      have hu6 := HUb.out.trans hset (fun k hk e => by omega)
      have HR6 := hide_ hr6
      have HK6 := hide_ hk6
      have HI6 := hide_ hi6
      have HF6 := hide_ hf6
      have HU6 := hide_ hu6
      clear hset hr6 hk6 hi6 hf6 hu6
      go_roundw
      case rel => exact ⟨i + 1, q', T ++ [x], .slice (some ⟨gT, 0, none⟩) (T.length + 1) capT, by omega, by go_num, hide_ (by have := HTl.out; simp; exact this), hide_ (by simp only [List.append_assoc, List.singleton_append]; exact HZ4.out), HR6, HF6, HI6, HK6, HU6⟩
      case measure => simp [intOf]; omega
    · obtain rfl : i = K := by omega
      rw [Nat.sub_self] at HZ
      have hz : R = .ok (⟨x1, x2, x3, x4, x5, x6, T⟩, q) := by
        have h := HZ.out
        rw [tabP, bnd_ok] at h
        dsimp only at h
        rw [List.append_nil] at h
        exact h.symm
      have HZe := hide_ hz
      have hkf := HF.out
      have l0 := hkf.cell 0; have l1 := hkf.cell 1; have l2 := hkf.cell 2; have l3 := hkf.cell 3; have l4 := hkf.cell 4; have l5 := hkf.cell 5; have l6 := hkf.cell 6
      have hkz := HK.out
      have m0 := hkz.cell 0; have m1 := hkz.cell 1; have m2 := hkz.cell 2; have m3 := hkz.cell 3; have m4 := hkz.cell 4; have m5 := hkz.cell 5; have m6 := hkz.cell 6
      have y0 := hkz.frozen 0; have y1 := hkz.frozen 1; have y2 := hkz.frozen 2; have y3 := hkz.frozen 3; have y4 := hkz.frozen 4; have y5 := hkz.frozen 5; have y6 := hkz.frozen 6
      simp [frc, frz, fr0] at l0 l1 l2 l3 l4 l5 l6 m0 m1 m2 m3 m4 m5 m6
      clear hz hkf hkz hTl
      go_wp2_with fail
      have hk7 := HK.out.set7 ⟨x1, x2, x3, x4, x5, x6, T⟩ (.slice av T.length cv)
      have hu7 := upd7 wq w.heap.size 0 ⟨x1, x2, x3, x4, x5, x6, T⟩ (.slice av T.length cv)
      have hs : w.heap.size < wq.heap.size := HK.out.lt
      refine retF rfl ⟨x1, x2, x3, x4, x5, x6, T⟩ _ rfl hk7 ?_
      have hi7 := HI.out.upd hu7 (fun k hk e => by subst e; exact absurd hk (HI.out.notF HK.out (by decide)))
      have hr7 := HRq.out.upd hu7 (show ¬ g = w.heap.size by omega) (fun _ x hx e => by have := HA.out x hx; omega)
      exact .inl ⟨⟨x1, x2, x3, x4, x5, x6, T⟩, q, av, cv, HZe.out, rfl, hide_ hr7, hide_ hi7, hide_ (HU.out.trans hu7 (fun k hk e => by omega))⟩
end Go.Proofs.Ytcmkdkocponpiaa

/- Frames: the reader's mark and stack. -/
namespace Go.Proofs.Ytcmkdkocponpiaa
open Go.RowKit
set_option linter.unusedVariables false

/-- What the reader's mark answers. -/
def MkRTo (w : World) (g : Nat) (a : Option Addr) (c : Nat) (b : List Int) (e : Ending) (w' : World) : Prop :=
  (b = [] ∧ e = Flt 20 0 ∧ Hid (Upd (fun k => k = g) w w')) ∨
  (b ≠ [] ∧ b.getD 0 0 ≠ 102 ∧ e = Flt 221 0 ∧ Hid (Upd (fun k => k = g) w w')) ∨
  (b ≠ [] ∧ b.getD 0 0 = 102 ∧ e = .returned (.tuple #[]) ∧ Hid (RdM w' g a c b 1) ∧ Hid (Upd (fun k => k = g) w w'))
set_option maxRecDepth 100000 in
set_option maxHeartbeats 8000000 in
theorem rmark_any (w : World) (g : Nat) (a : Option Addr) (c : Nat) (b : List Int) (hR : Hid (RdM w g a c b 0)) :
    Calls Try.prog 48 #[.pointer (some ⟨g, 0, none⟩)] w fun e w' => MkRTo w g a c b e w' := by
  have q0 := hR.out.box.cell 0; have q1 := hR.out.box.cell 1; have z1 := hR.out.box.frozen 1
  simp at q0 q1
  have HU := hide_ (Upd.refl (fun k => k = g) w)
  by_cases hb : b = []
  · have HG := hide_ (giveUp_any 20 0 w)
    have HB := hide_ hb
    rw [hb] at q0
    clear hb
    go_enter Try.func48, Try.ntmps48
    go_wp2_with fail
    refine HG.out.mono ?_
    rintro e w' ⟨rfl, rfl⟩
    unfold Flt
    go_wp2
    exact ⟨rfl, .inl ⟨HB.out, rfl, HU⟩⟩
  · have hl : 0 < b.length := by cases b with | nil => exact absurd rfl hb | cons x l => simp
    have hl0 : ((b.length : Int) == 0) = false := by simp; omega
    obtain ⟨gb, off, rfl, hgb, hcb⟩ := hR.out.row.open hl
    have hc0 := hcb 0 hl
    have hcm := hR.out.max
    have hbc := hR.out.cap
    obtain ⟨x, hx⟩ : ∃ x, b.getD 0 0 = x := ⟨_, rfl⟩
    rw [hx, Nat.add_zero] at hc0
    have HX := hide_ hx
    have HB := hide_ hb
    clear hb hcb hx hgb
    by_cases h102 : x = 102
    · have hx' : (x != 102) = false := by rw [h102]; rfl
      have HX2 := hide_ h102
      have HRs := hide_ (hR.out.step 1 (by omega))
      have HU2 := hide_ ((Upd.refl (fun k => k = g) w).set ⟨g, 1, none⟩ (.int .i64 1) (.inl rfl))
      clear h102
      go_enter Try.func48, Try.ntmps48
      go_wp2_with fail
      exact bodyPost_end (results_none rfl _ _ _) rfl (.inr (.inr ⟨HB.out, by rw [HX.out, HX2.out], rfl, HRs, HU2⟩))
    · have hx' : (x != 102) = true := by simpa using h102
      have HX2 := hide_ h102
      have HG := hide_ (giveUp_any 221 0 w)
      clear h102
      go_enter Try.func48, Try.ntmps48
      go_wp2_with fail
      refine HG.out.mono ?_
      rintro e w' ⟨rfl, rfl⟩
      unfold Flt
      go_wp2
      exact ⟨rfl, .inr (.inl ⟨HB.out, by rw [HX.out]; exact HX2.out, rfl, HU⟩)⟩
theorem frs_next {b : List Int} {n q q' : Nat} {x : Fr} {β : Type} (F : List Fr × Nat → Except (Int × Int) β) (hx : frP b q = .ok (x, q')) : bnd (frsP b (n + 1) q) F = bnd (frsP b n q') fun y => F (x :: y.1, y.2) := by
  rw [frsP, hx, bnd_ok]
  dsimp only
  cases frsP b n q' with
  | error e => rfl
  | ok y => rfl
theorem frs_err {b : List Int} {n q : Nat} {e : Int × Int} {β : Type} (F : List Fr × Nat → Except (Int × Int) β) (hx : frP b q = .error e) : bnd (frsP b (n + 1) q) F = .error e := by
  rw [frsP, hx, bnd_err, bnd_err]
/-- What the reader's stack answers. -/
def StRTo (w : World) (g : Nat) (R : Except (Int × Int) (List Fr × Int × Int)) (e : Ending) (w' : World) : Prop :=
  (∃ fs m h F gs, R = .ok (fs, m, h) ∧ e = .returned (.pointer (some ⟨gs, 0, none⟩)) ∧ Hid (Stk w' w.heap.size F gs fs m h) ∧ Hid (Upd (fun k => k = g) w w')) ∨
  (∃ er at_, R = .error (er, at_) ∧ e = Flt er at_ ∧ Hid (Upd (fun k => k = g) w w'))
set_option maxRecDepth 100000 in
set_option maxHeartbeats 16000000 in
theorem rstack_any (w : World) (g : Nat) (a : Option Addr) (c : Nat) (b : List Int) (hR : Hid (RdM w g a c b 0)) :
    Calls Try.prog 32 #[.pointer (some ⟨g, 0, none⟩)] w fun e w' => StRTo w g (ldP b) e w' := by
  obtain ⟨R, hRd⟩ : ∃ R, ldP b = R := ⟨_, rfl⟩
  rw [hRd]
  unfold ldP at hRd
  have HZ := hide_ hRd
  have HMk := hide_ (rmark_any w g a c b hR)
  have hgw : g < w.heap.size := hR.out.box.lt
  have hbmax := hR.out.max
  have hbcap := hR.out.cap
  have HBy := hide_ hR.out.bys
  have HAl : Hid (0 < b.length → ∀ x, a = some x → x.block < w.heap.size) := hide_ (fun hne x hx => by
    obtain ⟨gb, off, e, hgb, -⟩ := hR.out.row.open hne
    rw [e] at hx
    injection hx with hx
    subst hx
    exact hgb)
  clear hRd hR
  go_enter Try.func32, Try.ntmps32
  go_wp2_with fail
  refine HMk.out.mono ?_
  rintro e w1 (⟨hb, rfl, HV1⟩ | ⟨hb, hx, rfl, HV1⟩ | ⟨hb, hx, rfl, HR1, HV1⟩)
  · have h := HZ.out
    rw [if_pos hb] at h
    have HE := hide_ h
    clear h hb
    unfold Flt
    go_wp2
    exact ⟨rfl, .inr ⟨20, 0, HE.out.symm, rfl, HV1⟩⟩
  · have h := HZ.out
    rw [if_neg hb, if_pos hx] at h
    have HE := hide_ h
    clear h hb hx
    unfold Flt
    go_wp2
    exact ⟨rfl, .inr ⟨221, 0, HE.out.symm, rfl, HV1⟩⟩
  have h := HZ.out
  rw [if_neg hb, if_neg (fun h => h hx)] at h
  clear HZ
  have HZ := hide_ h
  have hne : 0 < b.length := by cases b with | nil => exact absurd rfl hb | cons x l => simp
  have HA : Hid (∀ x, a = some x → x.block < w.heap.size) := hide_ (HAl.out hne)
  have HNum : Hid (∀ (w' : World) (q : Nat) (lo hi : Int), 0 ≤ lo → lo ≤ 4611686018427387905 → 0 ≤ hi → hi ≤ 4611686018427387905 → Hid (RdM w' g a c b q) → Calls Try.prog 49 #[.pointer (some ⟨g, 0, none⟩), .int .i64 lo, .int .i64 hi] w' fun e w'' => NumTo w' g a c b (numP b lo hi q) e w'') := hide_ (fun w' q lo hi h1 h2 h3 h4 h => number_any w' g a c b q lo hi h hne h1 h2 h3 h4)
  have HFrm : Hid (∀ (w' : World) (q : Nat), Hid (RdM w' g a c b q) → Calls Try.prog 50 #[.pointer (some ⟨g, 0, none⟩)] w' fun e w'' => FrmTo w' g a c b (frP b q) e w'') := hide_ (fun w' q h => frame_any w' g a c b q h hne)
  clear h hb hx HMk HAl
  go_wp2_with fail
  refine (HNum.out w1 1 1 1048576 (by decide) (by decide) (by decide) (by decide) HR1).mono ?_
  rintro e w2 (⟨m, q2, hx, rfl, HR2, HV2⟩ | ⟨er, at_, hx, rfl, HV2⟩)
  case inr =>
    have h := HZ.out
    rw [hx, bnd_err] at h
    have HE := hide_ h
    clear h hx
    unfold Flt
    go_wp2
    exact ⟨rfl, .inr ⟨er, at_, HE.out.symm, rfl, hide_ (HV1.out.to HV2.out)⟩⟩
  have h := HZ.out
  rw [hx, bnd_ok] at h
  dsimp only at h
  have hm := numB HR1.out.bys HR1.out.at_ hx
  obtain ⟨hm1, hm2, -⟩ := hm
  clear HZ
  have HZ := hide_ h
  have HU2 := hide_ (HV1.out.to HV2.out)
  obtain ⟨gs, hgs⟩ : ∃ gs, gs = w2.heap.size := ⟨_, rfl⟩
  obtain ⟨w3, hw3⟩ : ∃ wx, wx = w2.alloc (.cells #[.slice none 0 0, .int .i64 m, .int .i64 0] 71) := ⟨_, rfl⟩
  have hB3 : Below w2.heap.size w2 w3 := by rw [hw3]; exact below1 _ _
  have HS3 : Hid (Blk w3 gs 71 [.slice none 0 0, .int .i64 m, .int .i64 0]) := hide_ (by rw [hw3, hgs]; exact Blk.newA w2 _ _)
  have HR3 := hide_ (HR2.out.later hB3)
  have HU3 := hide_ (HU2.out.then hB3)
  have hgsw : w.heap.size ≤ gs := by rw [hgs]; exact HU2.out.size
  clear h hx HR1 HR2 HV1 HV2 HU2 hB3
  go_upto_region 3 with fail
  rw [← hw3]
  clear hw3
  rw [← hgs]
  clear hgs
  have s1 := HS3.out.cell 1
  simp at s1
  go_wp2_with fail
  refine (HNum.out w3 q2 0 m (by decide) (by decide) (by omega) (by omega) HR3).mono ?_
  rintro e w4 (⟨k, q4, hx, rfl, HR4, HV4⟩ | ⟨er, at_, hx, rfl, HV4⟩)
  case inr =>
    have h := HZ.out
    rw [hx, bnd_err] at h
    have HE := hide_ h
    clear h hx
    unfold Flt
    go_wp2
    exact ⟨rfl, .inr ⟨er, at_, HE.out.symm, rfl, hide_ (HU3.out.to HV4.out)⟩⟩
  have h := HZ.out
  rw [hx, bnd_ok] at h
  dsimp only at h
  have hk := numB HR3.out.bys HR3.out.at_ hx
  obtain ⟨hk1, hk2, -⟩ := hk
  obtain ⟨K, rfl⟩ := Int.eq_ofNat_of_zero_le hk1
  rw [Int.toNat_natCast] at h
  clear HZ
  have HZ := hide_ h
  have HU4 := hide_ (HU3.out.to HV4.out)
  have HS4 := hide_ (HS3.out.upd HV4.out (show ¬ gs = g by omega))
  clear h hx HR3 HS3 HU3 HV4 s1
  have s1 := HS4.out.cell 1
  simp at s1
  go_wp2_with fail
  refine (HNum.out w4 q4 (K : Int) m (by omega) (by omega) (by omega) (by omega) HR4).mono ?_
  rintro e w5 (⟨h', q5, hx, rfl, HR5, HV5⟩ | ⟨er, at_, hx, rfl, HV5⟩)
  case inr =>
    have h := HZ.out
    rw [hx, bnd_err] at h
    have HE := hide_ h
    clear h hx
    unfold Flt
    go_wp2
    exact ⟨rfl, .inr ⟨er, at_, HE.out.symm, rfl, hide_ (HU4.out.to HV5.out)⟩⟩
  have h := HZ.out
  rw [hx, bnd_ok] at h
  dsimp only at h
  have hh := numB HR4.out.bys HR4.out.at_ hx
  obtain ⟨hh1, hh2, -⟩ := hh
  clear HZ
  have HZ := hide_ h
  have HU5 := hide_ (HU4.out.to HV5.out)
  have HS5 := hide_ (HS4.out.upd HV5.out (show ¬ gs = g by omega))
  clear h hx HR4 HS4 HU4 HV5 s1
  have s2 := HS5.out.cell 2; have z2 := HS5.out.frozen 2
  simp at s2
  have hset := (Upd.refl (fun k => k = gs) w5).set ⟨gs, 2, none⟩ (.int .i64 h') (.inl rfl)
  have HS6 := hide_ (HS5.out.set 2 (.int .i64 h'))
  have HR6 := hide_ (HR5.out.upd hset (show ¬ g = gs by omega) (fun _ y hy e => by have := HA.out y hy; omega))
  have HU6 := hide_ (HU5.out.trans hset (fun k hk e => by omega))
  clear hset HS5 HR5 HU5
  go_wp2_with fail
  go_loopw [28] (fun x28 wr => ∃ (i : Nat) (q : Nat) (P : List (Fr × Value)) (v : Value), i ≤ K ∧ x28 = .int .i64 (i : Int) ∧ Hid (P.length = i) ∧ Hid (bnd (frsP b (K - i) q) (fun t => if t.2 < b.length then .error (124, (t.2 : Int)) else Except.ok (P.map (·.1) ++ t.1, m, h')) = R) ∧ Hid (RdM wr g a c b q) ∧ Hid (Blk wr gs 71 [v, .int .i64 m, .int .i64 h']) ∧ Hid (FOwn wr w.heap.size v P) ∧ Hid (∀ p ∈ P, frB p.1 = true) ∧ Hid (Upd (fun k => k = g) w wr)) (fun x28 _ => K - (intOf x28).toNat)
  case atStart => exact ⟨0, q5, [], .slice none 0 0, Nat.zero_le _, rfl, hide_ rfl, HZ, HR6, HS6, hide_ (FOwn.nil _ _), hide_ (fun p hp => (by cases hp)), HU6⟩
  case round =>
    clear HZ HR6 HS6 HU6 HNum
    obtain ⟨i, q, P, v, hi, rfl, HPl, HZ, HRq, HS, HO, HRt, HU⟩ := hrel
    generalize wr = wq at *
    obtain ⟨av, cv, rfl, -⟩ := HO.out.slice
    by_cases hlt : i < K
    · have hlt' : (i : Int) < K := by omega
      obtain ⟨n, hn⟩ : ∃ n, K - i = n + 1 := ⟨K - i - 1, by omega⟩
      have hn' : K - (i + 1) = n := by omega
      have HN := hide_ hn'
      rw [hn] at HZ
      have HP := hide_ (HFrm.out wq.drew q (hide_ (HRq.out.later ((Below.refl wq.heap.size wq).drew))))
      have HS1 : Hid ((fun w' => w'.cell? ⟨gs, 0, none⟩ = some (.slice av P.length cv)) wq.drew) := hide_ (by have := HS.out.drew.cell 0; exact this)
      have l0 := HS.out.cell 0
      simp at l0
      have hbs : w.heap.size ≤ wq.heap.size := HU.out.size
      have HVn : Hid (∀ k, (Value.slice av P.length cv).ownBlock = some k → ¬ k = g ∧ ¬ k = gs) := hide_ (fun k hk => ⟨fun e => by subst e; exact HO.out.rowNe HRq.out.box (by decide) hk, fun e => by subst e; exact HO.out.rowNe HS.out (by decide) hk⟩)
      have HTn : Hid (∀ p ∈ P, ∀ k, p.2.ownBlock = some k → ¬ k = g) := hide_ (fun p hp k hk e => by subst e; exact HO.out.tbNe HRq.out.box (by decide) p hp hk)
      have HTl : Hid (∀ p ∈ P, ∀ k, p.2.ownBlock = some k → k < wq.heap.size) := hide_ (fun p hp k hk => ((HO.out.tb p hp).lies hk).2)
      clear hn hn'
      go_wp2_with fail
      refine wp_region_last 11 (fun w' => w'.cell? ⟨gs, 0, none⟩ = some (.slice av P.length cv)) (by kernel_rfl) (HS1.out) (fun hHeld => ?_)
      refine wpAnyF_take [11] (by kernel_rfl) (i := 0) (v := ?vf1) rfl (by kernel_rfl) (by kernel_rfl) (by kernel_rfl) (fun _ _ _ h => h) (Or.inl ⟨by kernel_rfl, ?hyf1⟩) hHeld ?restf1
      case hyf1 => intro w' hSw; (try dsimp only at hSw); go_simp; try with_reducible rfl
      simp only [Act.put]
      try dsimp only
      refine wpAnyF_take [11] (by kernel_rfl) (i := 1) (v := ?vf2) rfl (by kernel_rfl) (by kernel_rfl) (by kernel_rfl) (fun _ _ _ h => h) (Or.inl ⟨by kernel_rfl, ?hyf2⟩) hHeld ?restf2
      case hyf2 => intro w' hSw; (try dsimp only at hSw); go_simp; try with_reducible rfl
      simp only [Act.put]
      try dsimp only
      refine wpAnyF_take [11] (by kernel_rfl) (i := 2) (v := ?vf3) rfl (by kernel_rfl) (by kernel_rfl) (by kernel_rfl) (fun _ _ _ h => h) (Or.inl ⟨by kernel_rfl, ?hyf3⟩) hHeld ?restf3
      case hyf3 => intro w' hSw; (try dsimp only at hSw); go_simp; try with_reducible rfl
      simp only [Act.put]
      try dsimp only
      refine wpAnyF_take [11] (by kernel_rfl) (i := 3) (v := ?vf4) rfl (by kernel_rfl) (by kernel_rfl) (by kernel_rfl) (fun _ _ _ h => h) (Or.inl ⟨by kernel_rfl, ?hyf4⟩) hHeld ?restf4
      case hyf4 => intro w' hSw; (try dsimp only at hSw); go_simp; try with_reducible rfl
      simp only [Act.put]
      try dsimp only
      refine wpAnyF_take [11] (by kernel_rfl) (i := 4) (v := ?vf5) rfl (by kernel_rfl) (by kernel_rfl) (by kernel_rfl) (fun _ _ _ h => h) (Or.inl ⟨by kernel_rfl, ?hyf5⟩) hHeld ?restf5
      case hyf5 => intro w' hSw; (try dsimp only at hSw); go_simp; try with_reducible rfl
      simp only [Act.put]
      try dsimp only
      refine wpAnyF_take [11] (by kernel_rfl) (i := 5) (v := ?vf6) rfl (by kernel_rfl) (by kernel_rfl) (by kernel_rfl) (fun _ _ _ h => h) (Or.inl ⟨by kernel_rfl, ?hyf6⟩) hHeld ?restf6
      case hyf6 => intro w' hSw; (try dsimp only at hSw); go_simp; try with_reducible rfl
      simp only [Act.put]
      try dsimp only
      refine wpAnyF_ready (rs := [6]) (by kernel_rfl) (by simp) ?_
      refine AllReadyF.cons rfl (fun K hK => ?_) AllReadyF.nil
      go_simp
      refine HP.out.mono ?_
      rintro e w4 hto
      rcases hto with ⟨f, q', a4, c4, hx, rfl, HR4, HI4, HU4⟩ | ⟨er, at_, hx, rfl, HU4⟩
      rotate_left
      · unfold Flt
        dsimp only
        have h := HZ.out
        rw [frs_err _ hx] at h
        have HE := hide_ h
        have HUe := hide_ (HU.out.to (((Upd.refl (fun k => k = g) wq).drew).to HU4.out))
        clear h hx
        exact ⟨rfl, .inr ⟨er, at_, HE.out.symm, rfl, HUe⟩⟩
      have h := HZ.out
      rw [frs_next _ hx] at h
      dsimp only at h
      rw [← HN.out] at h
      have HZ4 := hide_ h
      have HFr : Hid (frB f = true) := hide_ (frBk HBy.out HRq.out.at_ hx).1
      have hu4 : Upd (fun k => k = g) wq w4 := ((Upd.refl (fun k => k = g) wq).drew).to HU4.out
      have HS4 := hide_ (HS.out.upd hu4 (show ¬ gs = g by omega))
      have HO4 := hide_ (HO.out.upd hu4 (fun k hk => (HVn.out k hk).1) HTn.out)
      have HUa := hide_ (HU.out.to hu4)
      have hs4 : w.heap.size ≤ w4.heap.size := HUa.out.size
      obtain ⟨gF, capF, w5', hr, ho, hu, hgT⟩ := HO4.out.push f (own_base HI4.out (show w.heap.size ≤ wq.drew.heap.size from hbs)) (fun p hp k hk h2 => by
        have h3 := HTl.out p hp k hk
        have h4 : wq.heap.size ≤ k := (HI4.out.lies h2).1
        omega) (by have := HPl.out; omega) hs4
      have HAp := hide_ hr
      have HO5 := hide_ ho
      have HS5 := hide_ (HS4.out.upd hu (fun e => (HVn.out _ e).2 rfl))
      have hvl : ∀ k, (Value.slice av P.length cv).ownBlock = some k → w.heap.size ≤ k := fun k hk => (HO4.out.row.lt k hk).1
      have HR5 := hide_ (HR4.out.upd hu (fun e => (HVn.out _ e).1 rfl) (fun _ y hy e => by
        have h1 := hvl _ e
        have h2 := HA.out y hy
        omega))
      have HUb := hide_ (HUa.out.trans hu (fun k hk e => by have := hvl k e; omega))
      have HS3 : Hid ((fun w' => w'.cell? ⟨gs, 0, none⟩ = some (.slice av P.length cv)) w4) := hide_ (HS4.out.cell 0)
      have HS4' : Hid ((fun w' => w'.cell? ⟨gs, 0, none⟩ = some (.slice av P.length cv)) (w4.alloc (.cells #[.int .i64 f.r, .int .i64 f.a, .int .i64 f.b, .int .i64 f.e, .int .i64 f.n, .int .i64 f.x, .slice a4 f.T.length c4] 39))) := hide_ ((HS4.out.alloc _).cell 0)
      have HS5' : Hid ((fun w' => w'.cell? ⟨gs, 0, none⟩ = some (.slice av P.length cv)) w5') := hide_ (HS5.out.cell 0)
      clear h hx hr ho hu hgT hu4 hs4 hvl
      dsimp only
      refine hK.out _ _ (HS3.out) (fun hHeld => ?_)
      clear hK K
      refine wpAnyF_ready (rs := [7]) (by kernel_rfl) (by simp) ?_
      refine AllReadyF.cons rfl (fun K hK => ?_) AllReadyF.nil
      go_simp
      refine hK.out _ _ (HS4'.out) (fun hHeld => ?_)
      clear hK K
      refine wpAnyF_ready (rs := [8]) (by kernel_rfl) (by simp) ?_
      refine AllReadyF.cons rfl (fun K hK => ?_) AllReadyF.nil
      refine step_append_run rfl (.tmp 34) (.tmp 37) 22 22 rfl (v := .slice av P.length cv) (u := .slice (some ⟨w4.heap.size, 0, none⟩) 1 1) (by kernel_rfl) (by kernel_rfl) HAp.out ?_
      simp only [Act.put]
      refine hK.out _ _ (HS5'.out) (fun hHeld => ?_)
      clear hK K
      refine wpAnyF_take [11, 10] (by kernel_rfl) (i := 9) (v := ?vf7) rfl (by kernel_rfl) (by kernel_rfl) (by kernel_rfl) (fun _ _ _ h => h) (Or.inl ⟨by kernel_rfl, ?hyf7⟩) hHeld ?restf7
      case hyf7 => intro w' hSw; (try dsimp only at hSw); go_simp; try with_reducible rfl
      simp only [Act.put]
      try dsimp only
      refine wpAnyF_take [11] (by kernel_rfl) (i := 10) (v := ?vf8) rfl (by kernel_rfl) (by kernel_rfl) (by kernel_rfl) (fun _ _ _ h => h) (Or.inl ⟨by kernel_rfl, ?hyf8⟩) hHeld ?restf8
      case hyf8 => intro w' hSw; (try dsimp only at hSw); go_simp; try with_reducible rfl
      simp only [Act.put]
      try dsimp only
      refine wpAnyF_ready (rs := [11]) (by kernel_rfl) (by simp) ?_
      refine AllReadyF.last rfl (fun K hK => ?_)
      have l0' := HS5.out.cell 0; have z0' := HS5.out.frozen 0
      simp at l0'
      go_simp
      refine hK.out _ _ ?_
      clear hK K
      refine wpAnyF_done (by kernel_rfl) ?_ _
      go_wp2_with fail
      have hset := (Upd.refl (fun k => k = gs) w5').set ⟨gs, 0, none⟩ (.slice (some ⟨gF, 0, none⟩) (P.length + 1) capF) (.inl rfl)
      have hr6 := HR5.out.upd hset (show ¬ g = gs by omega) (fun _ y hy e => by have := HA.out y hy; omega)
      have ho6 := HO5.out.upd hset (fun k hk e => by subst e; exact HO5.out.rowNe HS5.out (by decide) hk) (fun p hp k hk e => by subst e; exact HO5.out.tbNe HS5.out (by decide) p hp hk)
      have hs6 := HS5.out.set 0 (.slice (some ⟨gF, 0, none⟩) (P.length + 1) capF)
      have hu6 := HUb.out.trans hset (fun k hk e => by omega)
      have HR6 := hide_ hr6
      have HO6 := hide_ ho6
      have HS6 := hide_ hs6
      have HU6 := hide_ hu6
      clear hset hr6 ho6 hs6 hu6
      go_roundw
      case rel => exact ⟨i + 1, q', P ++ [(f, .slice a4 f.T.length c4)], .slice (some ⟨gF, 0, none⟩) (P.length + 1) capF, by omega, by go_num, hide_ (by have := HPl.out; simp; exact this), hide_ (by simp only [List.map_append, List.map_cons, List.map_nil, List.append_assoc, List.singleton_append]; exact HZ4.out), HR6, HS6, HO6, hide_ (fun p hp => by
        rcases List.mem_append.1 hp with hp | hp
        · exact HRt.out p hp
        · simp only [List.mem_singleton] at hp
          subst hp
          exact HFr.out), HU6⟩
      case measure => simp [intOf]; omega
    · obtain rfl : i = K := by omega
      rw [Nat.sub_self] at HZ
      have hz : (if q < b.length then Except.error (124, (q : Int)) else Except.ok (P.map (·.1), m, h')) = R := by
        have h := HZ.out
        rw [frsP, bnd_ok] at h
        dsimp only at h
        rw [List.append_nil] at h
        exact h
      have r0 := HRq.out.box.cell 0; have r1 := HRq.out.box.cell 1
      simp at r0 r1
      have hUd : Hid (Upd (fun k => k = g) w wq.drew) := hide_ HU.out.drew
      by_cases hend : q < b.length
      · rw [if_pos hend] at hz
        have HE := hide_ hz
        have hend' : decide ((q : Int) < b.length) = true := decide_eq_true (by omega)
        have HG := hide_ (giveUp_any 124 (q : Int) wq.drew)
        clear hz
        go_wp2_with fail
        go_region
        go_wp2_with fail
        refine HG.out.mono ?_
        rintro e w' ⟨rfl, rfl⟩
        unfold Flt
        go_wp2
        exact ⟨rfl, .inr ⟨_, _, HE.out.symm, rfl, hUd⟩⟩
      · rw [if_neg hend] at hz
        have HE := hide_ hz
        have hend' : decide ((q : Int) < b.length) = false := decide_eq_false (by omega)
        clear hz
        go_wp2_with fail
        go_region
        go_wp2_with fail
        go_ret
        have hM : StM wq w.heap.size gs (.slice av P.length cv) P m h' := ⟨HS.out, HO.out, hgsw, ⟨hm1, hm2⟩, by have := HPl.out; omega, ⟨by have := HPl.out; omega, hh2⟩, HRt.out⟩
        exact .inl ⟨_, m, h', fun k => skB gs (.slice av P.length cv) P k, gs, HE.out.symm, rfl, hide_ ⟨_, P, hM.later ((Below.refl _ _).drew), rfl, fun k h => h, fun k h => hM.lies h⟩, hUd⟩
end Go.Proofs.Ytcmkdkocponpiaa

/- Frames: Load. -/
namespace Go.Proofs.Ytcmkdkocponpiaa
open Go.RowKit
set_option linter.unusedVariables false

theorem run_loadVar_ptr {P : Program} (w : World) (g : Nat) (ty e : TypeId) (v : Value) (hu : P.underlying ty = some (.pointer e)) (hc : w.cell? ⟨g, 0, none⟩ = some v) : (loadVar ty ⟨g, 0, none⟩).run P w = .ok v w := by
  have hagg : (isAgg ty).run P w = .ok false w := by
    unfold isAgg
    rw [Sem.run_bind, run_underlying hu w]
    rfl
  simp [loadVar, Sem.run_bind, hagg, hc]
theorem results_pc {P : Program} {fn : Func} {p q : Tmp} {t1 t2 e : TypeId} (h : fn.results = #[.cell p t1, .cell q t2]) (tmps : Array Value) (w : World) (g1 g2 : Nat) (v : Value) (c2 : Array Value) (f2 : Nat × Nat) (d2 : TypeDesc)
    (hp : tmps.getD p undef = .pointer (some ⟨g1, 0, none⟩)) (hq : tmps.getD q undef = .pointer (some ⟨g2, 0, none⟩)) (hg1 : w.cell? ⟨g1, 0, none⟩ = some v) (hg2 : w.heap[g2]? = some (.cells c2 t2 f2))
    (hu1 : P.underlying t1 = some (.pointer e))
    (hu2 : P.underlying t2 = some d2) (hd2 : (match d2 with | .struct _ | .array _ _ => true | _ => false) = true) (hi2 : (P.info? t2).map (·.size) = some c2.size) :
    (results fn tmps).run P w = .ok (.tuple #[v, .agg c2]) w := by
  have hp' : tmps[p]?.getD undef = .pointer (some ⟨g1, 0, none⟩) := by simpa using hp
  have hq' : tmps[q]?.getD undef = .pointer (some ⟨g2, 0, none⟩) := by simpa using hq
  simp only [results, h]
  simp [hp', hq', asAddr, Result.andThen, run_loadVar_ptr w g1 t1 e v hu1 hg1, run_loadVar_row w g2 t2 t2 c2 f2 d2 hg2 hu2 hd2 hi2]
set_option maxRecDepth 100000 in
set_option maxHeartbeats 4000000 in
theorem catch_idle (a b : Addr) (w : World) :
    CallsD Try.prog 31 #[.pointer (some a), .pointer (some b)] .returning w fun e u' w' => e = .returned (.tuple #[]) ∧ u' = .returning ∧ w' = w := by
  refine callsD_of_wpS Try.func31 rfl fun c₀ cs hu => ?_
  simp only [Try.ntmps31, List.size_toArray, List.length_cons, List.length_nil, Nat.reduceAdd, Nat.reduceSub, Array.replicate_succ, Array.replicate_zero, List.push_toArray, List.append_toArray, List.nil_append, List.cons_append]
  apply wpS_seq
  apply wpS_region
  simp [wpOpsS, go_sem, recoverD, hu, Exit.thenS]
  refine wpS_of_wp ?_
  have hnil : ∀ w : World, (binOp BinOp.neq 20 .nilIface .nilIface).run Try.prog w = .ok (.bool false) w := fun _ => by kernel_rfl
  go_wp2
  cases c₀
  simp_all [bodyPostS, results, Try.results31]
set_option maxRecDepth 100000 in
set_option maxHeartbeats 4000000 in
theorem catch_panic (bs bf : Nat) (c a : Int) (x y0 y1 : Value) (w : World) (hS : Blk w bs 25 [x]) (hF : Blk w bf 31 [y0, y1]) :
    CallsD Try.prog 31 #[.pointer (some ⟨bs, 0, none⟩), .pointer (some ⟨bf, 0, none⟩)] (.panicking [{ v := .iface 31 (.agg #[.int .i64 c, .int .i64 a]), recovered := false }]) w fun e u' w' => e = .returned (.tuple #[]) ∧ u' = .panicking [{ v := .iface 31 (.agg #[.int .i64 c, .int .i64 a]), recovered := true }] ∧ w' = (((w.setCell ⟨bs, 0, none⟩ (.pointer none)).setCell ⟨bf, 0, none⟩ (.int .i64 c)).setCell ⟨bf, 1, none⟩ (.int .i64 a)).drew := by
  refine callsD_of_wpS Try.func31 rfl fun c₀ cs hu => ?_
  simp only [Try.ntmps31, List.size_toArray, List.length_cons, List.length_nil, Nat.reduceAdd, Nat.reduceSub, Array.replicate_succ, Array.replicate_zero, List.push_toArray, List.append_toArray, List.nil_append, List.cons_append]
  apply wpS_seq
  apply wpS_region
  simp [wpOpsS, go_sem, recoverD, hu, Exit.thenS]
  refine wpS_of_wp ?_
  have hnil : ∀ w : World, (binOp BinOp.neq 20 (.iface 31 (.agg #[.int .i64 c, .int .i64 a])) .nilIface).run Try.prog w = .ok (.bool true) w := fun _ => by kernel_rfl
  have hta : ∀ w : World, (Instr.typeAssert (.iface 31 (.agg #[.int .i64 c, .int .i64 a])) 20 31 false).run Try.prog w = .ok (.agg #[.int .i64 c, .int .i64 a]) w := fun _ => by kernel_rfl
  have hne : ¬ bs = bf := fun e => by subst e; exact absurd (blk_type hS hF) (by decide)
  have hne' : ¬ bf = bs := fun e => hne e.symm
  have s0 := hS.cell 0
  have f0 := hF.cell 0; have f1 := hF.cell 1
  have z0 := hS.frozen 0; have z1 := hF.frozen 0; have z2 := hF.frozen 1
  simp at s0 f0 f1
  go_wp2
  go_region
  go_wp2
  simp [bodyPostS, results, Try.results31]
/-- What Load answers. -/
def LoadTo (b : List Int) (w : World) (e : Ending) (w' : World) : Prop :=
  (∃ fs m h F gs, ldP b = .ok (fs, m, h) ∧ e = .returned (.tuple #[.pointer (some ⟨gs, 0, none⟩), .agg #[.int .i64 0, .int .i64 0]]) ∧ Hid (Stk w' w.heap.size F gs fs m h) ∧ Hid (Below w.heap.size w w')) ∨
  (∃ er at_, ldP b = .error (er, at_) ∧ e = .returned (.tuple #[.pointer none, .agg #[.int .i64 er, .int .i64 at_]]) ∧ Hid (Below w.heap.size w w'))
theorem retL {R : Ending → World → Prop} {tmps : Array Value} {b1 b2 : Nat} {w : World} {v x y : Value} (hp : tmps.getD 2 undef = .pointer (some ⟨b1, 0, none⟩)) (hq : tmps.getD 3 undef = .pointer (some ⟨b2, 0, none⟩)) (h1 : Blk w b1 25 [v]) (h2 : Blk w b2 31 [x, y]) (hR : R (.returned (.tuple #[v, .agg #[x, y]])) w) :
    Leaves Try.prog Try.f9 tmps R [] .returning w :=
  ⟨_, results_pc rfl _ _ _ _ v #[x, y] _ _ hp hq (h1.cell 0) h2 Try.underlying25 Try.underlying31 rfl (by show _ = some 2; kernel_rfl), hR⟩
set_option maxRecDepth 100000 in
set_option maxHeartbeats 8000000 in
theorem load_any (a : Option Addr) (c : Nat) (b : List Int) (w : World) (hrow : Hid (Row .u8 w a b)) (hnil : a = none → c = 0) (hby : Hid (Bys b)) (hcap : b.length ≤ c) (hmax : c ≤ 9223372036854775807) :
    Calls Try.prog 9 #[.slice a b.length c] w fun e w' => LoadTo b w e w' := by
  have hmf : ∀ (fn : Fn) (first cap : Array Value) (w : World), (Instr.makeFunc fn first cap).run Try.prog w = .ok (.func fn first cap) w := fun _ _ _ _ => rfl
  obtain ⟨R, hRd⟩ : ∃ R, ldP b = R := ⟨_, rfl⟩
  have HRd := hide_ hRd
  obtain ⟨wa, hwa⟩ : ∃ wa, wa = (w.alloc (.cells #[.pointer none] 25)).alloc (.cells #[.int .i64 0, .int .i64 0] 31) := ⟨_, rfl⟩
  obtain ⟨k1, k2⟩ : Blk wa w.heap.size 25 [.pointer none] ∧ Blk wa (w.heap.size + 1) 31 [.int .i64 0, .int .i64 0] := by rw [hwa]; exact blk2 w _ _ _ _
  have hBa : Below w.heap.size w wa := by rw [hwa]; exact below2 _ _ _
  have hsz : wa.heap.size = w.heap.size + 2 := by rw [hwa]; simp
  obtain ⟨w1, hw1⟩ : ∃ w1, w1 = wa.alloc (.cells #[.slice a b.length c, .int .i64 0] 74) := ⟨_, rfl⟩
  have hB1 : Below wa.heap.size wa w1 := by rw [hw1]; exact below1 _ _
  have hk3 : Blk w1 (w.heap.size + 2) 74 [.slice a b.length c, .int .i64 0] := by rw [hw1, ← hsz]; exact Blk.newA wa _ _
  have hrd : RdM w1 (w.heap.size + 2) a c b 0 := ⟨hk3, (hrow.out.later hBa).later hB1, hnil, Nat.zero_le _, hby.out, hcap, hmax, fun h0 x hx e => by
    obtain ⟨gb, off, e2, hgb, -⟩ := hrow.out.open h0
    rw [e2] at hx
    injection hx with hx
    subst hx
    simp at e
    omega⟩
  have HSt := hide_ (rstack_any w1 (w.heap.size + 2) a c b (hide_ hrd))
  have HK1 := hide_ (k1.later hB1)
  have HK2 := hide_ (k2.later hB1)
  have HB1 := hide_ (below_to hBa hB1)
  have hs1 : w.heap.size + 2 < w1.heap.size := hk3.lt
  rw [hRd] at HSt
  clear k1 k2 hBa hB1 hk3 hrd hRd hrow hsz
  go_enter_defers Try.func9, Try.ntmps9
  go_upto_region 3 with fail
  rw [hwa] at hw1
  rw [← hw1]
  clear hw1 hwa
  go_wp2_with fail
  have n1 : ¬ w.heap.size = w.heap.size + 1 := by omega
  have n2 : ¬ w.heap.size + 1 = w.heap.size := by omega
  have hle : w.heap.size ≤ w.heap.size + 1 := by omega
  refine HSt.out.mono ?_
  rintro e w2 (⟨fs, m, h, F, gs, hx, rfl, HS, HU⟩ | ⟨er, at_, hx, rfl, HU⟩)
  · have HX := hide_ hx
    have K1 := hide_ (HK1.out.upd HU.out (show ¬ w.heap.size = w.heap.size + 2 by omega))
    have K2 := hide_ (HK2.out.upd HU.out (show ¬ w.heap.size + 1 = w.heap.size + 2 by omega))
    have HB2 := hide_ (HB1.out.trans (HU.out.below w.heap.size HB1.out.size (fun k hk => by omega)))
    have c0 := K1.out.cell 0; have x0 := K1.out.frozen 0
    have d0 := K2.out.cell 0; have d1 := K2.out.cell 1
    have y0 := K2.out.frozen 0; have y1 := K2.out.frozen 1
    simp at c0 d0 d1
    clear hx
    go_wp2
    refine leaves_cons (f := 31) (args := #[.pointer (some ⟨w.heap.size, 0, none⟩), .pointer (some ⟨w.heap.size + 1, 0, none⟩)]) (by simp) (by simp [go_sem]) ?_
    refine (catch_idle _ _ _).mono ?_
    rintro e u' w6 ⟨rfl, rfl, rfl⟩
    have q1 := ((K1.out.set 0 (.pointer (some ⟨gs, 0, none⟩))).other ⟨w.heap.size + 1, 0, none⟩ (.int .i64 0) n1).other ⟨w.heap.size + 1, 1, none⟩ (.int .i64 0) n1
    have q2 := ((K2.out.other ⟨w.heap.size, 0, none⟩ (.pointer (some ⟨gs, 0, none⟩)) n2).set 0 (.int .i64 0)).set 1 (.int .i64 0)
    have hb := below_set (below_set (below_set HB2.out w.heap.size 0 (.pointer (some ⟨gs, 0, none⟩)) (Nat.le_refl _)) (w.heap.size + 1) 0 (.int .i64 0) hle) (w.heap.size + 1) 1 (.int .i64 0) hle
    have hu1 : Upd (fun k => k = w.heap.size ∨ k = w.heap.size + 1) w2 (((w2.setCell ⟨w.heap.size, 0, none⟩ (.pointer (some ⟨gs, 0, none⟩))).setCell ⟨w.heap.size + 1, 0, none⟩ (.int .i64 0)).setCell ⟨w.heap.size + 1, 1, none⟩ (.int .i64 0)) := by
      have h1 := (Upd.refl (fun k => k = w.heap.size ∨ k = w.heap.size + 1) w2).set ⟨w.heap.size, 0, none⟩ (.pointer (some ⟨gs, 0, none⟩)) (.inl (.inl rfl))
      have h2 := h1.set ⟨w.heap.size + 1, 0, none⟩ (.int .i64 0) (.inl (.inr rfl))
      exact h2.set ⟨w.heap.size + 1, 1, none⟩ (.int .i64 0) (.inl (.inr rfl))
    have hs := HS.out.upd hu1 (fun k hk e => by have := (HS.out.lt hk).1; omega)
    have hs' : Stk (((w2.setCell ⟨w.heap.size, 0, none⟩ (.pointer (some ⟨gs, 0, none⟩))).setCell ⟨w.heap.size + 1, 0, none⟩ (.int .i64 0)).setCell ⟨w.heap.size + 1, 1, none⟩ (.int .i64 0)) w.heap.size F gs fs m h := hs.base (by omega)
    show Leaves _ _ _ _ [] .returning _
    exact retL rfl rfl q1 q2 (.inl ⟨fs, m, h, F, gs, by rw [HRd.out]; exact HX.out, rfl, hide_ hs', hide_ hb⟩)
  · have HX := hide_ hx
    have K1 := hide_ (HK1.out.upd HU.out (show ¬ w.heap.size = w.heap.size + 2 by omega))
    have K2 := hide_ (HK2.out.upd HU.out (show ¬ w.heap.size + 1 = w.heap.size + 2 by omega))
    have HB2 := hide_ (HB1.out.trans (HU.out.below w.heap.size HB1.out.size (fun k hk => by omega)))
    clear hx
    unfold Flt
    go_wp2
    refine leaves_cons (f := 31) (args := #[.pointer (some ⟨w.heap.size, 0, none⟩), .pointer (some ⟨w.heap.size + 1, 0, none⟩)]) (by simp) (by simp [go_sem]) ?_
    refine (catch_panic _ _ _ _ _ _ _ _ K1.out K2.out).mono ?_
    rintro e u' w6 ⟨rfl, rfl, rfl⟩
    have q1 := (((K1.out.set 0 (.pointer none)).other ⟨w.heap.size + 1, 0, none⟩ (.int .i64 er) n1).other ⟨w.heap.size + 1, 1, none⟩ (.int .i64 at_) n1).drew
    have q2 := (((K2.out.other ⟨w.heap.size, 0, none⟩ (.pointer none) n2).set 0 (.int .i64 er)).set 1 (.int .i64 at_)).drew
    have hb := (below_set (below_set (below_set HB2.out w.heap.size 0 (.pointer none) (Nat.le_refl _)) (w.heap.size + 1) 0 (.int .i64 er) hle) (w.heap.size + 1) 1 (.int .i64 at_) hle).drew
    show Leaves _ _ _ _ [] .returning _
    exact retL rfl rfl q1 q2 (.inr ⟨er, at_, by rw [HRd.out]; exact HX.out, rfl, hide_ hb⟩)
end Go.Proofs.Ytcmkdkocponpiaa

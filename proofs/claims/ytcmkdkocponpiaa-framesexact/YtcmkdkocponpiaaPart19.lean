import Derived.Test.YtcmkdkocponpiaaPart12
import Derived.Test.YtcmkdkocponpiaaPart01
import Derived.Test.YtcmkdkocponpiaaPart17
import Derived.Laws.EntriesVeiled
import Derived.Laws.OwnMore
import Derived.ArgAppend
import Derived.Test.YtcmkdkocponpiaaPart16
import Derived.BigQuiet

/- Frames: bytes under way; Save's closure; plain: a stack's bytes. -/
namespace Go.Proofs.Ytcmkdkocponpiaa
open Go.RowKit
set_option linter.unusedVariables false

/-- A box of bytes of the call's own. -/
def Bx (w : World) (B gb : Nat) (l : List Int) : Prop := B ≤ gb ∧ ∃ v, Blk w gb 23 [v] ∧ w.ownsRow B 5 1 v l.length (cellsL .u8 l)
/-- What a call leaves alone. -/
def Kb (B : Nat) (w w' : World) : Prop := Below B w w' ∧ ∀ (k : Nat) (t : TypeId) (ys : List Value), t ≠ 5 → t ≠ 23 → Blk w k t ys → Blk w' k t ys
theorem Kb.refl (B : Nat) (w : World) : Kb B w w := ⟨Below.refl _ _, fun _ _ _ _ _ h => h⟩
theorem Kb.trans {B : Nat} {w w' w'' : World} (h : Kb B w w') (k : Kb B w' w'') : Kb B w w'' := ⟨h.1.trans k.1, fun j t ys h1 h2 h4 => k.2 j t ys h1 h2 (h.2 j t ys h1 h2 h4)⟩
theorem Kb.of_below {B : Nat} {w w' : World} (hB : B ≤ w.heap.size) (h : Below w.heap.size w w') : Kb B w w' := ⟨h.mono hB, fun j t ys _ _ h4 => h4.later h⟩
theorem Kb.of_upd {B : Nat} {S : Nat → Prop} {w w' : World} (hB : B ≤ w.heap.size) (h : Upd S w w') (hs : ∀ k, S k → B ≤ k) (ht : ∀ k, S k → ∃ t ys, Blk w k t ys ∧ (t = 5 ∨ t = 23)) : Kb B w w' := by
  refine ⟨h.below B hB hs, fun j t ys h1 h2 h4 => h4.upd h (fun hj => ?_)⟩
  obtain ⟨t', ys', k1, k2⟩ := ht j hj
  have := blk_type h4 k1
  subst this
  rcases k2 with k2 | k2
  · exact h1 k2
  · exact h2 k2
theorem Bx.later {w w' : World} {B gb : Nat} {l : List Int} (h : Bx w B gb l) (hB : Below w.heap.size w w') : Bx w' B gb l := by
  obtain ⟨h1, v, k1, k2⟩ := h
  exact ⟨h1, v, k1.later hB, ownS_upd k2 (Upd.of_below (S := fun _ => False) hB) (fun _ _ h => h)⟩
theorem Bx.size {w : World} {B gb : Nat} {l : List Int} (h : Bx w B gb l) : B ≤ w.heap.size := by
  obtain ⟨h1, v, k1, _⟩ := h
  exact Nat.le_trans h1 (Nat.le_of_lt k1.lt)
/-- Bytes appended, out of the memory of a row. -/
theorem Bx.app {w w1 : World} {B gb : Nat} {l r : List Int} {v : Value} (hB : B ≤ gb) (k1 : Blk w gb 23 [v]) (k2 : w.ownsRow B 5 1 v l.length (cellsL .u8 l)) (hb : Below w.heap.size w w1) (a : Option Addr) (m cap : Nat) (hr : r.length = m) (hrow : Row .u8 w1 a r) (hnil : a = none → cap = 0) (hl : l.length + r.length ≤ 100000000000000) :
    ∃ v' w2, (Builtin.append_ #[23, 23] 23 #[v, .slice a m cap]).run Try.prog w1 = .ok v' w2 ∧ (∃ a' n' c', v' = .slice a' n' c') ∧ Blk w2 gb 23 [v] ∧ Bx (w2.setCell ⟨gb, 0, none⟩ v') B gb (l ++ r) ∧ Kb B w (w2.setCell ⟨gb, 0, none⟩ v') := by
  have hBw : B ≤ w.heap.size := Nat.le_trans hB (Nat.le_of_lt k1.lt)
  have j1 := k1.later hb
  have j2 := ownS_upd k2 (Upd.of_below (S := fun _ => False) hb) (fun _ _ h => h)
  obtain ⟨v', w2, h1, h2, h3⟩ := run_app E23 w1 23 B v l.length l j2 a m cap r hr hrow hnil (by unfold maxLen; omega) (by omega) (Nat.le_trans hBw hb.size)
  have hnb : ¬ v.ownBlock = some gb := fun e => by
    obtain ⟨zs, hz⟩ := ownS_type j2 e
    exact absurd (blk_type j1 hz) (by decide)
  have hu : Upd (fun k => v.ownBlock = some k) w1 w2 := (Upd.refl (fun k => v.ownBlock = some k) w1).grown h3 (fun k e => .inl e)
  have i1 := j1.upd hu hnb
  have e2 : w2.ownsRow B 5 1 v' (l ++ r).length (cellsL .u8 (l ++ r)) := by rw [List.length_append, hr]; exact h2
  have hU3 : Upd (fun k => k = gb) w2 (w2.setCell ⟨gb, 0, none⟩ v') := (Upd.refl _ w2).set _ _ (.inl rfl)
  obtain ⟨a', c', e', -⟩ := own_open e2 rfl
  refine ⟨v', w2, h1, ⟨a', _, c', e'⟩, i1, ⟨hB, v', by have := i1.set 0 v'; simpa using this, ownS_upd e2 hU3 (fun k hk e => ?_)⟩, ?_⟩
  · subst e
    obtain ⟨zs, hz⟩ := ownS_type e2 hk
    exact absurd (blk_type i1 hz) (by decide)
  · refine (Kb.of_below hBw hb).trans (Kb.trans (w' := w2) ?_ ?_)
    · refine Kb.of_upd (Nat.le_trans hBw hb.size) hu (fun k e => (World.ownsRow.lt j2 k e).1) (fun k e => ?_)
      obtain ⟨zs, hz⟩ := ownS_type j2 e
      exact ⟨_, _, hz, .inl rfl⟩
    · exact Kb.of_upd (Nat.le_trans hBw (Nat.le_trans hb.size hu.size)) hU3 (fun k e => by subst e; exact hB) (fun k e => by subst e; exact ⟨_, _, i1, .inr rfl⟩)
set_option maxRecDepth 100000 in
set_option maxHeartbeats 4000000 in
theorem put_c (B gb : Nat) (l : List Int) (n : Nat) (w : World) (hn : n ≤ 4611686018427387905) (hl : l.length ≤ 50000000000000) (H : Hid (Bx w B gb l)) :
    Calls Try.prog 29 #[.int .i64 (n : Int), .pointer (some ⟨gb, 0, none⟩)] w fun e w' => e = .returned (.tuple #[]) ∧ Hid (Bx w' B gb (l ++ form n)) ∧ Hid (Kb B w w') := by
  obtain ⟨hB, v, k1, k2⟩ := H.out
  have hu : IntKind.u64.wrap (n : Int) = n := by rw [IntKind.wrap_u64]; omega
  have HPut : Hid (∀ w', Calls Try.prog 30 #[.int .u64 (n : Int)] w' fun e w'' => ∃ g, e = .returned (.slice (some ⟨g, 0, none⟩) (form n).length (form n).length) ∧ w'.heap.size ≤ g ∧ Blk w'' g 5 (cellsL .u8 (form n)) ∧ Below w'.heap.size w' w'') := hide_ (fun w' => put_any n w' (by omega))
  have hf10 := form_ten n (by omega)
  have K1 := hide_ k1
  have K2 := hide_ k2
  obtain ⟨av, cv, hv, -⟩ := own_open k2 rfl
  subst hv
  have HSS : Hid (∀ w', Below w.heap.size w w' → (fun w' => w'.cell? ⟨gb, 0, none⟩ = some (.slice av l.length cv)) w') := hide_ (fun w' hb => by have := (K1.out.later hb).cell 0; simpa using this)
  clear k1 k2
  go_enter Try.func29, Try.ntmps29
  go_upto_region 0 with fail
  --R0
  refine wp_region_last 5 (fun w' => w'.cell? ⟨gb, 0, none⟩ = some (.slice av l.length cv)) (by kernel_rfl) (HSS.out _ ((Below.refl w.heap.size w).drew)) (fun hHeld => ?_)
  refine wpAnyF_take [5] (by kernel_rfl) (i := 0) (v := ?vf1) rfl (by kernel_rfl) (by kernel_rfl) (by kernel_rfl) (fun _ _ _ h => h) (Or.inl ⟨by kernel_rfl, ?hyf1⟩) hHeld ?restf1
  case hyf1 => intro w' hSw; (try dsimp only at hSw); go_simp; try with_reducible rfl
  simp only [Act.put]
  refine wpAnyF_take [5] (by kernel_rfl) (i := 1) (v := ?vf2) rfl (by kernel_rfl) (by kernel_rfl) (by kernel_rfl) (fun _ _ _ h => h) (Or.inl ⟨by kernel_rfl, ?hyf2⟩) hHeld ?restf2
  case hyf2 => intro w' hSw; (try dsimp only at hSw); go_simp; try with_reducible rfl
  simp only [Act.put]
  refine wpAnyF_take [5] (by kernel_rfl) (i := 2) (v := ?vf3) rfl (by kernel_rfl) (by kernel_rfl) (by kernel_rfl) (fun _ _ _ h => h) (Or.inl ⟨by kernel_rfl, ?hyf3⟩) hHeld ?restf3
  case hyf3 => intro w' hSw; (try dsimp only at hSw); go_simp; try with_reducible rfl
  simp only [Act.put]
  refine wpAnyF_ready (rs := [3]) (by kernel_rfl) (by simp) ?_
  refine AllReadyF.cons rfl (fun K hK => ?_) AllReadyF.nil
  go_simp
  refine (HPut.out _).mono ?_
  rintro e wC ⟨g, rfl, hg, hbk, hbC⟩
  dsimp only
  have HBC := hide_ (below_to ((Below.refl w.heap.size w).drew) hbC)
  have HRow : Hid (Row .u8 wC (some ⟨g, 0, none⟩) (form n)) := hide_ hbk.row
  clear hbC hbk hg
  refine hK.out _ _ (HSS.out _ HBC.out) (fun hHeld => ?_)
  clear hK K
  refine wpAnyF_ready (rs := [4]) (by kernel_rfl) (by simp) ?_
  refine AllReadyF.cons rfl (fun K hK => ?_) AllReadyF.nil
  obtain ⟨v', w2, hr, ⟨a', n', c', hv'⟩, i1, hx, hk⟩ := Bx.app hB K1.out K2.out HBC.out (some ⟨g, 0, none⟩) (form n).length (form n).length rfl HRow.out (fun h => by cases h) (by omega)
  subst hv'
  have HR := hide_ hr
  have HX := hide_ hx
  have HK := hide_ hk
  have I1 := hide_ i1
  clear hr hx hk i1
  refine step_append_run rfl (.tmp 3) (.tmp 6) 23 23 rfl (v := .slice av l.length cv) (u := .slice (some ⟨g, 0, none⟩) (form n).length (form n).length) (by kernel_rfl) (by kernel_rfl) HR.out ?_
  simp only [Act.put]
  refine hK.out _ _ (by have := I1.out.cell 0; simpa using this) (fun hHeld => ?_)
  clear hK K
  refine wpAnyF_ready (rs := [5]) (by kernel_rfl) (by simp) ?_
  refine AllReadyF.last rfl (fun K hK => ?_)
  have c0 := I1.out.cell 0; have z0 := I1.out.frozen 0
  simp at c0
  go_simp
  refine hK.out _ _ ?_
  clear hK K
  refine wpAnyF_done (by kernel_rfl) ?_ _
  clear HSS
  go_wp2
  exact bodyPost_end (results_none rfl _ _ _) rfl ⟨rfl, HX, HK⟩
  --/R0
/-- A number's form. -/
def fm (x : Int) : List Int := form x.toNat
theorem fm_len (x : Int) (h : x ≤ 4611686018427387905) : (fm x).length ≤ 10 := form_ten _ (by omega)
theorem putx (B gb : Nat) (l : List Int) (x : Int) (w : World) (h0 : 0 ≤ x) (hx : x ≤ 4611686018427387905) (hl : l.length ≤ 50000000000000) (H : Hid (Bx w B gb l)) :
    Calls Try.prog 29 #[.int .i64 x, .pointer (some ⟨gb, 0, none⟩)] w fun e w' => e = .returned (.tuple #[]) ∧ Hid (Bx w' B gb (l ++ fm x)) ∧ Hid (Kb B w w') := by
  obtain ⟨n, rfl⟩ := Int.eq_ofNat_of_zero_le h0
  exact put_c B gb l n w (by omega) hl H
/-! ### A stack's bytes -/
def hd6 (f : Fr) : List Int := [f.r, f.a, f.b, f.e + 1, f.n + 1, f.x, (f.T.length : Int)]
def svF (f : Fr) : List Int := (hd6 f).flatMap fm ++ f.T.flatMap fm
def svH (k : Nat) (m h : Int) : List Int := [102] ++ fm m ++ fm k ++ fm h
def sv (fs : List Fr) (m h : Int) : List Int := svH fs.length m h ++ fs.flatMap svF
theorem flat_len (l : List Int) (hl : ∀ x ∈ l, x ≤ 4611686018427387905) : (l.flatMap fm).length ≤ l.length * 10 := by
  induction l with
  | nil => simp
  | cons x l ih =>
    have h1 := fm_len x (hl x (by simp))
    have h2 := ih (fun y hy => hl y (by simp [hy]))
    rw [List.flatMap_cons, List.length_append, List.length_cons]
    omega
theorem hd6_in {f : Fr} (h : frB f = true) : ∀ x ∈ hd6 f, 0 ≤ x ∧ x ≤ 4611686018427387905 := by
  obtain ⟨h1, -, h3⟩ := frB_is h
  obtain ⟨a1, a2, a3, a4, a5, a6⟩ := hdB_is h3
  have b1 := posB_is a1; have b2 := posB_is a2; have b3 := posB_is a3; have b4 := ponB_is a4; have b5 := ponB_is a5; have b6 := posB_is a6
  intro x hx
  simp only [hd6, List.mem_cons, List.not_mem_nil, or_false] at hx
  rcases hx with rfl | rfl | rfl | rfl | rfl | rfl | rfl <;> omega
theorem tab_in {f : Fr} (h : frB f = true) : ∀ x ∈ f.T, 0 ≤ x ∧ x ≤ 4611686018427387905 := fun x hx => by
  have := posB_is ((frB_is h).2.1 x hx)
  omega
theorem svF_len {f : Fr} (h : frB f = true) : (svF f).length ≤ 10485830 := by
  have h1 := flat_len (hd6 f) (fun x hx => (hd6_in h x hx).2)
  have h2 := flat_len f.T (fun x hx => (tab_in h x hx).2)
  have h3 := (frB_is h).1
  have h4 : (hd6 f).length = 7 := rfl
  unfold svF
  rw [List.length_append]
  omega
theorem svs_len (fs : List Fr) (h : ∀ f ∈ fs, frB f = true) : (fs.flatMap svF).length ≤ fs.length * 10485830 := by
  induction fs with
  | nil => simp
  | cons f fs ih =>
    have h1 := svF_len (h f (by simp))
    have h2 := ih (fun g hg => h g (by simp [hg]))
    rw [List.flatMap_cons, List.length_append, List.length_cons]
    omega
theorem svH_len (k : Nat) (m h : Int) (hk : k ≤ 1048576) (hm : m ≤ 1048576) (hh : h ≤ 1048576) : (svH k m h).length ≤ 31 := by
  have h1 := fm_len m (by omega)
  have h2 := fm_len (k : Int) (by omega)
  have h3 := fm_len h (by omega)
  simp only [svH, List.length_append, List.length_singleton]
  omega
end Go.Proofs.Ytcmkdkocponpiaa

/- A half of the book: lists that were handed out, each with a mark of its own, and longer by one. -/
namespace Go.Proofs.Ytcmkdkocponpiaa
open Go.RowKit
set_option linter.unusedVariables false

/-- e, c: the lists' elements, their cells; te: the lists' own type. -/
structure Half (te e c : Nat) (mk : Nat → Nat → List Value) (B : Nat) (w : World) (vL vM : Value) (N : Nat) (F G : Nat → Value) (s : Nat → Nat) : Prop where
  rL : RowE te B w vL N F
  rM : RowE te B w vM N G
  l : ∀ j, j < N → w.ownsRow B e c (F j) (s j) (mk (s j) j)
  m : ∀ j, j < N → w.ownsRow B e c (G j) (s j + 1) (mk (s j + 1) j)
  ne : ∀ q, vL.ownBlock = some q → vM.ownBlock ≠ some q
  small : ∀ j, j < N → s j ≤ 20000000000000
def FK (vL vM : Value) (N : Nat) (F G : Nat → Value) (q : Nat) : Prop := vL.ownBlock = some q ∨ vM.ownBlock = some q ∨ ∃ j, j < N ∧ ((F j).ownBlock = some q ∨ (G j).ownBlock = some q)
section
variable {te e c B : Nat} {mk : Nat → Nat → List Value} {w w' : World} {vL vM : Value} {N : Nat} {F G : Nat → Value} {s : Nat → Nat}
theorem Half.upd {S : Nat → Prop} (b : Half te e c mk B w vL vM N F G s) (hu : Upd S w w') (hs : ∀ q, FK vL vM N F G q → ¬ S q) : Half te e c mk B w' vL vM N F G s :=
  ⟨b.rL.upd hu (fun q hq => hs q (.inl hq)), b.rM.upd hu (fun q hq => hs q (.inr (.inl hq))), fun j hj => ownS_upd (b.l j hj) hu (fun q hq => hs q (.inr (.inr ⟨j, hj, .inl hq⟩))), fun j hj => ownS_upd (b.m j hj) hu (fun q hq => hs q (.inr (.inr ⟨j, hj, .inr hq⟩))), b.ne, b.small⟩
theorem Half.later (b : Half te e c mk B w vL vM N F G s) (hB : Below w.heap.size w w') : Half te e c mk B w' vL vM N F G s := b.upd (Upd.of_below (S := fun _ => False) hB) (fun _ _ h => h)
theorem Half.lt (b : Half te e c mk B w vL vM N F G s) (q : Nat) (hq : FK vL vM N F G q) : B ≤ q ∧ q < w.heap.size := by
  rcases hq with hq | hq | ⟨j, hj, hq | hq⟩
  · exact b.rL.lt q hq
  · exact b.rM.lt q hq
  · exact (b.l j hj).lt q hq
  · exact (b.m j hj).lt q hq
theorem Half.none (te e c : Nat) (mk : Nat → Nat → List Value) (B : Nat) (w : World) : Half te e c mk B w (.slice none 0 0) (.slice none 0 0) 0 (fun _ => .slice none 0 0) (fun _ => .slice none 0 0) (fun _ => 0) :=
  ⟨RowE.nil _ _ _ _, RowE.nil _ _ _ _, fun j hj => by omega, fun j hj => by omega, (fun q hq => by cases hq), fun j hj => by omega⟩
/-- Its blocks are of two types. -/
theorem Half.type (b : Half te e c mk B w vL vM N F G s) {q : Nat} (hq : FK vL vM N F G q) : ∃ ys, Blk w q te ys ∨ Blk w q e ys := by
  rcases hq with hq | hq | ⟨j, hj, hq | hq⟩
  · obtain ⟨ys, h⟩ := ownS_type b.rL hq; exact ⟨ys, .inl h⟩
  · obtain ⟨ys, h⟩ := ownS_type b.rM hq; exact ⟨ys, .inl h⟩
  · obtain ⟨ys, h⟩ := ownS_type (b.l j hj) hq; exact ⟨ys, .inr h⟩
  · obtain ⟨ys, h⟩ := ownS_type (b.m j hj) hq; exact ⟨ys, .inr h⟩
theorem Half.off (b : Half te e c mk B w vL vM N F G s) {q : Nat} {t : TypeId} {xs : List Value} (hq : Blk w q t xs) (h1 : t ≠ te) (h2 : t ≠ e) : ¬ FK vL vM N F G q := fun h => by
  obtain ⟨ys, h3 | h3⟩ := b.type h
  · exact h1 (blk_type hq h3)
  · exact h2 (blk_type hq h3)
theorem Half.is (b : Half te e c mk B w vL vM N F G s) : (∃ a k, vL = .slice a N k) ∧ ∃ a k, vM = .slice a N k := by
  constructor
  · rcases b.rL.2 with ⟨rfl, h0⟩ | ⟨g, cap, cur, rfl, _⟩
    · exact ⟨Option.none, 0, by rw [h0]⟩
    · exact ⟨_, _, rfl⟩
  · rcases b.rM.2 with ⟨rfl, h0⟩ | ⟨g, cap, cur, rfl, _⟩
    · exact ⟨Option.none, 0, by rw [h0]⟩
    · exact ⟨_, _, rfl⟩
end
/-- One list more: the first row. -/
theorem half_one {te e c B t2 : Nat} {mk : Nat → Nat → List Value} {w : World} {vL vM : Value} {N : Nat} {F G : Nat → Value} {s : Nat → Nat} (b : Half te e c mk B w vL vM N F G s) (hne : te ≠ e) (ht2 : Try.prog.underlying t2 = some (.slice te)) (hi2 : (Try.prog.info? te).map (fun i => (i.zero, i.size, i.bytes)) = some (some (.slice none 0 0), 1, 24))
    (hB : B ≤ w.heap.size) (hN : N ≤ 10000) (v : Value) (k : Nat) (hv : w.ownsRow B e c v k (mk k N)) (hone : v.oneCell' = true) :
    ∃ g1 c1 w1, (Builtin.append_ #[t2, t2] t2 #[vL, .slice (some ⟨w.heap.size, 0, none⟩) 1 1]).run Try.prog (w.alloc (.cells #[v] te)) = .ok (.slice (some ⟨g1, 0, none⟩) (N + 1) c1) w1 ∧
      Upd (fun q => vL.ownBlock = some q) w w1 ∧ (vL.ownBlock = some g1 ∨ w.heap.size ≤ g1) ∧ RowE te B w1 (.slice (some ⟨g1, 0, none⟩) (N + 1) c1) (N + 1) (ext F N v) ∧ RowE te B w1 vM N G ∧ (∀ j, j < N → w1.ownsRow B e c (F j) (s j) (mk (s j) j)) ∧ (∀ j, j < N → w1.ownsRow B e c (G j) (s j + 1) (mk (s j + 1) j)) ∧ w1.ownsRow B e c v k (mk k N) ∧ vM.ownBlock ≠ some g1 := by
  have f1 : RowE te B w vL N (ext F N v) := b.rL.congr (fun j hj => (ext_ne _ _ _ _ (by omega)).symm)
  obtain ⟨g1, c1, w1, r1, p1, u1, l1⟩ := f1.push ht2 (z := .slice none 0 0) (bytes := 24) hi2 rfl (by rw [ext_at]; exact hone) (by unfold maxLen; omega) (by omega) hB t2
  rw [ext_at] at r1
  have far : ∀ {x : Value} {n : Nat} {xs : List Value}, w.ownsRow B e c x n xs → w1.ownsRow B e c x n xs := fun h => ownS_upd h u1 fun q hq e1 => by
    obtain ⟨ys, h1⟩ := ownS_type h hq
    obtain ⟨zs, h2⟩ := ownS_type f1 e1
    exact hne (blk_type h2 h1)
  refine ⟨g1, c1, w1, r1, u1, l1, p1, b.rM.upd u1 (fun q hq e1 => b.ne q e1 hq), fun j hj => far (b.l j hj), fun j hj => far (b.m j hj), far hv, fun e1 => ?_⟩
  rcases l1 with h | h
  · exact b.ne g1 h e1
  · have := (b.rM.lt g1 e1).2; omega
/-- The list, longer by one; the second row. -/
theorem half_two {te e c B t2 g1 c1 bytes : Nat} {z : Value} {mk : Nat → Nat → List Value} {w : World} {vM : Value} {N : Nat} {F G : Nat → Value} {s : Nat → Nat} (hne : te ≠ e) (ht2 : Try.prog.underlying t2 = some (.slice te)) (hi2 : (Try.prog.info? te).map (fun i => (i.zero, i.size, i.bytes)) = some (some (.slice none 0 0), 1, 24))
    (ht : Try.prog.underlying te = some (.slice e)) (hi : (Try.prog.info? e).map (fun i => (i.zero, i.size, i.bytes)) = some (some z, c, bytes)) (hzs : z.cells.size = c) (hc : 0 < c) (hB : B ≤ w.heap.size) (hN : N ≤ 10000) (v : Value) (k : Nat) (hk : k ≤ 20000000000000) (hby : (k + 1) * bytes ≤ 140737488355328)
    (rL : RowE te B w (.slice (some ⟨g1, 0, none⟩) (N + 1) c1) (N + 1) (ext F N v)) (rM : RowE te B w vM N G) (hl : ∀ j, j < N → w.ownsRow B e c (F j) (s j) (mk (s j) j)) (hm : ∀ j, j < N → w.ownsRow B e c (G j) (s j + 1) (mk (s j + 1) j)) (hv : w.ownsRow B e c v k (mk k N)) (hvn : vM.ownBlock ≠ some g1) (hsm : ∀ j, j < N → s j ≤ 20000000000000)
    (hap : ∀ j, j < N → ∀ q, v.ownBlock = some q → (F j).ownBlock ≠ some q ∧ (G j).ownBlock ≠ some q) (x : List Value) (hx : x.length = c) (hx1 : ∀ u ∈ x, u.oneCell' = true) (hmk : mk k N ++ x = mk (k + 1) N) :
    ∃ g3 c3 w3 g4 c4 w4, (Builtin.append_ #[te, te] te #[v, .slice (some ⟨w.heap.size, 0, none⟩) 1 1]).run Try.prog (w.alloc (.cells x.toArray e)) = .ok (.slice (some ⟨g3, 0, none⟩) (k + 1) c3) w3 ∧ Upd (fun q => v.ownBlock = some q) w w3 ∧
      (Builtin.append_ #[t2, t2] t2 #[vM, .slice (some ⟨w3.heap.size, 0, none⟩) 1 1]).run Try.prog (w3.alloc (.cells #[.slice (some ⟨g3, 0, none⟩) (k + 1) c3] te)) = .ok (.slice (some ⟨g4, 0, none⟩) (N + 1) c4) w4 ∧
      Half te e c mk B w4 (.slice (some ⟨g1, 0, none⟩) (N + 1) c1) (.slice (some ⟨g4, 0, none⟩) (N + 1) c4) (N + 1) (ext F N v) (ext G N (.slice (some ⟨g3, 0, none⟩) (k + 1) c3)) (ext s N k) ∧ Upd (fun q => v.ownBlock = some q ∨ vM.ownBlock = some q) w w4 ∧ (vM.ownBlock = some g4 ∨ w.heap.size ≤ g4) ∧ (v.ownBlock = some g3 ∨ w.heap.size ≤ g3) := by
  obtain ⟨g3, c3, w3, r3, o3, hv3, u3, l3⟩ := run_pushK (P := Try.prog) (t := te) (e := e) (z := z) (bytes := bytes) ht hi hzs hc w te hv x hx hx1 (by unfold maxLen; omega) hby hB
  rw [hmk] at o3
  have hB3 : B ≤ w3.heap.size := Nat.le_trans hB u3.size
  have offt : ∀ {y : Value} {n : Nat} {xs : List Value}, w.ownsRow B te 1 y n xs → ∀ q, y.ownBlock = some q → ¬ v.ownBlock = some q := fun h q hq e1 => by
    obtain ⟨ys, h1⟩ := ownS_type h hq
    obtain ⟨zs, h2⟩ := ownS_type hv e1
    exact hne (blk_type h1 h2)
  have f3 : RowE te B w3 vM N (ext G N (.slice (some ⟨g3, 0, none⟩) (k + 1) c3)) := (rM.upd u3 (offt rM)).congr (fun j hj => (ext_ne _ _ _ _ (by omega)).symm)
  obtain ⟨g4, c4, w4, r4, p4, u4, l4⟩ := f3.push ht2 (z := .slice none 0 0) (bytes := 24) hi2 rfl (by rw [ext_at]; rfl) (by unfold maxLen; omega) (by omega) hB3 t2
  rw [ext_at] at r4
  have offe : ∀ {y : Value} {n : Nat} {xs : List Value}, w3.ownsRow B e c y n xs → ∀ q, y.ownBlock = some q → ¬ vM.ownBlock = some q := fun h q hq e1 => by
    obtain ⟨ys, h1⟩ := ownS_type h hq
    obtain ⟨zs, h2⟩ := ownS_type f3 e1
    exact hne (blk_type h2 h1)
  have rL3 : RowE te B w3 (.slice (some ⟨g1, 0, none⟩) (N + 1) c1) (N + 1) (ext F N v) := rL.upd u3 (offt rL)
  have far : ∀ j, j < N → w3.ownsRow B e c (F j) (s j) (mk (s j) j) ∧ w3.ownsRow B e c (G j) (s j + 1) (mk (s j + 1) j) := fun j hj =>
    ⟨ownS_upd (hl j hj) u3 fun q hq e1 => (hap j hj q e1).1 hq, ownS_upd (hm j hj) u3 fun q hq e1 => (hap j hj q e1).2 hq⟩
  have hl4 : vM.ownBlock = some g4 ∨ w.heap.size ≤ g4 := l4.imp id fun h => Nat.le_trans u3.size h
  refine ⟨g3, c3, w3, g4, c4, w4, r3, u3, r4, ⟨?_, p4, fun j hj => ?_, fun j hj => ?_, fun q hq hq2 => ?_, fun j hj => ?_⟩, ?_, hl4, l3⟩
  · exact rL3.upd u4 fun q hq e1 => by
      injection hq with hq
      have e2 : g1 = q := hq
      subst e2
      exact hvn e1
  · by_cases ej : j = N
    · subst ej
      rw [ext_at, ext_at]
      exact ownS_upd hv3 u4 (offe hv3)
    · rw [ext_ne _ _ _ _ ej, ext_ne _ _ _ _ ej]
      exact ownS_upd (far j (by omega)).1 u4 (offe (far j (by omega)).1)
  · by_cases ej : j = N
    · subst ej
      rw [ext_at, ext_at]
      exact ownS_upd o3 u4 (offe o3)
    · rw [ext_ne _ _ _ _ ej, ext_ne _ _ _ _ ej]
      exact ownS_upd (far j (by omega)).2 u4 (offe (far j (by omega)).2)
  · injection hq with hq
    have e1 : g1 = q := hq
    subst e1
    injection hq2 with hq2
    have e2 : g4 = g1 := hq2
    subst e2
    rcases l4 with h | h
    · exact hvn h
    · have := (rL3.lt g4 rfl).2; omega
  · by_cases ej : j = N
    · subst ej; rw [ext_at]; exact hk
    · rw [ext_ne _ _ _ _ ej]; exact hsm j (by omega)
  · exact (u3.mono fun q _ h => .inl h).trans u4 fun q _ h => .inr h
end Go.Proofs.Ytcmkdkocponpiaa

/- The book of mortiselaw22: what lies in memory, for lists of either kind. -/
namespace Go.Proofs.Ytcmkdkocponpiaa
open Go.RowKit
set_option linter.unusedVariables false

def mkK (K : IntKind) (mv : Nat → Int) (k j : Nat) : List Value := cellsL K (List.replicate k (mv j))
/-- A kind of lists: te the lists' type, e their elements', t2 that of lists of them. -/
structure Kd (te e t2 : TypeId) (K : IntKind) (bytes : Nat) : Prop where
  ht2 : Try.prog.underlying t2 = some (.slice te)
  hi2 : (Try.prog.info? te).map (fun i => (i.zero, i.size, i.bytes)) = some (some (.slice none 0 0), 1, 24)
  E : Elem Try.prog te e K bytes
  ne : te ≠ e
  nt : te ≠ 60
  et : e ≠ 60
/-- Half a book: its two lists of lists lie in the cells o and o + 1 of the table at bt. -/
structure HbSt (te e : TypeId) (K : IntKind) (mv : Nat → Int) (B : Nat) (w : World) (bt o : Nat) (cs : List Value) (vL vM : Value) (N : Nat) (F G : Nat → Value) (s : Nat → Nat) : Prop where
  h : Half te e 1 (mkK K mv) B w vL vM N F G s
  t : Blk w bt 60 cs
  c0 : cs[o]? = some vL
  c1 : cs[o + 1]? = some vM
  hb : B ≤ bt
section
variable {te e t2 : TypeId} {K : IntKind} {bytes : Nat} {mv : Nat → Int} {B : Nat} {w w' w0 : World} {bt o : Nat} {cs : List Value} {vL vM v : Value} {N : Nat} {F G : Nat → Value} {s : Nat → Nat} {g cap k i : Nat}
theorem HbSt.upd {S : Nat → Prop} (b : HbSt te e K mv B w bt o cs vL vM N F G s) (hu : Upd S w w') (hs : ∀ q, q = bt ∨ FK vL vM N F G q → ¬ S q) : HbSt te e K mv B w' bt o cs vL vM N F G s :=
  ⟨b.h.upd hu (fun q hq => hs q (.inr hq)), b.t.upd hu (hs bt (.inl rfl)), b.c0, b.c1, b.hb⟩
theorem HbSt.later (b : HbSt te e K mv B w bt o cs vL vM N F G s) (hB : Below w.heap.size w w') : HbSt te e K mv B w' bt o cs vL vM N F G s := b.upd (Upd.of_below (S := fun _ => False) hB) (fun _ _ h => h)
theorem HbSt.base (b : HbSt te e K mv B w bt o cs vL vM N F G s) : B ≤ w.heap.size := Nat.le_trans b.hb (Nat.le_of_lt b.t.lt)
structure FillK (te e : TypeId) (K : IntKind) (mv : Nat → Int) (B : Nat) (w0 w : World) (bt o : Nat) (cs : List Value) (vL vM : Value) (N : Nat) (F G : Nat → Value) (s : Nat → Nat) (g cap k i : Nat) : Prop where
  bk : HbSt te e K mv B w bt o cs vL vM N F G s
  row : ∃ l : List Int, w.ownsRow B e 1 (.slice (some ⟨g, 0, none⟩) k cap) k (cellsL K l) ∧ l.length = k ∧ ∀ j, j < i → l.getD j 0 = mv N
  off : ¬ FK vL vM N F G g
  upd : Upd (fun q => q = g) w0 w
theorem FillK.step (het : e ≠ 60) (f : FillK te e K mv B w0 w bt o cs vL vM N F G s g cap k i) (hi : i < k) : (∃ u, w.cell? ⟨g, i, none⟩ = some u) ∧ (∀ j, w.frozen? ⟨g, j, none⟩ = false) ∧
    FillK te e K mv B w0 (w.setCell ⟨g, i, none⟩ (.int K (mv N))) bt o cs vL vM N F G s g cap k (i + 1) := by
  obtain ⟨l, h1, h2, h3⟩ := f.row
  obtain ⟨g', cap', ys, e', hb, hn, hm, hl, ht, hK⟩ := ownS_blk h1 (by omega)
  have e1 : g = g' ∧ cap = cap' := by simpa using e'
  obtain ⟨rfl, rfl⟩ := e1
  have hyl : i < ys.length := by rw [hl]; omega
  have hu : Upd (fun q => q = g) w (w.setCell ⟨g, i, none⟩ (.int K (mv N))) := (Upd.refl (fun q => q = g) w).set ⟨g, i, none⟩ _ (.inl rfl)
  refine ⟨⟨_, by rw [hK.cell, List.getElem?_eq_getElem hyl]⟩, fun j => hK.frozen j, ⟨f.bk.upd hu ?_, ⟨l.set i (mv N), ?_, by rw [List.length_set]; exact h2, fun j hj => ?_⟩, f.off, f.upd.to hu⟩⟩
  · rintro q (rfl | hq) e2
    · subst e2; exact het (blk_type hK f.bk.t)
    · subst e2; exact f.off hq
  · have h9 := ownS_of_blk (n := k) (c := 1) (hK.set i (.int K (mv N))) hb (by simpa using hl) hn hm
    rw [List.take_set, ht] at h9
    have h10 : (cellsL K l).set i (.int K (mv N)) = cellsL K (l.set i (mv N)) := by
      unfold cellsL
      rw [List.map_set]
    rw [h10] at h9
    exact h9
  · rw [List.getD_eq_getElem?_getD]
    by_cases e2 : j = i
    · subst e2; rw [List.getElem?_set_self (by omega)]; rfl
    · rw [List.getElem?_set_ne (by omega), ← List.getD_eq_getElem?_getD]
      exact h3 j (by omega)
theorem FillK.full (f : FillK te e K mv B w0 w bt o cs vL vM N F G s g cap k k) : w.ownsRow B e 1 (.slice (some ⟨g, 0, none⟩) k cap) k (mkK K mv k N) := by
  obtain ⟨l, h1, h2, h3⟩ := f.row
  have e : l = List.replicate k (mv N) := by
    apply List.ext_getElem?
    intro j
    by_cases hj : j < k
    · have e := h3 j hj
      rw [List.getElem?_replicate, if_pos hj, List.getElem?_eq_getElem (by omega), ← e]
      simp [List.getD, show j < l.length by omega]
    · rw [List.getElem?_eq_none (by omega), List.getElem?_replicate, if_neg hj]
  rw [e] at h1
  exact h1
/-- What a list more leaves. -/
def KeepK (te e : TypeId) (K : IntKind) (mv : Nat → Int) (B : Nat) (w w' : World) (bt o : Nat) (cs : List Value) (vL vM : Value) (N : Nat) (F G : Nat → Value) (v : Value) : Prop :=
  ∃ vL' vM' F' G' s', HbSt te e K mv B w' bt o ((cs.set o vL').set (o + 1) vM') vL' vM' (N + 1) F' G' s' ∧ Upd (fun q => q = bt ∨ v.ownBlock = some q ∨ FK vL vM N F G q) w w' ∧ ∀ q, FK vL' vM' (N + 1) F' G' q → FK vL vM N F G q ∨ v.ownBlock = some q ∨ w.heap.size ≤ q
theorem list_end (D : Kd te e t2 K bytes) (b : HbSt te e K mv B w bt o cs vL vM N F G s) (hN : N ≤ 1000) (hk : k ≤ 20000000000000) (hkb : (k + 1) * bytes ≤ 140737488355328) (hv : w.ownsRow B e 1 v k (mkK K mv k N)) (hone : v.oneCell' = true) (hap : ∀ q, v.ownBlock = some q → ¬ FK vL vM N F G q) (h0 : Upd (fun q => v.ownBlock = some q) w0 w) (h0f : ∀ q, v.ownBlock = some q → q < w0.heap.size) :
    ∃ g1 c1 w1 g3 c3 w3 g4 c4 w4, (Builtin.append_ #[t2, t2] t2 #[vL, .slice (some ⟨w.heap.size, 0, none⟩) 1 1]).run Try.prog (w.alloc (.cells #[v] te)) = .ok (.slice (some ⟨g1, 0, none⟩) (N + 1) c1) w1 ∧
      (∃ u, w1.cell? ⟨bt, o, none⟩ = some u) ∧ w1.frozen? ⟨bt, o, none⟩ = false ∧ ∃ w2, w2 = w1.setCell ⟨bt, o, none⟩ (.slice (some ⟨g1, 0, none⟩) (N + 1) c1) ∧
      (w2.cell? ⟨bt, o + 1, none⟩ = some vM ∧ (∀ ob, (w2.alloc ob).cell? ⟨bt, o + 1, none⟩ = some vM) ∧ w3.cell? ⟨bt, o + 1, none⟩ = some vM ∧ (∀ ob, (w3.alloc ob).cell? ⟨bt, o + 1, none⟩ = some vM)) ∧
      (Builtin.append_ #[te, te] te #[v, .slice (some ⟨w2.heap.size, 0, none⟩) 1 1]).run Try.prog (w2.drew.alloc (.cells #[.int K (mv N)] e)) = .ok (.slice (some ⟨g3, 0, none⟩) (k + 1) c3) w3 ∧
      (Builtin.append_ #[t2, t2] t2 #[vM, .slice (some ⟨w3.heap.size, 0, none⟩) 1 1]).run Try.prog (w3.alloc (.cells #[.slice (some ⟨g3, 0, none⟩) (k + 1) c3] te)) = .ok (.slice (some ⟨g4, 0, none⟩) (N + 1) c4) w4 ∧
      (∃ u, w4.cell? ⟨bt, o + 1, none⟩ = some u) ∧ w4.frozen? ⟨bt, o + 1, none⟩ = false ∧ KeepK te e K mv B w0 (w4.setCell ⟨bt, o + 1, none⟩ (.slice (some ⟨g4, 0, none⟩) (N + 1) c4)) bt o cs vL vM N F G v := by
  obtain ⟨g1, c1, w1, r1, u1, l1, p1, rM1, hl1, hm1, hv1, hvn⟩ := half_one (t2 := t2) b.h D.ne D.ht2 D.hi2 b.base (by omega) v k hv hone
  have offL : ∀ {q t : Nat} {xs : List Value}, Blk w q t xs → t ≠ te → ¬ vL.ownBlock = some q := fun hq ht e1 => by
    obtain ⟨ys, h2⟩ := ownS_type b.h.rL e1
    exact ht (blk_type hq h2)
  have t1 : Blk w1 bt 60 cs := b.t.upd u1 (offL b.t (fun e => D.nt e.symm))
  obtain ⟨w2, hw2⟩ : ∃ w2, w2 = w1.setCell ⟨bt, o, none⟩ (.slice (some ⟨g1, 0, none⟩) (N + 1) c1) := ⟨_, rfl⟩
  have u2 : Upd (fun q => q = bt) w1 w2 := by rw [hw2]; exact (Upd.refl _ w1).set _ _ (.inl rfl)
  have tt2 : Blk w2 bt 60 (cs.set o (.slice (some ⟨g1, 0, none⟩) (N + 1) c1)) := by rw [hw2]; exact t1.set o _
  have hc1 : (cs.set o (.slice (some ⟨g1, 0, none⟩) (N + 1) c1))[o + 1]? = some vM := by rw [List.getElem?_set_ne (by omega)]; exact b.c1
  have ho1 : o + 1 < cs.length := (List.getElem?_eq_some_iff.1 b.c1).1
  have off2 : ∀ {y : Value} {n e' c : Nat} {xs : List Value}, w1.ownsRow B e' c y n xs → e' ≠ 60 → ∀ q, y.ownBlock = some q → ¬ q = bt := fun h he q hq e1 => by
    subst e1
    obtain ⟨ys, h2⟩ := ownS_type h hq
    exact he (blk_type h2 t1)
  have hd : Upd (fun q => q = bt) w1 w2.drew := u2.drew
  have hsz : w.heap.size ≤ w2.heap.size := Nat.le_trans u1.size u2.size
  obtain ⟨g3, c3, w3, g4, c4, w4, r3, u3, r4, H4, u4, l4, l3⟩ := half_two (te := te) (e := e) (c := 1) (t2 := t2) (bytes := bytes) (z := .int K 0) (w := w2.drew) (mk := mkK K mv) (s := s) D.ne D.ht2 D.hi2 D.E.sl D.E.info rfl (by decide) (Nat.le_trans b.base hsz) (by omega) v k hk hkb
    (p1.upd hd (off2 p1 D.nt)) (rM1.upd hd (off2 rM1 D.nt)) (fun j hj => ownS_upd (hl1 j hj) hd (off2 (hl1 j hj) D.et)) (fun j hj => ownS_upd (hm1 j hj) hd (off2 (hm1 j hj) D.et)) (ownS_upd hv1 hd (off2 hv1 D.et)) hvn b.h.small
    (fun j hj q hq => ⟨fun e1 => hap q hq (.inr (.inr ⟨j, hj, .inl e1⟩)), fun e1 => hap q hq (.inr (.inr ⟨j, hj, .inr e1⟩))⟩) [.int K (mv N)] rfl (by intro u hu; simp at hu; subst hu; rfl) (by unfold mkK; rw [List.replicate_succ', cellsL_append]; rfl)
  have offv : ¬ v.ownBlock = some bt := fun e1 => by
    obtain ⟨ys, h2⟩ := ownS_type hv1 e1
    exact D.et (blk_type h2 t1)
  have offM : ¬ vM.ownBlock = some bt := fun e1 => by
    obtain ⟨ys, h2⟩ := ownS_type rM1 e1
    exact D.nt (blk_type h2 t1)
  have t3 : Blk w3 bt 60 (cs.set o (.slice (some ⟨g1, 0, none⟩) (N + 1) c1)) := tt2.drew.upd u3 offv
  have t4 : Blk w4 bt 60 (cs.set o (.slice (some ⟨g1, 0, none⟩) (N + 1) c1)) := tt2.drew.upd u4 (fun h => h.elim offv offM)
  refine ⟨g1, c1, w1, g3, c3, w3, g4, c4, w4, r1, ⟨_, (t1.cell o).trans b.c0⟩, t1.frozen o, w2, hw2, ⟨(tt2.cell (o + 1)).trans hc1, fun ob => ((tt2.alloc ob).cell (o + 1)).trans hc1, (t3.cell (o + 1)).trans hc1, fun ob => ((t3.alloc ob).cell (o + 1)).trans hc1⟩, r3, r4, ⟨_, (t4.cell (o + 1)).trans hc1⟩, t4.frozen (o + 1), ?_⟩
  have u5 : Upd (fun q => q = bt) w4 (w4.setCell ⟨bt, o + 1, none⟩ (.slice (some ⟨g4, 0, none⟩) (N + 1) c4)) := (Upd.refl _ w4).set _ _ (.inl rfl)
  have hbt4 := H4.off t4 (fun e => D.nt e.symm) (fun e => D.et e.symm)
  refine ⟨_, _, _, _, _, ⟨H4.upd u5 (fun q hq e1 => by subst e1; exact hbt4 hq), t4.set (o + 1) _, ?_, ?_, b.hb⟩, ?_, ?_⟩
  · rw [List.getElem?_set_ne (by omega), List.getElem?_set_self (by omega)]
  · rw [List.getElem?_set_self (by simpa using ho1)]
  · have a1 : Upd (fun q => q = bt ∨ v.ownBlock = some q ∨ FK vL vM N F G q) w0 w1 := (h0.mono fun q _ h => .inr (.inl h)).trans u1 fun q _ h => .inr (.inr (.inl h))
    have a2 := a1.trans hd fun q _ h => .inl h
    have a3 := a2.trans u4 fun q _ h => h.elim (fun h => .inr (.inl h)) fun h => .inr (.inr (.inr (.inl h)))
    exact a3.trans u5 fun q _ h => .inl h
  · have hw0 : w0.heap.size ≤ w.heap.size := h0.size
    rintro q (e1 | e1 | ⟨j, hj, e1⟩)
    · injection e1 with e1
      have e2 : g1 = q := e1
      subst e2
      rcases l1 with h | h
      · exact .inl (.inl h)
      · exact .inr (.inr (by omega))
    · injection e1 with e1
      have e2 : g4 = q := e1
      subst e2
      rcases l4 with h | h
      · exact .inl (.inr (.inl h))
      · have h' : w2.heap.size ≤ g4 := h
        exact .inr (.inr (by omega))
    · by_cases ej : j = N
      · subst ej
        rw [ext_at, ext_at] at e1
        rcases e1 with e1 | e1
        · exact .inr (.inl e1)
        · injection e1 with e1
          have e2 : g3 = q := e1
          subst e2
          rcases l3 with h | h
          · exact .inr (.inl h)
          · have h' : w2.heap.size ≤ g3 := h
            exact .inr (.inr (by omega))
      · rw [ext_ne _ _ _ _ ej, ext_ne _ _ _ _ ej] at e1
        exact .inl (.inr (.inr ⟨j, by omega, e1⟩))
end
theorem kdT : Kd 37 3 55 .i64 8 := ⟨Try.underlying55, by kernel_rfl, elI, by decide, by decide, by decide⟩
theorem kdB : Kd 23 5 56 .u8 1 := ⟨Try.underlying56, by kernel_rfl, E23, by decide, by decide, by decide⟩
def mvT (j : Nat) : Int := -5 - (j : Int)
def mvB (j : Nat) : Int := (7 * (j : Int) + 1) % 256
end Go.Proofs.Ytcmkdkocponpiaa

/- Frames: Save. -/
namespace Go.Proofs.Ytcmkdkocponpiaa
open Go.RowKit
set_option linter.unusedVariables false

theorem upd_of_below {B : Nat} {w w' : World} (h : Below B w w') : Upd (fun k => B ≤ k) w w' := ⟨h.os, h.tape, h.output, h.size, fun k hk hn => h.block k (by omega)⟩
/-- Bytes of the call's own. -/
def BOwn (w : World) (B : Nat) (v : Value) (l : List Int) : Prop := w.ownsRow B 5 1 v l.length (cellsL .u8 l)
theorem BOwn.later {w w' : World} {B : Nat} {v : Value} {l : List Int} (h : BOwn w B v l) (hB : Below w.heap.size w w') : BOwn w' B v l := ownS_upd h (Upd.of_below (S := fun _ => False) hB) (fun _ _ h => h)
theorem BOwn.row {w : World} {B : Nat} {v : Value} {l : List Int} (h : BOwn w B v l) : ∃ a c, v = .slice a l.length c ∧ Row .u8 w a l ∧ (a = none → c = 0) ∧ l.length ≤ c ∧ c ≤ maxLen := by
  obtain ⟨a, c, h1, h2, h3, h4, h5, -⟩ := own_open h rfl
  exact ⟨a, c, h1, h2, h3, h4, h5⟩
theorem hd6_at (f : Fr) (i : Nat) (h : i < 7) : ∃ x, (hd6 f)[i]? = some x := ⟨(hd6 f)[i]'h, List.getElem?_eq_getElem h⟩
theorem take_one {l : List Int} {i : Nat} {x : Int} (h : l[i]? = some x) : (l.take (i + 1)).flatMap fm = (l.take i).flatMap fm ++ fm x := by
  obtain ⟨hi, rfl⟩ := List.getElem?_eq_some_iff.1 h
  rw [List.take_succ_eq_append_getElem hi, List.flatMap_append]
  simp
theorem take_frs {P : List (Fr × Value)} {i : Nat} {p : Fr × Value} (h : P[i]? = some p) : ((P.take (i + 1)).map (·.1)).flatMap svF = ((P.take i).map (·.1)).flatMap svF ++ svF p.1 := by
  obtain ⟨hi, rfl⟩ := List.getElem?_eq_some_iff.1 h
  rw [List.take_succ_eq_append_getElem hi, List.map_append, List.flatMap_append]
  simp
theorem flat_take_le (l : List Int) (hl : ∀ x ∈ l, x ≤ 4611686018427387905) (i : Nat) : ((l.take i).flatMap fm).length ≤ l.length * 10 := by
  have h1 := flat_len (l.take i) (fun x hx => hl x (List.mem_of_mem_take hx))
  have h2 : (l.take i).length ≤ l.length := by simp; omega
  omega
theorem idx7 (f : Fr) (j : Nat) (x : Int) (hx : (hd6 f)[j]? = some x) (w : World) :
    (Instr.index 72 (.agg #[.int .i64 f.r, .int .i64 f.a, .int .i64 f.b, .int .i64 (f.e + 1), .int .i64 (f.n + 1), .int .i64 f.x, .int .i64 (f.T.length : Int)]) (.int .i64 (j : Int))).run Try.prog w = .ok (.int .i64 x) w := by
  have hj := (List.getElem?_eq_some_iff.1 hx).1
  have hj7 : j < 7 := hj
  rcases (show j = 0 ∨ j = 1 ∨ j = 2 ∨ j = 3 ∨ j = 4 ∨ j = 5 ∨ j = 6 by omega) with rfl | rfl | rfl | rfl | rfl | rfl | rfl
  all_goals
    simp [hd6] at hx
    subst hx
    show _ = _
    kernel_rfl
/-- What Save answers. -/
def SaveTo (w : World) (fs : List Fr) (m h : Int) (e : Ending) (w' : World) : Prop :=
  ∃ v, e = .returned v ∧ BOwn w' w.heap.size v (sv fs m h) ∧ Below w.heap.size w w'
set_option maxRecDepth 100000 in
set_option maxHeartbeats 16000000 in
theorem save_any (w : World) (B : Nat) (F : Nat → Prop) (g : Nat) (fs : List Fr) (m h : Int) (hS : Hid (Stk w B F g fs m h)) :
    Calls Try.prog 8 #[.pointer (some ⟨g, 0, none⟩)] w fun e w' => SaveTo w fs m h e w' := by
  have hmf : ∀ (fn : Fn) (first cap : Array Value) (w : World), (Instr.makeFunc fn first cap).run Try.prog w = .ok (.func fn first cap) w := fun _ _ _ _ => rfl
  obtain ⟨v, P, hM, hP, hF, hFl⟩ := hS.out
  obtain ⟨av, cv, rfl, hcv, -, hG⟩ := hM.own.slice
  have HGW : Hid (∀ k, skB g (.slice av P.length cv) P k → k < w.heap.size) := hide_ (fun k hk => (hFl k (hF k hk)).2)
  have HM := hide_ hM
  have HPm := hide_ hP
  have HPl : Hid (P.length = fs.length) := hide_ (by rw [← hP]; simp)
  have hrt : ∀ f ∈ fs, frB f = true := fun f hf => by
    rw [← hP] at hf
    obtain ⟨p, hp, rfl⟩ := List.mem_map.1 hf
    exact hM.rt p hp
  have HRt := hide_ hrt
  have hm0 := hM.hm
  have hl0 := hM.hl
  have hh0 := hM.hh
  obtain ⟨w1, hw1⟩ : ∃ wx, wx = (w.alloc (.cells #[.int .u8 102] 5)).alloc (.cells #[.slice (some ⟨w.heap.size, 0, none⟩) 1 1] 23) := ⟨_, rfl⟩
  have hB1 : Below w.heap.size w w1 := by rw [hw1]; exact below2 _ _ _
  have hbx : Bx w1 w.heap.size (w.heap.size + 1) [102] := by
    obtain ⟨k1, k2⟩ := blk2 w #[.int .u8 102] #[.slice (some ⟨w.heap.size, 0, none⟩) 1 1] 5 23
    rw [hw1]
    refine ⟨by omega, _, k2, ?_⟩
    have := Blk.owns k1 w.heap.size 1 1 (Nat.le_refl _) rfl (Nat.le_refl _) (by unfold maxLen; omega)
    exact this
  have HBx := hide_ hbx
  have HB1 := hide_ hB1
  have hgw : g < w.heap.size := HGW.out g (.inl rfl)
  -- the stack stays
  have HSt : Hid (∀ w', Below w.heap.size w w' → StM w' B g (.slice av P.length cv) P m h) := hide_ (fun w' hb => HM.out.upd (upd_of_below hb) (fun k hk => by have := HGW.out k hk; omega))
  have HPut : Hid (∀ (l : List Int) (x : Int) (w' : World), 0 ≤ x → x ≤ 4611686018427387905 → l.length ≤ 50000000000000 → Hid (Bx w' w.heap.size (w.heap.size + 1) l) → Calls Try.prog 29 #[.int .i64 x, .pointer (some ⟨w.heap.size + 1, 0, none⟩)] w' fun e w'' => e = .returned (.tuple #[]) ∧ Hid (Bx w'' w.heap.size (w.heap.size + 1) (l ++ fm x)) ∧ Hid (Kb w.heap.size w' w'')) :=
    hide_ (fun l x w' h0 hx hl H => putx w.heap.size (w.heap.size + 1) l x w' h0 hx hl H)
  have HC : Hid (∀ w', Below w.heap.size w w' → w'.cell? ⟨g, 0, none⟩ = some (.slice av P.length cv) ∧ w'.cell? ⟨g, 1, none⟩ = some (.int .i64 m) ∧ w'.cell? ⟨g, 2, none⟩ = some (.int .i64 h)) := hide_ (fun w' hb => ⟨(HSt.out w' hb).box.cell 0, (HSt.out w' hb).box.cell 1, (HSt.out w' hb).box.cell 2⟩)
  obtain ⟨c0, c1, c2⟩ := HC.out w1 hB1
  have HHd : Hid ((svH P.length m h).length ≤ 31) := hide_ (svH_len _ _ _ (by omega) (by omega) (by omega))
  have HL1 : Hid (([102] ++ fm m).length ≤ 11) := hide_ (by have := fm_len m (by omega); simp; omega)
  have HL2 : Hid (([102] ++ fm m ++ fm (P.length : Int)).length ≤ 21) := hide_ (by have := HL1.out; have := fm_len (P.length : Int) (by omega); rw [List.length_append]; omega)
  clear hS hM hF hFl hP hG hB1 hbx hrt
  go_enter Try.func8, Try.ntmps8
  go_upto_region 2 with fail
  rw [← hw1]
  clear hw1
  go_wp2_with fail
  refine (HPut.out [102] m w1 (by omega) (by omega) (by decide) HBx).mono ?_
  rintro e w2 ⟨rfl, HX2, HK2⟩
  have HB2 := hide_ (HB1.out.trans HK2.out.1)
  clear c0 c1 c2
  obtain ⟨c0, c1, c2⟩ := HC.out w2 HB2.out
  go_wp2_with fail
  refine (HPut.out _ (P.length : Int) w2 (by omega) (by omega) (by have := HL1.out; omega) HX2).mono ?_
  rintro e w3 ⟨rfl, HX3, HK3⟩
  have HB3 := hide_ (HB2.out.trans HK3.out.1)
  clear c0 c1 c2
  obtain ⟨c0, c1, c2⟩ := HC.out w3 HB3.out
  go_wp2_with fail
  refine (HPut.out _ h w3 (by omega) (by omega) (by have := HL2.out; omega) HX3).mono ?_
  rintro e w4 ⟨rfl, HX4, HK4⟩
  have HB4 := hide_ (HB3.out.trans HK4.out.1)
  clear c0 c1 c2
  obtain ⟨c0, c1, c2⟩ := HC.out w4 HB4.out
  go_wp2_with fail
  have HX5 : Hid (Bx w4 w.heap.size (w.heap.size + 1) (svH P.length m h)) := HX4
  have hpl' : Hid (P.length ≤ 1048576) := hide_ (by omega)
  have HRp : Hid (∀ p ∈ P, frB p.1 = true) := hide_ HM.out.rt
  clear HX2 HX3 HX4 HK2 HK3 HK4 HL1 HL2 c0 c1 c2 HBx HB1 HB2 HB3
  go_loopw [37] (fun x37 wr => ∃ i : Nat, i ≤ P.length ∧ x37 = .int .i64 (i : Int) ∧ Hid (Bx wr w.heap.size (w.heap.size + 1) (svH P.length m h ++ ((P.take i).map (·.1)).flatMap svF)) ∧ Hid (Below w.heap.size w wr)) (fun x37 _ => P.length - (intOf x37).toNat)
  case atStart => exact ⟨0, Nat.zero_le _, rfl, by simpa using HX5, HB4⟩
  case round =>
    obtain ⟨i, hi, rfl, HX, HB⟩ := hrel
    generalize wr = wq at *
    clear HX5 HB4
    by_cases hlt : i < P.length
    · have hlt' : (i : Int) < P.length := by omega
      have hx : P[i]? = some (P[i]'hlt) := List.getElem?_eq_getElem hlt
      obtain ⟨p, hp⟩ : ∃ p, P[i]'hlt = p := ⟨_, rfl⟩
      rw [hp] at hx
      obtain ⟨f, pv⟩ := p
      have hmem : (f, pv) ∈ P := List.mem_of_getElem? hx
      have hMq := HSt.out wq HB.out
      obtain ⟨at_, ct, hpv, hfa⟩ := (hMq.own.tb (f, pv) hmem).fra
      have hpv' : pv = .slice at_ f.T.length ct := hpv
      subst hpv'
      have HFr : Hid (frB f = true) := hide_ (hMq.rt _ hmem)
      obtain ⟨av', cv', he, -, -, hG⟩ := hMq.own.slice
      injection he with he1 he2 he3
      subst he1
      obtain ⟨b, o, rfl, hbl, hc⟩ := hG.open (by omega)
      have hcx := hc i _ hx
      have i0 := hcx 0 (by decide); have i1 := hcx 1 (by decide); have i2 := hcx 2 (by decide); have i3 := hcx 3 (by decide); have i4 := hcx 4 (by decide); have i5 := hcx 5 (by decide); have i6 := hcx 6 (by decide)
      simp [frc] at i0 i1 i2 i3 i4 i5 i6
      have HNx : Hid (svH P.length m h ++ ((P.take (i + 1)).map (·.1)).flatMap svF = (svH P.length m h ++ ((P.take i).map (·.1)).flatMap svF) ++ ((hd6 f).flatMap fm ++ f.T.flatMap fm)) := hide_ (by rw [take_frs hx, List.append_assoc]; rfl)
      have HMem := hide_ hmem
      have HLq : Hid ((svH P.length m h ++ ((P.take i).map (·.1)).flatMap svF).length ≤ 31 + 1048576 * 10485830) := hide_ (by
        have h1 := svs_len ((P.take i).map (·.1)) (fun y hy => by
          obtain ⟨q, hq, rfl⟩ := List.mem_map.1 hy
          exact HRp.out q (List.mem_of_mem_take hq))
        have h2 : ((P.take i).map (·.1)).length ≤ 1048576 := by have := hpl'.out; simp; omega
        have h3 := Nat.mul_le_mul_right 10485830 h2
        have h4 := HHd.out
        rw [List.length_append]
        omega)
      obtain ⟨L, hL⟩ : ∃ L, svH P.length m h ++ ((P.take i).map (·.1)).flatMap svF = L := ⟨_, rfl⟩
      rw [hL] at HX HNx HLq
      obtain ⟨we, hwe⟩ : ∃ wx, wx = wq.alloc (.cells #[.int .i64 f.r, .int .i64 f.a, .int .i64 f.b, .int .i64 f.e, .int .i64 f.n, .int .i64 f.x, .slice at_ f.T.length ct] 39) := ⟨_, rfl⟩
      have hBe : Below wq.heap.size wq we := by rw [hwe]; exact below1 _ _
      have ke : Blk we wq.heap.size 39 (frc (f, .slice at_ f.T.length ct)) := by rw [hwe]; exact Blk.newA wq _ _
      have HKe := hide_ ke
      have HXe := hide_ (HX.out.later hBe)
      have HBe := hide_ (below_to HB.out hBe)
      have HFa := hide_ hfa
      have e0 := ke.cell 0; have e1 := ke.cell 1; have e2 := ke.cell 2; have e3 := ke.cell 3; have e4 := ke.cell 4; have e5 := ke.cell 5; have e6 := ke.cell 6
      simp [frc] at e0 e1 e2 e3 e4 e5 e6
      have hr6 := hdB_is (frB_is HFr.out).2.2
      have be := ponB_is hr6.2.2.2.1
      have bn := ponB_is hr6.2.2.2.2.1
      have we1 := i64w (f.e + 1) (by omega)
      have we2 := i64w (f.n + 1) (by omega)
      clear hL hp hx hmem hMq hpv hfa hG hc hcx hbl hBe ke hr6 he3
      go_upto_region 9 with fail
      rw [← hwe]
      clear hwe i0 i1 i2 i3 i4 i5 i6
      go_wp2_with fail
      go_loopw [59] (fun x59 wr => ∃ j : Nat, j ≤ 7 ∧ x59 = .int .i64 (j : Int) ∧ Hid (Bx wr w.heap.size (w.heap.size + 1) (L ++ ((hd6 f).take j).flatMap fm)) ∧ Hid (Kb w.heap.size we wr)) (fun x59 _ => 7 - (intOf x59).toNat)
      case atStart => exact ⟨0, by decide, rfl, by simpa using HXe, hide_ (Kb.refl _ _)⟩
      case round =>
        obtain ⟨j, hj, rfl, HXj, HKj⟩ := hrel
        generalize wr = wj at *
        by_cases hjl : j < 7
        · have hjl' : (j : Int) < 7 := by omega
          obtain ⟨x, hx⟩ := hd6_at f j hjl
          have hxin := hd6_in HFr.out x (List.mem_of_getElem? hx)
          have HXx := hide_ hx
          have hidx := idx7 f j x hx wj
          have HLj : Hid ((L ++ ((hd6 f).take j).flatMap fm).length ≤ 50000000000000) := hide_ (by
            have h1 := flat_take_le (hd6 f) (fun y hy => (hd6_in HFr.out y hy).2) j
            have h2 : (hd6 f).length = 7 := rfl
            have h3 := HLq.out
            rw [List.length_append]
            omega)
          have HTo : Hid (L ++ ((hd6 f).take (j + 1)).flatMap fm = (L ++ ((hd6 f).take j).flatMap fm) ++ fm x) := hide_ (by rw [take_one hx, List.append_assoc])
          clear hx
          go_wp2_with fail
          refine (HPut.out _ x wj hxin.1 hxin.2 HLj.out HXj).mono ?_
          rintro e wk ⟨rfl, HXk, HKk⟩
          go_wp2_with fail
          go_roundw
          case rel => exact ⟨j + 1, by omega, by go_num, hide_ (by rw [HTo.out]; exact HXk.out), hide_ (HKj.out.trans HKk.out)⟩
          case measure => simp [intOf]; omega
        · have hjl' : ¬ ((j : Int) < 7) := by omega
          have HJ7 : Hid (j = 7) := hide_ (by omega)
          clear hjl hj
          have hk7 := HKj.out.2 _ _ _ (by decide) (by decide) HKe.out
          have HK7 := hide_ hk7
          have e6' := hk7.cell 6
          simp [frc] at e6'
          have HX7 : Hid (Bx wj w.heap.size (w.heap.size + 1) (L ++ (hd6 f).flatMap fm)) := by rw [HJ7.out] at HXj; exact HXj
          have HB7 := hide_ (HBe.out.trans HKj.out.1)
          clear hk7 e0 e1 e2 e3 e4 e5 e6 HXj
          have hml := HFa.out.2.2
          unfold maxLen at hml
          have HRw : Hid (∀ w', Below w.heap.size w w' → Row .i64 w' at_ f.T) := hide_ (fun w' hb => by
            obtain ⟨a9, c9, h9, r9, -⟩ := ((HSt.out w' hb).own.tb (f, .slice at_ f.T.length ct) HMem.out).row
            injection h9 with h9 _ _
            rw [h9]
            exact r9)
          go_wp2_with fail
          go_loopw [69] (fun x69 wr => ∃ j : Nat, j ≤ f.T.length ∧ x69 = .int .i64 (j : Int) ∧ Hid (Bx wr w.heap.size (w.heap.size + 1) ((L ++ (hd6 f).flatMap fm) ++ (f.T.take j).flatMap fm)) ∧ Hid (Below w.heap.size w wr)) (fun x69 _ => f.T.length - (intOf x69).toNat)
          case atStart => exact ⟨0, Nat.zero_le _, rfl, by simpa using HX7, HB7⟩
          case round =>
            obtain ⟨k, hk, rfl, HXk, HBk⟩ := hrel
            generalize wr = wk at *
            by_cases hkl : k < f.T.length
            · have hkl' : (k : Int) < f.T.length := by omega
              obtain ⟨x, hx⟩ : ∃ x, f.T[k]? = some x := ⟨_, List.getElem?_eq_getElem hkl⟩
              have hxin := tab_in HFr.out x (List.mem_of_getElem? hx)
              obtain ⟨bt, ot, rfl, hbt, hct⟩ := Row.open (HRw.out wk HBk.out) (show 0 < f.T.length by omega)
              have hcell := hct k hkl
              have hxd : f.T.getD k 0 = x := by simp [List.getD, hx]
              rw [hxd] at hcell
              have HLk : Hid (((L ++ (hd6 f).flatMap fm) ++ (f.T.take k).flatMap fm).length ≤ 50000000000000) := hide_ (by
                have h1 := flat_take_le f.T (fun y hy => (tab_in HFr.out y hy).2) k
                have h2 := flat_len (hd6 f) (fun y hy => (hd6_in HFr.out y hy).2)
                have h2' : (hd6 f).length = 7 := rfl
                have h3 := HLq.out
                have h4 := (frB_is HFr.out).1
                rw [List.length_append, List.length_append]
                omega)
              have HTo : Hid ((L ++ (hd6 f).flatMap fm) ++ (f.T.take (k + 1)).flatMap fm = ((L ++ (hd6 f).flatMap fm) ++ (f.T.take k).flatMap fm) ++ fm x) := hide_ (by rw [take_one hx]; simp only [List.append_assoc])
              clear hx hct hbt hxd
              go_wp2_with fail
              refine (HPut.out _ x wk hxin.1 hxin.2 HLk.out HXk).mono ?_
              rintro e wl ⟨rfl, HXl, HKl⟩
              go_wp2_with fail
              go_roundw
              case rel => exact ⟨k + 1, by omega, by go_num, hide_ (by rw [HTo.out]; exact HXl.out), hide_ (HBk.out.trans HKl.out.1)⟩
              case measure => simp [intOf]; omega
            · obtain rfl : k = f.T.length := by omega
              go_wp2_with fail
              go_roundw
              case rel => exact ⟨i + 1, by omega, by go_num, hide_ (by
                have h := HXk.out
                rw [List.take_length] at h
                rw [HNx.out, ← List.append_assoc]
                exact h), HBk⟩
              case measure => simp [intOf]; omega
    · obtain rfl : i = P.length := by omega
      have HE : Hid (svH P.length m h ++ ((P.take P.length).map (·.1)).flatMap svF = sv fs m h) := hide_ (by rw [List.take_length, HPm.out, HPl.out]; rfl)
      rw [HE.out] at HX
      obtain ⟨L, hL⟩ : ∃ L, sv fs m h = L := ⟨_, rfl⟩
      rw [hL] at HX
      have HL := hide_ hL
      clear hL HE
      obtain ⟨hgl, vx, kx, ox⟩ := HX.out
      obtain ⟨a', c', hv', -⟩ := own_open ox rfl
      subst hv'
      have q0 := kx.cell 0
      simp at q0
      have HO := hide_ ox
      clear kx ox
      go_wp2_with fail
      go_ret
      exact ⟨_, rfl, by rw [HL.out]; exact HO.out, HB.out⟩
end Go.Proofs.Ytcmkdkocponpiaa

/- mortiseref22: leb. -/
namespace Go.Proofs.Ytcmkdkocponpiaa
open Go.RowKit
set_option linter.unusedVariables false

theorem BOwn.push {w : World} {B : Nat} {v : Value} {l : List Int} (h : BOwn w B v l) (x : Int) (hl : l.length ≤ 100000000000000) (hB : B ≤ w.heap.size) :
    ∃ g cap w', (Builtin.append_ #[23, 23] 23 #[v, .slice (some ⟨w.heap.size, 0, none⟩) 1 1]).run Try.prog (w.alloc (.cells #[.int .u8 x] 5)) = .ok (.slice (some ⟨g, 0, none⟩) (l.length + 1) cap) w' ∧
      BOwn w' B (.slice (some ⟨g, 0, none⟩) (l.length + 1) cap) (l ++ [x]) ∧ Kb B w w' := by
  obtain ⟨g, cap, w', h1, h2, h3, h4⟩ := run_push E23 w 23 B v l.length l h x (by unfold maxLen; omega) (by omega) hB
  refine ⟨g, cap, w', h1, by unfold BOwn; rw [List.length_append]; exact h2, Kb.of_upd hB h3 (fun k hk => (World.ownsRow.lt h k hk).1) (fun k hk => ?_)⟩
  obtain ⟨zs, hz⟩ := ownS_type h hk
  exact ⟨_, _, hz, .inl rfl⟩
set_option maxRecDepth 100000 in
set_option maxHeartbeats 4000000 in
theorem leb_c (B : Nat) (n : Nat) (l : List Int) (v : Value) (w : World) (hn : n ≤ 4611686018427387905) (hl : l.length ≤ 50000000000000) (hBw : B ≤ w.heap.size) (H : Hid (BOwn w B v l)) :
    Calls Try.prog 74 #[v, .int .i64 (n : Int)] w fun e w' => ∃ v', e = .returned v' ∧ Hid (BOwn w' B v' (l ++ form n)) ∧ Hid (Kb B w w') := by
  have hu : IntKind.u64.wrap (n : Int) = n := by rw [IntKind.wrap_u64]; omega
  obtain ⟨av, cv, hv, -⟩ := H.out.row
  have hf := form_ten n (by omega)
  go_enter Try.func74, Try.ntmps74
  go_wp2_with fail
  go_loopw [0, 5] (fun x0 x5 wr => ∃ (k : Nat) (p : List Int) (u : Value), k ≤ n ∧ x5 = .int .u64 (k : Int) ∧ u = x0 ∧ Hid (l ++ form n = p ++ form k) ∧ Hid (BOwn wr B u p) ∧ Hid (Kb B w wr)) (fun _ x5 _ => (intOf x5).toNat)
  case atStart => exact ⟨n, l, _, Nat.le_refl _, rfl, rfl, rfl, H, Kb.refl _ _⟩
  case round =>
    obtain ⟨k, p, u, hkn, rfl, rfl, HE, HO, HK⟩ := hrel
    have hpl : p.length ≤ 60000000000000 := by
      have h1 := congrArg List.length HE.out
      rw [List.length_append, List.length_append] at h1
      omega
    have hBr : B ≤ wr.heap.size := Nat.le_trans hBw HK.out.1.size
    by_cases h127 : k < 128
    · obtain ⟨g, cap, w2, hr, ho, hU⟩ := HO.out.push (k : Int) (by omega) hBr
      have hw8 : IntKind.u8.wrap (k : Int) = k := by rw [IntKind.wrap_u8]; omega
      have R1 := hide_ hr
      have HO2 : Hid (BOwn w2 B (.slice (some ⟨g, 0, none⟩) (p.length + 1) cap) (l ++ form n)) := hide_ (by rw [HE.out, form_small h127]; exact ho)
      have HK2 := hide_ (HK.out.trans hU)
      have hk1 : ¬ (128 : Int) ≤ k := by omega
      clear hr hU ho
      go_wp2_with (at_builtin; have _t := R1; refine wpList_append_run rfl (.tmp 19) (.tmp 22) 23 23 rfl rfl rfl R1.out ?_; clear R1)
      go_ret
      exact ⟨_, rfl, HO2, HK2⟩
    · obtain ⟨g, cap, w2, hr, ho, hU⟩ := HO.out.push ((k : Int) % 128 + 128) (by omega) hBr
      have hw8 : IntKind.u8.wrap ((k : Int) % 128) = (k : Int) % 128 := by rw [IntKind.wrap_u8]; omega
      have hw9 : IntKind.u8.wrap ((k : Int) % 128 + 128) = (k : Int) % 128 + 128 := by rw [IntKind.wrap_u8]; omega
      have R1 := hide_ hr
      have HO2 := hide_ ho
      have HK2 := hide_ (HK.out.trans hU)
      have hk1 : (128 : Int) ≤ k := by omega
      clear hr hU ho
      go_wp2_with (at_builtin; have _t := R1; refine wpList_append_run rfl (.tmp 10) (.tmp 15) 23 23 rfl rfl rfl R1.out ?_; clear R1)
      go_roundw
      case rel =>
        refine ⟨k / 128, p ++ [(k : Int) % 128 + 128], _, by omega, by simp, rfl, hide_ ?_, HO2, HK2⟩
        rw [HE.out, form_big h127, List.append_assoc]
        congr 2
      case measure => simp [intOf]; omega
theorem leb_any (B : Nat) (x : Int) (l : List Int) (v : Value) (w : World) (h0 : 0 ≤ x) (hx : x ≤ 4611686018427387905) (hl : l.length ≤ 50000000000000) (hBw : B ≤ w.heap.size) (H : Hid (BOwn w B v l)) :
    Calls Try.prog 74 #[v, .int .i64 x] w fun e w' => ∃ v', e = .returned v' ∧ Hid (BOwn w' B v' (l ++ fm x)) ∧ Hid (Kb B w w') := by
  obtain ⟨n, rfl⟩ := Int.eq_ofNat_of_zero_le h0
  exact leb_c B n l v w (by omega) hl hBw H
end Go.Proofs.Ytcmkdkocponpiaa

/- Frames, plain: what Load reads; there and back; cut. -/
namespace Go.Proofs.Ytcmkdkocponpiaa
open Go.RowKit
set_option linter.unusedVariables false

/-- What Get finds at place k of a number. -/
def getA : Nat → List Int → Int × Nat × Int
  | k, [] => (0, 0, 20)
  | k, c :: l => if flt k c then (0, 0, 21) else if c < 128 then (c % 128, 1, 0) else
    let r := getA (k + 1) l
    if r.2.2 = 0 then (c % 128 + 128 * r.1, r.2.1 + 1, 0) else (0, r.2.1 + 1, r.2.2)
def getF (l : List Int) : Int × Nat × Int := getA 0 l
theorem getA_spec : ∀ (l : List Int) (k : Nat), k ≤ 9 →
    ((k + l.length ≤ 9 ∧ (∀ j, j < l.length → 128 ≤ l.getD j 0) ∧ getA k l = (0, l.length, 20)) ∨
    (∃ j, j < l.length ∧ k + j ≤ 9 ∧ (∀ i, i < j → 128 ≤ l.getD i 0) ∧ flt (k + j) (l.getD j 0) = true ∧ getA k l = (0, j, 21)) ∨
    (∃ j, j < l.length ∧ k + j ≤ 9 ∧ (∀ i, i < j → 128 ≤ l.getD i 0) ∧ flt (k + j) (l.getD j 0) = false ∧ l.getD j 0 < 128 ∧ getA k l = (val (l.take (j + 1)), j + 1, 0)))
  | [], k, hk => .inl ⟨by simpa using hk, fun j hj => by simp at hj, rfl⟩
  | c :: l, k, hk => by
    by_cases hf : flt k c = true
    · refine .inr (.inl ⟨0, by simp, by omega, fun i hi => by omega, by simpa using hf, ?_⟩)
      rw [getA, if_pos hf]
    · have hf0 : flt k c = false := by simpa using hf
      by_cases h128 : c < 128
      · refine .inr (.inr ⟨0, by simp, by omega, fun i hi => by omega, by simpa using hf0, by simpa using h128, ?_⟩)
        rw [getA, if_neg hf, if_pos h128]
        simp [val]
      · have hk9 : k ≠ 9 := fun e => by subst e; rw [flt_no] at hf0; omega
        have ih := getA_spec l (k + 1) (by omega)
        rw [getA, if_neg hf, if_neg h128]
        rcases ih with ⟨a, b, e⟩ | ⟨j, a, b, d, f, e⟩ | ⟨j, a, b, d, f, g, e⟩
        · left
          rw [e]
          refine ⟨by simp; omega, fun j hj => ?_, by simp⟩
          cases j with
          | zero => simp; omega
          | succ j => simpa using b j (by simpa using hj)
        · right; left
          rw [e]
          refine ⟨j + 1, by simp; omega, by omega, fun i hi => ?_, by rw [show k + (j + 1) = k + 1 + j by omega]; simpa using f, by simp⟩
          cases i with
          | zero => simp; omega
          | succ i => simpa using d i (by omega)
        · right; right
          rw [e]
          refine ⟨j + 1, by simp; omega, by omega, fun i hi => ?_, by rw [show k + (j + 1) = k + 1 + j by omega]; simpa using f, by simpa using g, by simp [val]⟩
          cases i with
          | zero => simp; omega
          | succ i => simpa using d i (by omega)
theorem getF_R (l : List Int) : GetR l (getF l).1 (getF l).2.1 (getF l).2.2 := by
  rcases getA_spec l 0 (by omega) with ⟨a, b, e⟩ | ⟨j, a, b, d, f, e⟩ | ⟨j, a, b, d, f, g, e⟩
  · unfold getF; rw [e]; exact .inl ⟨⟨by omega, by omega, b⟩, rfl, rfl, rfl⟩
  · unfold getF; rw [e]; rw [Nat.zero_add] at f; exact .inr (.inl ⟨j, a, ⟨by omega, by omega, d⟩, f, rfl, rfl, rfl⟩)
  · unfold getF; rw [e]; rw [Nat.zero_add] at f; exact .inr (.inr ⟨j, a, ⟨by omega, by omega, d⟩, f, g, rfl, rfl, rfl⟩)
theorem GetR.getF {l : List Int} {n e : Int} {u : Nat} (h : GetR l n u e) : getF l = (n, u, e) := by
  obtain ⟨h1, h2, h3⟩ := (getF_R l).det h
  exact Prod.ext h1 (Prod.ext h2 h3)
/-! ### What Load reads -/
def bnd {α β : Type} (x : Except (Int × Int) α) (f : α → Except (Int × Int) β) : Except (Int × Int) β := match x with
  | .error e => .error e
  | .ok a => f a
theorem bnd_ok {α β : Type} (a : α) (f : α → Except (Int × Int) β) : bnd (.ok a) f = f a := rfl
theorem bnd_err {α β : Type} (e : Int × Int) (f : α → Except (Int × Int) β) : bnd (.error e) f = .error e := rfl
theorem bnd_is {α β : Type} {x : Except (Int × Int) α} {f : α → Except (Int × Int) β} {b : β} (h : bnd x f = .ok b) : ∃ a, x = .ok a ∧ f a = .ok b := by
  cases x with
  | error e => cases h
  | ok a => exact ⟨a, rfl, h⟩
theorem bnd_er {α β : Type} {x : Except (Int × Int) α} {f : α → Except (Int × Int) β} {e : Int × Int} (h : bnd x f = .error e) : x = .error e ∨ ∃ a, x = .ok a ∧ f a = .error e := by
  cases x with
  | error e' => left; rw [bnd_err] at h; injection h with h; rw [h]
  | ok a => exact .inr ⟨a, rfl, h⟩
def numP (b : List Int) (lo hi : Int) (p : Nat) : Except (Int × Int) (Int × Nat) :=
  if (getF (b.drop p)).2.2 = 0 then
    if lo ≤ (getF (b.drop p)).1 ∧ (getF (b.drop p)).1 ≤ hi then .ok ((getF (b.drop p)).1, p + (getF (b.drop p)).2.1) else .error (221, p)
  else .error ((getF (b.drop p)).2.2, ((p + (getF (b.drop p)).2.1 : Nat) : Int))
def posP (b : List Int) (p : Nat) : Except (Int × Int) (Int × Nat) := numP b 0 4611686018427387904 p
def ponP (b : List Int) (p : Nat) : Except (Int × Int) (Int × Nat) := bnd (numP b 0 4611686018427387905 p) fun x => .ok (x.1 - 1, x.2)
def tabP (b : List Int) : Nat → Nat → Except (Int × Int) (List Int × Nat)
  | 0, p => .ok ([], p)
  | k + 1, p => bnd (posP b p) fun x => bnd (tabP b k x.2) fun y => .ok (x.1 :: y.1, y.2)
def frP (b : List Int) (p : Nat) : Except (Int × Int) (Fr × Nat) :=
  bnd (posP b p) fun r => bnd (posP b r.2) fun a => bnd (posP b a.2) fun s => bnd (ponP b s.2) fun e => bnd (ponP b e.2) fun n => bnd (posP b n.2) fun x =>
    bnd (numP b 0 1048576 x.2) fun k => bnd (tabP b k.1.toNat k.2) fun t => .ok (⟨r.1, a.1, s.1, e.1, n.1, x.1, t.1⟩, t.2)
def frsP (b : List Int) : Nat → Nat → Except (Int × Int) (List Fr × Nat)
  | 0, p => .ok ([], p)
  | k + 1, p => bnd (frP b p) fun x => bnd (frsP b k x.2) fun y => .ok (x.1 :: y.1, y.2)
def ldP (b : List Int) : Except (Int × Int) (List Fr × Int × Int) :=
  if b = [] then .error (20, 0) else if b.getD 0 0 ≠ 102 then .error (221, 0) else
    bnd (numP b 1 1048576 1) fun m => bnd (numP b 0 m.1 m.2) fun k => bnd (numP b k.1 m.1 k.2) fun h => bnd (frsP b k.1.toNat h.2) fun f =>
      if f.2 < b.length then .error (124, (f.2 : Int)) else .ok (f.1, m.1, h.1)
/-! ### Cut anywhere -/
def CutR {α : Type} (x : Except (Int × Int) (α × Nat)) (a : α) (q k : Nat) : Prop := (x = .ok (a, q) ∧ q ≤ k) ∨ (x = .error (20, (k : Int)) ∧ k < q)
theorem CutR.bnd {α β : Type} {x : Except (Int × Int) (α × Nat)} {a : α} {q k : Nat} (h : CutR x a q k) {f : α × Nat → Except (Int × Int) (β × Nat)} {c : β} {s : Nat} (hf : q ≤ k → CutR (f (a, q)) c s k) (hs : q ≤ s) : CutR (bnd x f) c s k := by
  rcases h with ⟨rfl, h⟩ | ⟨rfl, h⟩
  · exact hf h
  · exact .inr ⟨rfl, by omega⟩
theorem drop_len {W r l : List Int} {p : Nat} (h : W.drop p = l ++ r) : W.drop (p + l.length) = r := by
  rw [← List.drop_drop, h, List.drop_left]
theorem numC {W r : List Int} {p k : Nat} {x lo hi : Int} (h : W.drop p = fm x ++ r) (hp : p ≤ k) (h0 : 0 ≤ x) (hx : x ≤ 4611686018427387905) (hl : lo ≤ x) (hh : x ≤ hi) : CutR (numP (W.take k) lo hi p) x (p + (fm x).length) k := by
  have e1 : (W.take k).drop p = (fm x ++ r).take (k - p) := by rw [List.drop_take, h]
  have hn : x.toNat < 18446744073709551616 := by omega
  have hc : ((x.toNat : Nat) : Int) = x := Int.toNat_of_nonneg h0
  by_cases hk : p + (fm x).length ≤ k
  · left
    have e2 : (W.take k).drop p = form x.toNat ++ r.take (k - p - (fm x).length) := by
      rw [e1, List.take_append, List.take_of_length_le (by omega)]; rfl
    have hg := (get_form x.toNat hn (r.take (k - p - (fm x).length))).getF
    unfold numP
    rw [e2, hg]
    refine ⟨?_, hk⟩
    rw [if_pos rfl, hc, if_pos ⟨hl, hh⟩]
    rfl
  · right
    have hi' : k - p < (form x.toNat).length := by have : (fm x).length = (form x.toNat).length := rfl; omega
    have e2 : (W.take k).drop p = (form x.toNat).take (k - p) := by
      rw [e1, List.take_append, show k - p - (fm x).length = 0 by omega, List.take_zero, List.append_nil]; rfl
    have hg := (get_cut x.toNat hn (k - p) hi').getF
    unfold numP
    rw [e2, hg]
    refine ⟨?_, by omega⟩
    rw [if_neg (show ¬ (20 : Int) = 0 by decide), show p + (k - p) = k by omega]
theorem posC {W r : List Int} {p k : Nat} {x : Int} (h : W.drop p = fm x ++ r) (hp : p ≤ k) (hx : posB x = true) : CutR (posP (W.take k) p) x (p + (fm x).length) k := by
  have := posB_is hx
  exact numC h hp (by omega) (by omega) (by omega) (by omega)
theorem ponC {W r : List Int} {p k : Nat} {x : Int} (h : W.drop p = fm (x + 1) ++ r) (hp : p ≤ k) (hx : ponB x = true) : CutR (ponP (W.take k) p) x (p + (fm (x + 1)).length) k := by
  have := ponB_is hx
  refine (numC h hp (by omega) (by omega) (by omega) (by omega)).bnd (fun hq => ?_) (Nat.le_refl _)
  refine .inl ⟨?_, hq⟩
  show Except.ok (x + 1 - 1, _) = _
  rw [Int.add_sub_cancel]
theorem tabC {W : List Int} {k : Nat} : ∀ (T : List Int) (r : List Int) (p : Nat), W.drop p = T.flatMap fm ++ r → p ≤ k → (∀ y ∈ T, posB y = true) → CutR (tabP (W.take k) T.length p) T (p + (T.flatMap fm).length) k
  | [], r, p, h, hp, hT => .inl ⟨rfl, by simpa using hp⟩
  | y :: T, r, p, h, hp, hT => by
    rw [List.flatMap_cons, List.append_assoc] at h
    have h2 := drop_len h
    refine (posC h hp (hT y (by simp))).bnd (fun hq => ?_) (by rw [List.flatMap_cons, List.length_append]; omega)
    have ih := tabC T r _ h2 hq (fun z hz => hT z (by simp [hz]))
    rw [List.flatMap_cons, List.length_append, ← Nat.add_assoc]
    exact ih.bnd (fun hs => .inl ⟨rfl, hs⟩) (Nat.le_refl _)
theorem svF_is (f : Fr) (r : List Int) : svF f ++ r = fm f.r ++ (fm f.a ++ (fm f.b ++ (fm (f.e + 1) ++ (fm (f.n + 1) ++ (fm f.x ++ (fm (f.T.length : Int) ++ (f.T.flatMap fm ++ r))))))) := by
  simp [svF, hd6]
theorem frC {W r : List Int} {p k : Nat} {f : Fr} (h : W.drop p = svF f ++ r) (hp : p ≤ k) (hf : frB f = true) : CutR (frP (W.take k) p) f (p + (svF f).length) k := by
  obtain ⟨hl, hT, hh⟩ := frB_is hf
  obtain ⟨a1, a2, a3, a4, a5, a6⟩ := hdB_is hh
  have hlen : (svF f).length = (fm f.r).length + ((fm f.a).length + ((fm f.b).length + ((fm (f.e + 1)).length + ((fm (f.n + 1)).length + ((fm f.x).length + ((fm (f.T.length : Int)).length + (f.T.flatMap fm).length)))))) := by
    have := congrArg List.length (svF_is f [])
    simpa using this
  rw [svF_is] at h
  have h1 := drop_len h
  have h2 := drop_len h1
  have h3 := drop_len h2
  have h4 := drop_len h3
  have h5 := drop_len h4
  have h6 := drop_len h5
  have h7 := drop_len h6
  rw [hlen]
  refine (posC h hp a1).bnd (fun q1 => ?_) (by omega)
  refine (posC h1 q1 a2).bnd (fun q2 => ?_) (by omega)
  refine (posC h2 q2 a3).bnd (fun q3 => ?_) (by omega)
  refine (ponC h3 q3 a4).bnd (fun q4 => ?_) (by omega)
  refine (ponC h4 q4 a5).bnd (fun q5 => ?_) (by omega)
  refine (posC h5 q5 a6).bnd (fun q6 => ?_) (by omega)
  refine (numC h6 q6 (by omega) (by omega) (by omega) (by omega)).bnd (fun q7 => ?_) (by omega)
  have ht := tabC f.T r _ h7 q7 hT
  dsimp only
  rw [Int.toNat_natCast]
  refine ht.bnd (fun q8 => ?_) (by omega)
  exact .inl ⟨by rw [show ∀ a b c d e f' g' h' i' : Nat, a + b + c + d + e + f' + g' + h' + i' = a + (b + (c + (d + (e + (f' + (g' + (h' + i'))))))) from fun _ _ _ _ _ _ _ _ _ => by omega], by omega⟩
theorem frsC {W : List Int} {k : Nat} : ∀ (fs : List Fr) (r : List Int) (p : Nat), W.drop p = fs.flatMap svF ++ r → p ≤ k → (∀ y ∈ fs, frB y = true) → CutR (frsP (W.take k) fs.length p) fs (p + (fs.flatMap svF).length) k
  | [], r, p, h, hp, hT => .inl ⟨rfl, by simpa using hp⟩
  | y :: fs, r, p, h, hp, hT => by
    rw [List.flatMap_cons, List.append_assoc] at h
    have h2 := drop_len h
    refine (frC h hp (hT y (by simp))).bnd (fun hq => ?_) (by rw [List.flatMap_cons, List.length_append]; omega)
    have ih := frsC fs r _ h2 hq (fun z hz => hT z (by simp [hz]))
    rw [List.flatMap_cons, List.length_append, ← Nat.add_assoc]
    exact ih.bnd (fun hs => .inl ⟨rfl, hs⟩) (Nat.le_refl _)
/-- What a stack may be. -/
structure SkOk (fs : List Fr) (m h : Int) : Prop where
  hm : 1 ≤ m ∧ m ≤ 1048576
  hl : (fs.length : Int) ≤ m
  hh : (fs.length : Int) ≤ h ∧ h ≤ m
  rt : ∀ f ∈ fs, frB f = true
/-- A stack's bytes, with more behind them, cut anywhere. -/
theorem ldC {fs : List Fr} {m h : Int} (ok : SkOk fs m h) (more : List Int) (k : Nat) (hk : k ≤ (sv fs m h ++ more).length) :
    ldP ((sv fs m h ++ more).take k) = if k < (sv fs m h).length then .error (20, (k : Int)) else if (sv fs m h).length < k then .error (124, ((sv fs m h).length : Int)) else .ok (fs, m, h) := by
  have e0 : sv fs m h ++ more = [102] ++ (fm m ++ (fm (fs.length : Int) ++ (fm h ++ (fs.flatMap svF ++ more)))) := by simp [sv, svH]
  have hlen : (sv fs m h).length = 1 + ((fm m).length + ((fm (fs.length : Int)).length + ((fm h).length + (fs.flatMap svF).length))) := by simp [sv, svH]; omega
  obtain ⟨W, hW⟩ : ∃ W, sv fs m h ++ more = W := ⟨_, rfl⟩
  rw [hW] at hk e0 ⊢
  have h1 := ok.hm; have h2 := ok.hl; have h3 := ok.hh
  cases k with
  | zero =>
    rw [if_pos (by omega)]
    simp [ldP]
  | succ k =>
    have d0 : W.drop 1 = fm m ++ (fm (fs.length : Int) ++ (fm h ++ (fs.flatMap svF ++ more))) := by rw [e0]; rfl
    have d1 := drop_len d0
    have d2 := drop_len d1
    have d3 := drop_len d2
    have hne : ¬ W.take (k + 1) = [] := by rw [e0]; simp
    have hhd : ¬ (W.take (k + 1)).getD 0 0 ≠ 102 := by rw [e0]; simp
    have hb : CutR (bnd (numP (W.take (k + 1)) 1 1048576 1) fun m' => bnd (numP (W.take (k + 1)) 0 m'.1 m'.2) fun k' => bnd (numP (W.take (k + 1)) k'.1 m'.1 k'.2) fun h' => bnd (frsP (W.take (k + 1)) k'.1.toNat h'.2) fun f => .ok ((f.1, m'.1, h'.1), f.2)) (fs, m, h) (sv fs m h).length (k + 1) := by
      rw [hlen]
      refine (numC d0 (by omega) (by omega) (by omega) (by omega) (by omega)).bnd (fun q1 => ?_) (by omega)
      refine (numC d1 q1 (by omega) (by omega) (by omega) (by omega)).bnd (fun q2 => ?_) (by omega)
      refine (numC d2 q2 (by omega) (by omega) (by omega) (by omega)).bnd (fun q3 => ?_) (by omega)
      dsimp only
      rw [Int.toNat_natCast]
      refine (frsC fs more _ d3 q3 ok.rt).bnd (fun q4 => ?_) (by omega)
      exact .inl ⟨by rw [show ∀ a b c d e : Nat, a + b + c + d + e = a + (b + (c + (d + e))) from fun _ _ _ _ _ => by omega], by omega⟩
    have hl : (W.take (k + 1)).length = k + 1 := by simp; omega
    unfold ldP
    rw [if_neg hne, if_neg hhd]
    have key : ∀ (x : Except (Int × Int) (Int × Nat)) (F : Int × Nat → Except (Int × Int) (Int × Nat)) (G : Int × Nat → Int × Nat → Except (Int × Int) (Int × Nat)) (H : Int × Nat → Int × Nat → Except (Int × Int) (List Fr × Nat)),
        (bnd x fun m' => bnd (F m') fun k' => bnd (G m' k') fun h' => bnd (H k' h') fun f => if f.2 < (W.take (k + 1)).length then .error (124, (f.2 : Int)) else .ok (f.1, m'.1, h'.1)) =
        bnd (bnd x fun m' => bnd (F m') fun k' => bnd (G m' k') fun h' => bnd (H k' h') fun f => .ok ((f.1, m'.1, h'.1), f.2)) fun z => if z.2 < (W.take (k + 1)).length then .error (124, (z.2 : Int)) else .ok z.1 := by
      intro x F G H
      cases x with
      | error e => rfl
      | ok a =>
        simp only [bnd_ok]
        cases F a with
        | error e => rfl
        | ok b =>
          simp only [bnd_ok]
          cases G a b with
          | error e => rfl
          | ok c =>
            simp only [bnd_ok]
            cases H b c with
            | error e => rfl
            | ok d => rfl
    rw [key (numP (W.take (k + 1)) 1 1048576 1) (fun m' => numP (W.take (k + 1)) 0 m'.1 m'.2) (fun m' k' => numP (W.take (k + 1)) k'.1 m'.1 k'.2) (fun k' h' => frsP (W.take (k + 1)) k'.1.toNat h'.2)]
    rcases hb with ⟨e, hq⟩ | ⟨e, hq⟩
    · rw [e, bnd_ok, hl, if_neg (show ¬ k + 1 < (sv fs m h).length by omega)]
    · rw [e, bnd_err, if_pos hq]
/-! ### Back -/
theorem numB {b : List Int} {lo hi : Int} {p q : Nat} {x : Int} (hb : Bys b) (hp : p ≤ b.length) (h : numP b lo hi p = .ok (x, q)) : lo ≤ x ∧ x ≤ hi ∧ 0 ≤ x ∧ p ≤ q ∧ q ≤ b.length ∧ b.drop p = fm x ++ b.drop q := by
  unfold numP at h
  split at h
  · rename_i h0
    split at h
    · rename_i h1
      injection h with h
      injection h with hx hq
      have hg := get_back (getF_R (b.drop p)) (hb.drop p) h0
      rw [List.length_drop] at hg
      subst hx hq
      refine ⟨h1.1, h1.2, hg.2.2.1, by omega, by omega, ?_⟩
      unfold fm
      rw [hg.2.2.2.2, ← List.drop_drop, List.take_append_drop]
    · cases h
  · cases h
theorem posBk {b : List Int} {p q : Nat} {x : Int} (hb : Bys b) (hp : p ≤ b.length) (h : posP b p = .ok (x, q)) : posB x = true ∧ p ≤ q ∧ q ≤ b.length ∧ b.drop p = fm x ++ b.drop q := by
  obtain ⟨h1, h2, h3, h4, h5, h6⟩ := numB hb hp h
  exact ⟨posB_of h1 h2, h4, h5, h6⟩
theorem ponBk {b : List Int} {p q : Nat} {x : Int} (hb : Bys b) (hp : p ≤ b.length) (h : ponP b p = .ok (x, q)) : ponB x = true ∧ p ≤ q ∧ q ≤ b.length ∧ b.drop p = fm (x + 1) ++ b.drop q := by
  obtain ⟨⟨y, r⟩, h1, h2⟩ := bnd_is h
  injection h2 with h2
  injection h2 with h2 h3
  dsimp only at h2 h3
  subst h3
  obtain ⟨a1, a2, a3, a4, a5, a6⟩ := numB hb hp h1
  have e : x + 1 = y := by omega
  rw [e]
  exact ⟨ponB_of (by omega) (by omega), a4, a5, a6⟩
theorem tabBk {b : List Int} (hb : Bys b) : ∀ (k : Nat) (p : Nat) (T : List Int) (q : Nat), p ≤ b.length → tabP b k p = .ok (T, q) → T.length = k ∧ (∀ y ∈ T, posB y = true) ∧ p ≤ q ∧ q ≤ b.length ∧ b.drop p = T.flatMap fm ++ b.drop q
  | 0, p, T, q, hp, h => by
    injection h with h
    injection h with h1 h2
    subst h1 h2
    exact ⟨rfl, fun y hy => (by cases hy), Nat.le_refl _, hp, by simp⟩
  | k + 1, p, T, q, hp, h => by
    obtain ⟨⟨x, r⟩, h1, h2⟩ := bnd_is h
    obtain ⟨⟨T', s⟩, h3, h4⟩ := bnd_is h2
    injection h4 with h4
    injection h4 with h5 h6
    dsimp only at h5 h6 h3
    subst h5 h6
    obtain ⟨a1, a2, a3, a4⟩ := posBk hb hp h1
    obtain ⟨b1, b2, b3, b4, b5⟩ := tabBk hb k r T' s a3 h3
    exact ⟨by simp [b1], fun y hy => by
      rcases List.mem_cons.1 hy with rfl | hy
      · exact a1
      · exact b2 y hy, by omega, b4, by rw [a4, b5, List.flatMap_cons, List.append_assoc]⟩
theorem frBk {b : List Int} (hb : Bys b) {p q : Nat} {f : Fr} (hp : p ≤ b.length) (h : frP b p = .ok (f, q)) : frB f = true ∧ p ≤ q ∧ q ≤ b.length ∧ b.drop p = svF f ++ b.drop q := by
  obtain ⟨⟨x1, p1⟩, h1, h⟩ := bnd_is h
  obtain ⟨⟨x2, p2⟩, h2, h⟩ := bnd_is h
  obtain ⟨⟨x3, p3⟩, h3, h⟩ := bnd_is h
  obtain ⟨⟨x4, p4⟩, h4, h⟩ := bnd_is h
  obtain ⟨⟨x5, p5⟩, h5, h⟩ := bnd_is h
  obtain ⟨⟨x6, p6⟩, h6, h⟩ := bnd_is h
  obtain ⟨⟨x7, p7⟩, h7, h⟩ := bnd_is h
  obtain ⟨⟨x8, p8⟩, h8, h⟩ := bnd_is h
  injection h with h
  injection h with hf hq
  dsimp only at hf hq h2 h3 h4 h5 h6 h7 h8
  subst hf hq
  obtain ⟨a1, b1, c1, d1⟩ := posBk hb hp h1
  obtain ⟨a2, b2, c2, d2⟩ := posBk hb c1 h2
  obtain ⟨a3, b3, c3, d3⟩ := posBk hb c2 h3
  obtain ⟨a4, b4, c4, d4⟩ := ponBk hb c3 h4
  obtain ⟨a5, b5, c5, d5⟩ := ponBk hb c4 h5
  obtain ⟨a6, b6, c6, d6⟩ := posBk hb c5 h6
  obtain ⟨a7, a7', z7, b7, c7, d7⟩ := numB hb c6 h7
  obtain ⟨l8, a8, b8, c8, d8⟩ := tabBk hb _ _ _ _ c7 h8
  have hl : (x8.length : Int) = x7 := by rw [l8, Int.toNat_of_nonneg z7]
  refine ⟨frB_of (by show x8.length ≤ _; omega) a8 (by simp [hdB, a1, a2, a3, a4, a5, a6]), by omega, c8, ?_⟩
  rw [svF_is]
  dsimp only
  rw [hl, d1, d2, d3, d4, d5, d6, d7, d8]
theorem frsBk {b : List Int} (hb : Bys b) : ∀ (k : Nat) (p : Nat) (T : List Fr) (q : Nat), p ≤ b.length → frsP b k p = .ok (T, q) → T.length = k ∧ (∀ y ∈ T, frB y = true) ∧ p ≤ q ∧ q ≤ b.length ∧ b.drop p = T.flatMap svF ++ b.drop q
  | 0, p, T, q, hp, h => by
    injection h with h
    injection h with h1 h2
    subst h1 h2
    exact ⟨rfl, fun y hy => (by cases hy), Nat.le_refl _, hp, by simp⟩
  | k + 1, p, T, q, hp, h => by
    obtain ⟨⟨x, r⟩, h1, h2⟩ := bnd_is h
    obtain ⟨⟨T', s⟩, h3, h4⟩ := bnd_is h2
    injection h4 with h4
    injection h4 with h5 h6
    dsimp only at h5 h6 h3
    subst h5 h6
    obtain ⟨a1, a2, a3, a4⟩ := frBk hb hp h1
    obtain ⟨b1, b2, b3, b4, b5⟩ := frsBk hb k r T' s a3 h3
    exact ⟨by simp [b1], fun y hy => by
      rcases List.mem_cons.1 hy with rfl | hy
      · exact a1
      · exact b2 y hy, by omega, b4, by rw [a4, b5, List.flatMap_cons, List.append_assoc]⟩
/-- What is loaded is a stack, and the bytes are its own. -/
theorem ldB {b : List Int} (hb : Bys b) {fs : List Fr} {m h : Int} (hd : ldP b = .ok (fs, m, h)) : SkOk fs m h ∧ sv fs m h = b := by
  unfold ldP at hd
  split at hd
  · cases hd
  rename_i hne
  split at hd
  · cases hd
  rename_i hh
  have hh' : b.getD 0 0 = 102 := by omega
  obtain ⟨⟨x1, p1⟩, h1, hd⟩ := bnd_is hd
  obtain ⟨⟨x2, p2⟩, h2, hd⟩ := bnd_is hd
  obtain ⟨⟨x3, p3⟩, h3, hd⟩ := bnd_is hd
  obtain ⟨⟨x4, p4⟩, h4, hd⟩ := bnd_is hd
  dsimp only at h2 h3 h4 hd
  split at hd
  · cases hd
  rename_i hend
  injection hd with hd
  injection hd with e1 hd
  injection hd with e2 e3
  subst e1 e2 e3
  have hl1 : 1 ≤ b.length := by
    cases b with
    | nil => exact absurd rfl hne
    | cons c l => simp
  obtain ⟨a1, b1, z1, l1, c1, d1⟩ := numB hb hl1 h1
  obtain ⟨a2, b2, z2, l2, c2, d2⟩ := numB hb c1 h2
  obtain ⟨a3, b3, z3, l3, c3, d3⟩ := numB hb c2 h3
  obtain ⟨l4, a4, b4, c4, d4⟩ := frsBk hb _ _ _ _ c3 h4
  have hk : (x4.length : Int) = x2 := by rw [l4, Int.toNat_of_nonneg z2]
  refine ⟨⟨⟨a1, b1⟩, by omega, ⟨by omega, b3⟩, a4⟩, ?_⟩
  have e0 : b = [102] ++ b.drop 1 := by
    cases b with
    | nil => exact absurd rfl hne
    | cons c l => simp at hh'; subst hh'; rfl
  have hz : b.drop p4 = [] := List.drop_eq_nil_of_le (by omega)
  rw [hz, List.append_nil] at d4
  rw [e0, d1, d2, d3, d4]
  simp [sv, svH, hk]
theorem numE {b : List Int} {lo hi : Int} {p : Nat} {e a : Int} (h : numP b lo hi p = .error (e, a)) : e ≠ 0 := by
  unfold numP at h
  split at h
  · split at h
    · cases h
    · injection h with h
      injection h with h1 h2
      omega
  · rename_i h0
    injection h with h
    injection h with h1 h2
    omega
theorem ponE {b : List Int} {p : Nat} {e a : Int} (h : ponP b p = .error (e, a)) : e ≠ 0 := by
  rcases bnd_er h with h | ⟨_, _, h⟩
  · exact numE h
  · cases h
theorem tabE {b : List Int} : ∀ (k : Nat) (p : Nat) (e a : Int), tabP b k p = .error (e, a) → e ≠ 0
  | 0, p, e, a, h => by cases h
  | k + 1, p, e, a, h => by
    rcases bnd_er h with h | ⟨_, _, h⟩
    · exact numE h
    rcases bnd_er h with h | ⟨_, _, h⟩
    · exact tabE k _ e a h
    · cases h
theorem frE {b : List Int} {p : Nat} {e a : Int} (h : frP b p = .error (e, a)) : e ≠ 0 := by
  rcases bnd_er h with h | ⟨_, _, h⟩
  · exact numE h
  rcases bnd_er h with h | ⟨_, _, h⟩
  · exact numE h
  rcases bnd_er h with h | ⟨_, _, h⟩
  · exact numE h
  rcases bnd_er h with h | ⟨_, _, h⟩
  · exact ponE h
  rcases bnd_er h with h | ⟨_, _, h⟩
  · exact ponE h
  rcases bnd_er h with h | ⟨_, _, h⟩
  · exact numE h
  rcases bnd_er h with h | ⟨_, _, h⟩
  · exact numE h
  rcases bnd_er h with h | ⟨_, _, h⟩
  · exact tabE _ _ _ _ h
  · cases h
theorem frsE {b : List Int} : ∀ (k : Nat) (p : Nat) (e a : Int), frsP b k p = .error (e, a) → e ≠ 0
  | 0, p, e, a, h => by cases h
  | k + 1, p, e, a, h => by
    rcases bnd_er h with h | ⟨_, _, h⟩
    · exact frE h
    rcases bnd_er h with h | ⟨_, _, h⟩
    · exact frsE k _ e a h
    · cases h
theorem ldE {b : List Int} {e a : Int} (h : ldP b = .error (e, a)) : e ≠ 0 := by
  unfold ldP at h
  split at h
  · injection h with h; injection h with h1 h2; omega
  split at h
  · injection h with h; injection h with h1 h2; omega
  rcases bnd_er h with h | ⟨_, _, h⟩
  · exact numE h
  rcases bnd_er h with h | ⟨_, _, h⟩
  · exact numE h
  rcases bnd_er h with h | ⟨_, _, h⟩
  · exact numE h
  rcases bnd_er h with h | ⟨_, _, h⟩
  · exact frsE _ _ _ _ h
  split at h
  · injection h with h; injection h with h1 h2; omega
  · cases h
end Go.Proofs.Ytcmkdkocponpiaa

/- Frames: the reader: giveUp, number, position, positionOrNone, mark. -/
namespace Go.Proofs.Ytcmkdkocponpiaa
open Go.RowKit
set_option linter.unusedVariables false

def Flt (c a : Int) : Ending := .panicked [{ v := .iface 31 (.agg #[.int .i64 c, .int .i64 a]), recovered := false }]
set_option maxRecDepth 100000 in
set_option maxHeartbeats 4000000 in
theorem giveUp_any (c a : Int) (w : World) : Calls Try.prog 51 #[.int .i64 c, .int .i64 a] w fun e w' => e = Flt c a ∧ w = w' := by
  go_enter Try.func51, Try.ntmps51
  go_wp2
  exact ⟨rfl, rfl, rfl⟩
theorem Row.upd0 {k : IntKind} {w w' : World} {a : Option Addr} {l : List Int} {S : Nat → Prop} (h : Row k w a l) (hu : Upd S w w') (hg : 0 < l.length → ∀ x, a = some x → ¬ S x.block) : Row k w' a l := by
  rcases Nat.eq_zero_or_pos l.length with h0 | h0
  · rcases h with ⟨rfl, h⟩ | ⟨x, rfl, hc⟩
    · exact .inl ⟨rfl, h⟩
    · exact .inr ⟨x, rfl, fun i hi => by omega⟩
  · exact h.upd hu (hg h0)
/-- A reader lies at g, over these bytes, at this place. -/
structure RdM (w : World) (g : Nat) (a : Option Addr) (c : Nat) (b : List Int) (p : Nat) : Prop where
  box : Blk w g 74 [.slice a b.length c, .int .i64 (p : Int)]
  row : Row .u8 w a b
  nil : a = none → c = 0
  at_ : p ≤ b.length
  bys : Bys b
  cap : b.length ≤ c
  max : c ≤ 9223372036854775807
  ap : 0 < b.length → ∀ x, a = some x → x.block ≠ g
theorem RdM.upd {w w' : World} {g : Nat} {a : Option Addr} {c : Nat} {b : List Int} {p : Nat} {S : Nat → Prop} (h : RdM w g a c b p) (hu : Upd S w w') (hg : ¬ S g) (ha : 0 < b.length → ∀ x, a = some x → ¬ S x.block) : RdM w' g a c b p :=
  ⟨h.box.upd hu hg, h.row.upd0 hu ha, h.nil, h.at_, h.bys, h.cap, h.max, h.ap⟩
theorem RdM.later {w w' : World} {g : Nat} {a : Option Addr} {c : Nat} {b : List Int} {p : Nat} (h : RdM w g a c b p) (hB : Below w.heap.size w w') : RdM w' g a c b p := ⟨h.box.later hB, h.row.later hB, h.nil, h.at_, h.bys, h.cap, h.max, h.ap⟩
/-- It stands elsewhere. -/
theorem RdM.step {w : World} {g : Nat} {a : Option Addr} {c : Nat} {b : List Int} {p : Nat} (h : RdM w g a c b p) (q : Nat) (hq : q ≤ b.length) : RdM (w.setCell ⟨g, 1, none⟩ (.int .i64 (q : Int))) g a c b q := by
  have hu := (Upd.refl (fun k => k = g) w).set ⟨g, 1, none⟩ (.int .i64 (q : Int)) (.inl rfl)
  exact ⟨h.box.set 1 _, h.row.upd0 hu h.ap, h.nil, hq, h.bys, h.cap, h.max, h.ap⟩
/-- What the reader's number answers. -/
def NumTo (w : World) (g : Nat) (a : Option Addr) (c : Nat) (b : List Int) (R : Except (Int × Int) (Int × Nat)) (e : Ending) (w' : World) : Prop :=
  (∃ x q, R = .ok (x, q) ∧ e = .returned (.int .i64 x) ∧ Hid (RdM w' g a c b q) ∧ Hid (Upd (fun k => k = g) w w')) ∨
  (∃ er at_, R = .error (er, at_) ∧ e = Flt er at_ ∧ Hid (Upd (fun k => k = g) w w'))
set_option maxRecDepth 100000 in
set_option maxHeartbeats 16000000 in
theorem number_any (w : World) (g : Nat) (a : Option Addr) (c : Nat) (b : List Int) (p : Nat) (lo hi : Int) (hR : Hid (RdM w g a c b p)) (hne : 0 < b.length) (h0 : 0 ≤ lo) (hlo : lo ≤ 4611686018427387905) (h1 : 0 ≤ hi) (hhi : hi ≤ 4611686018427387905) :
    Calls Try.prog 49 #[.pointer (some ⟨g, 0, none⟩), .int .i64 lo, .int .i64 hi] w fun e w' => NumTo w g a c b (numP b lo hi p) e w' := by
  obtain ⟨R, hRd⟩ : ∃ R, numP b lo hi p = R := ⟨_, rfl⟩
  have HR := hide_ hRd
  rw [hRd]
  unfold numP at hRd
  obtain ⟨gb, off, rfl, hgb, hcb⟩ := hR.out.row.open hne
  have hpb := hR.out.at_
  have hbc := hR.out.cap
  have hcm := hR.out.max
  obtain ⟨A, hA⟩ : ∃ A : Option Addr, A = (if c = p then some ⟨gb, off, none⟩ else some ⟨gb, off + p, none⟩) := ⟨_, rfl⟩
  have hrow : Row .u8 w A (b.drop p) := by
    rw [hA]
    by_cases e : c = p
    · rw [if_pos e, List.drop_eq_nil_of_le (by omega)]
      exact .inr ⟨_, rfl, fun i hi => by simp at hi⟩
    · rw [if_neg e]
      exact hR.out.row.drop p
  have hld : (b.drop p).length = b.length - p := List.length_drop
  have hG : ∀ w', Row .u8 w' A (b.drop p) → Calls Try.prog 70 #[.slice A (b.length - p) (c - p)] w' fun e w'' => e = .returned (.tuple #[.int .u64 (getF (b.drop p)).1, .int .i64 ((getF (b.drop p)).2.1 : Int), .int .i64 (getF (b.drop p)).2.2]) ∧ w' = w'' := fun w' hr =>
    (get_any A (b.length - p) (c - p) (b.drop p) w' hld (by unfold maxLen; omega) hr (hR.out.bys.drop p)).mono (by
      rintro e w'' ⟨n, u, r, hg, rfl, rfl⟩
      rw [hg.getF]
      exact ⟨rfl, rfl⟩)
  have hu64 := get_u64 (getF_R (b.drop p)) (hR.out.bys.drop p)
  obtain ⟨n, hn⟩ : ∃ n, (getF (b.drop p)).1 = n := ⟨_, rfl⟩
  obtain ⟨u, hu⟩ : ∃ u, (getF (b.drop p)).2.1 = u := ⟨_, rfl⟩
  obtain ⟨r, hr⟩ : ∃ r, (getF (b.drop p)).2.2 = r := ⟨_, rfl⟩
  rw [hn, hu, hr] at hRd hG
  rw [hn, hu, hld] at hu64
  obtain ⟨hn0, hn1, hu1, -⟩ := hu64
  have HG := hide_ (hG w.drew hrow.drew)
  have HRd := hide_ hRd
  have q0 := hR.out.box.cell 0; have q1 := hR.out.box.cell 1; have z1 := hR.out.box.frozen 1
  simp at q0 q1
  have hw := i64w ((p : Int) + u) (by omega)
  have hwl : IntKind.u64.wrap lo = lo := by rw [IntKind.wrap_u64]; omega
  have hwh : IntKind.u64.wrap hi = hi := by rw [IntKind.wrap_u64]; omega
  have HS1 : Hid ((fun w' => w'.cell? ⟨g, 0, none⟩ = some (.slice (some ⟨gb, off, none⟩) b.length c) ∧ w'.cell? ⟨g, 1, none⟩ = some (.int .i64 (p : Int))) w.drew) := hide_ ⟨q0, q1⟩
  have HA := hide_ hA
  have hud : Upd (fun k => k = g) w w.drew := (Upd.refl _ w).drew
  clear hn hu hr hrow hG hRd hld hA hcb
  go_enter Try.func49, Try.ntmps49
  go_upto_region 1 with fail
  refine wp_region_last 16 (fun w' => w'.cell? ⟨g, 0, none⟩ = some (.slice (some ⟨gb, off, none⟩) b.length c) ∧ w'.cell? ⟨g, 1, none⟩ = some (.int .i64 (p : Int))) (by kernel_rfl) (HS1.out) (fun hHeld => ?_)
  refine wpAnyF_take [16] (by kernel_rfl) (i := 0) (v := ?vf1) rfl (by kernel_rfl) (by kernel_rfl) (by kernel_rfl) (fun _ _ _ h => h) (Or.inl ⟨by kernel_rfl, ?hyf1⟩) hHeld ?restf1
  case hyf1 => intro w' hSw; (try dsimp only at hSw); go_simp; try with_reducible rfl
  simp only [Act.put]
  try dsimp only
  refine wpAnyF_take [16] (by kernel_rfl) (i := 1) (v := ?vf2) rfl (by kernel_rfl) (by kernel_rfl) (by kernel_rfl) (fun _ _ _ h => h) (Or.inl ⟨by kernel_rfl, ?hyf2⟩) hHeld ?restf2
  case hyf2 => intro w' hSw; (try dsimp only at hSw); go_simp; try with_reducible rfl
  simp only [Act.put]
  try dsimp only
  refine wpAnyF_take [16] (by kernel_rfl) (i := 2) (v := ?vf3) rfl (by kernel_rfl) (by kernel_rfl) (by kernel_rfl) (fun _ _ _ h => h) (Or.inl ⟨by kernel_rfl, ?hyf3⟩) hHeld ?restf3
  case hyf3 => intro w' hSw; (try dsimp only at hSw); go_simp; try with_reducible rfl
  simp only [Act.put]
  try dsimp only
  refine wpAnyF_take [16] (by kernel_rfl) (i := 3) (v := ?vf4) rfl (by kernel_rfl) (by kernel_rfl) (by kernel_rfl) (fun _ _ _ h => h) (Or.inl ⟨by kernel_rfl, ?hyf4⟩) hHeld ?restf4
  case hyf4 => intro w' hSw; (try dsimp only at hSw); go_simp; try with_reducible rfl
  simp only [Act.put]
  try dsimp only
  refine wpAnyF_take [16] (by kernel_rfl) (i := 4) (v := ?vf5) rfl (by kernel_rfl) (by kernel_rfl) (by kernel_rfl) (fun _ _ _ h => h) (Or.inl ⟨by kernel_rfl, ?hyf5⟩) hHeld ?restf5
  case hyf5 => intro w' hSw; (try dsimp only at hSw); go_simp; try with_reducible rfl
  simp only [Act.put]
  try dsimp only
  refine wpAnyF_take [16] (by kernel_rfl) (i := 5) (v := ?vf6) rfl (by kernel_rfl) (by kernel_rfl) (by kernel_rfl) (fun _ _ _ h => h) (Or.inl ⟨by kernel_rfl, ?hyf6⟩) hHeld ?restf6
  case hyf6 => intro w' hSw; (try dsimp only at hSw); go_simp; try with_reducible rfl
  simp only [Act.put]
  try dsimp only
  refine wpAnyF_take [16] (by kernel_rfl) (i := 6) (v := ?vf7) rfl (by kernel_rfl) (by kernel_rfl) (by kernel_rfl) (fun _ _ _ h => h) (Or.inl ⟨by kernel_rfl, ?hyf7⟩) hHeld ?restf7
  case hyf7 => intro w' hSw; (try dsimp only at hSw); go_simp; try with_reducible rfl
  simp only [Act.put]
  try dsimp only
  refine wpAnyF_take [16] (by kernel_rfl) (i := 7) (v := ?vf8) rfl (by kernel_rfl) (by kernel_rfl) (by kernel_rfl) (fun _ _ _ h => h) (Or.inl ⟨by kernel_rfl, ?hyf8⟩) hHeld ?restf8
  case hyf8 => intro w' hSw; (try dsimp only at hSw); go_simp; try with_reducible rfl
  simp only [Act.put]
  try dsimp only
  refine wpAnyF_take [16] (by kernel_rfl) (i := 8) (v := ?vf9) rfl (by kernel_rfl) (by kernel_rfl) (by kernel_rfl) (fun _ _ _ h => h) (Or.inl ⟨by kernel_rfl, ?hyf9⟩) hHeld ?restf9
  case hyf9 => intro w' hSw; (try dsimp only at hSw); go_simp; try with_reducible rfl
  simp only [Act.put]
  try dsimp only
  refine wpAnyF_ready (rs := [9]) (by kernel_rfl) (by simp) ?_
  refine AllReadyF.cons rfl (fun K hK => ?_) AllReadyF.nil
  go_simp
  rw [← HA.out]
  refine HG.out.mono ?_
  rintro e w' ⟨rfl, rfl⟩
  dsimp only
  refine hK.out _ _ (HS1.out) (fun hHeld => ?_)
  clear hK K
  refine wpAnyF_take [16] (by kernel_rfl) (i := 10) (v := ?vf10) rfl (by kernel_rfl) (by kernel_rfl) (by kernel_rfl) (fun _ _ _ h => h) (Or.inl ⟨by kernel_rfl, ?hyf10⟩) hHeld ?restf10
  case hyf10 => intro w' hSw; (try dsimp only at hSw); go_simp; try with_reducible rfl
  simp only [Act.put]
  try dsimp only
  refine wpAnyF_take [16] (by kernel_rfl) (i := 11) (v := ?vf11) rfl (by kernel_rfl) (by kernel_rfl) (by kernel_rfl) (fun _ _ _ h => h) (Or.inl ⟨by kernel_rfl, ?hyf11⟩) hHeld ?restf11
  case hyf11 => intro w' hSw; (try dsimp only at hSw); go_simp; try with_reducible rfl
  simp only [Act.put]
  try dsimp only
  refine wpAnyF_take [16] (by kernel_rfl) (i := 12) (v := ?vf12) rfl (by kernel_rfl) (by kernel_rfl) (by kernel_rfl) (fun _ _ _ h => h) (Or.inl ⟨by kernel_rfl, ?hyf12⟩) hHeld ?restf12
  case hyf12 => intro w' hSw; (try dsimp only at hSw); go_simp; try with_reducible rfl
  simp only [Act.put]
  try dsimp only
  refine wpAnyF_take [16] (by kernel_rfl) (i := 13) (v := ?vf13) rfl (by kernel_rfl) (by kernel_rfl) (by kernel_rfl) (fun _ _ _ h => h) (Or.inl ⟨by kernel_rfl, ?hyf13⟩) hHeld ?restf13
  case hyf13 => intro w' hSw; (try dsimp only at hSw); go_simp; try with_reducible rfl
  simp only [Act.put]
  try dsimp only
  refine wpAnyF_take [16] (by kernel_rfl) (i := 14) (v := ?vf14) rfl (by kernel_rfl) (by kernel_rfl) (by kernel_rfl) (fun _ _ _ h => h) (Or.inl ⟨by kernel_rfl, ?hyf14⟩) hHeld ?restf14
  case hyf14 => intro w' hSw; (try dsimp only at hSw); go_simp; try with_reducible rfl
  simp only [Act.put]
  try dsimp only
  refine wpAnyF_take [16] (by kernel_rfl) (i := 15) (v := ?vf15) rfl (by kernel_rfl) (by kernel_rfl) (by kernel_rfl) (fun _ _ _ h => h) (Or.inl ⟨by kernel_rfl, ?hyf15⟩) hHeld ?restf15
  case hyf15 => intro w' hSw; (try dsimp only at hSw); go_simp; try with_reducible rfl
  simp only [Act.put]
  try dsimp only
  refine wpAnyF_ready (rs := [16]) (by kernel_rfl) (by simp) ?_
  refine AllReadyF.last rfl (fun K hK => ?_)
  go_simp
  refine hK.out _ _ ?_
  clear hK K
  refine wpAnyF_done (by kernel_rfl) ?_ _
  by_cases he : r = 0
  · have he' : (r != 0) = false := by rw [he]; rfl
    by_cases hin : lo ≤ n ∧ n ≤ hi
    · have hRe : R = .ok (n, p + u) := by rw [← HRd.out, if_pos he, if_pos hin]
      have HRe := hide_ hRe
      have hlt1 : decide (n < lo) = false := decide_eq_false (by omega)
      have hlt2 : decide (hi < n) = false := decide_eq_false (by omega)
      have hwn := i64w n (by omega)
      have HRs : Hid (RdM (w.setCell ⟨g, 1, none⟩ (.int .i64 ((p : Int) + u))).drew g (some ⟨gb, off, none⟩) c b (p + u)) := hide_ (by
        have h := hR.out.step (p + u) (by omega)
        rw [Int.natCast_add] at h
        exact h.later ((Below.refl _ _).drew))
      have HU2 : Hid (Upd (fun k => k = g) w (w.setCell ⟨g, 1, none⟩ (.int .i64 ((p : Int) + u))).drew) := hide_ ((Upd.refl (fun k => k = g) w).set ⟨g, 1, none⟩ (.int .i64 ((p : Int) + u)) (.inl rfl)).drew
      clear he hin hRe hHeld
      go_wp2_with fail
      go_ret
      exact .inl ⟨n, p + u, HRe.out, rfl, HRs, HU2⟩
    · have hRe : R = .error (221, (p : Int)) := by rw [← HRd.out, if_pos he, if_neg hin]
      have HRe := hide_ hRe
      have HU2 := hide_ hud
      have HGu := hide_ (giveUp_any 221 (p : Int) w.drew)
      clear he hRe hHeld hud
      by_cases hlt : n < lo
      · have hlt1 : decide (n < lo) = true := decide_eq_true hlt
        clear hlt hin
        go_wp2_with fail
        refine HGu.out.mono ?_
        rintro e w' ⟨rfl, rfl⟩
        unfold Flt
        go_wp2
        exact ⟨rfl, .inr ⟨_, _, HRe.out, rfl, HU2⟩⟩
      · have hlt1 : decide (n < lo) = false := decide_eq_false hlt
        have hlt2 : decide (hi < n) = true := decide_eq_true (by omega)
        clear hlt hin
        go_wp2_with fail
        refine HGu.out.mono ?_
        rintro e w' ⟨rfl, rfl⟩
        unfold Flt
        go_wp2
        exact ⟨rfl, .inr ⟨_, _, HRe.out, rfl, HU2⟩⟩
  · have he' : (r != 0) = true := by simpa using he
    have hRe : R = .error (r, (p : Int) + u) := by rw [← HRd.out, if_neg he, Int.natCast_add]
    have HRe := hide_ hRe
    have HU2 := hide_ hud
    have HGu := hide_ (giveUp_any r ((p : Int) + u) w.drew)
    clear he hRe hHeld hud
    go_wp2_with fail
    refine HGu.out.mono ?_
    rintro e w' ⟨rfl, rfl⟩
    unfold Flt
    go_wp2
    exact ⟨rfl, .inr ⟨_, _, HRe.out, rfl, HU2⟩⟩
set_option maxRecDepth 100000 in
set_option maxHeartbeats 8000000 in
theorem position_any (w : World) (g : Nat) (a : Option Addr) (c : Nat) (b : List Int) (p : Nat) (hR : Hid (RdM w g a c b p)) (hne : 0 < b.length) :
    Calls Try.prog 71 #[.pointer (some ⟨g, 0, none⟩)] w fun e w' => NumTo w g a c b (posP b p) e w' := by
  have HN := hide_ (number_any w g a c b p 0 4611686018427387904 hR hne (by decide) (by decide) (by decide) (by decide))
  obtain ⟨R, hRd⟩ : ∃ R, posP b p = R := ⟨_, rfl⟩
  have HN2 : Hid (Calls Try.prog 49 #[.pointer (some ⟨g, 0, none⟩), .int .i64 0, .int .i64 4611686018427387904] w fun e w' => NumTo w g a c b R e w') := by rw [← hRd]; exact HN
  rw [hRd]
  clear hRd HN hR
  go_enter Try.func71, Try.ntmps71
  go_wp2_with fail
  refine HN2.out.mono ?_
  rintro e w' (⟨x, q, hx, rfl, HRq, HU⟩ | ⟨er, at_, hx, rfl, HU⟩)
  · have HX := hide_ hx
    clear hx
    go_wp2_with fail
    go_ret
    exact .inl ⟨x, q, HX.out, rfl, HRq, HU⟩
  · have HX := hide_ hx
    clear hx
    unfold Flt
    go_wp2
    exact ⟨rfl, .inr ⟨er, at_, HX.out, rfl, HU⟩⟩
set_option maxRecDepth 100000 in
set_option maxHeartbeats 8000000 in
theorem positionOr_any (w : World) (g : Nat) (a : Option Addr) (c : Nat) (b : List Int) (p : Nat) (hR : Hid (RdM w g a c b p)) (hne : 0 < b.length) :
    Calls Try.prog 72 #[.pointer (some ⟨g, 0, none⟩)] w fun e w' => NumTo w g a c b (ponP b p) e w' := by
  have HN := hide_ (number_any w g a c b p 0 4611686018427387905 hR hne (by decide) (by decide) (by decide) (by decide))
  have HIn : Hid (∀ x q, numP b 0 4611686018427387905 p = .ok (x, q) → 0 ≤ x ∧ x ≤ 4611686018427387905) := hide_ (fun x q h => by
    have := numB hR.out.bys hR.out.at_ h
    omega)
  have HE : Hid (∀ x q, numP b 0 4611686018427387905 p = .ok (x, q) → ponP b p = .ok (x - 1, q)) := hide_ (fun x q h => by unfold ponP; rw [h]; rfl)
  have HF : Hid (∀ e, numP b 0 4611686018427387905 p = .error e → ponP b p = .error e) := hide_ (fun e h => by unfold ponP; rw [h]; rfl)
  obtain ⟨R, hRd⟩ : ∃ R, numP b 0 4611686018427387905 p = R := ⟨_, rfl⟩
  obtain ⟨R2, hRd2⟩ : ∃ R, ponP b p = R := ⟨_, rfl⟩
  rw [hRd] at HN HIn HE HF
  rw [hRd2] at HE HF
  rw [hRd2]
  clear hRd hRd2 hR
  go_enter Try.func72, Try.ntmps72
  go_wp2_with fail
  refine HN.out.mono ?_
  rintro e w' (⟨x, q, hx, rfl, HRq, HU⟩ | ⟨er, at_, hx, rfl, HU⟩)
  · have HX := hide_ hx
    have hin := HIn.out x q hx
    have hw := i64w (x - 1) (by omega)
    clear hx
    go_wp2_with fail
    go_ret
    exact .inl ⟨x - 1, q, HE.out x q HX.out, rfl, HRq, HU⟩
  · have HX := hide_ hx
    clear hx
    unfold Flt
    go_wp2
    exact ⟨rfl, .inr ⟨er, at_, HF.out _ HX.out, rfl, HU⟩⟩
end Go.Proofs.Ytcmkdkocponpiaa

/- mortiseref22: the reader: fails, number. -/
namespace Go.Proofs.Ytcmkdkocponpiaa
open Go.RowKit
set_option linter.unusedVariables false

/-- The reader at gr: it stands at a place, or its first fault. -/
def RdR (w : World) (gr : Nat) (v : Value) : Except (Int × Int) Nat → Prop
  | .ok p => ∃ bad : Int, Blk w gr 111 [v, .int .i64 (p : Int), .int .i64 0, .int .i64 bad]
  | .error e => e.1 ≠ 0 ∧ ∃ a : Int, Blk w gr 111 [v, .int .i64 a, .int .i64 e.1, .int .i64 e.2]
/-- What number answers, and where the reader stands then. -/
def nmR (l : List Int) (lo hi : Int) : Except (Int × Int) Nat → Int × Except (Int × Int) Nat
  | .error e => (0, .error e)
  | .ok p => match numP l lo hi p with
    | .ok y => (y.1, .ok y.2)
    | .error e => (0, .error e)
theorem nmR_ok {l : List Int} {lo hi n : Int} {p q : Nat} (h : numP l lo hi p = .ok (n, q)) : nmR l lo hi (.ok p) = (n, .ok q) := by simp only [nmR, h]
theorem nmR_err {l : List Int} {lo hi : Int} {p : Nat} {e : Int × Int} (h : numP l lo hi p = .error e) : nmR l lo hi (.ok p) = (0, .error e) := by simp only [nmR, h]
theorem RdR.upd {w w' : World} {gr : Nat} {v : Value} {x : Except (Int × Int) Nat} {S : Nat → Prop} (h : RdR w gr v x) (hu : Upd S w w') (hs : ¬ S gr) : RdR w' gr v x := by
  cases x with
  | ok p => obtain ⟨b, k⟩ := h; exact ⟨b, k.upd hu hs⟩
  | error e => obtain ⟨he, a, k⟩ := h; exact ⟨he, a, k.upd hu hs⟩
theorem RdR.later {w w' : World} {gr : Nat} {v : Value} {x : Except (Int × Int) Nat} (h : RdR w gr v x) (hB : Below w.heap.size w w') : RdR w' gr v x := h.upd (Upd.of_below (S := fun _ => False) hB) (fun h => h)
theorem RdR.blk {w : World} {gr : Nat} {v : Value} {x : Except (Int × Int) Nat} (h : RdR w gr v x) : ∃ ys, Blk w gr 111 ys := by
  cases x with
  | ok p => obtain ⟨b, k⟩ := h; exact ⟨_, k⟩
  | error e => obtain ⟨he, a, k⟩ := h; exact ⟨_, k⟩
set_option maxHeartbeats 1000000 in
theorem rfails_any (gr : Nat) (v : Value) (p : Nat) (bad : Int) (e q : Int) (w : World) (he : e ≠ 0) (h : Hid (Blk w gr 111 [v, .int .i64 (p : Int), .int .i64 0, .int .i64 bad])) :
    Calls Try.prog 76 #[.pointer (some ⟨gr, 0, none⟩), .int .i64 e, .int .i64 q] w fun en w' => en = .returned (.int .i64 0) ∧ Hid (RdR w' gr v (.error (e, q))) ∧ Hid (Upd (fun k => k = gr) w w') := by
  have c2 := h.out.cell 2; have c3 := h.out.cell 3
  have z2 := h.out.frozen 2; have z3 := h.out.frozen 3
  simp at c2 c3
  have k2 := (h.out.set 2 (.int .i64 e)).set 3 (.int .i64 q)
  have hu := ((Upd.refl (fun k => k = gr) w).set ⟨gr, 2, none⟩ (.int .i64 e) (.inl rfl)).set ⟨gr, 3, none⟩ (.int .i64 q) (.inl rfl)
  have HR : Hid (RdR ((w.setCell ⟨gr, 2, none⟩ (.int .i64 e)).setCell ⟨gr, 3, none⟩ (.int .i64 q)) gr v (.error (e, q))) := hide_ ⟨he, (p : Int), by simpa using k2⟩
  have HU := hide_ hu
  clear k2 hu he
  go_enter Try.func76, Try.ntmps76
  go_wp2
  go_ret
  exact ⟨rfl, HR, HU⟩
set_option maxRecDepth 100000 in
set_option maxHeartbeats 8000000 in
theorem rnum_any (gr : Nat) (av : Option Addr) (cv : Nat) (l : List Int) (x : Except (Int × Int) Nat) (lo hi : Int) (w : World) (hlo : 0 ≤ lo) (hhi : 0 ≤ hi ∧ hi ≤ 4611686018427387905) (hx : ∀ p, x = .ok p → p ≤ l.length) (hlc : l.length ≤ 9223372036854775000) (hby : Hid (Bys l)) (hrow : Hid (Row .u8 w av l)) (hav : Hid (0 < l.length → ∀ a, av = some a → ¬ a.block = gr)) (h : Hid (RdR w gr (.slice av l.length cv) x)) :
    Calls Try.prog 75 #[.pointer (some ⟨gr, 0, none⟩), .int .i64 lo, .int .i64 hi] w fun e w' => e = .returned (.int .i64 (nmR l lo hi x).1) ∧ Hid (RdR w' gr (.slice av l.length cv) (nmR l lo hi x).2) ∧ Hid (Upd (fun k => k = gr) w w') := by
  cases x with
  | error eq =>
    obtain ⟨he, a, k0⟩ := h.out
    have c2 := k0.cell 2
    simp at c2
    have hb : (eq.1 != 0) = true := by simpa using he
    clear he k0
    go_enter Try.func75, Try.ntmps75
    go_wp2
    go_ret
    exact ⟨rfl, h, hide_ (Upd.refl _ _)⟩
  | ok p =>
    obtain ⟨bad, k0⟩ := h.out
    have hpl := hx p rfl
    obtain ⟨D, hD⟩ : ∃ D, l.drop p = D := ⟨_, rfl⟩
    have hDl : D.length = l.length - p := by rw [← hD, List.length_drop]
    have hDb : Bys D := by rw [← hD]; exact hby.out.drop p
    have HDl := hide_ hDl
    have HDb := hide_ hDb
    -- what is found
    have HN : Hid (∀ (n : Int) (u : Nat) (e : Int), GetR D n u e → numP l lo hi p = if e = 0 then (if lo ≤ n ∧ n ≤ hi then .ok (n, p + u) else .error (221, (p : Int))) else .error (e, ((p + u : Nat) : Int))) := hide_ (fun n u e hg => by
      have h1 := hg.getF
      unfold numP
      rw [hD, h1])
    have HRow : Hid (∀ w', Upd (fun k => k = gr) w w' → Row .u8 w' av l) := hide_ (fun w' hu => by
      exact Row.upd0 hrow.out hu hav.out)
    have HCl : Hid (∀ j, j < D.length → l.getD (p + j) 0 = D.getD j 0) := hide_ (fun j hj => by rw [← hD]; simp [List.getD, List.getElem?_drop])
    have K0 := hide_ k0
    have hwh : IntKind.u64.wrap hi = hi := by rw [IntKind.wrap_u64]; omega
    have c1 := k0.cell 1; have c2 := k0.cell 2
    simp at c1 c2
    clear h hrow hD hDb k0 hx hav
    go_enter Try.func75, Try.ntmps75
    go_wp2_with fail
    go_loopw [7, 9] (fun x7 x9 wr => ∃ k q : Nat, k ≤ 9 ∧ x9 = .int .i64 (k : Int) ∧ x7 = .int .u64 (val (D.take k)) ∧ Hid (q = p + k) ∧ Hid (Good D k) ∧ Hid (Blk wr gr 111 [.slice av l.length cv, .int .i64 (q : Int), .int .i64 0, .int .i64 bad]) ∧ Hid (Upd (fun k => k = gr) w wr)) (fun _ x9 _ => 10 - (intOf x9).toNat)
    case atStart => exact ⟨0, p, by omega, rfl, rfl, rfl, hide_ (Good.zero D), K0, hide_ (Upd.refl _ _)⟩
    case round =>
      obtain ⟨k, q, hk9, rfl, rfl, HQ, HG, HK, HU⟩ := hrel
      generalize wr = wq at *
      clear c1 c2 K0
      have c0 := HK.out.cell 0; have c1 := HK.out.cell 1
      simp at c0 c1
      have hkD := HG.out.2.1
      have hqp := HQ.out
      by_cases hend : l.length ≤ q
      · have hend' : (l.length : Int) ≤ q := by omega
        have HE : Hid (numP l lo hi p = .error (20, (q : Int))) := hide_ (by
          have hkk : k = D.length := by omega
          have := HN.out 0 k 20 (.inl ⟨by rw [← hkk]; exact HG.out, rfl, hkk, rfl⟩)
          rw [hqp]
          simpa using this)
        have HF := hide_ (rfails_any gr (.slice av l.length cv) q bad 20 (q : Int) wq.drew (by decide) (hide_ HK.out.drew))
        clear hkD hend hqp
        go_upto_region 7 with fail
        go_region
        go_wp2_with fail
        refine HF.out.mono ?_
        rintro e w2 ⟨rfl, HR2, HU2⟩
        go_wp2_with fail
        go_ret
        exact ⟨by rw [nmR_err HE.out]; rfl, by rw [nmR_err HE.out]; exact HR2, hide_ (HU.out.to ((Upd.refl _ wq).drew.to HU2.out))⟩
      · have hlt' : (q : Int) < l.length := by omega
        have hkl : k < D.length := by omega
        obtain ⟨b, off, rfl, hblk, hcs⟩ := (HRow.out wq HU.out).open (by omega)
        have hc := hcs q (by omega)
        rw [hqp, HCl.out k hkl, ← hqp] at hc
        have hby := HDb.out.at k
        obtain ⟨c, hcD⟩ : ∃ c, D.getD k 0 = c := ⟨_, rfl⟩
        rw [hcD] at hc hby
        have HKl := hide_ hkl
        have HcD := hide_ hcD
        have HK2 : Hid (Blk wq.drew.drew gr 111 [.slice (some ⟨b, off, none⟩) l.length cv, .int .i64 (q : Int), .int .i64 0, .int .i64 bad]) := hide_ HK.out.drew.drew
        have HU2 : Hid (Upd (fun k => k = gr) w wq.drew.drew) := hide_ HU.out.drew.drew
        have hnd : decide (l.length ≤ q) = false := decide_eq_false hend
        clear hcs hblk hkD hend hqp hkl hcD
        go_upto_region 7 with fail
        go_region
        go_upto_region 9 with fail
        go_region
        go_upto_region 10 with fail
        generalize wq.drew.drew = w3 at *
        go_cut [61] from 48 to 61 (fun x61 wc => x61 = .bool (flt k c) ∧ w3 = wc)
        case first =>
          by_cases h9 : k = 9
          · have hb9 : ((k : Int) == 9) = true := by simp; omega
            have hk0' : (0 : Int) < k := by omega
            by_cases hc1 : 1 < c
            · have hfl : flt k c = true := by rw [flt_iff]; exact .inr ⟨h9, hc1⟩
              clear h9
              go_wp2_with fail
              go_meet
              case rel => exact ⟨by rw [hfl], rfl⟩
            · have hd1 : decide (1 < c) = false := decide_eq_false hc1
              by_cases hc0 : c = 0
              · have hb0 : (c == 0) = true := by simpa using hc0
                have hfl : flt k c = true := by rw [flt_iff]; exact .inl ⟨by omega, hc0⟩
                clear h9 hc0
                go_wp2_with fail
                go_meet
                case rel => exact ⟨by rw [hfl], rfl⟩
              · have hb0 : (c == 0) = false := by simpa using hc0
                have hfl : flt k c = false := by rw [flt_no]; exact ⟨fun h => hc0 h.2, fun h => hc1 h.2⟩
                clear h9 hc0
                go_wp2_with fail
                go_meet
                case rel => exact ⟨by rw [hfl], rfl⟩
          · have hb9 : ((k : Int) == 9) = false := by simp; omega
            by_cases hk0 : 0 < k
            · have hk0' : (0 : Int) < k := by omega
              by_cases hc0 : c = 0
              · have hb0 : (c == 0) = true := by simpa using hc0
                have hfl : flt k c = true := by rw [flt_iff]; exact .inl ⟨hk0, hc0⟩
                clear h9 hc0
                go_wp2_with fail
                go_meet
                case rel => exact ⟨by rw [hfl], rfl⟩
              · have hb0 : (c == 0) = false := by simpa using hc0
                have hfl : flt k c = false := by rw [flt_no]; exact ⟨fun h => hc0 h.2, fun h => h9 h.1⟩
                clear h9 hc0
                go_wp2_with fail
                go_meet
                case rel => exact ⟨by rw [hfl], rfl⟩
            · have hk0' : ¬ (0 : Int) < k := by omega
              have hfl : flt k c = false := by rw [flt_no]; exact ⟨fun h => hk0 h.1, fun h => h9 h.1⟩
              clear h9
              go_wp2_with fail
              go_meet
              case rel => exact ⟨by rw [hfl], rfl⟩
        case rest =>
        obtain ⟨rfl, rfl⟩ := hcut
        have c1' := HK2.out.cell 1
        have z1 := HK2.out.frozen 1
        simp at c1'
        cases hf : flt k c with
        | true =>
          have HE : Hid (numP l lo hi p = .error (21, (q : Int))) := hide_ (by
            have := HN.out 0 k 21 (.inr (.inl ⟨k, HKl.out, HG.out, by rw [HcD.out]; exact hf, rfl, rfl, rfl⟩))
            rw [HQ.out]
            simpa using this)
          have HF := hide_ (rfails_any gr (.slice (some ⟨b, off, none⟩) l.length cv) q bad 21 (q : Int) w3 (by decide) HK2)
          clear hf
          go_wp2_with fail
          refine HF.out.mono ?_
          rintro e w4 ⟨rfl, HR4, HU4⟩
          go_wp2_with fail
          go_ret
          exact ⟨by rw [nmR_err HE.out]; rfl, by rw [nmR_err HE.out]; exact HR4, hide_ (HU2.out.to HU4.out)⟩
        | false =>
          have hs := (flt_no k c).1 hf
          have hX : IntKind.u64.wrap (val (List.take k D) + IntKind.u64.wrap (c % 128 * 2 ^ (7 * k))) = val (D.take (k + 1)) := by
            have e1 := val_take D k HKl.out
            have e2 := val_take_lt D k HG.out.2.1
            have e3 := grp_lt k c hk9 (fun h => by have := hs.2; have : ¬ 1 < c := fun h1 => hs.2 ⟨h, h1⟩; omega)
            have e4 := val_nonneg (D.take k)
            have e5 := val_nonneg (D.take (k + 1))
            have e6 : 0 ≤ c % 128 * 128 ^ k := Int.mul_nonneg (by omega) (Int.pow_nonneg (by omega))
            have e7 : val (D.take (k + 1)) < 18446744073709551616 := by
              by_cases h9 : k = 9
              · subst h9
                have : ¬ 1 < c := fun h1 => hs.2 ⟨rfl, h1⟩
                have h5 : (128 : Int) ^ 9 = 9223372036854775808 := by decide
                rw [HcD.out, h5] at e1
                rw [h5] at e2
                omega
              · have h1 := val_take_lt D (k + 1) HKl.out
                have h2 : (128 : Int) ^ (k + 1) ≤ 128 ^ 9 := by
                  have : k = 0 ∨ k = 1 ∨ k = 2 ∨ k = 3 ∨ k = 4 ∨ k = 5 ∨ k = 6 ∨ k = 7 ∨ k = 8 := by omega
                  rcases this with rfl | rfl | rfl | rfl | rfl | rfl | rfl | rfl | rfl <;> decide
                have h5 : (128 : Int) ^ 9 = 9223372036854775808 := by decide
                omega
            rw [HcD.out] at e1
            rw [pow128i k, IntKind.wrap_u64, IntKind.wrap_u64]
            omega
          have e5 := val_nonneg (D.take (k + 1))
          obtain ⟨w4, hw4⟩ : ∃ wx, wx = w3.setCell ⟨gr, 1, none⟩ (.int .i64 ((q : Int) + 1)) := ⟨_, rfl⟩
          have HK4 : Hid (Blk w4 gr 111 [.slice (some ⟨b, off, none⟩) l.length cv, .int .i64 ((q + 1 : Nat) : Int), .int .i64 0, .int .i64 bad]) := hide_ (by rw [hw4]; have := HK2.out.set 1 (.int .i64 ((q : Int) + 1)); simpa using this)
          have HU4 : Hid (Upd (fun k => k = gr) w w4) := hide_ (by rw [hw4]; exact HU2.out.set ⟨gr, 1, none⟩ _ (.inl rfl))
          have Hf := hide_ hf
          clear hf hs
          go_upto_region 13 with fail
          try rw [hX]
          obtain ⟨X, hXv⟩ : ∃ X, val (D.take (k + 1)) = X := ⟨_, rfl⟩
          have HXv := hide_ hXv
          rw [hXv] at e5 ⊢
          clear hX hXv
          go_upto_region 14 with fail
          rw [← hw4]
          clear hw4 c1' z1
          by_cases h128 : c < 128
          · have HGet : Hid (GetR D X (k + 1) 0) := hide_ (.inr (.inr ⟨k, HKl.out, HG.out, by rw [HcD.out]; exact Hf.out, by rw [HcD.out]; exact h128, HXv.out.symm, rfl, rfl⟩))
            have HE := hide_ (HN.out X (k + 1) 0 HGet.out)
            by_cases h1 : X ≤ hi
            · have h1' : decide (hi < X) = false := decide_eq_false (by omega)
              have hwx : IntKind.i64.wrap X = X := by rw [IntKind.wrap_i64]; omega
              by_cases h2 : lo ≤ X
              · have h2' : decide (X < lo) = false := decide_eq_false (by omega)
                have HE2 : Hid (numP l lo hi p = .ok (X, q + 1)) := hide_ (by rw [HE.out, if_pos rfl, if_pos ⟨h2, h1⟩, HQ.out, Nat.add_assoc])
                clear h1 h2
                go_wp2_with fail
                go_ret
                exact ⟨by rw [nmR_ok HE2.out]; rfl, by rw [nmR_ok HE2.out]; exact hide_ ⟨bad, HK4.out⟩, HU4⟩
              · have h2' : decide (X < lo) = true := decide_eq_true (by omega)
                have HE2 : Hid (numP l lo hi p = .error (221, (p : Int))) := hide_ (by rw [HE.out, if_pos rfl, if_neg (fun h => h2 h.1)])
                have HF := hide_ (rfails_any gr (.slice (some ⟨b, off, none⟩) l.length cv) (q + 1) bad 221 (p : Int) w4 (by decide) HK4)
                clear h1 h2
                go_wp2_with fail
                refine HF.out.mono ?_
                rintro e w5 ⟨rfl, HR5, HU5⟩
                go_wp2_with fail
                go_ret
                exact ⟨by rw [nmR_err HE2.out]; rfl, by rw [nmR_err HE2.out]; exact HR5, hide_ (HU4.out.to HU5.out)⟩
            · have h1' : decide (hi < X) = true := decide_eq_true (by omega)
              have HE2 : Hid (numP l lo hi p = .error (221, (p : Int))) := hide_ (by rw [HE.out, if_pos rfl, if_neg (fun h => h1 h.2)])
              have HF := hide_ (rfails_any gr (.slice (some ⟨b, off, none⟩) l.length cv) (q + 1) bad 221 (p : Int) w4 (by decide) HK4)
              clear h1
              go_wp2_with fail
              refine HF.out.mono ?_
              rintro e w5 ⟨rfl, HR5, HU5⟩
              go_wp2_with fail
              go_ret
              exact ⟨by rw [nmR_err HE2.out]; rfl, by rw [nmR_err HE2.out]; exact HR5, hide_ (HU4.out.to HU5.out)⟩
          · have hk9' : k < 9 := by
              have h1 := (flt_no k c).1 Hf.out
              have h2 : ¬ (k = 9 ∧ 1 < c) := h1.2
              omega
            have h128' : ¬ c < 128 := h128
            have HG2 : Hid (Good D (k + 1)) := hide_ (HG.out.next HKl.out (by rw [HcD.out]; exact Hf.out) (by rw [HcD.out]; omega))
            clear h128
            go_wp2_with fail
            go_roundw
            case rel => exact ⟨k + 1, q + 1, by omega, by go_num, by rw [HXv.out], hide_ (by rw [HQ.out, Nat.add_assoc]), HG2, HK4, HU4⟩
            case measure => simp [intOf]; omega
end Go.Proofs.Ytcmkdkocponpiaa

/- The book's keep. -/
import Derived.Test.YtmeplmhngmlnaaaS
import Derived.Deep.RegionLaw
namespace Go.Proofs.Ytmeplmhngmlnaaa
open Go.RowKit
set_option linter.unusedVariables false

/-- The table's block: eight pointers, the two rows of the book. -/
def TabAt (w : World) (bt : Nat) (pre : List Value) (vL vM : Value) : Prop := pre.length = 8 ∧ Blk w bt 64 (pre ++ [vL, vM])
section
variable {w w' : World} {bt : Nat} {pre : List Value} {vL vM : Value}
theorem TabAt.c8 (t : TabAt w bt pre vL vM) : w.cell? ⟨bt, 8, none⟩ = some vL := by
  rw [t.2.cell 8, List.getElem?_append_right (Nat.le_of_eq t.1), t.1]; rfl
theorem TabAt.c9 (t : TabAt w bt pre vL vM) : w.cell? ⟨bt, 9, none⟩ = some vM := by
  rw [t.2.cell 9, List.getElem?_append_right (by rw [t.1]; omega), t.1]; rfl
theorem TabAt.set8 (t : TabAt w bt pre vL vM) (v : Value) : TabAt (w.setCell ⟨bt, 8, none⟩ v) bt pre v vM := by
  refine ⟨t.1, ?_⟩
  have h := t.2.set 8 v
  rw [List.set_append_right _ _ (Nat.le_of_eq t.1), t.1] at h
  exact h
theorem TabAt.set9 (t : TabAt w bt pre vL vM) (v : Value) : TabAt (w.setCell ⟨bt, 9, none⟩ v) bt pre vL v := by
  refine ⟨t.1, ?_⟩
  have h := t.2.set 9 v
  rw [List.set_append_right _ _ (by rw [t.1]; omega), t.1] at h
  exact h
theorem TabAt.upd {S : Nat → Prop} (t : TabAt w bt pre vL vM) (hu : Upd S w w') (hs : ¬ S bt) : TabAt w' bt pre vL vM := ⟨t.1, t.2.upd hu hs⟩
theorem TabAt.later (t : TabAt w bt pre vL vM) (hB : Below w.heap.size w w') : TabAt w' bt pre vL vM := ⟨t.1, t.2.later hB⟩
theorem TabAt.z (t : TabAt w bt pre vL vM) (i : Nat) : w.frozen? ⟨bt, i, none⟩ = false := t.2.frozen i
end
/-- What a keep leaves. -/
def KeepTo (B : Nat) (w w' : World) (bt : Nat) (pre : List Value) (vL vM : Value) (N : Nat) (F G : Nat → Value) (v : Value) : Prop :=
  ∃ vL' vM' F' G' s', BookSt B w' vL' vM' (N + 1) F' G' s' ∧ TabAt w' bt pre vL' vM' ∧ Upd (fun q => q = bt ∨ v.ownBlock = some q ∨ FK vL vM N F G q) w w' ∧
    ∀ q, FK vL' vM' (N + 1) F' G' q → FK vL vM N F G q ∨ v.ownBlock = some q ∨ w.heap.size ≤ q
theorem fk_tab {B : Nat} {w : World} {vL vM : Value} {N : Nat} {F G : Nat → Value} {s : Nat → Nat} {bt : Nat} {xs : List Value} (b : BookSt B w vL vM N F G s) (ht : Blk w bt 64 xs) : ¬ FK vL vM N F G bt := by
  rintro (e | e | ⟨j, hj, e | e⟩)
  · exact own_ne_t b.rL ht (by decide) e
  · exact own_ne_t b.rM ht (by decide) e
  · obtain ⟨ys, h⟩ := (b.l j hj).blk e
    exact blk_ne h ht (by decide) rfl
  · obtain ⟨ys, h⟩ := (b.m j hj).blk e
    exact blk_ne h ht (by decide) rfl
/-- Behind the fill. -/
theorem keep_end {B : Nat} {w0 w : World} {vL vM : Value} {N : Nat} {F G : Nat → Value} {s : Nat → Nat} {bt : Nat} {pre : List Value} (b : BookSt B w vL vM N F G s) (hB : B ≤ w.heap.size) (hN : N ≤ 10000) (t : TabAt w bt pre vL vM) (v : Value) (k : Nat) (hk : k ≤ 1000000) (hv : Came1 w v k (mrk N)) (hlo : ∀ q, v.ownBlock = some q → B ≤ q)
    (h0 : Upd (fun q => v.ownBlock = some q) w0 w) :
    ∃ g1 c1 w1 g3 c3 w3 g4 c4 w4, (Builtin.append_ #[22, 22] 22 #[vL, .slice (some ⟨w.heap.size, 0, none⟩) 1 1]).run Try.prog (w.alloc (.cells #[v] 30)) = .ok (.slice (some ⟨g1, 0, none⟩) (N + 1) c1) w1 ∧
      (∃ u, w1.cell? ⟨bt, 8, none⟩ = some u) ∧ w1.frozen? ⟨bt, 8, none⟩ = false ∧ w1.cell? ⟨bt, 9, none⟩ = some vM ∧ bt < w1.heap.size ∧
      (Builtin.append_ #[30, 30] 30 #[v, .slice (some ⟨w1.heap.size, 0, none⟩) 1 1]).run Try.prog ((w1.setCell ⟨bt, 8, none⟩ (.slice (some ⟨g1, 0, none⟩) (N + 1) c1)).drew.alloc (.cells #[.int .u8 (mrk N)] 5)) = .ok (.slice (some ⟨g3, 0, none⟩) (k + 1) c3) w3 ∧
      (Builtin.append_ #[22, 22] 22 #[vM, .slice (some ⟨w3.heap.size, 0, none⟩) 1 1]).run Try.prog (w3.alloc (.cells #[.slice (some ⟨g3, 0, none⟩) (k + 1) c3] 30)) = .ok (.slice (some ⟨g4, 0, none⟩) (N + 1) c4) w4 ∧
      (∀ w', Below w1.heap.size (w1.setCell ⟨bt, 8, none⟩ (.slice (some ⟨g1, 0, none⟩) (N + 1) c1)) w' → w'.cell? ⟨bt, 9, none⟩ = some vM) ∧ Below w1.heap.size (w1.setCell ⟨bt, 8, none⟩ (.slice (some ⟨g1, 0, none⟩) (N + 1) c1)) w3 ∧
      (∃ u, w4.cell? ⟨bt, 9, none⟩ = some u) ∧ w4.frozen? ⟨bt, 9, none⟩ = false ∧
      KeepTo B w0 (w4.setCell ⟨bt, 9, none⟩ (.slice (some ⟨g4, 0, none⟩) (N + 1) c4)) bt pre vL vM N F G v := by
  have hbt := fk_tab b t.2
  obtain ⟨g1, c1, w1, r1, u1, l1, rest⟩ := book_push b hB hN v k hk hv hlo
  have hvbt : v.ownBlock ≠ some bt := fun e => by obtain ⟨xs, h⟩ := hv.blk e; exact blk_ne h t.2 (by decide) rfl
  have t1 : TabAt w1 bt pre vL vM := t.upd u1 (fun e => hbt (.inl e))
  have hg1 : bt ≠ g1 := by
    rintro rfl
    rcases l1 with e | e
    · exact hbt (.inl e)
    · have := t.2.lt; omega
  have t2 := t1.set8 (.slice (some ⟨g1, 0, none⟩) (N + 1) c1)
  obtain ⟨w2, hw2⟩ : ∃ w2, w2 = w1.setCell ⟨bt, 8, none⟩ (.slice (some ⟨g1, 0, none⟩) (N + 1) c1) := ⟨_, rfl⟩
  have hsz : w1.heap.size = w2.heap.size := by rw [hw2, World.size_setCell]
  have u2 : Upd (fun q => q ≠ g1 ∧ ¬ FK vL vM N F G q ∧ v.ownBlock ≠ some q) w1 w2.drew := by
    rw [hw2]
    exact ((Upd.refl _ w1).set ⟨bt, 8, none⟩ _ (.inl ⟨hg1, hbt, hvbt⟩)).drew
  rw [← hw2] at t2
  obtain ⟨g3, c3, w3, g4, c4, w4, r3, hB3, r4, u4, l4, b4, hg3⟩ := rest w2.drew u2 hsz
  have hB23 : Below w1.heap.size w2 w3 := by rw [hsz]; exact below_to (Below.refl _ _).drew hB3
  have t4 : TabAt w4 bt pre (.slice (some ⟨g1, 0, none⟩) (N + 1) c1) vM := t2.upd ((Upd.refl _ w2).drew.to u4) (fun e => hbt (.inr (.inl e)))
  have hu24 : Upd (fun q => vM.ownBlock = some q) w2 w4 := (Upd.refl _ w2).drew.to u4
  rw [show (w2.drew).heap.size = w1.heap.size from hsz.symm] at r3
  refine ⟨g1, c1, w1, g3, c3, w3, g4, c4, w4, r1, ⟨_, t1.c8⟩, t1.z 8, t1.c9, t1.2.lt, by rw [← hw2]; exact r3, r4, fun w' hB' => (t2.later (by rw [← hsz]; rw [← hw2] at hB'; exact hB')).c9, by rw [← hw2]; exact hB23, ⟨_, t4.c9⟩, t4.z 9, ?_⟩
  have hbt4 := fk_tab b4 t4.2
  have t5 := t4.set9 (.slice (some ⟨g4, 0, none⟩) (N + 1) c4)
  have u5 : Upd (fun q => q = bt) w4 (w4.setCell ⟨bt, 9, none⟩ (.slice (some ⟨g4, 0, none⟩) (N + 1) c4)) := (Upd.refl (fun q => q = bt) w4).set _ _ (.inl rfl)
  have hw0 : w0.heap.size ≤ w.heap.size := h0.size
  have u02 : Upd (fun q => q = bt ∨ v.ownBlock = some q ∨ FK vL vM N F G q) w0 w2 := by
    rw [hw2]
    exact ((h0.mono (fun q _ hq => .inr (.inl hq))).trans u1 (fun q _ hq => .inr (.inr (.inl hq)))).set _ _ (.inl (.inl rfl))
  refine ⟨_, _, _, _, _, b4.upd u5 (fun q hq e => hbt4 (by rw [← e]; exact hq)), t5, ((u02.trans hu24 (fun q _ hq => .inr (.inr (.inr (.inl hq))))).trans u5 (fun q _ hq => .inl hq)), ?_⟩
  have hs1 := u1.size
  rintro q (e | e | ⟨j, hj, e⟩)
  · injection e with e
    have e1 : g1 = q := e
    subst e1
    rcases l1 with h | h
    · exact .inl (.inl h)
    · exact .inr (.inr (by omega))
  · injection e with e
    have e1 : g4 = q := e
    subst e1
    rcases l4 with h | h
    · exact .inl (.inr (.inl h))
    · have h : w2.heap.size ≤ g4 := h
      exact .inr (.inr (by omega))
  · by_cases ej : j = N
    · subst ej
      rw [ext_at, ext_at] at e
      rcases e with e | e
      · exact .inr (.inl e)
      · injection e with e
        have e1 : g3 = q := e
        subst e1
        have h : w2.heap.size ≤ g3 := hg3
        exact .inr (.inr (by omega))
    · rw [ext_ne _ _ _ _ ej, ext_ne _ _ _ _ ej] at e
      exact .inl (.inr (.inr ⟨j, by omega, e⟩))
/-- A list that is handed over: nil, or a block of its own. -/
def Handed (B : Nat) (w : World) (v : Value) (k : Nat) (X : Nat → Prop) : Prop :=
  (v = .slice none 0 0 ∧ k = 0) ∨ ∃ g l, v = .slice (some ⟨g, 0, none⟩) k k ∧ Blk w g 5 (cellsL .u8 l) ∧ l.length = k ∧ B ≤ g ∧ ¬ X g
/-- While it is filled. -/
structure FillB (B : Nat) (w0 w : World) (bt : Nat) (pre : List Value) (vL vM : Value) (N : Nat) (F G : Nat → Value) (s : Nat → Nat) (g k i : Nat) : Prop where
  bk : BookSt B w vL vM N F G s
  tab : TabAt w bt pre vL vM
  blk : ∃ l, Blk w g 5 (cellsL .u8 l) ∧ l.length = k ∧ ∀ j, j < i → l.getD j 0 = mrk N
  upd : Upd (fun q => q = g) w0 w
  lo : B ≤ g
  ne : ¬ FK vL vM N F G g
section
variable {B : Nat} {w0 w : World} {bt : Nat} {pre : List Value} {vL vM : Value} {N : Nat} {F G : Nat → Value} {s : Nat → Nat} {g k i : Nat}
theorem FillB.step (f : FillB B w0 w bt pre vL vM N F G s g k i) (hi : i < k) : (∃ u, w.cell? ⟨g, i, none⟩ = some u) ∧ w.frozen? ⟨g, i, none⟩ = false ∧ FillB B w0 (w.setCell ⟨g, i, none⟩ (.int .u8 (mrk N))) bt pre vL vM N F G s g k (i + 1) := by
  obtain ⟨l, h1, h2, h3⟩ := f.blk
  have hu : Upd (fun q => q = g) w (w.setCell ⟨g, i, none⟩ (.int .u8 (mrk N))) := (Upd.refl (fun q => q = g) w).set _ _ (.inl rfl)
  have hgt : ¬ bt = g := fun e => by subst e; exact blk_ne h1 f.tab.2 (by decide) rfl
  refine ⟨⟨.int .u8 (l.getD i 0), by rw [h1.cell i, cellsL_at _ _ _ (by omega)]⟩, h1.frozen i, ⟨f.bk.upd hu (fun q hq e => f.ne (by rw [← e]; exact hq)), f.tab.upd hu hgt, ⟨l.set i (mrk N), by rw [← cellsL_set]; exact h1.set i _, by rw [List.length_set]; exact h2, fun j hj => ?_⟩, f.upd.to hu, f.lo, f.ne⟩⟩
  by_cases e : i = j
  · subst e
    simp [List.getD, show i < l.length by omega]
  · have := h3 j (by omega)
    simp [List.getD, e] at this ⊢
    exact this
theorem FillB.full (f : FillB B w0 w bt pre vL vM N F G s g k k) : Came1 w (.slice (some ⟨g, 0, none⟩) k k) k (mrk N) := by
  obtain ⟨l, h1, h2, h3⟩ := f.blk
  have e : l = List.replicate k (mrk N) := by
    apply List.ext_getElem?
    intro j
    by_cases hj : j < k
    · have e := h3 j hj
      rw [List.getElem?_replicate, if_pos hj, List.getElem?_eq_getElem (by omega), ← e]
      simp [List.getD, show j < l.length by omega]
    · rw [List.getElem?_eq_none (by omega), List.getElem?_replicate, if_neg hj]
  rw [e] at h1
  exact .inr ⟨g, rfl, h1⟩
end
set_option maxHeartbeats 4000000 in
set_option maxRecDepth 100000 in
theorem keep_any (B bt : Nat) (pre : List Value) (vL vM : Value) (N : Nat) (F G : Nat → Value) (s : Nat → Nat) (v : Value) (k : Nat) (w : World) (hb : Hid (BookSt B w vL vM N F G s)) (ht : Hid (TabAt w bt pre vL vM)) (hv : Hid (Handed B w v k (FK vL vM N F G))) (hN : N ≤ 10000) (hk : k ≤ 1000000) (hB : B ≤ w.heap.size) :
    Calls Try.prog 39 #[.pointer (some ⟨bt, 8, none⟩), v] w fun e w' => e = .returned (.tuple #[]) ∧ Hid (KeepTo B w w' bt pre vL vM N F G v) := by
  have c8 := ht.out.c8
  obtain ⟨aL, cL, hL⟩ : ∃ a c, vL = .slice a N c := by
    rcases hb.out.rL.2 with ⟨rfl, h0⟩ | ⟨g, cap, cur, rfl, _⟩
    · exact ⟨none, 0, by rw [h0]⟩
    · exact ⟨_, _, rfl⟩
  obtain ⟨aM, cM, hM⟩ : ∃ a c, vM = .slice a N c := by
    rcases hb.out.rM.2 with ⟨rfl, h0⟩ | ⟨g, cap, cur, rfl, _⟩
    · exact ⟨none, 0, by rw [h0]⟩
    · exact ⟨_, _, rfl⟩
  subst hL
  subst hM
  rcases hv.out with ⟨rfl, rfl⟩ | ⟨g, l, rfl, h1, h2, h3, h4⟩
  · obtain ⟨g1, c1, w1, g3, c3, w3, g4, c4, w4, r1, ⟨u8, d8⟩, z8, k1, hb1, r3, r4, d9, hB3, ⟨u9, e9⟩, z9, KT⟩ := keep_end hb.out hB hN ht.out (.slice none 0 0) 0 hk (.inl ⟨rfl, rfl⟩) (fun q hq => by cases hq) (Upd.refl _ w)
    have R1 : Hid _ := r1
    have R3 : Hid _ := r3
    have R4 : Hid _ := r4
    have HK : Hid _ := KT
    have D9 : Hid _ := d9
    clear r1 r3 r4 KT d9 hv hb ht
    --1
    go_enter Try.func39, Try.ntmps39
    go_wp2_with (first | (go_at_call 45; refine (mark_any N _ hN).mono ?_; rintro e w' ⟨rfl, rfl⟩))
    go_loop [5] (fun i => i = .int .i64 0) (fun _ => 0)
    case atStart => rfl
    case round =>
      subst hrel
      --2
      go_wp2_with (first | (at_builtin; have _t := R1; refine wpList_append_run rfl (.tmp 26) (.tmp 28) 22 22 rfl rfl rfl R1.out ?_; clear R1))
      --3
      have k3 := D9.out w3 hB3
      have hb3 : bt < w3.heap.size := by have := hB3.size; simp at this; omega
      clear D9 hB3
      go_region_law (first
        | (refine step_append_run rfl (.tmp 37) (.tmp 39) 30 30 rfl rfl rfl R3.out ?_)
        | (refine step_append_run rfl (.tmp 36) (.tmp 41) 22 22 rfl rfl rfl R4.out ?_))
      all_goals
        go_wp2
        go_end0
        exact ⟨rfl, HK⟩
  · have HF0 : Hid (FillB B w w bt pre (.slice aL N cL) (.slice aM N cM) N F G s g k 0) := ⟨hb.out, ht.out, ⟨l, h1, h2, fun j hj => by omega⟩, Upd.refl _ _, h3, h4⟩
    clear h1 h2 h3 h4 hv hb ht
    go_enter Try.func39, Try.ntmps39
    go_wp2_with (first | (go_at_call 45; refine (mark_any N _ hN).mono ?_; rintro e w' ⟨rfl, rfl⟩))
    go_loopw [5] (fun i wr => ∃ j : Nat, j ≤ k ∧ i = .int .i64 j ∧ Hid (FillB B w wr bt pre (.slice aL N cL) (.slice aM N cM) N F G s g k j)) (fun i _ => k - (intOf i).toNat)
    case atStart => exact ⟨0, Nat.zero_le _, rfl, HF0⟩
    case round =>
      clear HF0 c8
      obtain ⟨j, hj, rfl, HF⟩ := hrel
      by_cases hjk : j < k
      · have hjk' : (j : Int) < k := by omega
        obtain ⟨⟨u, hu⟩, hz, f2⟩ := HF.out.step hjk
        have HF2 : Hid _ := f2
        clear f2 HF
        go_wp2
        go_roundw
        case rel => exact ⟨j + 1, by omega, by go_num, HF2⟩
        case measure => simp [intOf]; omega
      · have hjk' : ¬ (j : Int) < k := by omega
        obtain rfl : j = k := by omega
        have hBr : B ≤ wr.heap.size := Nat.le_trans hB HF.out.upd.size
        have c8 := HF.out.tab.c8
        obtain ⟨g1, c1, w1, g3, c3, w3, g4, c4, w4, r1, ⟨u8, d8⟩, z8, k1, hb1, r3, r4, d9, hB3, ⟨u9, e9⟩, z9, KT⟩ := keep_end HF.out.bk hBr hN HF.out.tab (.slice (some ⟨g, 0, none⟩) j j) j hk HF.out.full (fun q hq => by injection hq with hq; have e : g = q := hq; subst e; exact HF.out.lo) (HF.out.upd.mono (fun q _ hq => by subst hq; rfl))
        have R1 : Hid _ := r1
        have R3 : Hid _ := r3
        have R4 : Hid _ := r4
        have HK : Hid _ := KT
        have D9 : Hid _ := d9
        clear r1 r3 r4 KT d9 HF
        go_wp2_with (first | (at_builtin; have _t := R1; refine wpList_append_run rfl (.tmp 26) (.tmp 28) 22 22 rfl rfl rfl R1.out ?_; clear R1))
        --3
        have k3 := D9.out w3 hB3
        have hb3 : bt < w3.heap.size := by have := hB3.size; simp at this; omega
        clear D9 hB3
        go_region_law (first
          | (refine step_append_run rfl (.tmp 37) (.tmp 39) 30 30 rfl rfl rfl R3.out ?_)
          | (refine step_append_run rfl (.tmp 36) (.tmp 41) 22 22 rfl rfl rfl R4.out ?_))
        all_goals
          go_wp2
          go_end0
          exact ⟨rfl, HK⟩
end Go.Proofs.Ytmeplmhngmlnaaa

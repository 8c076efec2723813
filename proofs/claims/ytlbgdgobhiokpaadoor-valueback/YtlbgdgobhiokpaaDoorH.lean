/- Rows of structs; texts that grow; a node's text up to its first kid's. -/
import Derived.Test.YtlbgdgobhiokpaaDoorG
import Derived.Test.YtlbgdgobhiokpaaDoorLib
import Derived.Lib.AppendStr
namespace Go.Proofs.YtlbgdgobhiokpaaDoor
open Go.RowKit
set_option linter.unusedVariables false

section
variable {w w' : World} {B n c : Nat} {e : TypeId} {v : Value} {xs : List Value}
theorem ownS_blk (h : w.ownsRow B e c v n xs) (hn : 0 < n) :
    ∃ g cap ys, v = .slice (some ⟨g, 0, none⟩) n cap ∧ B ≤ g ∧ n ≤ cap ∧ cap ≤ maxLen ∧ ys.length = cap * c ∧ ys.take (n * c) = xs ∧ Blk w g e ys := by
  rcases h.2 with ⟨_, h0⟩ | ⟨g, cap, cur, rfl, hb, hg, hnc, hcm, hs, ht⟩
  · omega
  · exact ⟨g, cap, cur.toList, rfl, hb, hnc, hcm, by simpa using hs, by simpa using ht, by unfold Blk; rw [Array.toArray_toList]; exact hg⟩
theorem ownS_of_blk {g cap : Nat} {ys : List Value} (h : Blk w g e ys) (hb : B ≤ g) (hl : ys.length = cap * c) (hn : n ≤ cap) (hm : cap ≤ maxLen) : w.ownsRow B e c (.slice (some ⟨g, 0, none⟩) n cap) n (ys.take (n * c)) :=
  ⟨by rw [List.length_take, hl]; exact Nat.min_eq_left (Nat.mul_le_mul_right c hn), .inr ⟨g, cap, ys.toArray, rfl, hb, h, hn, hm, by simp [hl], by simp⟩⟩
theorem ownS_upd {S : Nat → Prop} (h : w.ownsRow B e c v n xs) (hu : Upd S w w') (hs : ∀ k, v.ownBlock = some k → ¬ S k) : w'.ownsRow B e c v n xs := by
  refine ⟨h.1, ?_⟩
  rcases h.2 with hn | ⟨g, cap, cur, rfl, hb, hg, rest⟩
  · exact .inl hn
  · exact .inr ⟨g, cap, cur, rfl, hb, (hu.block g (Array.getElem?_eq_some_iff.1 hg).1 (hs g rfl)).trans hg, rest⟩
theorem ownS_type (h : w.ownsRow B e c v n xs) {k : Nat} (hk : v.ownBlock = some k) : ∃ ys, Blk w k e ys := by
  rcases h.2 with ⟨rfl, _⟩ | ⟨g, cap, cur, rfl, hb, hg, _⟩
  · simp [Value.ownBlock] at hk
  · obtain rfl : g = k := own_is hk
    exact ⟨cur.toList, by unfold Blk; rw [Array.toArray_toList]; exact hg⟩
theorem blk_type {g : Nat} {t t' : TypeId} {xs ys : List Value} (h : Blk w g t xs) (k : Blk w g t' ys) : t = t' := by
  unfold Blk at h k
  rw [h] at k
  injection k with k
  injection k with _ k
/-- append(v, x), x a struct written out. -/
theorem run_pushS {P : Program} {t : TypeId} {z : Value} {bytes : Nat} (ht : P.underlying t = some (.slice e)) (hinfo : (P.info? e).map (fun i => (i.zero, i.size, i.bytes)) = some (some z, c, bytes)) (hzs : z.cells.size = c) (hc : 0 < c)
    (w : World) (ty : Nat) (hown : w.ownsRow B e c v n xs) (news : List Value) (hl : news.length = c) (hx : ∀ u ∈ news, u.oneCell' = true) (h63 : n + 1 ≤ maxLen) (hb : (n + 1) * bytes ≤ 140737488355328) (hbase : B ≤ w.heap.size) :
    ∃ g cap w', (Builtin.append_ #[t, t] ty #[v, .slice (some ⟨w.heap.size, 0, none⟩) 1 1]).run P (w.alloc (.cells news.toArray e)) = .ok (.slice (some ⟨g, 0, none⟩) (n + 1) cap) w' ∧
      w'.ownsRow B e c (.slice (some ⟨g, 0, none⟩) (n + 1) cap) (n + 1) (xs ++ news) ∧ Upd (fun k => v.ownBlock = some k) w w' ∧ (v.ownBlock = some g ∨ w.heap.size ≤ g) := by
  obtain ⟨i0, hi, hz0, hz1, hz2⟩ := info_parts hinfo
  have hsz : (w.alloc (.cells news.toArray e)).heap.size = w.heap.size + 1 := by simp
  obtain ⟨g, cap, w', h1, h2, h3, h4, h5⟩ := run_append_lies (P := P) (w.alloc (.cells news.toArray e)) t ty B e i0 z c bytes ht hi hz0 hz1 hz2 hzs hc v n xs (hown.alloc _) ⟨w.heap.size, 0, none⟩ 1 1 news (by omega)
    (fun j u hj => by rw [add_none, Nat.zero_add, (Blk.new w news e).cell]; exact hj)
    hx (by decide) h63 hb (by omega) _ rfl
  refine ⟨g, cap, w', h1, h2, ((Upd.refl _ w).alloc _).grown h3 (fun k hk => .inl hk), ?_⟩
  rcases h4 with h4 | h4
  · exact .inl h4
  · exact .inr (by omega)
end

/-! ### Texts -/
/-- Below B nothing has turned, above it nothing but bytes. -/
structure Kept (B : Nat) (w w' : World) : Prop where
  bel : Below B w w'
  oth : ∀ g t xs, t ≠ 5 → Blk w g t xs → Blk w' g t xs
section
variable {B : Nat} {w w' w1 : World} {v : Value} {l r : List Int}
theorem Kept.refl (B : Nat) (w : World) : Kept B w w := ⟨Below.refl _ _, fun _ _ _ _ h => h⟩
theorem Kept.trans (h : Kept B w w1) (k : Kept B w1 w') : Kept B w w' := ⟨h.bel.trans k.bel, fun g t xs ht hb => k.oth g t xs ht (h.oth g t xs ht hb)⟩
theorem Kept.alloc (h : Kept B w w1) (hB : B ≤ w1.heap.size) (o : Obj) : Kept B w (w1.alloc o) := ⟨h.bel.alloc hB o, fun g t xs ht hb => (h.oth g t xs ht hb).alloc o⟩
theorem Kept.drew (h : Kept B w w1) : Kept B w w1.drew := ⟨h.bel.drew, h.oth⟩
theorem Kept.of_below (hB : B ≤ w.heap.size) (h : Below w.heap.size w w') : Kept B w w' := ⟨h.mono hB, fun g t xs ht hb => hb.later h⟩
/-- A text of the call's own. -/
def Txt (B : Nat) (w : World) (v : Value) (l : List Int) : Prop := w.ownsRow B 5 1 v l.length (cellsL .u8 l)
theorem Txt.nil (B : Nat) (w : World) : Txt B w (.slice none 0 0) [] := World.ownsRow_nil _ _ _ _
theorem Txt.alloc (h : Txt B w v l) (o : Obj) : Txt B (w.alloc o) v l := World.ownsRow.alloc h o
theorem Txt.later (h : Txt B w v l) (hB : Below w.heap.size w w') : Txt B w' v l := ownS_upd h (Upd.of_below (S := fun _ => False) hB) (fun _ _ h => h)
theorem E41 : Elem Tryd.prog 41 5 .u8 1 := ⟨Tryd.underlying41, Tryd.underlying5, by kernel_rfl⟩
theorem kept_upd (h : Txt B w v l) (hB : B ≤ w.heap.size) (hu : Upd (fun k => v.ownBlock = some k) w w') : Kept B w w' := by
  refine ⟨hu.below B hB (fun k hk => (h.lt k hk).1), fun g t xs ht hb => hb.upd hu fun hk => ?_⟩
  obtain ⟨ys, hy⟩ := ownS_type h hk
  exact ht (blk_type hb hy)
theorem run_byte (h : Txt B w v l) (x : Int) (hl : l.length ≤ 1000000000) (hB : B ≤ w.heap.size) :
    ∃ v' w', (Builtin.append_ #[41, 41] 41 #[v, .slice (some ⟨w.heap.size, 0, none⟩) 1 1]).run Tryd.prog (w.alloc (.cells #[.int .u8 x] 5)) = .ok v' w' ∧ Txt B w' v' (l ++ [x]) ∧ Kept B w w' := by
  obtain ⟨g, cap, w', r1, o1, u1, l1⟩ := run_push E41 w 41 B v l.length l h x (by unfold maxLen; omega) (by omega) hB
  exact ⟨_, w', r1, by unfold Txt; rw [List.length_append]; exact o1, kept_upd h hB u1⟩
theorem run_str (h : Txt B w v l) (s : ByteArray) (r : List Int) (hs : Lib.strCells s = cellsL .u8 r) (hr : r.length ≤ 1000) (hl : l.length ≤ 1000000000) (hB : B ≤ w.heap.size) :
    ∃ v' w', (Builtin.append_ #[41, 9] 41 #[v, .string s]).run Tryd.prog w = .ok v' w' ∧ Txt B w' v' (l ++ r) ∧ Kept B w w' := by
  have hsz : s.size = r.length := by have := congrArg List.length hs; rw [Lib.strCells_length, cellsL_length] at this; exact this
  obtain ⟨i0, hi, hz0, hz1, hz2⟩ := info_parts E41.info
  obtain ⟨v', w', h1, h2, h3, -⟩ := Lib.run_append_own_string (P := Tryd.prog) w B 41 9 41 5 i0 Tryd.underlying41 Tryd.underlying9 hi hz0 hz1 hz2 v l.length _ h s (by rw [hsz]; unfold maxLen; omega) (by rw [hsz]; omega) hB
  refine ⟨v', w', h1, ?_, kept_upd h hB ((Upd.refl _ w).grown h3 (fun k hk => .inl hk))⟩
  rw [hs, ← cellsL_append, hsz] at h2
  unfold Txt
  rw [List.length_append]
  exact h2
end

/-! ### Digits -/
def digF : Nat → Nat → List Int
  | 0, u => [48 + (u : Int)]
  | f + 1, u => if u < 10 then [48 + (u : Int)] else digF f (u / 10) ++ [48 + ((u % 10 : Nat) : Int)]
def digs (n : Int) : List Int := digF 20 n.toNat
theorem digF_eq : ∀ (f u : Nat), u < 10 ^ (f + 1) → digF f u = (Lib.decDigits u).map fun b => (b.toNat : Int)
  | 0, u, h => by
    have h : u < 10 := by simpa using h
    have h2 : (48 + u) % 256 = 48 + u := by omega
    rw [Lib.decDigits_one h, digF]
    simp [h2]
  | f + 1, u, h => by
    by_cases hu : u < 10
    · have h2 : (48 + u) % 256 = 48 + u := by omega
      rw [Lib.decDigits_one hu, digF, if_pos hu]
      simp [h2]
    · have h2 : (48 + u % 10) % 256 = 48 + u % 10 := by omega
      rw [digF, if_neg hu, digF_eq f (u / 10) (by rw [Nat.div_lt_iff_lt_mul (by decide)]; rw [Nat.pow_succ] at h; exact h)]
      have h3 : Lib.decDigits u = Lib.decDigits (u / 10) ++ [UInt8.ofNat (48 + u % 10)] := by rw [Lib.decDigits, dif_neg hu]
      rw [h3]
      simp [h2]
theorem digs_cells (u : Nat) (h : u < 18446744073709551616) : Lib.byteCells (Lib.decDigits u) = cellsL .u8 (digs u) := by
  rw [digs, Int.toNat_natCast, digF_eq 20 u (by omega)]
  simp [Lib.byteCells, cellsL]
theorem digs_len (n : Int) : (digs n).length ≤ 21 := by
  have : ∀ f u, (digF f u).length ≤ f + 1 := by
    intro f
    induction f with
    | zero => intro u; simp [digF]
    | succ f ih => intro u; unfold digF; split <;> simp; exact ih _
  exact this 20 _

/-- The library's table of powers lies where it lay, below B. -/
structure Tab (B : Nat) (w : World) : Prop where
  is : Lib.TabIs Tryd.prog w "internal/strconv.uint64pow10" .u64 Lib.pow10Tab
  lt : ∀ g, Tryd.prog.globalNamed "internal/strconv.uint64pow10" = some g → g < B
theorem Tab.below {B : Nat} {w w' : World} (h : Tab B w) (hB : Below B w w') : Tab B w' := by
  refine ⟨?_, h.lt⟩
  have h1 := h.is
  unfold Lib.TabIs World.var? at *
  cases hg : Tryd.prog.globalNamed "internal/strconv.uint64pow10" with
  | none => rw [hg] at h1; simp at h1
  | some g =>
    rw [hg] at h1
    simp only [Option.bind_some] at h1 ⊢
    rw [hB.block g (h.lt g hg)]
    exact h1
theorem Tab.mono {B B' : Nat} {w : World} (h : Tab B w) (hB : B ≤ B') : Tab B' w := ⟨h.is, fun g hg => Nat.lt_of_lt_of_le (h.lt g hg) hB⟩
set_option maxRecDepth 100000 in
set_option maxHeartbeats 4000000 in
/-- strconv.AppendUint(dst, n, 10). -/
theorem uint_any (B n : Nat) (v : Value) (l : List Int) (w : World) (hn : n < 18446744073709551616) (h : Hid (Txt B w v l)) (hl : l.length ≤ 1000000000) (hB : B ≤ w.heap.size) (ht : Hid (Tab B w)) :
    Calls Tryd.prog 58 #[v, .int .u64 n, .int .i64 10] w fun e w' => ∃ v', e = .returned v' ∧ Hid (Txt B w' v' (l ++ digs n)) ∧ Hid (Kept B w w') := by
  have key : Calls Tryd.prog 71 #[v, .int .u64 n, .int .i64 10] w fun e w' => ∃ v', e = .returned v' ∧ Hid (Txt B w' v' (l ++ digs n)) ∧ Hid (Kept B w w') := by
    have fin : ∀ (e : Ending) (w' : World), (∃ v', e = .returned v' ∧ w'.ownsRow B 5 1 v' (l.length + (Lib.decDigits n).length) (cellsL .u8 l ++ Lib.byteCells (Lib.decDigits n)) ∧ Below B w w' ∧ Lib.OthersKept 5 none w w') → ∃ v', e = .returned v' ∧ Hid (Txt B w' v' (l ++ digs n)) ∧ Hid (Kept B w w') := by
      rintro e w' ⟨v', rfl, h1, h2, h3⟩
      refine ⟨v', rfl, ?_, ⟨h2, fun g t xs htt hb => h3 g _ hb (by simp) (fun c fz hh => by injection hh with _ hh; exact htt hh)⟩⟩
      have hlen : (Lib.decDigits n).length = (digs n).length := by
        have := congrArg List.length (digs_cells n hn)
        rwa [Lib.byteCells_length, cellsL_length] at this
      rw [digs_cells n hn, ← cellsL_append, hlen] at h1
      show Txt B w' v' (l ++ digs n)
      unfold Txt
      rw [List.length_append]
      exact h1
    by_cases hs : n < 100
    · exact (Tryd.internal_strconv_AppendUint_10_small B l.length n hs v _ w h.out hB (by omega)).mono fin
    · exact (Tryd.internal_strconv_AppendUint_10_big B l.length n (by omega) hn v _ w h.out hB (by omega) ht.out.is).mono fin
  go_enter Tryd.func58, Tryd.ntmps58
  go_wp2_with fail
  refine key.mono ?_; rintro e w1 ⟨v', rfl, h1, h2⟩
  go_wp2
  go_ret
  exact ⟨v', rfl, h1, h2⟩
end Go.Proofs.YtlbgdgobhiokpaaDoor

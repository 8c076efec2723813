/- Made. -/
import Derived.Test.YtlbgdgobhiokpaaDoorZj
namespace Go.Proofs.YtlbgdgobhiokpaaDoor
open Go.RowKit
set_option linter.unusedVariables false

/-- What came in fits its types. -/
def Fits (x : Nd) : Prop := (-9223372036854775808 ≤ x.1 ∧ x.1 ≤ 9223372036854775807) ∧ (0 ≤ x.2.1 ∧ x.2.1 ≤ 18446744073709551615) ∧ (-9223372036854775808 ≤ x.2.2 ∧ x.2.2 ≤ 9223372036854775807)
theorem made_push {B i cv : Nat} {w wr : World} {av : Option Addr} {L : List Nd} (HO : wr.ownsRow B 37 3 (.slice av i cv) L.length (cellsN L)) (hBw : Below B w wr) (hB : B ≤ wr.heap.size) (k n c : Int) (hL : L.length = i) (hi : i ≤ 450) :
    ∃ g cap w', (Builtin.append_ #[22, 22] 22 #[.slice av i cv, .slice (some ⟨wr.heap.size + 1, 0, none⟩) 1 1]).run Tryd.prog ((wr.alloc (.cells #[.int .i64 k, .int .u64 n, .int .i64 c] 37)).alloc (.cells #[.int .i64 k, .int .u64 n, .int .i64 c] 37)) = .ok (.slice (some ⟨g, 0, none⟩) (i + 1) cap) w' ∧
      w'.ownsRow B 37 3 (.slice (some ⟨g, 0, none⟩) (i + 1) cap) (L ++ [(k, n, c)]).length (cellsN (L ++ [(k, n, c)])) ∧ w'.cell? ⟨wr.heap.size, 2, none⟩ = some (.int .i64 c) ∧ Below B w w' := by
  subst hL
  have hlt : ∀ q, Value.ownBlock (.slice av L.length cv) = some q → q < wr.heap.size := fun q hq => (HO.lt q hq).2
  obtain ⟨g, cap, w', r1, o1, b1, u1⟩ := push_nd' (w := wr.alloc (.cells #[.int .i64 k, .int .u64 n, .int .i64 c] 37)) (HO.alloc _) (k, n, c) (by omega) (by simp; omega)
  have hsz : (wr.alloc (.cells #[.int .i64 k, .int .u64 n, .int .i64 c] 37)).heap.size = wr.heap.size + 1 := by simp
  rw [hsz] at r1
  refine ⟨g, cap, w', r1, o1, ?_, (hBw.alloc hB _).trans b1⟩
  have hk : Blk w' wr.heap.size 37 [.int .i64 k, .int .u64 n, .int .i64 c] := (Blk.newA wr _ 37).upd u1 fun hq => by have := hlt _ hq; omega
  exact hk.cell 2
/-- A slice of nodes that came in: nothing is asked of an empty one. -/
def NRaw (w : World) (a : Option Addr) (l : List Nd) : Prop := l = [] ∨ NRow w a l
theorem NRaw.open {w : World} {a : Option Addr} {l : List Nd} (h : NRaw w a l) (hl : 0 < l.length) : ∃ b off, a = some ⟨b, off, none⟩ ∧ b < w.heap.size ∧ ∀ i, i < l.length →
    w.cell? ⟨b, off + i * 3, none⟩ = some (.int .i64 (l.getD i nil0).1) ∧ w.cell? ⟨b, off + i * 3 + 1, none⟩ = some (.int .u64 (l.getD i nil0).2.1) ∧ w.cell? ⟨b, off + i * 3 + 2, none⟩ = some (.int .i64 (l.getD i nil0).2.2) := by
  rcases h with rfl | h
  · simp at hl
  · exact h.open hl
theorem NRaw.later {w w' : World} {a : Option Addr} {l : List Nd} (h : NRaw w a l) (hB : Below w.heap.size w w') : NRaw w' a l := h.imp id fun h => h.later hB
set_option maxRecDepth 100000 in
set_option maxHeartbeats 16000000 in
theorem made_any (a : Option Addr) (len cap : Nat) (raw : List Nd) (w : World) (hl : raw.length = len) (hm : len ≤ 9223372036854775807) (hr : Hid (NRaw w a raw)) (hf : Hid (∀ x ∈ raw, Fits x)) :
    Calls Tryd.prog 10 #[.slice a len cap] w fun e w' => ∃ v M, e = .returned v ∧ Hid (w'.ownsRow w.heap.size 37 3 v M.length (cellsN M)) ∧ Hid (MadeOk M) ∧ Below w.heap.size w w' := by
  go_enter Tryd.func10, Tryd.ntmps10
  go_wp2_with fail
  go_loopw [3, 4, 5] (fun xv xw xi wr => ∃ (v : Value) (L : List Nd) (m : Int) (i : Nat), v = xv ∧ xw = .int .i64 m ∧ xi = .int .i64 i ∧ 0 ≤ m ∧ (i < 150 → m ≤ 300) ∧ (i : Int) + m ≤ 450 ∧ Hid (L.length = i) ∧ Hid (wr.ownsRow w.heap.size 37 3 v L.length (cellsN L)) ∧ Hid (Pre L m) ∧ Hid (∀ x ∈ L, 0 ≤ x.2.1) ∧ Hid (Below w.heap.size w wr)) (fun _ _ xi _ => 450 - (intOf xi).toNat)
  case atStart => exact ⟨_, [], 1, 0, rfl, rfl, rfl, by omega, by omega, by omega, rfl, World.ownsRow_nil _ _ _ _, Pre.nil, by intro x hx; simp at hx, Below.refl _ _⟩
  case round =>
    obtain ⟨v, L, m, i, rfl, rfl, rfl, hm0, hm1, hm2, HLi, HO, HP, HQ, HB⟩ := hrel
    by_cases hmz : m = 0
    · subst hmz
      go_wp2
      go_ret
      exact ⟨v, L, rfl, HO, ⟨HP.out.done, by have := HLi.out; omega, HQ.out⟩, HB.out⟩
    · have hmp : 0 < m := by omega
      have hsz : w.heap.size ≤ wr.heap.size := HB.out.size
      have hvl : ∃ av cv, v = .slice av i cv := by
        have := HLi.out
        subst this
        rcases HO.out.2 with ⟨e, h0⟩ | ⟨g, cp, cur, e, _⟩
        · exact ⟨none, 0, by rw [e, h0]⟩
        · exact ⟨_, _, e⟩
      obtain ⟨av, cv, rfl⟩ := hvl
      have HOB : Hid (∀ q, Value.ownBlock (.slice av i cv) = some q → q < wr.heap.size) := fun q hq => (HO.out.lt q hq).2
      by_cases hin : i < len ∧ i < 150
      · obtain ⟨hi1, hi2⟩ := hin
        have hi1' : (i : Int) < len := by omega
        have hi2' : (i : Int) < 150 := by omega
        obtain ⟨b, off, rfl, hb, hc⟩ := hr.out.open (by omega)
        obtain ⟨c0, c1, c2⟩ := hc i (by omega)
        have hmem : raw.getD i nil0 ∈ raw := by rw [List.getD, List.getElem?_eq_getElem (show i < raw.length by omega)]; exact List.getElem_mem _
        have hfx := hf.out _ hmem
        have d0 := (HB.out.cell (p := ⟨b, off + i * 3, none⟩) hb).trans c0
        have d1 := (HB.out.cell (p := ⟨b, off + i * 3 + 1, none⟩) hb).trans c1
        have d2 := (HB.out.cell (p := ⟨b, off + i * 3 + 2, none⟩) hb).trans c2
        clear hc c0 c1 c2 hmem
        generalize raw.getD i nil0 = x at *
        obtain ⟨xk, xn, xc⟩ := x
        obtain ⟨f1, f2, f3⟩ := hfx
        simp only at d0 d1 d2 f1 f2 f3
        have d0a : ∀ ob, (wr.alloc ob).cell? ⟨b, off + i * 3, none⟩ = some (.int .i64 xk) := fun ob => (cell_alloc wr ob _ _ (World.block_lt_of_cell? wr _ d0)).trans d0
        have d1a : ∀ ob, (wr.alloc ob).cell? ⟨b, off + i * 3 + 1, none⟩ = some (.int .u64 xn) := fun ob => (cell_alloc wr ob _ _ (World.block_lt_of_cell? wr _ d1)).trans d1
        have d2a : ∀ ob, (wr.alloc ob).cell? ⟨b, off + i * 3 + 2, none⟩ = some (.int .i64 xc) := fun ob => (cell_alloc wr ob _ _ (World.block_lt_of_cell? wr _ d2)).trans d2
        go_wp2_with fail
        refine (rest_any xk 1 6 _ (by decide) (by decide) (by decide) f1).mono ?_; rintro e w1 ⟨K, rfl, hK1, hK2, rfl⟩
        clear d0a d1a d2a d0 d1 d2
        go_upto_region 13 with fail
        obtain ⟨lf, hlf⟩ : ∃ lf, max 0 (300 - (i : Int) - m) = lf := ⟨_, rfl⟩
        have hlf2 : 0 ≤ lf ∧ (lf = 0 ∨ lf = 300 - i - m) := by rw [← hlf, Int.max_def]; split <;> omega
        rw [hlf]
        clear hlf
        have hmi := hm1 hi2
        have hKs : K = 1 ∨ K = 2 ∨ K = 3 ∨ K = 4 ∨ K = 5 ∨ K = 6 := by omega
        rcases hKs with rfl | rfl | rfl | rfl | rfl | rfl
        · go_upto_region 31 with fail
          have hR : right (1, xn, 0) = true := (right_iff _).2 (by simp [mostN, leastK, mostK]; try omega)
          obtain ⟨g, cap', w', r1, o1, k1, b1⟩ := made_push HO.out HB.out hsz 1 xn 0 HLi.out (by omega)
          have R1 : Hid _ := r1
          have O1 : Hid _ := o1
          have HB1 : Hid (Below w.heap.size w w') := b1
          have HP1 : Hid (Pre (L ++ [(1, xn, 0)]) (m - 1 + 0)) := HP.out.step hmp hR
          have HQ1 : Hid (∀ x ∈ L ++ [((1, xn, 0) : Nd)], 0 ≤ x.2.1) := fun x hx => by
            rcases List.mem_append.1 hx with h | h
            · exact HQ.out x h
            · simp at h; subst h; show (0 : Int) ≤ xn; omega
          clear r1 o1 b1 HO HB HP HQ HOB hR
          go_wp2_with (at_builtin; have _t := R1; refine wpList_append_run rfl (.tmp 88) (.tmp 90) 22 22 rfl rfl rfl R1.out ?_; clear R1)
          go_roundw
          case rel => exact ⟨_, _, m - 1 + 0, i + 1, rfl, by go_num, by go_num, by omega, by omega, by omega, by show _ = _; rw [List.length_append, HLi.out]; rfl, O1, HP1, HQ1, HB1⟩
          case measure => simp [intOf]; omega
        · obtain ⟨n1, hn1⟩ : ∃ n1, xn.tmod 2 = n1 := ⟨_, rfl⟩
          have hn2 : 0 ≤ n1 ∧ n1 ≤ 1 := by rw [← hn1]; exact ⟨Int.tmod_nonneg _ f2.1, by have := Int.tmod_lt_of_pos xn (show (0 : Int) < 2 by decide); omega⟩
          go_upto_region 31 with fail
          clear hn1
          have hR : right (2, n1, 0) = true := (right_iff _).2 (by simp [mostN, leastK, mostK]; try omega)
          obtain ⟨g, cap', w', r1, o1, k1, b1⟩ := made_push HO.out HB.out hsz 2 n1 0 HLi.out (by omega)
          have R1 : Hid _ := r1
          have O1 : Hid _ := o1
          have HB1 : Hid (Below w.heap.size w w') := b1
          have HP1 : Hid (Pre (L ++ [(2, n1, 0)]) (m - 1 + 0)) := HP.out.step hmp hR
          have HQ1 : Hid (∀ x ∈ L ++ [((2, n1, 0) : Nd)], 0 ≤ x.2.1) := fun x hx => by
            rcases List.mem_append.1 hx with h | h
            · exact HQ.out x h
            · simp at h; subst h; show (0 : Int) ≤ n1; omega
          clear r1 o1 b1 HO HB HP HQ HOB hR
          go_wp2_with (at_builtin; have _t := R1; refine wpList_append_run rfl (.tmp 88) (.tmp 90) 22 22 rfl rfl rfl R1.out ?_; clear R1)
          go_roundw
          case rel => exact ⟨_, _, m - 1 + 0, i + 1, rfl, by go_num, by go_num, by omega, by omega, by omega, by show _ = _; rw [List.length_append, HLi.out]; rfl, O1, HP1, HQ1, HB1⟩
          case measure => simp [intOf]; omega
        · obtain ⟨mn, hmn⟩ : ∃ mn, min lf 9 = mn := ⟨_, rfl⟩
          have hmn2 : 0 ≤ mn ∧ mn ≤ 9 ∧ mn ≤ lf := by rw [← hmn, Int.min_def]; split <;> omega
          go_wp2_with (go_at_call 18; fail)
          refine (rest_any xc 0 mn _ (by decide) hmn2.1 (by omega) f3).mono ?_; rintro e w1 ⟨r, rfl, hr1, hr2, rfl⟩
          clear hmn
          go_upto_region 31 with fail
          have hR : right (3, 0, r) = true := (right_iff _).2 (by simp [mostN, leastK, mostK]; try omega)
          obtain ⟨g, cap', w', r1, o1, k1, b1⟩ := made_push HO.out HB.out hsz 3 0 r HLi.out (by omega)
          have R1 : Hid _ := r1
          have O1 : Hid _ := o1
          have HB1 : Hid (Below w.heap.size w w') := b1
          have HP1 : Hid (Pre (L ++ [(3, 0, r)]) (m - 1 + r)) := HP.out.step hmp hR
          have HQ1 : Hid (∀ x ∈ L ++ [((3, 0, r) : Nd)], 0 ≤ x.2.1) := fun x hx => by
            rcases List.mem_append.1 hx with h | h
            · exact HQ.out x h
            · simp at h; subst h; show (0 : Int) ≤ 0; omega
          clear r1 o1 b1 HO HB HP HQ HOB hR
          go_wp2_with (at_builtin; have _t := R1; refine wpList_append_run rfl (.tmp 88) (.tmp 90) 22 22 rfl rfl rfl R1.out ?_; clear R1)
          go_roundw
          case rel => exact ⟨_, _, m - 1 + r, i + 1, rfl, by go_num, by go_num, by omega, by omega, by omega, by show _ = _; rw [List.length_append, HLi.out]; rfl, O1, HP1, HQ1, HB1⟩
          case measure => simp [intOf]; omega
        · obtain ⟨mn, hmn⟩ : ∃ mn, min lf 6 = mn := ⟨_, rfl⟩
          have hmn2 : 0 ≤ mn ∧ mn ≤ 6 ∧ mn ≤ lf := by rw [← hmn, Int.min_def]; split <;> omega
          obtain ⟨mx, hmx⟩ : ∃ mx, max 1 mn = mx := ⟨_, rfl⟩
          have hmx2 : 1 ≤ mx ∧ mx ≤ 6 ∧ (mx = 1 ∨ mx ≤ lf) := by rw [← hmx, Int.max_def]; split <;> omega
          go_wp2_with (go_at_call 18; fail)
          refine (rest_any xc 1 mx _ (by decide) hmx2.1 (by omega) f3).mono ?_; rintro e w1 ⟨r, rfl, hr1, hr2, rfl⟩
          clear hmn hmx
          go_upto_region 31 with fail
          have hR : right (4, 0, r) = true := (right_iff _).2 (by simp [mostN, leastK, mostK]; try omega)
          obtain ⟨g, cap', w', r1, o1, k1, b1⟩ := made_push HO.out HB.out hsz 4 0 r HLi.out (by omega)
          have R1 : Hid _ := r1
          have O1 : Hid _ := o1
          have HB1 : Hid (Below w.heap.size w w') := b1
          have HP1 : Hid (Pre (L ++ [(4, 0, r)]) (m - 1 + r)) := HP.out.step hmp hR
          have HQ1 : Hid (∀ x ∈ L ++ [((4, 0, r) : Nd)], 0 ≤ x.2.1) := fun x hx => by
            rcases List.mem_append.1 hx with h | h
            · exact HQ.out x h
            · simp at h; subst h; show (0 : Int) ≤ 0; omega
          clear r1 o1 b1 HO HB HP HQ HOB hR
          go_wp2_with (at_builtin; have _t := R1; refine wpList_append_run rfl (.tmp 88) (.tmp 90) 22 22 rfl rfl rfl R1.out ?_; clear R1)
          go_roundw
          case rel => exact ⟨_, _, m - 1 + r, i + 1, rfl, by go_num, by go_num, by omega, by omega, by omega, by show _ = _; rw [List.length_append, HLi.out]; rfl, O1, HP1, HQ1, HB1⟩
          case measure => simp [intOf]; omega
        · go_wp2_with (go_at_call 18; fail)
          refine (rest_any xc 0 1 _ (by decide) (by decide) (by decide) f3).mono ?_; rintro e w1 ⟨r, rfl, hr1, hr2, rfl⟩
          go_upto_region 31 with fail
          have hR : right (5, 0, r) = true := (right_iff _).2 (by simp [mostN, leastK, mostK]; try omega)
          obtain ⟨g, cap', w', r1, o1, k1, b1⟩ := made_push HO.out HB.out hsz 5 0 r HLi.out (by omega)
          have R1 : Hid _ := r1
          have O1 : Hid _ := o1
          have HB1 : Hid (Below w.heap.size w w') := b1
          have HP1 : Hid (Pre (L ++ [(5, 0, r)]) (m - 1 + r)) := HP.out.step hmp hR
          have HQ1 : Hid (∀ x ∈ L ++ [((5, 0, r) : Nd)], 0 ≤ x.2.1) := fun x hx => by
            rcases List.mem_append.1 hx with h | h
            · exact HQ.out x h
            · simp at h; subst h; show (0 : Int) ≤ 0; omega
          clear r1 o1 b1 HO HB HP HQ HOB hR
          go_wp2_with (at_builtin; have _t := R1; refine wpList_append_run rfl (.tmp 88) (.tmp 90) 22 22 rfl rfl rfl R1.out ?_; clear R1)
          go_roundw
          case rel => exact ⟨_, _, m - 1 + r, i + 1, rfl, by go_num, by go_num, by omega, by omega, by omega, by show _ = _; rw [List.length_append, HLi.out]; rfl, O1, HP1, HQ1, HB1⟩
          case measure => simp [intOf]; omega
        · obtain ⟨n1, hn1⟩ : ∃ n1, xn.tmod 256 = n1 := ⟨_, rfl⟩
          have hn2 : 0 ≤ n1 ∧ n1 ≤ 255 := by rw [← hn1]; exact ⟨Int.tmod_nonneg _ f2.1, by have := Int.tmod_lt_of_pos xn (show (0 : Int) < 256 by decide); omega⟩
          go_upto_region 31 with fail
          clear hn1
          have hR : right (6, n1, 1) = true := (right_iff _).2 (by simp [mostN, leastK, mostK]; try omega)
          obtain ⟨g, cap', w', r1, o1, k1, b1⟩ := made_push HO.out HB.out hsz 6 n1 1 HLi.out (by omega)
          have R1 : Hid _ := r1
          have O1 : Hid _ := o1
          have HB1 : Hid (Below w.heap.size w w') := b1
          have HP1 : Hid (Pre (L ++ [(6, n1, 1)]) (m - 1 + 1)) := HP.out.step hmp hR
          have HQ1 : Hid (∀ x ∈ L ++ [((6, n1, 1) : Nd)], 0 ≤ x.2.1) := fun x hx => by
            rcases List.mem_append.1 hx with h | h
            · exact HQ.out x h
            · simp at h; subst h; show (0 : Int) ≤ n1; omega
          clear r1 o1 b1 HO HB HP HQ HOB hR
          go_wp2_with (at_builtin; have _t := R1; refine wpList_append_run rfl (.tmp 88) (.tmp 90) 22 22 rfl rfl rfl R1.out ?_; clear R1)
          go_roundw
          case rel => exact ⟨_, _, m - 1 + 1, i + 1, rfl, by go_num, by go_num, by omega, by omega, by omega, by show _ = _; rw [List.length_append, HLi.out]; rfl, O1, HP1, HQ1, HB1⟩
          case measure => simp [intOf]; omega
      · have hout : (¬ (i : Int) < len) ∨ ((i : Int) < len ∧ ¬ (i : Int) < 150) := by omega
        clear hin
        rcases hout with h1 | ⟨h1, h2⟩
        · go_wp2_with (go_at_call 18; fail)
          refine (rest_any 0 1 6 _ (by decide) (by decide) (by decide) (by decide)).mono ?_; rintro e w1 ⟨K, rfl, hK1, hK2, rfl⟩
          go_upto_region 31 with fail
          have hR : right (1, 0, 0) = true := (right_iff _).2 (by simp [mostN, leastK, mostK]; try omega)
          obtain ⟨g, cap', w', r1, o1, k1, b1⟩ := made_push HO.out HB.out hsz 1 0 0 HLi.out (by omega)
          have R1 : Hid _ := r1
          have O1 : Hid _ := o1
          have HB1 : Hid (Below w.heap.size w w') := b1
          have HP1 : Hid (Pre (L ++ [(1, 0, 0)]) (m - 1 + 0)) := HP.out.step hmp hR
          have HQ1 : Hid (∀ x ∈ L ++ [((1, 0, 0) : Nd)], 0 ≤ x.2.1) := fun x hx => by
            rcases List.mem_append.1 hx with h | h
            · exact HQ.out x h
            · simp at h; subst h; show (0 : Int) ≤ 0; omega
          clear r1 o1 b1 HO HB HP HQ HOB hR
          go_wp2_with (at_builtin; have _t := R1; refine wpList_append_run rfl (.tmp 88) (.tmp 90) 22 22 rfl rfl rfl R1.out ?_; clear R1)
          go_roundw
          case rel => exact ⟨_, _, m - 1 + 0, i + 1, rfl, by go_num, by go_num, by omega, by omega, by omega, by show _ = _; rw [List.length_append, HLi.out]; rfl, O1, HP1, HQ1, HB1⟩
          case measure => simp [intOf]; omega
        · go_wp2_with (go_at_call 18; fail)
          refine (rest_any 0 1 6 _ (by decide) (by decide) (by decide) (by decide)).mono ?_; rintro e w1 ⟨K, rfl, hK1, hK2, rfl⟩
          go_upto_region 31 with fail
          have hR : right (1, 0, 0) = true := (right_iff _).2 (by simp [mostN, leastK, mostK]; try omega)
          obtain ⟨g, cap', w', r1, o1, k1, b1⟩ := made_push HO.out HB.out hsz 1 0 0 HLi.out (by omega)
          have R1 : Hid _ := r1
          have O1 : Hid _ := o1
          have HB1 : Hid (Below w.heap.size w w') := b1
          have HP1 : Hid (Pre (L ++ [(1, 0, 0)]) (m - 1 + 0)) := HP.out.step hmp hR
          have HQ1 : Hid (∀ x ∈ L ++ [((1, 0, 0) : Nd)], 0 ≤ x.2.1) := fun x hx => by
            rcases List.mem_append.1 hx with h | h
            · exact HQ.out x h
            · simp at h; subst h; show (0 : Int) ≤ 0; omega
          clear r1 o1 b1 HO HB HP HQ HOB hR
          go_wp2_with (at_builtin; have _t := R1; refine wpList_append_run rfl (.tmp 88) (.tmp 90) 22 22 rfl rfl rfl R1.out ?_; clear R1)
          go_roundw
          case rel => exact ⟨_, _, m - 1 + 0, i + 1, rfl, by go_num, by go_num, by omega, by omega, by omega, by show _ = _; rw [List.length_append, HLi.out]; rfl, O1, HP1, HQ1, HB1⟩
          case measure => simp [intOf]; omega
end Go.Proofs.YtlbgdgobhiokpaaDoor

/- plays: the kinds 3 and 5. -/
import Derived.Test.YtgeabhnfkkkbgaaP
namespace Go.Proofs.Ytgeabhnfkkkbgaa
open Go.RowKit
set_option linter.unusedVariables false

/-! ### Blocks of two types are two -/
theorem blk_ne {w : World} {g g' : Nat} {t t' : TypeId} {xs ys : List Value} (h : Blk w g t xs) (h' : Blk w g' t' ys) (ht : t ≠ t') : g ≠ g' := by
  intro e
  subst e
  unfold Blk at h h'
  rw [h] at h'
  injection h' with h'
  injection h' with _ h3 _
  exact ht h3
theorem own_ne_t {B br n : Nat} {w : World} {v : Value} {xs ys : List Value} {t t' : TypeId} (h : w.ownsRow B t 1 v n xs) (hb : Blk w br t' ys) (ht : t ≠ t') : v.ownBlock ≠ some br := by
  intro e
  rcases h.2 with ⟨rfl, _⟩ | ⟨g, cap, cur, rfl, _, hg, _⟩
  · cases e
  · injection e with e
    have e' : g = br := e
    subst e'
    unfold Blk at hb
    rw [hb] at hg
    injection hg with hg
    injection hg with _ h3 _
    exact ht h3.symm
theorem BothSt.po {B bo bp br : Nat} {w : World} {v : Value} {st : St} (h : BothSt B w bo bp br v st) : bp ≠ bo := blk_ne h.p h.blk (by decide)
theorem BothSt.ro {B bo bp br : Nat} {w : World} {v : Value} {st : St} (h : BothSt B w bo bp br v st) : ¬ Fr br v bo := by
  rintro (e | e)
  · exact blk_ne h.blk h.r.blk (by decide) e
  · exact own_ne_t h.r.row h.blk (by decide) e
theorem BothSt.rp {B bo bp br : Nat} {w : World} {v : Value} {st : St} (h : BothSt B w bo bp br v st) : ¬ Fr br v bp := by
  rintro (e | e)
  · exact blk_ne h.p h.r.blk (by decide) e
  · exact own_ne_t h.r.row h.p (by decide) e

set_option maxHeartbeats 4000000 in
set_option maxRecDepth 100000 in
theorem plays_3 (two : Bool) (N : Nat) (a : Option Addr) (len cap : Nat) (C : Int) (B bo bp br : Nat) (v : Value) (st : St) (w : World) (h : Hid (BothSt B w bo bp br v st)) :
    Calls Try.prog 20 #[.pointer (some ⟨bo, 0, none⟩), .agg #[.int .i64 3, .bool two, .int .u64 N, .slice a len cap, .int .u8 C]] w fun e w' => e = .returned (.bool true) ∧ Hid (Plays B bo bp br v w w') := by
  have hbw : B ≤ w.heap.size := Nat.le_trans h.out.lo (Nat.le_of_lt h.out.blk.lt)
  have hbo := h.out.blk.lt
  go_enter Try.func20, Try.ntmps20
  go_wp2_with fail
  obtain ⟨wB, hwB⟩ : ∃ wB, wB = w.alloc (box 3 two N a len cap C) := ⟨_, rfl⟩
  have hBB : Below w.heap.size w wB := by rw [hwB]; exact (Below.refl _ _).alloc (Nat.le_refl _) _
  unfold box at hwB
  rw [← hwB]
  clear hwB
  refine (new_any _).mono ?_; rintro e w1 ⟨bp', rfl, hbp, HR1, hB1⟩
  have hBw1 := below_to hBB hB1
  have K1 : Hid (Blk w1 bo 50 _) := h.out.blk.later hBw1
  have c0 := K1.out.cell 0
  simp only [List.getElem?_cons_zero] at c0
  have z0 := K1.out.frozen 0
  have hpw : w.heap.size ≤ bp' := Nat.le_trans hBB.size hbp
  go_wp2_with fail
  obtain ⟨w2, hw2⟩ : ∃ w2, w2 = w1.setCell ⟨bo, 0, none⟩ (.pointer (some ⟨bp', 0, none⟩)) := ⟨_, rfl⟩
  have hU2 : Upd (FB bo bp br v) w w2 := by rw [hw2]; exact (Upd.of_below hBw1).set _ _ (.inl (.inl rfl))
  have K2 : Hid (Blk w2 bo 50 [.pointer (some ⟨bp', 0, none⟩), .pointer (some ⟨br, 0, none⟩)]) := by rw [hw2]; exact K1.out.set 0 _
  have P2 : Hid (Rdr w2 bp' [] false) := by rw [hw2]; exact Blk.other HR1 _ _ (by simp only; omega)
  rw [← hw2]
  clear hw2 c0 z0 HR1 hB1 K1 hBw1
  refine (rnew_any _).mono ?_; rintro e w3 ⟨br', rfl, hbr, HR3, hB3⟩
  have K3 : Hid (Blk w3 bo 50 [.pointer (some ⟨bp', 0, none⟩), .pointer (some ⟨br, 0, none⟩)]) := K2.out.later hB3
  have c1 := K3.out.cell 1
  simp only [List.getElem?_cons_zero, List.getElem?_cons_succ] at c1
  have z1 := K3.out.frozen 1
  have d0 := K3.out.cell 0
  simp only [List.getElem?_cons_zero] at d0
  have hsz2 : w.heap.size ≤ w2.heap.size := hU2.size
  have hrw : w.heap.size ≤ br' := Nat.le_trans hU2.size hbr
  have hU3 : Upd (FB bo bp br v) w w3 := hU2.then hB3
  have P3 : Hid (Rdr w3 bp' [] false) := P2.out.later hB3
  clear hU2 K2 P2 hB3
  go_wp2_with fail
  obtain ⟨w4, hw4⟩ : ∃ w4, w4 = w3.setCell ⟨bo, 1, none⟩ (.pointer (some ⟨br', 0, none⟩)) := ⟨_, rfl⟩
  have hU4 : Upd (FB bo bp br v) w w4 := by rw [hw4]; exact hU3.set _ _ (.inl (.inl rfl))
  have hbr2 : ∀ k, Fr br' (.slice none 0 0) k → ¬ k = bo := by
    rintro k (e | e) e2
    · omega
    · cases e
  have HS4 : Hid (BothSt B w4 bo bp' br' (.slice none 0 0) ([], false)) := by
    refine ⟨?_, ?_, ?_, TkS.start, h.out.lo, Nat.le_trans hbw hpw⟩
    · rw [hw4]; exact K3.out.set 1 _
    · rw [hw4]; exact Blk.other P3.out _ _ (by simp only; omega)
    · have h3 : RRd B w3 br' (.slice none 0 0) [] false := HR3.out.mono (Nat.le_trans hbw hsz2)
      rw [hw4]
      exact h3.upd ((Upd.refl (fun k => k = bo) w3).set _ _ (.inl rfl)) hbr2
  rw [← hw4]
  clear hw4 c1 z1 d0 K3 P3 hU3 HR3
  refine (tells_any B bo bp' br' _ _ _ HS4).mono ?_; rintro e w5 ⟨rfl, hB5⟩
  go_wp2
  go_ret
  refine ⟨rfl, bp', br', .slice none 0 0, ([], false), HS4.out.later hB5, hU4.then hB5, fun k hk => ?_⟩
  rcases hk with rfl | rfl | rfl | hk
  · exact .inl (.inl rfl)
  · exact .inr hpw
  · exact .inr hrw
  · cases hk

set_option maxHeartbeats 4000000 in
set_option maxRecDepth 100000 in
theorem plays_5 (two : Bool) (N : Nat) (a : Option Addr) (len cap : Nat) (C : Int) (B bo bp br : Nat) (v : Value) (st : St) (w : World) (h : Hid (BothSt B w bo bp br v st)) (hC0 : 0 ≤ C) (hC1 : C ≤ 255) :
    Calls Try.prog 20 #[.pointer (some ⟨bo, 0, none⟩), .agg #[.int .i64 5, .bool two, .int .u64 N, .slice a len cap, .int .u8 C]] w fun e w' => e = .returned (.bool true) ∧ Hid (Plays B bo bp br v w w') := by
  go_enter Try.func20, Try.ntmps20
  go_wp2_with fail
  obtain ⟨wB, hwB⟩ : ∃ wB, wB = w.alloc (box 5 two N a len cap C) := ⟨_, rfl⟩
  have hBB : Below w.heap.size w wB := by rw [hwB]; exact (Below.refl _ _).alloc (Nat.le_refl _) _
  have KB : Hid (Blk wB w.heap.size 52 [.int .i64 5, .bool two, .int .u64 N, .slice a len cap, .int .u8 C]) := by rw [hwB]; exact Blk.newA w _ _
  unfold box at hwB
  rw [← hwB]
  clear hwB
  have HSB : Hid (BothSt B wB bo bp br v st) := h.out.later hBB
  have hpB : bp ≠ w.heap.size := blk_ne HSB.out.p KB.out (by decide)
  have c0 : Hid (wB.cell? ⟨bo, 0, none⟩ = some (.pointer (some ⟨bp, 0, none⟩))) := by show _ = _; have := HSB.out.blk.cell 0; simpa using this
  have c4 : Hid (wB.cell? ⟨w.heap.size, 4, none⟩ = some (.int .u8 C)) := by show _ = _; have := KB.out.cell 4; simpa using this
  --1
  obtain ⟨dn, hdn⟩ : ∃ dn, Hid (doneS st C = dn) := ⟨_, rfl⟩
  obtain ⟨er, her⟩ : ∃ er, Hid (errS st C = er) := ⟨_, rfl⟩
  go_region_held3 (fun w' => w'.cell? ⟨bo, 0, none⟩ = some (.pointer (some ⟨bp, 0, none⟩)) ∧ w'.cell? ⟨w.heap.size, 4, none⟩ = some (.int .u8 C)) (first | assumption | exact ⟨c0.out, c4.out⟩)
    (first
      | (go_at_call 18; refine (byte_any bp st C _ HSB.out.p.drew HSB.out.tk).mono ?_; rintro e w6 ⟨rfl, HR6, -, hU6⟩; rw [hdn.out, her.out]; have HR6 : Hid (Rdr w6 bp (nextS st C).1 (nextS st C).2) := HR6; have hS6 : w6.cell? ⟨bo, 0, none⟩ = some (.pointer (some ⟨bp, 0, none⟩)) ∧ w6.cell? ⟨w.heap.size, 4, none⟩ = some (.int .u8 C) := ⟨(World.cell?_of_block (w := wB) (hU6.block bo HSB.out.blk.lt (fun e => HSB.out.po e.symm))).trans c0.out, (World.cell?_of_block (w := wB) (hU6.block w.heap.size KB.out.lt (fun e => hpB e.symm))).trans c4.out⟩))
  --2
  have hUB6 : Upd (fun k => k = bp) wB w6 := (Upd.refl _ wB).drew.to hU6
  have HR26 : Hid (RRd B w6 br v st.1 st.2) := HSB.out.r.upd hUB6 (fun k hk e => HSB.out.rp (by rw [← e]; exact hk))
  have KO6 : Hid (Blk w6 bo 50 [.pointer (some ⟨bp, 0, none⟩), .pointer (some ⟨br, 0, none⟩)]) := HSB.out.blk.upd hUB6 (fun e => HSB.out.po e.symm)
  have KB6 : Hid (Blk w6 w.heap.size 52 [.int .i64 5, .bool two, .int .u64 N, .slice a len cap, .int .u8 C]) := KB.out.upd hUB6 (fun e => hpB e.symm)
  have hrB : ¬ Fr br v w.heap.size := by
    rintro (e | e)
    · exact blk_ne KB.out HSB.out.r.blk (by decide) e
    · exact own_ne_t HSB.out.r.row KB.out (by decide) e
  have d1 : Hid (w6.cell? ⟨bo, 1, none⟩ = some (.pointer (some ⟨br, 0, none⟩))) := by show _ = _; have := KO6.out.cell 1; simpa using this
  have d4 : Hid (w6.cell? ⟨w.heap.size, 4, none⟩ = some (.int .u8 C)) := by show _ = _; have := KB6.out.cell 4; simpa using this
  have HTk : Hid (TkS st) := HSB.out.tk
  have hro : Hid (¬ Fr br v bo) := HSB.out.ro
  have hrp : Hid (¬ Fr br v bp) := HSB.out.rp
  have hUw6 : Upd (FB bo bp br v) w w6 := (Upd.of_below hBB).trans hUB6 (fun k _ hk => .inr (.inl hk))
  have hsz6 : Hid (w.heap.size ≤ w6.heap.size) := hUw6.size
  clear hS6 hU6 hUB6 KB HSB c0 c4
  rename_i hHeld6
  clear hHeld6
  go_wp2_with fail
  --3
  go_region_held3 (fun w' => w'.cell? ⟨bo, 1, none⟩ = some (.pointer (some ⟨br, 0, none⟩)) ∧ w'.cell? ⟨w.heap.size, 4, none⟩ = some (.int .u8 C)) (first | assumption | exact ⟨d1.out, d4.out⟩)
    (first
      | (go_at_call 32; refine (rbyte_any B br v st C _ (HR26.out.later (Below.refl _ _).drew) HTk.out hC0).mono ?_; rintro e w7 ⟨v7, rfl, HR7, hU7, hF7⟩; rw [hdn.out, her.out]; have hS7 : w7.cell? ⟨bo, 1, none⟩ = some (.pointer (some ⟨br, 0, none⟩)) ∧ w7.cell? ⟨w.heap.size, 4, none⟩ = some (.int .u8 C) := ⟨(World.cell?_of_block (w := w6) (hU7.block bo KO6.out.lt hro.out)).trans d1.out, (World.cell?_of_block (w := w6) (hU7.block w.heap.size KB6.out.lt hrB)).trans d4.out⟩))
  --4
  have hU67 : Upd (Fr br v) w6 w7 := (Upd.refl _ w6).drew.to hU7
  have HS7 : Hid (BothSt B w7 bo bp br v7 (nextS st C)) := ⟨KO6.out.upd hU67 hro.out, Blk.upd HR6.out hU67 hrp.out, HR7.out, HTk.out.next C hC0 hC1, h.out.lo, h.out.lp⟩
  have hUw7 : Upd (FB bo bp br v) w w7 := hUw6.trans hU67 (fun k _ hk => .inr (.inr hk))
  have hFB : Hid (∀ k, FB bo bp br v7 k → FB bo bp br v k ∨ w.heap.size ≤ k) := by
    rintro k (e | e | e | e)
    · exact .inl (.inl e)
    · exact .inl (.inr (.inl e))
    · exact .inl (.inr (.inr (.inl e)))
    · rcases hF7 k e with e2 | e2
      · exact .inl (.inr (.inr (.inr e2)))
      · exact .inr (Nat.le_trans hsz6.out e2)
  clear hU7 hU67 hS7 hF7 d1 d4 KO6 KB6 HR26
  go_wp2_with (go_at_call 12; refine (num_any _ _).mono ?_; rintro e w' ⟨rfl, rfl⟩)
  go_ret
  exact ⟨ret_bool (by simp), bp, br, v7, nextS st C, HS7.out, hUw7, hFB.out⟩
end Go.Proofs.Ytgeabhnfkkkbgaa

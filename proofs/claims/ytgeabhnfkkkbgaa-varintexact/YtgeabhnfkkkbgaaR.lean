/- plays: the kinds 2 and 4. -/
import Derived.Test.YtgeabhnfkkkbgaaQ
namespace Go.Proofs.Ytgeabhnfkkkbgaa
open Go.RowKit
set_option linter.unusedVariables false

set_option maxHeartbeats 4000000 in
set_option maxRecDepth 100000 in
theorem plays_2 (two : Bool) (N : Nat) (a : Option Addr) (len cap : Nat) (C : Int) (l : List Int) (B bo bp br : Nat) (v : Value) (st : St) (w : World) (h : Hid (BothSt B w bo bp br v st))
    (hl : Hid (l.length = len)) (hlc : len ≤ cap) (hcm : cap ≤ 140737488351232) (hrow : Hid (Row .u8 w a l)) (hnil : Hid (a = none → cap = 0)) (hby : Hid (Bys l)) :
    Calls Try.prog 20 #[.pointer (some ⟨bo, 0, none⟩), .agg #[.int .i64 2, .bool two, .int .u64 N, .slice a len cap, .int .u8 C]] w fun e w' => e = .returned (.bool true) ∧ Hid (Plays B bo bp br v w w') := by
  go_enter Try.func20, Try.ntmps20
  go_wp2_with fail
  obtain ⟨wB, hwB⟩ : ∃ wB, wB = w.alloc (box 2 two N a len cap C) := ⟨_, rfl⟩
  have hBB : Below w.heap.size w wB := by rw [hwB]; exact (Below.refl _ _).alloc (Nat.le_refl _) _
  have KB : Hid (Blk wB w.heap.size 52 [.int .i64 2, .bool two, .int .u64 N, .slice a len cap, .int .u8 C]) := by rw [hwB]; exact Blk.newA w _ _
  unfold box at hwB
  rw [← hwB]
  clear hwB
  refine (lent_any a len cap l _ hl (hrow.out.later hBB) hnil (by omega)).mono ?_; rintro e w2 ⟨g, c, rfl, hg, HLe, hB2⟩
  have hBw2 := below_to hBB hB2
  have hgw : w.heap.size ≤ g := Nat.le_trans hBB.size hg
  have KB2 : Hid (Blk w2 w.heap.size 52 [.int .i64 2, .bool two, .int .u64 N, .slice a len cap, .int .u8 C]) := KB.out.later hB2
  have c3 : w2.cell? ⟨w.heap.size, 3, none⟩ = some (.slice a len cap) := by have := KB2.out.cell 3; simpa using this
  have HRow2 : Hid (Row .u8 w2 a l) := hrow.out.later hBw2
  clear KB hB2 hg hBB KB2
  go_wp2_with fail
  refine (get_any _ len c l _ hl.out (by unfold maxLen; omega) HLe.out.row hby.out).mono ?_; rintro e w' ⟨n, u, r, HG, rfl, rfl⟩
  have HG : Hid (GetR l n u r) := HG
  go_wp2_with fail
  refine (rget_at a len cap l _ n u r HG.out hl.out hlc (by unfold maxLen; omega) HRow2.out hby.out).mono ?_; rintro e w' ⟨rfl, rfl⟩
  go_wp2_with fail
  refine (num_any _ _).mono ?_; rintro e w' ⟨rfl, rfl⟩
  go_wp2_with fail
  refine (kept_any g c len a len cap l _ HLe hl HRow2 (by omega)).mono ?_; rintro e w3 ⟨rfl, hU3⟩
  have hUw3 : Upd (fun k => k = g) w w3 := (Upd.of_below hBw2).to hU3
  have HP : Hid (Plays B bo bp br v w w3) := by
    refine ⟨bp, br, v, st, h.out.upd hUw3 (fun k hk e => ?_), hUw3.trans (Upd.refl (fun _ => False) w3) (fun _ _ h => h.elim) |>.mono (fun k hk e => ?_), fun k hk => .inl hk⟩
    · have := (h.out.fb k hk).2
      omega
    · omega
  go_wp2
  go_ret
  exact ⟨ret_bool (by simp), HP⟩

set_option maxHeartbeats 4000000 in
set_option maxRecDepth 100000 in
theorem plays_4 (two : Bool) (N : Nat) (a : Option Addr) (len cap : Nat) (C : Int) (l : List Int) (B bo bp br : Nat) (v : Value) (st : St) (w : World) (h : Hid (BothSt B w bo bp br v st))
    (hl : Hid (l.length = len)) (hlc : len ≤ cap) (hcm : cap ≤ 140737488351232) (hrow : Hid (Row .u8 w a l)) (hnil : Hid (a = none → cap = 0)) (hby : Hid (Bys l)) :
    Calls Try.prog 20 #[.pointer (some ⟨bo, 0, none⟩), .agg #[.int .i64 4, .bool two, .int .u64 N, .slice a len cap, .int .u8 C]] w fun e w' => e = .returned (.bool true) ∧ Hid (Plays B bo bp br v w w') := by
  have hbw : B ≤ w.heap.size := Nat.le_trans h.out.lo (Nat.le_of_lt h.out.blk.lt)
  have hbo := h.out.blk.lt
  go_enter Try.func20, Try.ntmps20
  go_wp2_with fail
  obtain ⟨wB, hwB⟩ : ∃ wB, wB = w.alloc (box 4 two N a len cap C) := ⟨_, rfl⟩
  have hBB : Below w.heap.size w wB := by rw [hwB]; exact (Below.refl _ _).alloc (Nat.le_refl _) _
  have KB : Hid (Blk wB w.heap.size 52 [.int .i64 4, .bool two, .int .u64 N, .slice a len cap, .int .u8 C]) := by rw [hwB]; exact Blk.newA w _ _
  unfold box at hwB
  rw [← hwB]
  clear hwB
  refine (lent_any a len cap l _ hl (hrow.out.later hBB) hnil (by omega)).mono ?_; rintro e w2 ⟨g, c, rfl, hg, HLe, hB2⟩
  have hBw2 := below_to hBB hB2
  have hgw : w.heap.size ≤ g := Nat.le_trans hBB.size hg
  have KB2 : Hid (Blk w2 w.heap.size 52 [.int .i64 4, .bool two, .int .u64 N, .slice a len cap, .int .u8 C]) := KB.out.later hB2
  have hgl : g < w2.heap.size := by obtain ⟨ys, h1, _⟩ := HLe.out.blk; exact h1.lt
  clear KB hB2 hg hBB
  go_wp2_with fail
  --1
  refine (load_any _ len c l _ hl.out (by unfold maxLen; omega) HLe.out.row hby.out).mono ?_
  rintro e w3 ⟨hB3, hres⟩
  have Hres : Hid _ := hres
  clear hres
  have hBw3 := below_to hBw2 hB3
  have KB3 : Hid (Blk w3 w.heap.size 52 [.int .i64 4, .bool two, .int .u64 N, .slice a len cap, .int .u8 C]) := KB2.out.later hB3
  have HLe3 : Hid (Lent w3 g c l) := HLe.out.later hB3
  have HRow3 : Hid (Row .u8 w3 a l) := hrow.out.later hBw3
  have c3 : w3.cell? ⟨w.heap.size, 3, none⟩ = some (.slice a len cap) := by have := KB3.out.cell 3; simpa using this
  have hs23 : w2.heap.size ≤ w3.heap.size := hB3.size
  rcases Hres.out with ⟨p', st1, hld, rfl, hp', HRp, HTk⟩ | ⟨st1, r, hld, hr0, rfl⟩
  · --ok
    have HRp : Hid (Rdr w3 p' st1.1 st1.2) := HRp
    have HTk : Hid (TkS st1) := HTk
    have Hld : Hid _ := hld
    clear hld Hres hB3 KB2 HLe
    go_wp2_with fail
    refine (rload_any a len cap l _ hl.out (by unfold maxLen; omega) HRow3.out hby.out).mono ?_
    rintro e w4 ⟨hB4, ⟨r', v', st2, hld2, rfl, HRr⟩ | ⟨st2, r2, hld2, hr2, rfl⟩⟩
    · rw [Hld.out] at hld2
      injection hld2 with e1 _
      subst e1
      have HRr : Hid (RRd w3.heap.size w4 r' v' st1.1 st1.2) := HRr
      have hBw4 := below_to hBw3 hB4
      have KB4 : Hid (Blk w4 w.heap.size 52 [.int .i64 4, .bool two, .int .u64 N, .slice a len cap, .int .u8 C]) := KB3.out.later hB4
      have HLe4 : Hid (Lent w4 g c l) := HLe3.out.later hB4
      have HRow4 : Hid (Row .u8 w4 a l) := hrow.out.later hBw4
      have HRp4 : Hid (Rdr w4 p' st1.1 st1.2) := HRp.out.later hB4
      have d3 : w4.cell? ⟨w.heap.size, 3, none⟩ = some (.slice a len cap) := by have := KB4.out.cell 3; simpa using this
      clear c3 KB3 HLe3 HRow3 HRp hB4 KB4
      go_wp2_with fail
      refine (num_any _ _).mono ?_; rintro e w' ⟨rfl, rfl⟩
      go_wp2_with fail
      refine (kept_any g c len a len cap l _ HLe4 hl HRow4 (by omega)).mono ?_; rintro e w5 ⟨rfl, hU5⟩
      have hU5w : Upd (fun k => k = g) w w5 := (Upd.of_below hBw4).to hU5
      have HSo : Hid (BothSt B w5 bo bp br v st) := h.out.upd hU5w (fun k hk e => by have := (h.out.fb k hk).2; omega)
      have HRp5 : Hid (Rdr w5 p' st1.1 st1.2) := Blk.upd HRp4.out hU5 (by intro e; omega)
      have HRr5 : Hid (RRd w3.heap.size w5 r' v' st1.1 st1.2) := HRr.out.upd hU5 (fun k hk e => by have := (HRr.out.fr k hk).1; omega)
      have K5 : Hid (Blk w5 bo 50 [.pointer (some ⟨bp, 0, none⟩), .pointer (some ⟨br, 0, none⟩)]) := HSo.out.blk
      have e0 := K5.out.cell 0
      have e1 := K5.out.cell 1
      simp only [List.getElem?_cons_zero, List.getElem?_cons_succ] at e0 e1
      have z0 := K5.out.frozen 0
      have z1 := K5.out.frozen 1
      have hs5 : w.heap.size ≤ w5.heap.size := hU5w.size
      have hs3 : w.heap.size ≤ w3.heap.size := hBw3.size
      have hpw : w.heap.size ≤ p' := Nat.le_trans hBw2.size hp'
      have hUF5 : Upd (FB bo bp br v) w w5 := hU5w.mono (fun k hk e => by omega)
      clear d3 HLe4 HRow4 HRp4 HRr hU5 HSo
      --2
      go_wp2_with fail
      --3
      obtain ⟨w7, hw7⟩ : ∃ w7, w7 = (w5.setCell ⟨bo, 0, none⟩ (.pointer (some ⟨p', 0, none⟩))).setCell ⟨bo, 1, none⟩ (.pointer (some ⟨r', 0, none⟩)) := ⟨_, rfl⟩
      have hU57 : Upd (fun k => k = bo) w5 w7 := by rw [hw7]; exact ((Upd.refl (fun k => k = bo) w5).set ⟨bo, 0, none⟩ _ (.inl rfl)).set ⟨bo, 1, none⟩ _ (.inl rfl)
      have HS7 : Hid (BothSt B w7 bo p' r' v' st1) := by
        refine ⟨?_, Blk.upd HRp5.out hU57 (by intro e; omega), (HRr5.out.mono (Nat.le_trans hbw hs3)).upd hU57 (fun k hk e => by have := (HRr5.out.fr k hk).1; omega), HTk.out, h.out.lo, Nat.le_trans hbw hpw⟩
        rw [hw7]
        exact (K5.out.set 0 _).set 1 _
      have hUF7 : Upd (FB bo bp br v) w w7 := hUF5.trans hU57 (fun k _ hk => .inl hk)
      have hFB : Hid (∀ k, FB bo p' r' v' k → FB bo bp br v k ∨ w.heap.size ≤ k) := by
        rintro k (e | e | e)
        · exact .inl (.inl e)
        · subst e; exact .inr hpw
        · exact .inr (Nat.le_trans hs3 (HRr5.out.fr k e).1)
      rw [← hw7]
      clear hw7 e0 e1 z0 z1 K5 HRp5 HRr5 hUF5 hU57
      refine (tells_any B bo p' r' v' st1 _ HS7).mono ?_; rintro e w8 ⟨rfl, hB8⟩
      go_wp2
      go_ret
      exact ⟨rfl, p', r', v', st1, HS7.out.later hB8, hUF7.then hB8, hFB.out⟩
    · rw [Hld.out] at hld2
      injection hld2 with _ e1
      exact absurd e1.symm hr2
  · --err
    have Hld : Hid _ := hld
    clear hld Hres hB3 KB2 HLe
    go_wp2_with fail
    refine (rload_any a len cap l _ hl.out (by unfold maxLen; omega) HRow3.out hby.out).mono ?_
    rintro e w4 ⟨hB4, ⟨r', v', st2, hld2, rfl, HRr⟩ | ⟨st2, r2, hld2, hr2, rfl⟩⟩
    · rw [Hld.out] at hld2
      injection hld2 with _ e1
      exact absurd e1 hr0
    · rw [Hld.out] at hld2
      injection hld2 with _ e1
      subst e1
      have hBw4 := below_to hBw3 hB4
      have KB4 : Hid (Blk w4 w.heap.size 52 [.int .i64 4, .bool two, .int .u64 N, .slice a len cap, .int .u8 C]) := KB3.out.later hB4
      have HLe4 : Hid (Lent w4 g c l) := HLe3.out.later hB4
      have HRow4 : Hid (Row .u8 w4 a l) := hrow.out.later hBw4
      have d3 : w4.cell? ⟨w.heap.size, 3, none⟩ = some (.slice a len cap) := by have := KB4.out.cell 3; simpa using this
      clear c3 KB3 HLe3 HRow3 hB4 KB4
      go_wp2_with fail
      refine (num_any _ _).mono ?_; rintro e w' ⟨rfl, rfl⟩
      go_wp2_with fail
      refine (kept_any g c len a len cap l _ HLe4 hl HRow4 (by omega)).mono ?_; rintro e w5 ⟨rfl, hU5⟩
      have hU5w : Upd (fun k => k = g) w w5 := (Upd.of_below hBw4).to hU5
      have HP : Hid (Plays B bo bp br v w w5) := by
        refine ⟨bp, br, v, st, h.out.upd hU5w (fun k hk e => ?_), hU5w.mono (fun k hk e => ?_), fun k hk => .inl hk⟩
        · have := (h.out.fb k hk).2
          omega
        · omega
      go_wp2
      go_ret
      exact ⟨rfl, HP⟩
end Go.Proofs.Ytgeabhnfkkkbgaa

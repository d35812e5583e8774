/- Volumes: laws.eqInode, eqInodeS, eqVol of two that are the same. -/
import Derived.Test.YtgjehmobafkjfaaRows
import Derived.Test.YtgjehmobafkjfaaVrA
import Derived.Test.YtgjehmobafkjfaaLEn
namespace Go.Proofs.Ytgjehmobafkjfaa
open Go.RowKit Go.Sort

/-- an inode's value -/
def valI (x : Ino) (s : Value) : Value := .agg #[.int .i64 x.id, .int .i64 x.kind, .int .i64 x.links, .string x.data, s]

set_option maxRecDepth 100000 in
set_option maxHeartbeats 1000000 in
theorem eqInode_same (x : Ino) (s t : Value) (w : World) (hl : x.ents.length ≤ 1048577) (hs : EntsAt w s x.ents) (ht : EntsAt w t x.ents) :
    Calls Try.prog 20 #[valI x s, valI x t] w fun e w' => e = .returned (.bool true) ∧ Below w.heap.size w w' := by
  have hE : ∀ w', Below w.heap.size w w' → Calls Try.prog 24 #[s, t] w' fun e w'' => e = .returned (.bool true) ∧ Below w'.heap.size w' w'' := fun w' b => by
    have := eqEntS_any s t x.ents x.ents w' (by omega) (hs.below b) (ht.below b)
    simpa using this
  obtain ⟨a1, c1, rfl, -, -⟩ := hs
  obtain ⟨a2, c2, rfl, -, -⟩ := ht
  obtain ⟨i, k, n, d, es⟩ := x
  unfold valI
  dsimp only at hE ⊢
  generalize es.length = m at hE ⊢
  go_enter Try.func20, Try.ntmps20
  go_wp2_with fail
  refine (hE _ ?_).mono ?_
  · exact (below_lit w _).alloc (by simp) _
  · rintro e w1 ⟨rfl, b1⟩
    go_wp2
    go_ret
    exact ⟨rfl, ((below_lit w _).alloc (by simp) _).trans (b1.mono (by simp; omega))⟩

set_option maxRecDepth 100000 in
set_option maxHeartbeats 1000000 in
theorem eqInodeS_same (v u : Value) (l : List Ino) (w : World) (hl : l.length ≤ 1048577) (hsh : ∀ x ∈ l, x.ents.length ≤ 1048577) (hv : InosAt w v l) (hu : InosAt w u l) :
    Calls Try.prog 14 #[v, u] w fun e w' => e = .returned (.bool true) ∧ Below w.heap.size w w' := by
  have HE : Hid (∀ k, k < l.length → ∀ s t w', EntsAt w' s l[k]!.ents → EntsAt w' t l[k]!.ents → Calls Try.prog 20 #[valI l[k]! s, valI l[k]! t] w' fun e w'' => e = .returned (.bool true) ∧ Below w'.heap.size w' w'') := fun k hk s t w' h1 h2 =>
    eqInode_same _ _ _ _ (hsh _ (by rw [getElem!_pos l k hk]; exact List.getElem_mem hk)) h1 h2
  obtain ⟨a, ca, rfl, -, hva⟩ := hv
  obtain ⟨b, cb, rfl, -, hub⟩ := hu
  obtain ⟨n, HN⟩ : ∃ n, Hid (n = l.length) := ⟨_, rfl⟩
  rw [← HN.out] at hva hub hl HE ⊢
  clear hsh
  go_enter Try.func14, Try.ntmps14
  go_wp2
  go_loopw [5] (fun i wr => ∃ k : Nat, k ≤ n ∧ i = .int .i64 k ∧ Below w.heap.size w wr) (fun i _ => n - (intOf i).toNat)
  case atStart => exact ⟨0, Nat.zero_le _, rfl, Below.refl _ _⟩
  case round =>
    obtain ⟨k, hk, rfl, hbel⟩ := hrel
    by_cases hlt : k < n
    · obtain ⟨b1, o1, s1, rfl, hb1, hc1, he1⟩ := hva k hlt
      obtain ⟨b2, o2, s2, rfl, hb2, hc2, he2⟩ := hub k hlt
      have hc1 := hc1.below hb1 hbel
      have hc2 := hc2.below hb2 hbel
      have hQ : ∀ d os, Calls Try.prog 20 #[valI l[k]! s1, valI l[k]! s2] (grow (redrawn wr d) os) fun x w'' => x = .returned (.bool true) ∧ ∃ p : Regrown, w'' = grow (redrawn wr p.d) p.os := fun d os =>
        Calls.regrown_of (HE.out k hlt s1 s2 _ ((he1.below hbel).below (below_regrown wr d os)) ((he2.below hbel).below (below_regrown wr d os)))
      obtain ⟨a1, ca1, rfl, -, -⟩ := he1
      obtain ⟨a2, ca2, rfl, -, -⟩ := he2
      generalize l[k]! = x at hc1 hc2 hQ
      obtain ⟨xi, xk, xn, xd, xe⟩ := x
      unfold valI at hQ
      dsimp only at hc1 hc2 hQ
      have k0 := cell_regrown hc1.c0
      have k1 := cell_regrown hc1.c1
      have k2 := cell_regrown hc1.c2
      have k3 := cell_regrown hc1.c3
      have k4 := cell_regrown hc1.c4
      have j0 := cell_regrown hc2.c0
      have j1 := cell_regrown hc2.c1
      have j2 := cell_regrown hc2.c2
      have j3 := cell_regrown hc2.c3
      have j4 := cell_regrown hc2.c4
      generalize xe.length = m at hQ k4 j4
      have hkn : (k : Int) < (n : Int) := by omega
      have hk0 : (0 : Int) ≤ (k : Int) := by omega
      clear hva hub hc1 hc2 HE
      go_wp2
      refine wp_region_quiet_below (by kernel_rfl) (by kernel_rfl) ?_
      repeat (go_big_quiet_step (exact hQ _ _))
      refine wpQuiet_nil ?_
      rintro w' ⟨⟨dq, osq⟩, rfl⟩
      have hbq := below_regrown wr dq osq
      generalize grow (redrawn wr dq) osq = w4 at hbq ⊢
      go_wp2
      go_roundw
      case rel => exact ⟨k + 1, by omega, by go_num, hbel.trans (hbq.mono hbel.size)⟩
      case measure => simp [intOf]; omega
    · obtain rfl : k = n := by omega
      go_wp2
      go_ret
      exact ⟨rfl, hbel⟩

set_option maxRecDepth 100000 in
set_option maxHeartbeats 1000000 in
theorem eqVol_same (v u : Value) (x : Vo) (w : World) (hl : x.ins.length ≤ 1048577) (hsh : ∀ y ∈ x.ins, y.ents.length ≤ 1048577) (hv : VolAt w v x) (hu : VolAt w u x) :
    Calls Try.prog 7 #[v, u] w fun e w' => e = .returned (.bool true) ∧ Below w.heap.size w w' := by
  obtain ⟨nx, l⟩ := x
  obtain ⟨v1, rfl, hv⟩ := hv
  obtain ⟨u1, rfl, hu⟩ := hu
  dsimp only at hl hsh hv hu ⊢
  have hE := fun w' (b : Below w.heap.size w w') => eqInodeS_same v1 u1 l w' hl hsh (hv.below b) (hu.below b)
  obtain ⟨a1, c1, rfl, -, -⟩ := hv
  obtain ⟨a2, c2, rfl, -, -⟩ := hu
  generalize l.length = m at hE ⊢
  go_enter Try.func7, Try.ntmps7
  go_wp2_with fail
  refine (hE _ ?_).mono ?_
  · exact (below_lit w _).alloc (by simp) _
  · rintro e w1 ⟨rfl, b1⟩
    go_wp2
    go_ret
    exact ⟨rfl, ((below_lit w _).alloc (by simp) _).trans (b1.mono (by simp; omega))⟩

end Go.Proofs.Ytgjehmobafkjfaa

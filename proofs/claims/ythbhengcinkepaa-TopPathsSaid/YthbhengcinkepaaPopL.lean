/- The number of bits of a number below 65536, as math/bits counts them. No program is spoken of. -/
namespace Go.Proofs.Ythbhengcinkepaa.Lamp
/-- The number of lamps below k of a set. -/
def popK (x : Nat) : Nat → Nat
  | 0 => 0
  | k + 1 => popK x k + x / 2 ^ k % 2
/-- The number of lamps of a set of at most 16. -/
def popc (x : Nat) : Nat := popK x 16
def o1 (x : Nat) : Nat := (x / 2 &&& 6148914691236517205) + (x &&& 6148914691236517205)
def o2 (x : Nat) : Nat := (x / 4 &&& 3689348814741910323) + (x &&& 3689348814741910323)
def o3 (x : Nat) : Nat := x / 16 + x &&& 1085102592571150095
def o4 (x : Nat) : Nat := x + x / 256
def o5 (x : Nat) : Nat := x + x / 65536
def o6 (x : Nat) : Nat := x + x / 4294967296
def oc (x : Nat) : Nat := o6 (o5 (o4 (o3 (o2 (o1 x))))) &&& 127
set_option maxRecDepth 100000 in
set_option maxHeartbeats 0 in
theorem oc_0 : ∀ a < 16, ∀ b < 256, oc ((16 * 0 + a) * 256 + b) = popc ((16 * 0 + a) * 256 + b) := by decide +kernel
set_option maxRecDepth 100000 in
set_option maxHeartbeats 0 in
theorem oc_1 : ∀ a < 16, ∀ b < 256, oc ((16 * 1 + a) * 256 + b) = popc ((16 * 1 + a) * 256 + b) := by decide +kernel
set_option maxRecDepth 100000 in
set_option maxHeartbeats 0 in
theorem oc_2 : ∀ a < 16, ∀ b < 256, oc ((16 * 2 + a) * 256 + b) = popc ((16 * 2 + a) * 256 + b) := by decide +kernel
set_option maxRecDepth 100000 in
set_option maxHeartbeats 0 in
theorem oc_3 : ∀ a < 16, ∀ b < 256, oc ((16 * 3 + a) * 256 + b) = popc ((16 * 3 + a) * 256 + b) := by decide +kernel
set_option maxRecDepth 100000 in
set_option maxHeartbeats 0 in
theorem oc_4 : ∀ a < 16, ∀ b < 256, oc ((16 * 4 + a) * 256 + b) = popc ((16 * 4 + a) * 256 + b) := by decide +kernel
set_option maxRecDepth 100000 in
set_option maxHeartbeats 0 in
theorem oc_5 : ∀ a < 16, ∀ b < 256, oc ((16 * 5 + a) * 256 + b) = popc ((16 * 5 + a) * 256 + b) := by decide +kernel
set_option maxRecDepth 100000 in
set_option maxHeartbeats 0 in
theorem oc_6 : ∀ a < 16, ∀ b < 256, oc ((16 * 6 + a) * 256 + b) = popc ((16 * 6 + a) * 256 + b) := by decide +kernel
set_option maxRecDepth 100000 in
set_option maxHeartbeats 0 in
theorem oc_7 : ∀ a < 16, ∀ b < 256, oc ((16 * 7 + a) * 256 + b) = popc ((16 * 7 + a) * 256 + b) := by decide +kernel
set_option maxRecDepth 100000 in
set_option maxHeartbeats 0 in
theorem oc_8 : ∀ a < 16, ∀ b < 256, oc ((16 * 8 + a) * 256 + b) = popc ((16 * 8 + a) * 256 + b) := by decide +kernel
set_option maxRecDepth 100000 in
set_option maxHeartbeats 0 in
theorem oc_9 : ∀ a < 16, ∀ b < 256, oc ((16 * 9 + a) * 256 + b) = popc ((16 * 9 + a) * 256 + b) := by decide +kernel
set_option maxRecDepth 100000 in
set_option maxHeartbeats 0 in
theorem oc_10 : ∀ a < 16, ∀ b < 256, oc ((16 * 10 + a) * 256 + b) = popc ((16 * 10 + a) * 256 + b) := by decide +kernel
set_option maxRecDepth 100000 in
set_option maxHeartbeats 0 in
theorem oc_11 : ∀ a < 16, ∀ b < 256, oc ((16 * 11 + a) * 256 + b) = popc ((16 * 11 + a) * 256 + b) := by decide +kernel
set_option maxRecDepth 100000 in
set_option maxHeartbeats 0 in
theorem oc_12 : ∀ a < 16, ∀ b < 256, oc ((16 * 12 + a) * 256 + b) = popc ((16 * 12 + a) * 256 + b) := by decide +kernel
set_option maxRecDepth 100000 in
set_option maxHeartbeats 0 in
theorem oc_13 : ∀ a < 16, ∀ b < 256, oc ((16 * 13 + a) * 256 + b) = popc ((16 * 13 + a) * 256 + b) := by decide +kernel
set_option maxRecDepth 100000 in
set_option maxHeartbeats 0 in
theorem oc_14 : ∀ a < 16, ∀ b < 256, oc ((16 * 14 + a) * 256 + b) = popc ((16 * 14 + a) * 256 + b) := by decide +kernel
set_option maxRecDepth 100000 in
set_option maxHeartbeats 0 in
theorem oc_15 : ∀ a < 16, ∀ b < 256, oc ((16 * 15 + a) * 256 + b) = popc ((16 * 15 + a) * 256 + b) := by decide +kernel
set_option maxRecDepth 100000 in
theorem oc_eq (x : Nat) (h : x < 65536) : oc x = popc x := by
  obtain ⟨k, hk⟩ : ∃ k, k = x / 4096 := ⟨_, rfl⟩
  have ha : x / 256 % 16 < 16 := by omega
  have hb : x % 256 < 256 := by omega
  have e : x = (16 * k + x / 256 % 16) * 256 + x % 256 := by omega
  have hk16 : k < 16 := by omega
  rw [e]
  generalize x / 256 % 16 = a at ha
  generalize x % 256 = b at hb
  match k, hk16 with
  | 0, _ => exact oc_0 a ha b hb
  | 1, _ => exact oc_1 a ha b hb
  | 2, _ => exact oc_2 a ha b hb
  | 3, _ => exact oc_3 a ha b hb
  | 4, _ => exact oc_4 a ha b hb
  | 5, _ => exact oc_5 a ha b hb
  | 6, _ => exact oc_6 a ha b hb
  | 7, _ => exact oc_7 a ha b hb
  | 8, _ => exact oc_8 a ha b hb
  | 9, _ => exact oc_9 a ha b hb
  | 10, _ => exact oc_10 a ha b hb
  | 11, _ => exact oc_11 a ha b hb
  | 12, _ => exact oc_12 a ha b hb
  | 13, _ => exact oc_13 a ha b hb
  | 14, _ => exact oc_14 a ha b hb
  | 15, _ => exact oc_15 a ha b hb
  | k + 16, h => omega
end Go.Proofs.Ythbhengcinkepaa.Lamp

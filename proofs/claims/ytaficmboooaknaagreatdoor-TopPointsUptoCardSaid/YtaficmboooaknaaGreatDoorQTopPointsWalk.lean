import Derived.Test.YtaficmboooaknaaGreatDoorPt27
import Derived.Test.YtaficmboooaknaaGreatDoorPt28
import Derived.Test.YtaficmboooaknaaGreatDoorPt29
set_option maxRecDepth 100000
set_option maxHeartbeats 16000000
namespace Go.Proofs.YtaficmboooaknaaGreatDoor
open Go.RowKit
open Sto (T St)
theorem topPoints_walk (root key f e:T) (m:Int) (zk:Value) (K:List T) (zi:Value) (I:St) (x:T) (zn:Value) (L:List T) (w:World) (hT:Tab w) (hf:f.length<=2000000) (he:e.length<=2000000) (hK:StrsC w zk K) (hKm:K.length<=maxLen) (hI:ItIn w zi I) (hL:StrsC w zn L) (hm:L.length<=maxLen):
    Calls Tryz.prog 9 #[.string ⟨root.toArray⟩,.agg #[.string ⟨key.toArray⟩,.string ⟨f.toArray⟩,.string ⟨e.toArray⟩,.int .i64 m,zk,zi,.string ⟨x.toArray⟩,zn]] w fun r w'=>r=.returned (.bool true)/\Below w.heap.size w w':=by
  by_cases hn:(Spn.verifyP root f e m I x L).2.1=[]
  · by_cases h0:e=[]
    · exact topPoints_A1 root key f e m zk K zi I x zn L w hT hf he hK hKm hI hL hm hn h0
    · exact topPoints_A2 root key f e m zk K zi I x zn L w hT hf he hK hKm hI hL hm hn h0
  · exact topPoints_C root key f e m zk K zi I x zn L w hT hf he hK hKm hI hL hm hn
theorem topPoints_law (root:ByteArray) (key f e:T) (m:Int) (zk:Value) (K:List T) (zi:Value) (I:St) (x:T) (zn:Value) (L:List T) (w:World) (_:root.size<=maxLen) (_:(Lit.int .i64 m).wf=true) (hK:StrsC w zk K) (hKm:K.length<=maxLen) (hI:ItIn w zi I) (_:I.length<=maxLen) (hL:StrsC w zn L) (hm:L.length<=maxLen) (hf:f.length<=1048576) (he:e.length<=1048576) (hT:Tab w):
    Calls Tryz.prog 9 #[.string root,.agg #[.string ⟨key.toArray⟩,.string ⟨f.toArray⟩,.string ⟨e.toArray⟩,.int .i64 m,zk,zi,.string ⟨x.toArray⟩,zn]] w fun r w'=>r=.returned (.bool true)/\Below w.heap.size w w':=by
  obtain ⟨r,rfl⟩:=bytes_list root
  exact topPoints_walk r key f e m zk K zi I x zn L w hT (Nat.le_trans hf (by decide)) (Nat.le_trans he (by decide)) hK hKm hI hL hm
end Go.Proofs.YtaficmboooaknaaGreatDoor

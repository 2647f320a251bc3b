package index_test

import (
	"crypto/sha256"
	"encoding/hex"
	"fmt"
	"math/big"
	"testing"

	"marlinspike/api"
	"marlinspike/fr"
	"marlinspike/pad"
)

// What follows was worked out apart from the program, by the document's words: by
// numbers of any length, from X on.

// counted are so many entries by a matrix's number: of each j the place, and a power of
// 2, 3, 5, by matrix, by 37 (j + 1).
func counted(x sketch, at func(i, j, count int) (row, col int)) (l [3][]api.Entry) {
	for i, count := range []int{x.a, x.b, x.c} {
		for j := range count {
			row, col := at(i, j, count)
			l[i] = append(l[i], entry(row, col, raised(whole([]int64{2, 3, 5}[i]), 37*(j+1))))
		}
	}
	return l
}

// shape is that of a circuit of its sketch, whose j-th entry of n is at the place
// j Rows Cols / n, if places are counted row by row. Of a sketch without rows it is one
// by hand, whose j-th entry of the i-th matrix is in the row 5 j + i, by N, at the place
// 11 j + 3 i, by N.
func (x apart) shape(t *testing.T) pad.Shape {
	t.Helper()
	if x.rows == 0 {
		return pad.Shape{N: x.n, X: x.x, M: x.m, Rows: counted(x.sketch, func(i, j, _ int) (int, int) {
			return (5*j + i) % x.n, (11*j + 3*i) % x.n
		})}
	}
	l := counted(x.sketch, func(_, j, count int) (int, int) {
		place := j * x.rows * x.cols / count
		return place / x.cols, place % x.cols
	})
	return padded(t, api.Circuit{Rows: uint32(x.rows), Cols: uint32(x.cols), Inputs: uint32(x.inputs), A: l[0], B: l[1], C: l[2]})
}

// digestOf is SHA-256's of numbers, of 32 bytes each, which are too many to be told.
func digestOf(l []*big.Int) string {
	var b []byte
	for _, k := range l {
		b = append(b, k.FillBytes(make([]byte, 32))...)
	}
	s := sha256.Sum256(b)
	return hex.EncodeToString(s[:])
}

// apart is a sketch; of its shape N, X and M; the three matrices' row, col and val; by
// 13^90, 17^70, 19^50 the sum at 7^61 and 11^83, at 7^61 twice, and at H's element at 1
// and 11^83; and of the polynomial at 7^61 how many scalars it has, and these.
type apart struct {
	sketch
	n, x, m              int
	first, second, third [3]string
	sum, alike, onH      string
	count                int
	poly                 string
}

func allApart() []apart {
	return []apart{
		{
			sketch{1, 1, 1, 1, 1, 1}, 2, 1, 2,
			[3]string{"ec4916dd28fc4c10d78e287ca5d9cc51ee1ae73cbfde08c6b37324cbfaac8bc5", "ec4916dd28fc4c10d78e287ca5d9cc51ee1ae73cbfde08c6b37324cbfaac8bc5", "9bb2a9cf42fb2a26fefddcb50da988be94f2b4f198d57c6f1ff64287bbbfe791"},
			[3]string{"ec4916dd28fc4c10d78e287ca5d9cc51ee1ae73cbfde08c6b37324cbfaac8bc5", "ec4916dd28fc4c10d78e287ca5d9cc51ee1ae73cbfde08c6b37324cbfaac8bc5", "1083992d783dd0b09199f183c592e642ddd5c1eb3140bb1a4e865a4c9c90e319"},
			[3]string{"ec4916dd28fc4c10d78e287ca5d9cc51ee1ae73cbfde08c6b37324cbfaac8bc5", "ec4916dd28fc4c10d78e287ca5d9cc51ee1ae73cbfde08c6b37324cbfaac8bc5", "660c191ffe2cbf826c4bddd7a8770aa4432b7efa22b8c51b6c22330902559359"},
			"a0de1b9f7be400162a4c56b7fc652afa2f96168a923ca6923f5f56a42e6079e", "b22494ec1a0fd007e439275209fd34126c9d1fb81d723d0cc23a5720b59e8ff", "0",
			2, "3543ebefb4436b73a10a6dc0cf50221c2f6c53c8a29dd06e8169bf663ccce384",
		},
		{
			sketch{1, 3, 2, 2, 3, 1}, 4, 2, 4,
			[3]string{"ec4916dd28fc4c10d78e287ca5d9cc51ee1ae73cbfde08c6b37324cbfaac8bc5", "baaaf1d26c85f9f25acaad99e8425333b452e65e3276ea03f290807f29f2e243", "e762256828aabbff37b6509b737da2d6beacb3b0b62b021f56f8d9d6977dea62"},
			[3]string{"ec4916dd28fc4c10d78e287ca5d9cc51ee1ae73cbfde08c6b37324cbfaac8bc5", "3af2dfe02c2a50afc794fd162b46232984ee25d7966a2ff231b99a27133a249a", "6eb6504c4fc7151dfe55e299eb84e138e49bbc183e23af8d36f1cce70dedde66"},
			[3]string{"ec4916dd28fc4c10d78e287ca5d9cc51ee1ae73cbfde08c6b37324cbfaac8bc5", "ec4916dd28fc4c10d78e287ca5d9cc51ee1ae73cbfde08c6b37324cbfaac8bc5", "732f15311aa2f5be13189baf9bffd89eda19b6672a02829e6e677f7f235c67de"},
			"db62440337eba83fbf4435aff2afe060bebfd1d12d132c64798e9a64961541d", "af7d2b8007a199635fe0341c87de32568f432f21cf3d6974604018e75f9c5c8", "0",
			4, "f89399afb50747ca3b141fa9949175cb74cdfc0db2bf5b1a9aad27e5c7cf3e18",
		},
		{
			sketch{4, 5, 2, 7, 9, 3}, 8, 2, 16,
			[3]string{"3bb49f19416f0225de93f216caf2ad6c3c5d31b27715a81cbd6cbefc57860abd", "1596dd2e204ad2b74cec5926f6261371eeecc6ef7c85b9613f4c714f90325eda", "90481e2f8de76d50b0675868470cb73399d9e473f996f9ee6b7e2764cefa5440"},
			[3]string{"b89f3d352bee3ccf545729444635f91db9ae733e40aff7ba0df49e8be41954ac", "e1a4ad71338f23f627633169c5532c9141cd5d73eb69cbf2ae44a8e7f0021f64", "373b7af822089d9ad85788834f93477d9848628df3cb1ec66320e6d7b48bb710"},
			[3]string{"e3e0c884c0d16c104cefa5e808c169982ec4427a5b67ede5007d73c8016503e0", "a7dc2cb04fe4e496262b3131e1ea29113df23a5588f0458acb4ca2f25d6d499c", "98b7e4bca28f072d665d82fd44beb4e51caf7eb28dc45ce5e3787d9bf85c7ae7"},
			"a075618f2d1d7fbeb166ff8b686f5239d524dae95dffa938695a91a4129f953", "aac1ab54baa65aeb0ac242a9be064e4d5191de7d73cd403eb5077e9bdcdd3a0", "303d01d2b6010fb7f6ec06375dc0ac5e0228c5f7558ef96f469d3bc3489e48c",
			8, "a051c9430f960111a440576977bcd0dda074fe0a7484c87b66c010978f7efd74",
		},
		{
			sketch{3, 8, 8, 0, 4, 24}, 16, 8, 32,
			[3]string{"ec4916dd28fc4c10d78e287ca5d9cc51ee1ae73cbfde08c6b37324cbfaac8bc5", "ec4916dd28fc4c10d78e287ca5d9cc51ee1ae73cbfde08c6b37324cbfaac8bc5", "e3b0c44298fc1c149afbf4c8996fb92427ae41e4649b934ca495991b7852b855"},
			[3]string{"5837bb122b52be51c3be3065dcaabbade6edeb100ab16ce249f31c1e2dc6bab0", "ec7cc54513e522eabe43172d1e5de4bfcd263e5050f93660f616f5b33481bfc6", "06050e47ca0bbe635a21d742a0dc63d943f3af383fc4bbce0180f25e51f363cf"},
			[3]string{"55c1665a4f911c15c8e1864e635cba6c3dde091673db2032a9856604aebbd285", "8863ff5502fa47b9077a4be74b425437053772187e98f847fd814e62667bcdaf", "c126af94678986df463175959eb8f1ce7631d2146bdc2ae25cf3c10ad517e942"},
			"6fa3a7ca751e47138d56c9b6c7ff2e614f685f86090f6aed394374956e88946", "1236a9ddfed336a508d6e62f5673a3eefb24892258a55e7cfe4ee8dac07c4ce3", "94c7c765537b24bf0022fd8e5fd8c828fc7b34bb8c2d8ccd78c939a255d63b0",
			16, "ec3ec88fa793e8c586d41b1c3e201c6f39417cdb2e469afd970c5985f2028f41",
		},
		{
			sketch{17, 11, 4, 60, 41, 33}, 32, 4, 64,
			[3]string{"ea13ebfeeb3b469cda23a726c4310cf4325d723180213b9010e144f4fad61304", "46030970b653a21a569815f53a5af985b0e2e650f404310c9fdcc762582fadd1", "497c7ec7573e59d766bf286db35acd8d3224e8285e8b8df0babfe754da9276f7"},
			[3]string{"7a6a92ae1c9d0301ee83eab91704107d35852547805605cb34b7bd7841c1d4b9", "f2af378ab19d648fee26974722307c28169f93ea8eae2572c4dbc8a49b14db90", "f871b7818a245739e225415fe9af868cbcac26105e8d162b879d87c0a8b6260d"},
			[3]string{"a0548ac906889dd81d156bdac14019fde4a147dad8256f314d0c4a9059c782a9", "11a16dc1560ec302f963eea1b95a547e23256a2610567b6860d27b208f3f9838", "f6a678e61028a782c4f990ee51575d1d42ea0c02024e27e2d57d3f84d92947c0"},
			"356a03d3c6ca4d2bf9d3a50ffc6ed5985491901678aa684d6424b611b5f7b11", "699e58f5e5a5756edbb4b31957a53422a7377a5672591991de6d20765707b0b", "563b6cf819b50eff2d4eb5ff85010a452809689c8a479d6c25c9b89810d8b",
			32, "51d88a0999160202fec9b37a445857f5db3256e703d9dd0d2cb2b9241f926884",
		},
		{
			sketch{9, 40, 33, 128, 0, 129}, 128, 64, 256,
			[3]string{"ab5a7d11eb2353d1346307b02e9216afe7fdd89c217eab9b3932be6bb0dac63a", "fd3c64dc40bef9b9fae82783123f714a8a03a7c8a152ab7a5c41964b25107618", "7d5b73eb3eea75e678326248a2bc823e15fe6de0f7be327f0304a7868f2f709b"},
			[3]string{"ec4916dd28fc4c10d78e287ca5d9cc51ee1ae73cbfde08c6b37324cbfaac8bc5", "ec4916dd28fc4c10d78e287ca5d9cc51ee1ae73cbfde08c6b37324cbfaac8bc5", "e3b0c44298fc1c149afbf4c8996fb92427ae41e4649b934ca495991b7852b855"},
			[3]string{"f908bdc918f94439d06dd59fdf6575719fce50c34c73ab79c17320e9b128d305", "90cb2ad08c48ebe45c026bb4e9f4d69a393c80a8d3201a93c1ffacd117f73064", "1d5b8368a4e30b33ea602ce5c50ae7fdce0ce4a26a5cba364b54e1ab30361344"},
			"c28dd5e91155bdb9fcc10daee3c2cf9d392319cbe6bf08a19d64c7002a6522f", "6336029383952c16011db69f6bd2c27cfd2780cf628ec45051dc55accdff4ae", "a1bbf64fe618fcf010f1abe99e53951de1ab775e39e483ce9cb971d89ee3754",
			128, "24874bf2ba130ad69e273458fe1ba71ba2afb2d3116dda3ed945405b39835637",
		},
		{
			sketch{1024, 1024, 100, 4096, 4096, 4096}, 2048, 128, 4096,
			[3]string{"1e9c2bca3b6712ac87820d409a5fa417858fb059d22514101b65491ce7fbc701", "a0e95dd47390d6a1b1fcf23f3d1c22a7be03d9caa714049826ca92227ff4bf09", "cbce79ca40855e1c407db0832f2e75a8a44459fe9376ae77333746ecfce5e045"},
			[3]string{"1e9c2bca3b6712ac87820d409a5fa417858fb059d22514101b65491ce7fbc701", "a0e95dd47390d6a1b1fcf23f3d1c22a7be03d9caa714049826ca92227ff4bf09", "6d49bb8e6c2e85286ef3f2c4a3b78d1bd2e2c65a1a696a64f41a4f26f30d8c54"},
			[3]string{"1e9c2bca3b6712ac87820d409a5fa417858fb059d22514101b65491ce7fbc701", "a0e95dd47390d6a1b1fcf23f3d1c22a7be03d9caa714049826ca92227ff4bf09", "4491c373d9b784325bcf9de96177e25907fe842965985bc17cec55e6451b483c"},
			"6ec316445a48c2031724f02eeb0ee430d3431d9e5829a1bc2316d7670f69d4d", "128b81f29e8de05c48d7a69e9a028a6d96a0aa456e466d3370c2e0f04e04b1d9", "1269fe8311b6d61bb0ea647a1488f976777ae46bcf74bddb5567c5594cafab8a",
			2048, "a1f2356bd1571a5b332fd377afd293d0912286d8367e54ed15ca08a373dc7a2c",
		},
		{
			sketch{1, 1024, 1024, 1024, 5, 1000}, 2048, 1024, 1024,
			[3]string{"ec4916dd28fc4c10d78e287ca5d9cc51ee1ae73cbfde08c6b37324cbfaac8bc5", "90f4b39548df55ad6187a1d20d731ecee78c545b94afd16f42ef7592d99cd365", "a406a3e1533da6418d9f2fc3e67e74971d1696790e86b098f8beecc9aaf5dcc5"},
			[3]string{"ec4916dd28fc4c10d78e287ca5d9cc51ee1ae73cbfde08c6b37324cbfaac8bc5", "325fef68ec01dcf78b3a09891a460042dd4357a64e10451f4d57a89b3115dba3", "4c9eef1671fcd37382c584ec2466ea9b0e98851305297acfa945fe9c910cd8fe"},
			[3]string{"ec4916dd28fc4c10d78e287ca5d9cc51ee1ae73cbfde08c6b37324cbfaac8bc5", "8b6bedc1de882a00bd3eeb262df9f1e90e9d82e5627d7b3e79b8d0a0db2e9ec8", "2357cbc6791994e52ba7ec52834cdcba4cfced82d466770d0e39b8884a74dd8c"},
			"1ec0ddcdc0c161b0a0b2c1b7a7b2d8bf04a4e2653926a269215aef2c3452cd6", "2a7f6cca82ce05e69f1e72877ee5ecf2cd193c28e30bf5a23620d5a0eaffc8f", "0",
			2048, "7cc0b85e169e6976a1c535ba4af862fa1fcc2e36c337a8ce5fd2a3bf8e597b15",
		},
		{
			sketch{a: 1, b: 0, c: 1}, 1, 3, 1,
			[3]string{"ec4916dd28fc4c10d78e287ca5d9cc51ee1ae73cbfde08c6b37324cbfaac8bc5", "ec4916dd28fc4c10d78e287ca5d9cc51ee1ae73cbfde08c6b37324cbfaac8bc5", "b600ccfec9ddae068109c82b0b7ba3632501857eb23ca7860fd26f3bc1335697"},
			[3]string{"ec4916dd28fc4c10d78e287ca5d9cc51ee1ae73cbfde08c6b37324cbfaac8bc5", "ec4916dd28fc4c10d78e287ca5d9cc51ee1ae73cbfde08c6b37324cbfaac8bc5", "e3b0c44298fc1c149afbf4c8996fb92427ae41e4649b934ca495991b7852b855"},
			[3]string{"ec4916dd28fc4c10d78e287ca5d9cc51ee1ae73cbfde08c6b37324cbfaac8bc5", "ec4916dd28fc4c10d78e287ca5d9cc51ee1ae73cbfde08c6b37324cbfaac8bc5", "90460e79f15933dfde5b3e5aea57138d636d0ba75a4437138d96183a58f4b1ef"},
			"6c6c907f574026eafef3da2cbd4a72f3628a28fd6b502895925af0f792937aa", "6c6c907f574026eafef3da2cbd4a72f3628a28fd6b502895925af0f792937aa", "6c6c907f574026eafef3da2cbd4a72f3628a28fd6b502895925af0f792937aa",
			1, "cc159fdf5f772fdb6f0a12a71b5b8985d21fb97882ea544941e12190a9daf771",
		},
		{
			sketch{a: 4, b: 3, c: 0}, 1, 3, 4,
			[3]string{"ec4916dd28fc4c10d78e287ca5d9cc51ee1ae73cbfde08c6b37324cbfaac8bc5", "ec4916dd28fc4c10d78e287ca5d9cc51ee1ae73cbfde08c6b37324cbfaac8bc5", "70b0b6a83dea26ec8794c8c352bbb6810ac960383608d12707db44a6862cd69f"},
			[3]string{"ec4916dd28fc4c10d78e287ca5d9cc51ee1ae73cbfde08c6b37324cbfaac8bc5", "ec4916dd28fc4c10d78e287ca5d9cc51ee1ae73cbfde08c6b37324cbfaac8bc5", "5cdd40458d48b480b81231226cf3ebd07f75b8e0fcee292368380f016ec08492"},
			[3]string{"ec4916dd28fc4c10d78e287ca5d9cc51ee1ae73cbfde08c6b37324cbfaac8bc5", "ec4916dd28fc4c10d78e287ca5d9cc51ee1ae73cbfde08c6b37324cbfaac8bc5", "e3b0c44298fc1c149afbf4c8996fb92427ae41e4649b934ca495991b7852b855"},
			"81c2b987c747e9a62f8d4f9557293d0ba314228e11123ccf3b04e8dea3df993", "81c2b987c747e9a62f8d4f9557293d0ba314228e11123ccf3b04e8dea3df993", "81c2b987c747e9a62f8d4f9557293d0ba314228e11123ccf3b04e8dea3df993",
			1, "cdb411368dd6582ac223f288e9a9fbbe7e20fb548ed69bee989a27dca0b6d585",
		},
		{
			sketch{a: 0, b: 1, c: 1}, 2, 3, 1,
			[3]string{"ec4916dd28fc4c10d78e287ca5d9cc51ee1ae73cbfde08c6b37324cbfaac8bc5", "ec4916dd28fc4c10d78e287ca5d9cc51ee1ae73cbfde08c6b37324cbfaac8bc5", "e3b0c44298fc1c149afbf4c8996fb92427ae41e4649b934ca495991b7852b855"},
			[3]string{"ac5da91316db37e81351e3fd1805349d1da12604f36ecb5037b2b269bb902507", "ac5da91316db37e81351e3fd1805349d1da12604f36ecb5037b2b269bb902507", "5a518123ef087ec2719196cf06b6d0eaa71964a6e67a8cfd43b64c7c79767950"},
			[3]string{"ec4916dd28fc4c10d78e287ca5d9cc51ee1ae73cbfde08c6b37324cbfaac8bc5", "ec4916dd28fc4c10d78e287ca5d9cc51ee1ae73cbfde08c6b37324cbfaac8bc5", "718de33f35c0352bb3dc0f0b7c6e322d72b4dea029bd7eda87b34f4a2d7f46ac"},
			"37ed31e33fd15a884c24e187a053775f9c986d91da2d8fcf797595a50c8eda9", "f4cf54012d3918769763d1703a08659b60fee3280dd77b25cfb651632d03c0a", "6495c3e4bbfed49462d4074a50227b13055c3a38265bdd333222e34a549f66b",
			2, "f085d5ff9db617a227d3858a4f6d328824179c97c36cfb2e625ba960c3c62a42",
		},
		{
			sketch{a: 2, b: 1, c: 2}, 4, 3, 2,
			[3]string{"edf8d2be7b54e0e767b045548d625d602714203f9be5a45355874a7e17124888", "8e721e82dd54c9dc6afa126d25b89cdaad33ef79a02b4c00afd2df2a0f38f74b", "e31c31c0e64f4d24022fcf9245ab3cc8d3954f206919e03ce28333070421d14e"},
			[3]string{"bb29a1ac06900bef62006f7c74b2cf2998ffd93d54ae06b06e11c8226b0c0022", "5da4f0723412b6eb4f5acd1fbc15c3773ae2eb40d72d1d52411a7cc6474db16a", "fb2a6dcc07d014f985f81d0388f2af7c8c8c5cf9b4c8eeb84443017884d18265"},
			[3]string{"81d30fe0f453dd0834bb6e45bfc33a7ed5657adf8178f3ca02f5c4d6057bfe3f", "ee86ba523f1084a5656688747b576fac1d38088b321580971c0c65ef4f31bf3a", "b57bb866a3cbda1980b8ccdb92aa0f31e96cb536ccbcd587a3da9a5279569a45"},
			"830008826d465346ea2ba9db30f935e39aacd650ba09609db27d984fe7c2b02", "2e4eac26f5fd266e306937a47ba76e6647139b73a16280c7bf43296a29174b0", "672f8f6d507a070f6ca6456d7302bd1fb07412634dcd552fde30843d148a1d8",
			4, "a9f3f34d82bdcc2220e407f093afef539a8cb77554bf873d4db520de80da2620",
		},
		{
			sketch{a: 8, b: 8, c: 8}, 8, 3, 8,
			[3]string{"57153b76f61c2badabeb23203d690a2fe5509e76d1196658af70b2daf62c1aec", "c4ab4be02b7d972e6fc8e5c0c730dccc5b3ee94782db766e0639d399fd1b27bf", "1b98b66c5951e7dde6456344f4d07938e01c5da6aa65a24f5847947ba27b9220"},
			[3]string{"b34c3f26d006f6588d44753611faf82d393ef6077454be90be549371c46bd2a2", "68b08c38815d094b30b49929149620f1889fbfb62a6347b8699c114ce13c74b4", "4bde97c97610acae7c562fd3d6225cb09b13afcbc9504e2cbb2d9d2e67734644"},
			[3]string{"90a556305c8506d75ad03a61c24016789b0ee4ff79591c831fff58d954c54e12", "f952d8fe1731f857bd3363eab8e54eda0a0c97bf5393c3193cdbe14d84998db2", "f08635ed624c250ab1044e8ae1afb640219df57eef32eb58a32864358825a6d5"},
			"b9f44e3aaece1fc090fbab70d7944e89af10a8aab886c42ef8787f68fff4ef0", "9903191f2b2e4274673be8c1c61872f2720d340e5608bf7fd08a9e32a8c8841", "602970c289edeb37dd114b2102def099d142a36ac44c48cc3986dc5a2542c18",
			8, "a70103e34a5ba0ae250b4837a8f3ebd5d686375bdb6ed502e5c79086d5851d7a",
		},
		{
			sketch{a: 31, b: 32, c: 1}, 64, 3, 32,
			[3]string{"ba301e51f6c9ce6d99fcd504d83501331c70f1406300a3410a3e28e1a61278f8", "e878fbf49516f657407704997ad8e1a2f193459564aa9a727a2730737d1b0b81", "b0c09e65603657abe803d9e260789d8178b7b9e0072dd035053abcd96b531581"},
			[3]string{"83cefceff220efa69997ec3bf88992db39a58d9dff04f3fa90866fac15712203", "67d6b916c4b20127e37ba07257509a51af2a4468dadc8cf1a3af45411e4d2062", "fd2003ee2d1bbd402d6ca575ca77d7e84a70901b7860f1e40bc2e4fb97f02151"},
			[3]string{"49a251d5606d0d183edf5d0579e498fb2b5bd3dcad999dbac37c077902d42e49", "88dd935d4964024481ff802dd5b4fe1233053d76844e010028a8355b782d8441", "037ee8e5a7a3abfaec589cca8e7a2937a61d66a59bc4653a582bda5865662517"},
			"b846f1fc158dd8f7e4385f68a18e91b25221f775b440648e83ac44e337241c6", "78e474a892faa175c255f1dd1f09ef768c1ecdffd6140980fd0dd20b26d513", "74abcbd03d11c6526f6a1c1096e865735adbe1e900964fafc348811da5714a6",
			64, "0816769841fe05ac2f9f8792424a396b4afc6601b71cf4fce46137b10deb763e",
		},
		{
			sketch{a: 256, b: 255, c: 200}, 16, 3, 256,
			[3]string{"388efc614febf87add48cf399d25454b83628c12e275dc441a99057acc611f85", "fd07e23a699e238da33c0ab79c4eb4114d945bedac9114607134917ddde23a35", "7d8d51ac88006d358d7e425529dc47ac506fd2ce1ccfbe6f58657367511cbbb4"},
			[3]string{"98f5708622760e6d5dc4f76fa46918c89339fe80ece1e1d996a9df7a6f2cbdab", "ad9a1856133cf63c1be0b7faafd93be6906b23d0b4ed4552341702e9e2946f9e", "468ea21b71dc1a9e395c2f9fc0709e7863619dddec95b3972b4454ff2ea95579"},
			[3]string{"6ba26fc2ce992f69ea8bb02f6a18e6a2ec518eee182ddc0001cc3a3b4b4d8699", "97f09cd7500658bcc05f700703bc1ce08ee1ab1894b2655bf57dee5513aa3b52", "02dd00fb2290c4efb2a23e37bd701a45176c75a6e0c63c328dfe0bf1141264fa"},
			"8f05112b2c5625fcd5bdf596e2ca2bcd4862c921eb2d4a0a2ed08a3633279ad", "17f3d40f1dad6e360c6081abb3783a113d4695fc92b062f914071d86a51215f", "94aaa13f1e60fc7308848659672873f146c8e829cf7da307ac6c37c4d084734",
			16, "d892e525707d8587baf7418bcb6da598b2b664a6368a42355b0a2785e74b5429",
		},
		{
			sketch{a: 2, b: 2, c: 2}, 1024, 3, 2,
			[3]string{"8e61c39a0738da659b46d04c3cd84c0c7ee1b1ef8f0194f48caee4912e5435ea", "3d729d3755a253bea5ec5cef423735f90b59df1f3f54c8cbe49d69587785df43", "a972570a491d5da6449af935b3ac340de4ed0d538784a0dd6a34e95ce07c4634"},
			[3]string{"61bbf665254d12c6009831a438159f95afeb1f0e4300fbc6d1b36ab704fdf37f", "2cc4be39849711ee0e626f53e2545a36ce7ef4ab3359907fc970c0e1a43bd9f9", "8dd27845cd4d392e2973167af9d6629cd0a2312d34c07aa8282ab871309a7e90"},
			[3]string{"d4bb52fe0232d4797675e519d4ae01128c4234f5c2e97ac97f8848f968eb6a44", "fb58ba271764028d8ad7a04b78b9c16cb896b6b1f052c57608487101f1480aae", "e7159960ff2ec2dcc87eb84d1ccd154b46597fc0c2293030a24539701288a6be"},
			"d984f8cfd76a0db4c1b7aee9315ddb92361fc536ede1ac06fa3a10e3034d380", "c19baa4b402f0217006187cb2f8f9ba1d24d1867dbc41f7e2ecad9152b9bd2e", "5ea9f379c26c63ca00345a10db88ed8e236ce96d7f56df219f955bae6e427de",
			1024, "423e1775e662966b56c9692c80c45265ad9d3e3bae762582407d1d48fa8fef4a",
		},
		{
			sketch{a: 4096, b: 0, c: 7}, 4, 3, 4096,
			[3]string{"6b977095a0be58032aaa40dd833741f7e4a8f403f5b7ac4e7c7973b43b73aa07", "23a77a0da1ee3a4681eaf01d2ab9d1c39f6c5ce8ca5196d48a8c85b7944d6b69", "8014829269dd41028733eb3074338eb7e50c654ce9c2d589445cc69d5b80cc05"},
			[3]string{"ec4916dd28fc4c10d78e287ca5d9cc51ee1ae73cbfde08c6b37324cbfaac8bc5", "ec4916dd28fc4c10d78e287ca5d9cc51ee1ae73cbfde08c6b37324cbfaac8bc5", "e3b0c44298fc1c149afbf4c8996fb92427ae41e4649b934ca495991b7852b855"},
			[3]string{"9ab2ba643dc05189966f99a1771da82d1878fd897ea1dff55feeac45cde8aa1d", "f998d7209465495d6479b2590585c0576ff9a85ba71c6d9f5c61f6f906feef73", "5e8ee4c8b513f2ae0e0334b99def0fb573fe65a4858ab23d3dbcdce7bedd1eb6"},
			"2ecb2bf8b6151e8e01e5cbc63b25c73ae1844757101ec2194109a8461ca5d97", "127367f27fb2044507e851d341d199767b031b527d38ddd1ba59a37b517edd9c", "b90cd02868776e76e3cbf122ed8e3991ea737c4457dd374446fd7770ffe5f7c",
			4, "0b6d6d0a5ca6f7bfa07a777f94d28bfad28cbf8b0f15ca81fc7d1a1299efc2e1",
		},
	}
}

// wantApart fails if something is not what was worked out.
func wantApart(t *testing.T, what, got, wanted string) {
	t.Helper()
	if got != wanted {
		t.Errorf("%s: %s, not %s", what, got, wanted)
	}
}

// What the tests hold the program against is held against what was worked out apart.
func TestModel(t *testing.T) {
	for i, x := range allApart() {
		s := x.shape(t)
		if e := fault(s); e != api.OK {
			t.Errorf("%d: %v", i, e)
		}
		if s.M > 256 || s.N > 64 { // of great ones it takes long
			continue
		}
		l, k := matricesOf(s), elementsOf(s.M)
		for j, digests := range [][3]string{x.first, x.second, x.third} {
			for p, values := range [][]*big.Int{l[j].row, l[j].col, l[j].val} {
				wantApart(t, fmt.Sprint(i, j, p), digestOf(backs(inForm(els(through(k, values))))), digests[p])
			}
		}
		e, a, b := [3]*big.Int{raised(whole(13), 90), raised(whole(17), 70), raised(whole(19), 50)}, raised(whole(7), 61), raised(whole(11), 83)
		wantApart(t, fmt.Sprint(i, ", the sum"), sumOf(s.N, l, e, a, b).Text(16), x.sum)
		wantApart(t, fmt.Sprint(i, ", alike"), sumOf(s.N, l, e, a, a).Text(16), x.alike)
		wantApart(t, fmt.Sprint(i, ", on H"), sumOf(s.N, l, e, elementsOf(s.N)[1%s.N], b).Text(16), x.onH)
		p := polyOf(s.N, l, e, a)
		wantApart(t, fmt.Sprint(i, ", the polynomial"), fmt.Sprint(len(p), digestOf(p)), fmt.Sprint(x.count, x.poly))
	}
}

// inForm is a list without the zeros at its end.
func inForm(p []fr.El) []fr.El {
	for len(p) > 0 && p[len(p)-1] == (fr.El{}) {
		p = p[:len(p)-1]
	}
	return p
}

func TestToldApart(t *testing.T) {
	for i, x := range allApart() {
		s := x.shape(t)
		got := indexOf(t, s)
		if got.N != x.n || got.X != x.x || got.M != x.m {
			t.Errorf("%d: %d, %d, %d", i, got.N, got.X, got.M)
		}
		for j, digests := range [][3]string{x.first, x.second, x.third} {
			for p, l := range [][]fr.El{got.Row[j], got.Col[j], got.Val[j]} {
				wantApart(t, fmt.Sprint(i, j, p), digestOf(backs(l)), digests[p])
			}
		}
		e := three([3]*big.Int{raised(whole(13), 90), raised(whole(17), 70), raised(whole(19), 50)})
		a, b := el(raised(whole(7), 61)), el(raised(whole(11), 83))
		wantApart(t, fmt.Sprint(i, ", the sum"), back(summed(t, got, e, a, b)).Text(16), x.sum)
		wantApart(t, fmt.Sprint(i, ", alike"), back(summed(t, got, e, a, a)).Text(16), x.alike)
		h := domainOf(t, x.n).At(1)
		wantApart(t, fmt.Sprint(i, ", on H"), back(summed(t, got, e, h, b)).Text(16), x.onH)
		p := polyAt(t, got, e, a)
		wantApart(t, fmt.Sprint(i, ", the polynomial"), fmt.Sprint(len(p), digestOf(backs(p))), fmt.Sprint(x.count, x.poly))
	}
}
